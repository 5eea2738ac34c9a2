/- The law: what returns an error changes nothing. -/
import Derived.Test.YtjplihljmohpjaaMVmSg
import Derived.Test.YtjplihljmohpjaaMVmAh
import Derived.Test.YtjplihljmohpjaaMFlo
namespace Go.Proofs.Ytjplihljmohpjaa
open Go.RowKit Go.Shelf
attribute [local go_sem] Oper.semAt_some

def rowAc (al : List Ac) : List Value := al.flatMap fun x => (acA x.q x.a x.n x.t x.b x.r).toList
theorem rowAc_len (al : List Ac) : (rowAc al).length = al.length * 6 := by
  induction al with
  | nil => rfl
  | cons x l ih => unfold rowAc at ih ⊢; rw [List.flatMap_cons, List.length_append, ih]; simp only [List.length_cons]; show 6 + _ = _; omega
theorem rowAc_at (al : List Ac) (k : Nat) (x : Ac) (h : al[k]? = some x) (i : Nat) (hi : i < 6) : (rowAc al)[k * 6 + i]? = (acA x.q x.a x.n x.t x.b x.r).toList[i]? := flat_at _ 6 (fun _ => rfl) al k x h i hi
theorem zAct_i : (Try.prog.info? 38).map (fun i => (i.zero, i.size, i.bytes)) = some (some (.agg #[.int .u8 0, .int .i64 0, .int .i64 0, .int .i64 0, .int .u8 0, .slice none 0 0]), 6, 64) := by kernel_rfl
theorem AcAt.of_own {W : World} {B : Nat} {v : Value} {al : List Ac} {n : Nat} (hn : al.length = n) (h : W.ownsRow B 38 6 v n (rowAc al)) : AcAt W v al := by
  have h' := h
  obtain ⟨_, ⟨rfl, h0⟩ | ⟨g, cap', cur, hv, _, _, h1, h2, _⟩⟩ := h
  · exact .inl ⟨rfl, List.eq_nil_of_length_eq_zero (by omega)⟩
  · subst hv
    subst hn
    refine .inr ⟨g, 0, cap', rfl, h1, h2, fun j x hx => ?_⟩
    have hj := (List.getElem?_eq_some_iff.1 hx).1
    have e : ∀ i, i < 6 → W.cell? ⟨g, 0 + j * 6 + i, none⟩ = (acA x.q x.a x.n x.t x.b x.r).toList[i]? := fun i hi => by
      rw [Nat.zero_add, World.ownsRow.cellAt h' _ (by omega), rowAc_at al j x hx i hi]
    exact ⟨e 0 (by decide), e 1 (by decide), e 2 (by decide), e 3 (by decide), e 4 (by decide), e 5 (by decide)⟩
theorem AcAt.news {W : World} {b off n cap : Nat} {al : List Ac} (h : AcAt W (.slice (some ⟨b, off, none⟩) n cap) al) : ∀ j u, (rowAc al)[j]? = some u → W.cell? ((⟨b, off, none⟩ : Addr).add j) = some u := fun j u hu => by
  have hj := (List.getElem?_eq_some_iff.1 hu).1
  rw [rowAc_len] at hj
  have hk : j / 6 < al.length := by omega
  obtain ⟨x, hx⟩ : ∃ x, al[j / 6]? = some x := ⟨_, List.getElem?_eq_getElem hk⟩
  obtain ⟨b', o', e1, _, h0, h1, h2, h3, h4, h5⟩ := h.at (j / 6) x hx
  cases e1
  have e2 := rowAc_at al (j / 6) x hx (j % 6) (by omega)
  rw [show j / 6 * 6 + j % 6 = j by omega, hu] at e2
  have e3 : (⟨b, off, none⟩ : Addr).add j = ⟨b, off + j / 6 * 6 + j % 6, none⟩ := by
    unfold Addr.add
    by_cases hj0 : j = 0
    · subst hj0; simp
    · rw [if_neg hj0]; simp; omega
  rw [e3]
  have h6 : j % 6 = 0 ∨ j % 6 = 1 ∨ j % 6 = 2 ∨ j % 6 = 3 ∨ j % 6 = 4 ∨ j % 6 = 5 := by omega
  rcases h6 with h | h | h | h | h | h <;> rw [h] at e2 ⊢
  · rw [Nat.add_zero, h0]; exact e2.symm
  · rw [h1]; exact e2.symm
  · rw [h2]; exact e2.symm
  · rw [h3]; exact e2.symm
  · rw [h4]; exact e2.symm
  · rw [h5]; exact e2.symm
theorem rowAc_one (al : List Ac) (h : ∀ x ∈ al, ∃ a c n, x.r = .slice a n c) : ∀ u ∈ rowAc al, u.oneCell' = true := fun u hu => by
  unfold rowAc at hu
  obtain ⟨x, hx, hu⟩ := List.mem_flatMap.1 hu
  obtain ⟨a, c, n, hr⟩ := h x hx
  unfold acA at hu
  rw [hr] at hu
  simp at hu
  rcases hu with rfl | rfl | rfl | rfl | rfl | rfl <;> rfl
/-- Appending to a list of calls. -/
theorem run_app {w : World} {B : Nat} {v : Value} {k : Nat} {xs : List Value} (hown : w.ownsRow B 38 6 v k xs) (ty : TypeId) (u : Value) (m : Nat) (news : List Value) (hl : news.length = m * 6)
    (hu : (u = .slice none 0 0 ∧ m = 0) ∨ ∃ ad c, u = .slice (some ad) m c ∧ ∀ j y, news[j]? = some y → w.cell? (ad.add j) = some y) (h1 : ∀ y ∈ news, y.oneCell' = true) (hk : k + m ≤ 100) (hB : B ≤ w.heap.size) :
    ∃ v' w', (Builtin.append_ #[25, 25] ty #[v, u]).run Try.prog w = .ok v' w' ∧ w'.ownsRow B 38 6 v' (k + m) (xs ++ news) ∧ w.grownBy w' v.ownBlock ∧ (v'.ownBlock = v.ownBlock ∨ v'.ownBlock = some w.heap.size) := by
  obtain ⟨i0, hi, hz0, hz1, hz2⟩ := info_parts zAct_i
  rcases hu with ⟨rfl, rfl⟩ | ⟨ad, c, rfl, hn⟩
  · have hrun := run_append_owned_none (P := Try.prog) (w := w) B 25 ty 38 i0 6 Try.underlying25 hi v k xs hown
    have : news = [] := List.eq_nil_of_length_eq_zero (by omega)
    subst this
    exact ⟨v, w, hrun, by simpa using hown, World.grownBy.refl _ _, .inl rfl⟩
  · obtain ⟨v', w', hr, h2, h3, _, h5⟩ := run_append_own_at (P := Try.prog) w B 25 ty 38 i0 _ 6 64 Try.underlying25 hi hz0 hz1 hz2 rfl (by decide) v k xs hown ad m c news hl hn h1 (by unfold maxLen; omega) (by omega) hB
    exact ⟨v', w', hr, h2, h3, h5⟩
theorem Saved.later {W V : World} {B : Nat} {f : Pages} {l : List Nat} {L : List Ru} {ur ug ud u : Value} (s : Saved W B f l L ur ug ud u) (hb : Below W.heap.size W V) : Saved V B f l L ur ug ud u :=
  ⟨s.r.kept (grown_of_below hb) (Classical.em _), s.g.kept (grown_of_below hb) (Classical.em _), s.d.kept (grown_of_below hb) (Classical.em _), s.ru.later hb, fun b h => ⟨(s.own b h).1, Nat.lt_of_lt_of_le (s.own b h).2 hb.size⟩⟩
theorem Saved.keep {W V : World} {B : Nat} {f : Pages} {l : List Nat} {L : List Ru} {ur ug ud u : Value} {q : Nat → Prop} (s : Saved W B f l L ur ug ud u) (hk : Keep q W V) (hq : ∀ b, b < W.heap.size → ¬ q b) : Saved V B f l L ur ug ud u :=
  ⟨own_keep s.r hk (fun b hb => hq b (s.r.lt b hb).2), own_keep s.g hk (fun b hb => hq b (s.g.lt b hb).2), own_keep s.d hk (fun b hb => hq b (s.d.lt b hb).2), s.ru.keep hk (fun b hb => hq b (s.own b (obk_own hb)).2), fun b h => ⟨(s.own b h).1, Nat.lt_of_lt_of_le (s.own b h).2 hk.size⟩⟩
theorem Saved.but {W V : World} {B : Nat} {f : Pages} {l : List Nat} {L : List Ru} {ur ug ud u : Value} {g : Nat} (s : Saved W B f l L ur ug ud u) (hk : Keep (· = g) W V) (hq : ∀ b, (ur.ownBlock = some b ∨ ug.ownBlock = some b ∨ ud.ownBlock = some b ∨ u.ownBlock = some b) → b ≠ g) : Saved V B f l L ur ug ud u :=
  ⟨own_keep s.r hk (fun b hb => hq b (.inl hb)), own_keep s.g hk (fun b hb => hq b (.inr (.inl hb))), own_keep s.d hk (fun b hb => hq b (.inr (.inr (.inl hb)))), s.ru.keep hk (fun b hb => hq b (.inr (.inr (.inr (obk_own hb))))), fun b h => ⟨(s.own b h).1, Nat.lt_of_lt_of_le (s.own b h).2 hk.size⟩⟩
theorem Saved.lt {W : World} {B : Nat} {f : Pages} {l : List Nat} {L : List Ru} {ur ug ud u : Value} (s : Saved W B f l L ur ug ud u) : ∀ b, (ur.ownBlock = some b ∨ ug.ownBlock = some b ∨ ud.ownBlock = some b ∨ u.ownBlock = some b) → b < W.heap.size := fun b hb => by
  rcases hb with h | h | h | h
  · exact (s.r.lt b h).2
  · exact (s.g.lt b h).2
  · exact (s.d.lt b h).2
  · exact (s.own b h).2
theorem VBox.put {W : World} {b : Nat} {r g d v : Value} {c h : Nat → Int} (s : VBox W b r g d v c h) (u : Value) (c' h' : Nat → Int) : VBox (W.setCells b 3 (stA u c' h').toList) b r g d u c' h' := by
  have e : splice (vsA r g d v c h) 3 (stA u c' h').toList = vsA r g d u c' h' := by kernel_rfl
  unfold VBox
  rw [← e]
  exact heap_setCells (stA u c' h').toList W b 3 _ _ s
theorem VBox.there {W : World} {b : Nat} {r g d v : Value} {c h : Nat → Int} (s : VBox W b r g d v c h) : W.there b 3 15 := fun j hj => by
  unfold VBox at s
  refine ⟨?_, by simp [World.frozen?, s]⟩
  simp only [World.cell?, s]
  rw [Option.isSome_iff_exists]
  exact ⟨_, Array.getElem?_eq_getElem (show 3 + j < (vsA r g d v c h).size by show 3 + j < 18; omega)⟩
theorem wpList_load_row_w {P : Program} {ops : Array Oper} {rest : List Oper} {op : Oper} {a : Act} {w : World} {Q : Exit → Act → World → Prop} (ty : TypeId) (x : Operand) (ho : op.op = .load ty x) (b o : Nat) (hx : a.eval x = .pointer (some ⟨b, o, none⟩)) (hw : Region.wanted op (yielded ops a.tmps) = true)
    (A : Array Value) (d : TypeDesc) (hc : w.rangeAt b o A.toList) (hu : P.underlying ty = some d) (hd : d.isRow = true) (hi : (P.info? ty).map (·.size) = some A.size)
    (h : wpList P ops Q rest (a.put op.dst (.agg A)) w) : wpList P ops Q (op :: rest) a w := by
  have hl := exec_load_mid ty x ho b o hx A.toList d hc hu hd (by rw [hi, Array.length_toList])
  rw [Array.toArray_toList] at hl
  unfold wpList
  rw [if_pos hw]
  refine .inl ?_
  unfold Oper.wp
  rw [hl]
  exact h
theorem own_empty (W : World) (B : Nat) (hB : B ≤ W.heap.size) : (W.alloc (.cells #[] 38)).ownsRow B 38 6 (.slice (some ⟨W.heap.size, 0, none⟩) 0 0) 0 [] :=
  ⟨rfl, .inr ⟨W.heap.size, 0, #[], rfl, hB, World.alloc_heap_new W _, Nat.le_refl _, Nat.zero_le _, rfl, rfl⟩⟩
theorem exec_none {W : World} {o : Oper} {a : Act} (parts : Array (Nat × Operand)) (ho : o.op = .buildSlice 25 0 parts) (hp : (parts.map fun (i, x) => (i, a.eval x)).toList = []) : (execOp a.eval o).run Try.prog W = .ok (.value (.slice (some ⟨W.heap.size, 0, none⟩) 0 0)) (W.alloc (.cells #[] 38)) := by
  obtain ⟨ie, hie, hz, hs, _⟩ := info_parts zAct_i
  have hp' : parts = #[] := by
    rw [Array.toList_map, List.map_eq_nil_iff] at hp
    exact Array.toList_eq_nil_iff.1 hp
  subst hp'
  unfold execOp
  simp [ho, Instr.buildSlice, run_underlying Try.underlying25, sizeOf, typeInfo, hie, Instr.fill, newRow, Result.andThen]
  exact congrArg (fun c => W.alloc (.cells c 38)) (by simp)
theorem fillA (q a n t b : Int) (r : Value) (ro : ∃ x y z, r = .slice x y z) : Instr.fill (fun i => some (i * 6, 6)) ((Array.range (1 * 6)).map ((Value.agg #[.int .u8 0, .int .i64 0, .int .i64 0, .int .i64 0, .int .u8 0, .slice none 0 0]).cells[· % (Value.agg #[.int .u8 0, .int .i64 0, .int .i64 0, .int .i64 0, .int .u8 0, .slice none 0 0]).cells.size]!)) [(0, .agg (acA q a n t b r))] = some (acA q a n t b r) := by
  obtain ⟨x, y, z, rfl⟩ := ro
  kernel_rfl
theorem exec_one {W : World} {o : Oper} {a' : Act} (parts : Array (Nat × Operand)) (ho : o.op = .buildSlice 25 1 parts) (q a n t b : Int) (r : Value) (hp : (parts.map fun (i, x) => (i, a'.eval x)).toList = [(0, .agg (acA q a n t b r))]) : (execOp a'.eval o).run Try.prog W = .ok (.value (.slice (some ⟨W.heap.size, 0, none⟩) 1 1)) (W.alloc (.cells (acA q a n t b r) 38)) := by
  obtain ⟨ie, hie, hz, hs, _⟩ := info_parts zAct_i
  exact exec_buildSlice 25 38 1 parts ho _ hp _ ie _ Try.underlying25 hie hz (by rw [hs]; decide) (by rw [hs]; decide) (by rw [hs]; kernel_rfl)
theorem add_block (b o j : Nat) : ((⟨b, o, none⟩ : Addr).add j).block = b := by unfold Addr.add; split <;> rfl
theorem cell_alloc {W : World} {p : Addr} {y : Value} {o : Obj} (h : W.cell? p = some y) : (W.alloc o).cell? p = some y := cell_later ((Below.refl _ _).alloc (Nat.le_refl _) _) h
set_option maxRecDepth 100000 in
set_option maxHeartbeats 16000000 in
/-- The law, of lists as they read. -/
theorem law_keeps (v : Value) (p : List RlI) (u : Value) (al : List Ac) (x : Ac) (w : World) (hv : RAt w v p) (hvo : ∀ b, obk v = some b → b < w.heap.size) (hu : AcAt w u al) (hx : ∀ x ∈ al, AcOk w w.heap.size x) (hxx : AcOk w w.heap.size x) :
    Calls Try.prog 5 #[.agg #[v], u, .agg (acA x.q x.a x.n x.t x.b x.r)] w fun e w' => e = .returned (.bool true) ∧ Below w.heap.size w w' := by
  obtain ⟨ua, uc, rfl⟩ := hu.form
  obtain ⟨W1, hW1⟩ : ∃ y, (w.alloc (.cells #[v] 24)).alloc (.cells (acA x.q x.a x.n x.t x.b x.r) 38) = y := ⟨_, rfl⟩
  have hb1 : Below w.heap.size w W1 := by rw [← hW1]; exact ((Below.refl _ _).alloc (Nat.le_refl _) _).alloc (by simp) _
  have bP : Boxed W1 w.heap.size 24 v := by rw [← hW1]; exact (Boxed.new w _ _).alloc _
  have bA : ABx W1 (w.heap.size + 1) x.q x.a x.n x.t x.b x.r := by
    have := World.alloc_heap_new (w.alloc (.cells #[v] 24)) (.cells (acA x.q x.a x.n x.t x.b x.r) 38)
    rw [World.size_alloc] at this
    rw [← hW1]; exact this
  have hu64 := hu.len
  have hv1 := hv.later hb1
  have hu1 := hu.keep w.heap.size hu.own hb1
  have hx1 : ∀ x ∈ al, AcOk W1 W1.heap.size x := fun x h => (hx x h).later hb1 hb1.size
  have hxx1 : AcOk W1 W1.heap.size x := hxx.later hb1 hb1.size
  have hvo1 : ∀ b, obk v = some b → b < W1.heap.size := fun b h => Nat.lt_of_lt_of_le (hvo b h) hb1.size
  have HS := Lib.hid shown_is
  have HP := Lib.hid bP
  have HA := Lib.hid bA
  obtain ⟨N, hN⟩ : ∃ N, al.length = N := ⟨_, rfl⟩
  rw [hN] at hu64 hu1 ⊢
  have HU := Lib.hid hu1
  have HX := Lib.hid hx1
  have HXX := Lib.hid hxx1
  have HO := Lib.hid hvo1
  have HV := Lib.hid hv1
  have HN := Lib.hid hN
  clear hu hx hxx hvo hv hu1 hx1 hxx1 hvo1 hv1 hN bP bA
  by_cases h30 : 30 < N
  · have hi1 : (30 : Int) < (N : Int) := by omega
    go_enter Try.func5, Try.ntmps5
    go_wp2_with fail
    try rw [hW1]
    go_quiet (fail)
    go_wp2_with fail
    refine (HS.out _).mono ?_
    rintro e w2 ⟨rfl, B2⟩
    go_wp2_with fail
    go_ret
    exact ⟨rfl, hb1.trans ((show Below W1.heap.size W1 _ from ⟨B2.os, B2.tape, B2.output, B2.size, B2.block⟩).mono hb1.size)⟩
  have hi1 : ¬ (30 : Int) < (N : Int) := by omega
  go_enter Try.func5, Try.ntmps5
  go_wp2_with fail
  try rw [hW1]
  have HPC : Hid (W1.cell? ⟨w.heap.size, 0, none⟩ = some v) := Boxed.cell (show Boxed W1 w.heap.size 24 v from HP.out)
  refine region_flo (C := fun w' => Below W1.heap.size W1 w') (by kernel_rfl) ?_
  have hC0 : Below W1.heap.size W1 { W1 with drawn := W1.drawn + 1 } := ⟨rfl, rfl, rfl, Nat.le_refl _, fun _ _ => rfl⟩
  refine flo_take 0 (some 12) (.slice ua N uc) rfl rfl (by kernel_rfl) (by kernel_rfl) (by kernel_rfl) ⟨rfl, fun w' hw => rfl⟩ hC0 ?_
  simp only [Act.put, List.setIfInBounds_toArray, List.set_cons_succ, List.set_cons_zero]
  refine flo_take 1 (some 13) (.int .i64 (N : Int)) rfl rfl (by kernel_rfl) (by kernel_rfl) (by kernel_rfl) ⟨rfl, fun w' hw => by go_simp⟩ hC0 ?_
  simp only [Act.put, List.setIfInBounds_toArray, List.set_cons_succ, List.set_cons_zero]
  refine flo_take 2 (some 14) (.bool false) rfl rfl (by kernel_rfl) (by kernel_rfl) (by kernel_rfl) ⟨rfl, fun w' hw => by go_simp⟩ hC0 ?_
  simp only [Act.put, List.setIfInBounds_toArray, List.set_cons_succ, List.set_cons_zero]
  refine flo_take 3 (some 15) (.bool false) rfl rfl (by kernel_rfl) (by kernel_rfl) (by kernel_rfl) ⟨rfl, fun w' hw => rfl⟩ hC0 ?_
  simp only [Act.put, List.setIfInBounds_toArray, List.set_cons_succ, List.set_cons_zero]
  refine flo_take 4 (some 16) (.agg #[v]) rfl rfl (by kernel_rfl) (by kernel_rfl) (by kernel_rfl) ⟨rfl, fun w' hw => ?t4⟩ hC0 ?_
  case t4 => exact exec_load_mid 24 _ rfl w.heap.size 0 rfl [v] _ (fun i u hu => by
    have hi : i = 0 := by have := (List.getElem?_eq_some_iff.1 hu).1; simp at this; exact this
    subst hi
    have : v = u := by simpa using hu
    subst this
    exact cell_later hw HPC.out) Try.underlying24 rfl (by kernel_rfl)
  simp only [Act.put, List.setIfInBounds_toArray, List.set_cons_succ, List.set_cons_zero]
  refine flo_take 6 (some 18) (.slice ua N uc) rfl rfl (by kernel_rfl) (by kernel_rfl) (by kernel_rfl) ⟨rfl, fun w' hw => rfl⟩ hC0 ?_
  simp only [Act.put, List.setIfInBounds_toArray, List.set_cons_succ, List.set_cons_zero]
  refine flo_take 8 (some 20) (.agg (acA x.q x.a x.n x.t x.b x.r)) rfl rfl (by kernel_rfl) (by kernel_rfl) (by kernel_rfl) ⟨rfl, fun w' hw => ?t8⟩ hC0 ?_
  case t8 => exact exec_load_mid 38 _ rfl (w.heap.size + 1) 0 rfl (acA x.q x.a x.n x.t x.b x.r).toList _ (fun i u hu => by
    have h1 : w'.heap[w.heap.size + 1]? = _ := (hw.block _ (Array.getElem?_eq_some_iff.1 HA.out).1).trans HA.out
    rw [Array.getElem?_toList] at hu
    simp only [World.cell?, h1, Nat.zero_add]
    simpa using hu) Try.underlying38 rfl (by kernel_rfl)
  simp only [Act.put, List.setIfInBounds_toArray, List.set_cons_succ, List.set_cons_zero]
  have hA6 : (acA x.q x.a x.n x.t x.b x.r).toList.length = 1 * 6 := rfl
  obtain ⟨Wd, hWd⟩ : ∃ y, ({ W1 with drawn := W1.drawn + 1 } : World) = y := ⟨_, rfl⟩
  rw [hWd] at hC0
  rw [hWd]
  clear hWd
  have hzd := hC0.size
  have hru : Hid ((Value.slice ua N uc = .slice none 0 0 ∧ N = 0) ∨ ∃ ad c, Value.slice ua N uc = .slice (some ad) N c ∧ ∀ W, Below W1.heap.size W1 W → ∀ j y, (rowAc al)[j]? = some y → W.cell? (ad.add j) = some y) := by
    rcases HU.out with ⟨h1, h2⟩ | ⟨b, off, cap, h1, h2, h3, h4⟩
    · exact .inl ⟨h1, by rw [← HN.out, h2]; rfl⟩
    · refine .inr ⟨⟨b, off, none⟩, cap, by rw [h1, HN.out], fun W hW => AcAt.news (n := al.length) (cap := cap) (.inr ⟨b, off, cap, rfl, h2, h3, fun j x hx => ?_⟩)⟩
      obtain ⟨k0, k1, k2, k3, k4, k5⟩ := h4 j x hx
      exact ⟨cell_later hW k0, cell_later hW k1, cell_later hW k2, cell_later hW k3, cell_later hW k4, cell_later hW k5⟩
  have h1c : ∀ y ∈ rowAc al, y.oneCell' = true := rowAc_one al fun z hz => by obtain ⟨a, c, h⟩ := (HX.out z hz).ru.form; exact ⟨a, c, _, h⟩
  have hrl : (rowAc al).length = N * 6 := by rw [rowAc_len, HN.out]
  have hN30 : N ≤ 30 := by omega
  have H1c := Lib.hid h1c
  have HRL := Lib.hid hrl
  clear h1c hrl
  refine flo_cont (n := 3) (L := #[true, true, true, true, true, true, true, true, true, true, false, false, false]) (fun a W => ∃ (x17 u1 : Value) (g : Nat), a = { tmps := #[.agg #[v], .slice ua N uc, .agg (acA x.q x.a x.n x.t x.b x.r), .pointer (some ⟨w.heap.size, 0, none⟩), undef, .pointer (some ⟨w.heap.size + 1, 0, none⟩), .bool false, undef, undef, undef, undef, undef, .slice ua N uc, .int .i64 (N : Int), .bool false, .bool false, .agg #[v], x17, .slice ua N uc, u1, .agg (acA x.q x.a x.n x.t x.b x.r), .slice (some ⟨g, 0, none⟩) 1 1, undef, undef, undef, undef, undef, undef, undef, undef, undef, undef, undef, undef, undef, undef, undef, undef, undef, undef, undef, undef, undef, undef, undef, undef, undef, undef, undef, undef, undef, undef, undef, undef, undef, undef, undef], defers := [] } ∧ Below W1.heap.size W1 W ∧ W.ownsRow W1.heap.size 38 6 u1 N (rowAc al) ∧ ∀ j y, (acA x.q x.a x.n x.t x.b x.r).toList[j]? = some y → W.cell? ((⟨g, 0, none⟩ : Addr).add j) = some y) ?hk ?br
  case br =>
   as_aux_lemma =>
    intro HK
    have HK := Lib.hid HK
    refine flo_all (rs := [5, 9]) (by kernel_rfl) (by simp) hC0 ?_
    intro i hi
    simp only [List.mem_cons, List.not_mem_nil, or_false] at hi
    rcases hi with rfl | rfl
    · refine flo_do (some 17) (.slice (some ⟨Wd.heap.size, 0, none⟩) 0 0) rfl rfl (by kernel_rfl) (w' := Wd.alloc (.cells #[] 38)) (exec_none _ rfl (by kernel_rfl)) ?_
      simp only [Act.put, List.setIfInBounds_toArray, List.set_cons_succ, List.set_cons_zero]
      have hCa : Below W1.heap.size W1 (Wd.alloc (.cells #[] 38)) := hC0.alloc hzd _
      have hoa := own_empty Wd W1.heap.size hzd
      obtain ⟨Wa, hWa⟩ : ∃ y, Wd.alloc (.cells #[] 38) = y := ⟨_, rfl⟩
      have hza : Wa.heap.size = Wd.heap.size + 1 := by rw [← hWa]; simp
      rw [hWa] at hCa hoa
      rw [hWa]
      clear hWa
      refine flo_all (rs := [7, 9]) (by kernel_rfl) (by simp) hCa ?_
      intro i hi
      simp only [List.mem_cons, List.not_mem_nil, or_false] at hi
      rcases hi with rfl | rfl
      · obtain ⟨v', Wb, hr, ho, hg, hl⟩ := run_app hoa 25 (.slice ua N uc) N (rowAc al) HRL.out (hru.out.imp id (fun ⟨ad, c, e, h⟩ => ⟨ad, c, e, h Wa hCa⟩)) H1c.out (by omega) (by omega)
        refine flo_do (some 19) v' rfl rfl (by kernel_rfl) (w' := Wb) (exec_app _ _ 25 rfl 25 rfl _ _ _ hr rfl rfl) ?_
        simp only [Act.put, List.setIfInBounds_toArray, List.set_cons_succ, List.set_cons_zero]
        have hCb : Below W1.heap.size W1 Wb := hCa.grown hg hCa.size (fun j e => by have e2 : Wd.heap.size = j := Option.some.inj e; omega)
        have hzb := hg.size
        refine flo_all (rs := [9]) (by kernel_rfl) (by simp) hCb ?_
        intro i hi
        simp only [List.mem_cons, List.not_mem_nil, or_false] at hi
        subst hi
        refine flo_do (some 21) (.slice (some ⟨Wb.heap.size, 0, none⟩) 1 1) rfl rfl (by kernel_rfl) (w' := Wb.alloc (.cells (acA x.q x.a x.n x.t x.b x.r) 38)) (exec_one _ rfl _ _ _ _ _ _ (by kernel_rfl)) ?_
        simp only [Act.put, List.setIfInBounds_toArray, List.set_cons_succ, List.set_cons_zero]
        refine HK.out _ (by kernel_rfl) _ _ ⟨_, v', Wb.heap.size, rfl, hCb.alloc (by omega) _, ?_, cell_new1 Wb _ _⟩
        have := ho.alloc (.cells (acA x.q x.a x.n x.t x.b x.r) 38)
        rw [Nat.zero_add, List.nil_append] at this
        exact this
      · refine flo_do (some 21) (.slice (some ⟨Wa.heap.size, 0, none⟩) 1 1) rfl rfl (by kernel_rfl) (w' := Wa.alloc (.cells (acA x.q x.a x.n x.t x.b x.r) 38)) (exec_one _ rfl _ _ _ _ _ _ (by kernel_rfl)) ?_
        simp only [Act.put, List.setIfInBounds_toArray, List.set_cons_succ, List.set_cons_zero]
        have hCb : Below W1.heap.size W1 (Wa.alloc (.cells (acA x.q x.a x.n x.t x.b x.r) 38)) := hCa.alloc (by omega) _
        refine flo_all (rs := [7]) (by kernel_rfl) (by simp) hCb ?_
        intro i hi
        simp only [List.mem_cons, List.not_mem_nil, or_false] at hi
        subst hi
        obtain ⟨v', Wb, hr, ho, hg, hl⟩ := run_app (hoa.alloc (.cells (acA x.q x.a x.n x.t x.b x.r) 38)) 25 (.slice ua N uc) N (rowAc al) HRL.out (hru.out.imp id (fun ⟨ad, c, e, h⟩ => ⟨ad, c, e, h _ hCb⟩)) H1c.out (by omega) (by simp; omega)
        refine flo_do (some 19) v' rfl rfl (by kernel_rfl) (w' := Wb) (exec_app _ _ 25 rfl 25 rfl _ _ _ hr rfl rfl) ?_
        simp only [Act.put, List.setIfInBounds_toArray, List.set_cons_succ, List.set_cons_zero]
        refine HK.out _ (by kernel_rfl) _ _ ⟨_, v', Wa.heap.size, rfl, hCb.grown hg hCb.size (fun j e => by have e2 : Wd.heap.size = j := Option.some.inj e; omega), ?_, fun j y hy => World.grownBy.cell hg (cell_new1 Wa _ _ j y hy) (by rw [add_block]; intro e; have e2 : Wa.heap.size = Wd.heap.size := Option.some.inj e; omega)⟩
        rw [Nat.zero_add, List.nil_append] at ho
        exact ho
    · refine flo_do (some 21) (.slice (some ⟨Wd.heap.size, 0, none⟩) 1 1) rfl rfl (by kernel_rfl) (w' := Wd.alloc (.cells (acA x.q x.a x.n x.t x.b x.r) 38)) (exec_one _ rfl _ _ _ _ _ _ (by kernel_rfl)) ?_
      simp only [Act.put, List.setIfInBounds_toArray, List.set_cons_succ, List.set_cons_zero]
      have hCa : Below W1.heap.size W1 (Wd.alloc (.cells (acA x.q x.a x.n x.t x.b x.r) 38)) := hC0.alloc (by omega) _
      have hnw := cell_new1 Wd (acA x.q x.a x.n x.t x.b x.r) 38
      obtain ⟨Wa, hWa⟩ : ∃ y, Wd.alloc (.cells (acA x.q x.a x.n x.t x.b x.r) 38) = y := ⟨_, rfl⟩
      have hza : Wa.heap.size = Wd.heap.size + 1 := by rw [← hWa]; simp
      rw [hWa] at hCa hnw
      rw [hWa]
      clear hWa
      refine flo_all (rs := [5]) (by kernel_rfl) (by simp) hCa ?_
      intro i hi
      simp only [List.mem_cons, List.not_mem_nil, or_false] at hi
      subst hi
      refine flo_do (some 17) (.slice (some ⟨Wa.heap.size, 0, none⟩) 0 0) rfl rfl (by kernel_rfl) (w' := Wa.alloc (.cells #[] 38)) (exec_none _ rfl (by kernel_rfl)) ?_
      simp only [Act.put, List.setIfInBounds_toArray, List.set_cons_succ, List.set_cons_zero]
      have hCb : Below W1.heap.size W1 (Wa.alloc (.cells #[] 38)) := hCa.alloc (by omega) _
      have hoa := own_empty Wa W1.heap.size (by omega)
      refine flo_all (rs := [7]) (by kernel_rfl) (by simp) hCb ?_
      intro i hi
      simp only [List.mem_cons, List.not_mem_nil, or_false] at hi
      subst hi
      obtain ⟨v', Wb, hr, ho, hg, hl⟩ := run_app hoa 25 (.slice ua N uc) N (rowAc al) HRL.out (hru.out.imp id (fun ⟨ad, c, e, h⟩ => ⟨ad, c, e, h _ hCb⟩)) H1c.out (by omega) (by simp; omega)
      refine flo_do (some 19) v' rfl rfl (by kernel_rfl) (w' := Wb) (exec_app _ _ 25 rfl 25 rfl _ _ _ hr rfl rfl) ?_
      simp only [Act.put, List.setIfInBounds_toArray, List.set_cons_succ, List.set_cons_zero]
      refine HK.out _ (by kernel_rfl) _ _ ⟨_, v', Wd.heap.size, rfl, hCb.grown hg hCb.size (fun j e => by have e2 : Wa.heap.size = j := Option.some.inj e; omega), ?_, fun j y hy => World.grownBy.cell hg (cell_alloc (hnw j y hy)) (by rw [add_block]; intro e; have e2 : Wd.heap.size = Wa.heap.size := Option.some.inj e; omega)⟩
      rw [Nat.zero_add, List.nil_append] at ho
      exact ho
  case hk =>
    rintro _ W ⟨x17, u1, g, rfl, hCW, hoW, hnW⟩
    have hzW := hCW.size
    obtain ⟨v', W2, hr, ho, hg, hl⟩ := run_app hoW 25 (.slice (some ⟨g, 0, none⟩) 1 1) 1 (acA x.q x.a x.n x.t x.b x.r).toList hA6 (.inr ⟨⟨g, 0, none⟩, 1, rfl, hnW⟩) (fun y hy => by
      obtain ⟨a, c, hxr⟩ := HXX.out.ru.form
      unfold acA at hy
      rw [hxr] at hy
      simp at hy
      rcases hy with rfl | rfl | rfl | rfl | rfl | rfl <;> rfl) (by omega) hzW
    have hC2 : Below W1.heap.size W1 W2 := hCW.grown hg hzW (fun j e => (hoW.lt j e).1)
    refine flo_all (rs := [10]) (by kernel_rfl) (by simp) hCW ?_
    intro i hi
    simp only [List.mem_cons, List.not_mem_nil, or_false] at hi
    subst hi
    refine flo_do (some 22) v' rfl rfl (by kernel_rfl) (w' := W2) (exec_app _ _ 25 rfl 25 rfl _ _ _ hr rfl rfl) ?_
    simp only [Act.put, List.setIfInBounds_toArray, List.set_cons_succ, List.set_cons_zero]
    refine flo_all (rs := [11]) (by kernel_rfl) (by simp) hC2 ?_
    intro i hi
    simp only [List.mem_cons, List.not_mem_nil, or_false] at hi
    subst hi
    have hat : AcAt W2 v' (al ++ [x]) := AcAt.of_own (n := N + 1) (by rw [List.length_append, HN.out]; rfl) (by
      unfold rowAc
      rw [List.flatMap_append, List.flatMap_singleton]
      exact ho)
    obtain ⟨r, hr2⟩ : ∃ r, lgB p (al ++ [x]) = r := ⟨_, rfl⟩
    have hlong := long_is v p v' (al ++ [x]) r hr2 W2 (HV.out.later hC2) hat (fun z hz => by
      rw [List.mem_append, List.mem_singleton] at hz
      rcases hz with hz | rfl
      · exact (HX.out z hz).ru.later hC2
      · exact HXX.out.ru.later hC2)
    refine flo_call (some 23) 11 #[.agg #[v], v'] rfl rfl (by kernel_rfl) (by go_simp) ?_
    refine hlong.mono ?_
    rintro e W3 ⟨rfl, B3⟩
    refine ⟨.bool r, rfl, ?_⟩
    simp only [Act.put, List.setIfInBounds_toArray, List.set_cons_succ, List.set_cons_zero]
    have hC3 : Below W1.heap.size W1 W3 := hC2.trans (B3.mono hC2.size)
    refine flo_all (rs := [12]) (by kernel_rfl) (by simp) hC3 ?_
    intro i hi
    simp only [List.mem_cons, List.not_mem_nil, or_false] at hi
    subst hi
    refine flo_do (some 24) (.bool r) rfl rfl (by kernel_rfl) (w' := W3) (by go_simp) ?_
    simp only [Act.put, List.setIfInBounds_toArray, List.set_cons_succ, List.set_cons_zero]
    refine ⟨hC3, by kernel_rfl, ?_⟩
    have HC3 := Lib.hid hC3
    clear hr ho hg hl hC2 hat hlong hr2 hoW hnW hCW hC3 B3 hzW hC0 hzd HRL H1c hru hA6 hN30
    cases r
    case true =>
      go_wp2_with fail
      refine (HS.out _).mono ?_
      rintro e z1 ⟨rfl, Bz⟩
      go_wp2_with fail
      go_ret
      exact ⟨rfl, (hb1.trans (HC3.out.mono hb1.size)).trans (Bz.mono (Nat.le_trans hb1.size HC3.out.size))⟩
    case false =>
      have hBw3 : Below w.heap.size w W3 := hb1.trans (HC3.out.mono hb1.size)
      have q3 := cell_later HC3.out HPC.out
      obtain ⟨j, c, hc⟩ : ∃ j c, chkP p = (j, c) := ⟨_, _, rfl⟩
      by_cases h0 : c = 0
      · obtain ⟨L, rfl, hL⟩ := chkP_ok (l := p) (by rw [hc]; exact h0)
        have HM := Lib.hid (made_ok v L hL (.slice ua N uc) al (by rw [HN.out]; omega) W3 (HV.out.later HC3.out) (fun b h => Nat.lt_of_lt_of_le (HO.out b h) HC3.out.size) (HU.out.keep W1.heap.size HU.out.own HC3.out) (fun z h => (HX.out z h).later HC3.out HC3.out.size))
        have HB3 := Lib.hid hBw3
        clear hc h0 hb1 hBw3
        go_wp2_with fail
        refine HM.out.mono ?_
        rintro e w4 ⟨S, P, R, f, L', m, rfl, hB, hM, B4⟩
        have hB4 := HB3.out.trans (B4.mono HB3.out.size)
        have HBo := Lib.hid hB
        obtain ⟨us, sV⟩ := hB.sys
        obtain ⟨c, hcc⟩ : ∃ y, ci m = y := ⟨_, rfl⟩
        obtain ⟨h, hhh⟩ : ∃ y, ci (hf L' m) = y := ⟨_, rfl⟩
        have HV1 := Lib.hid (Save_is S P us L' hB.ok _ _ f w4 sV.box sV.pg sV.ru)
        rw [hcc, hhh] at HV1
        have HCC := Lib.hid (And.intro hcc hhh)
        have HSV := Lib.hid sV
        have HB4 := Lib.hid hB4
        have HB34 := Lib.hid B4
        have HML := Lib.hid hM
        clear HM hB sV hcc hhh hB4 B4 hM q3
        go_wp2_with fail
        refine HV1.out.mono ?_
        rintro e w5 ⟨ur, ug, ud, su, rfl, sd1, B5⟩
        obtain ⟨W6, hW6⟩ : ∃ y, w5.alloc (.cells #[.slice none 0 0, .slice none 0 0, .slice none 0 0, .slice none 0 0, .int .i64 0, .int .i64 0, .int .i64 0, .int .i64 0, .int .i64 0, .int .i64 0, .int .i64 0, .int .i64 0, .int .i64 0, .int .i64 0, .int .i64 0, .int .i64 0, .int .i64 0, .int .i64 0] 47) = y := ⟨_, rfl⟩
        have hb6 : Below w5.heap.size w5 W6 := by rw [← hW6]; exact (Below.refl _ _).alloc (Nat.le_refl _) _
        have bN : VBox W6 w5.heap.size nilS nilS nilS nilS zer zer := by rw [← hW6]; exact VBox.new w5 nilS nilS nilS nilS zer zer
        have bM := bN.row ur ug ud su c h
        have hone := vs_one ur ug ud su c h (own_one sd1.r) (own_one sd1.g) (own_one sd1.d) sd1.ru.one
        have hK7 : Below w4.heap.size w4 (W6.setRow w5.heap.size (vsA ur ug ud su c h)) := below_row (B5.trans (hb6.mono B5.size)) _ B5.size _
        have hk57 : Keep (· = w5.heap.size) w5 (W6.setRow w5.heap.size (vsA ur ug ud su c h)) := (Keep.of_below hb6).trans (keep_row W6 _ _)
        obtain ⟨W7, hW7⟩ : ∃ y, W6.setRow w5.heap.size (vsA ur ug ud su c h) = y := ⟨_, rfl⟩
        rw [hW7] at bM hK7 hk57
        have hB7 := HB4.out.trans (hK7.mono HB4.out.size)
        have hC7 : Below W1.heap.size W1 W7 := HC3.out.trans ((HB34.out.trans (hK7.mono HB34.out.size)).mono HC3.out.size)
        have bA7 : ABx W7 (w.heap.size + 1) x.q x.a x.n x.t x.b x.r := (hC7.block _ (Array.getElem?_eq_some_iff.1 HA.out).1).trans HA.out
        have c0 := bA7.c0
        have c1 := bA7.c1
        have c2 := bA7.c2
        have c3 := bA7.c3
        have c4 := bA7.c4
        have c5 := bA7.c5
        have hs7 : Sys W7 S P (· = R) f L' m := ⟨us, HSV.out.later hK7⟩
        have hxx7 : AcOk W7 W7.heap.size x := HXX.out.later hC7 hC7.size
        obtain ⟨e8, f8, L8, m8, hkp, hL8, hcall⟩ := call_is S P (· = R) f L' HBo.out.ok m (HML.out.sm (by decide)) x _ W7 hxx7 hs7
        have hne : ∀ b, (ur.ownBlock = some b ∨ ug.ownBlock = some b ∨ ud.ownBlock = some b ∨ su.ownBlock = some b) → w4.heap.size ≤ b := fun b hb => by
          rcases hb with hb | hb | hb | hb
          · exact (sd1.r.lt b hb).1
          · exact (sd1.g.lt b hb).1
          · exact (sd1.d.lt b hb).1
          · exact (sd1.own b hb).1
        have hn5 : ∀ b, (ur.ownBlock = some b ∨ ug.ownBlock = some b ∨ ud.ownBlock = some b) → b ≠ w5.heap.size := fun b hb => by
          rcases hb with hb | hb | hb
          · have := (sd1.r.lt b hb).2; omega
          · have := (sd1.g.lt b hb).2; omega
          · have := (sd1.d.lt b hb).2; omega
        have sd7 : Saved W7 w4.heap.size f all1024 L' ur ug ud su := ⟨own_keep sd1.r hk57 (fun b hb => hn5 b (.inl hb)), own_keep sd1.g hk57 (fun b hb => hn5 b (.inr (.inl hb))), own_keep sd1.d hk57 (fun b hb => hn5 b (.inr (.inr hb))), sd1.ru.keep hk57 (fun b hb e => by have := (sd1.own b (obk_own hb)).2; omega), fun b hb => by
          have h1 := sd1.own b hb
          have h2 := hk57.size
          omega⟩
        have HCL := Lib.hid hcall
        have HKP := Lib.hid hkp
        have HSD7 := Lib.hid sd7
        have HBM := Lib.hid bM
        have HB7 := Lib.hid hB7
        have HL8 := Lib.hid hL8
        have HNE := Lib.hid hne
        as_aux_lemma =>
          have hSP : Hid (S < w4.heap.size ∧ P < w4.heap.size ∧ w.heap.size ≤ S ∧ w.heap.size ≤ P) := by
            have h1 := HSV.out.box.lt
            have h2 := HSV.out.pg.lt
            have h3 := HBo.out.hS
            have h4 := HBo.out.hP
            have h5 := HB3.out.size
            exact ⟨h1, h2, by omega, by omega⟩
          have hz47 := hK7.size
          have hz45 : Hid (w4.heap.size ≤ w5.heap.size) := B5.size
          clear HV1 sd1 B5 hb6 bM hK7 hk57 hB7 hC7 bA7 hs7 hxx7 hkp hL8 hcall hne hn5 sd7
          go_wp2_with (first | rw [hW6] | rw [hW7] | refine wpList_store_row rfl 47 _ _ rfl w5.heap.size (vsA ur ug ud su c h) rfl rfl 47 _ bN (vs_i _ _ _ _ _ _) rfl hone ?_)
          refine HCL.out.mono ?_
          rintro e w8 ⟨rfl, s8, k8⟩
          have hnot : ∀ b, w4.heap.size ≤ b → ¬ SP S P b := fun b hb e => by have := hSP.out; rcases e with e | e <;> omega
          have hB8 := HB7.out.trans (k8.below w.heap.size HB7.out.size (fun k hk => by have := hSP.out; rcases hk with rfl | rfl; exact this.2.2.1; exact this.2.2.2))
          have bM8 : VBox w8 w5.heap.size ur ug ud su c h := box_keep HBM.out k8 (hnot _ hz45.out)
          have sd8 : Saved w8 w4.heap.size f all1024 L' ur ug ud su := ⟨own_keep HSD7.out.r k8 (fun b hb => hnot b (HSD7.out.r.lt b hb).1), own_keep HSD7.out.g k8 (fun b hb => hnot b (HSD7.out.g.lt b hb).1), own_keep HSD7.out.d k8 (fun b hb => hnot b (HSD7.out.d.lt b hb).1), HSD7.out.ru.keep k8 (fun b hb => hnot b (HSD7.out.own b (obk_own hb)).1), fun b hb => by
            have h1 := HSD7.out.own b hb
            have h2 := k8.size
            omega⟩
          obtain ⟨vs, sV8⟩ := s8
          obtain ⟨c', hcc'⟩ : ∃ y, ci m8 = y := ⟨_, rfl⟩
          obtain ⟨h', hhh'⟩ : ∃ y, ci (hf L8 m8) = y := ⟨_, rfl⟩
          have HV2 := Lib.hid (Save_is S P vs L8 HL8.out _ _ f8 w8 sV8.box sV8.pg sV8.ru)
          rw [hcc', hhh'] at HV2
          have HCC' := Lib.hid (And.intro hcc' hhh')
          have HB8 := Lib.hid hB8
          have HBM8 := Lib.hid bM8
          have HSD8 := Lib.hid sd8
          clear HCL k8 sV8 hB8 bM8 sd8 hcc' hhh' c0 c1 c2 c3 c4 c5 hone bN
          go_wp2_with fail
          refine HV2.out.mono ?_
          rintro e w9 ⟨vr, vg, vd, sv, rfl, sd9, B9⟩
          obtain ⟨W10, hW10⟩ : ∃ y, w9.alloc (.cells #[.slice none 0 0, .slice none 0 0, .slice none 0 0, .slice none 0 0, .int .i64 0, .int .i64 0, .int .i64 0, .int .i64 0, .int .i64 0, .int .i64 0, .int .i64 0, .int .i64 0, .int .i64 0, .int .i64 0, .int .i64 0, .int .i64 0, .int .i64 0, .int .i64 0] 47) = y := ⟨_, rfl⟩
          have hb10 : Below w9.heap.size w9 W10 := by rw [← hW10]; exact (Below.refl _ _).alloc (Nat.le_refl _) _
          have bN : VBox W10 w9.heap.size nilS nilS nilS nilS zer zer := by rw [← hW10]; exact VBox.new w9 nilS nilS nilS nilS zer zer
          have bM11 := bN.row vr vg vd sv c' h'
          have hone := vs_one vr vg vd sv c' h' (own_one sd9.r) (own_one sd9.g) (own_one sd9.d) sd9.ru.one
          have hK11 : Below w8.heap.size w8 (W10.setRow w9.heap.size (vsA vr vg vd sv c' h')) := below_row (B9.trans (hb10.mono B9.size)) _ B9.size _
          have hk911 : Keep (· = w9.heap.size) w9 (W10.setRow w9.heap.size (vsA vr vg vd sv c' h')) := (Keep.of_below hb10).trans (keep_row W10 _ _)
          have hB11 := HB8.out.trans (hK11.mono HB8.out.size)
          have bA11 := HBM8.out.later hK11
          have sdA := HSD8.out.later hK11
          have sdB := sd9.keep hk911 (fun b hb e => by omega)
          have hz89 := B9.size
          have h89 : Hid (w.heap.size ≤ w9.heap.size) := Nat.le_trans HB8.out.size B9.size
          have hltA : Hid (∀ b, (ur.ownBlock = some b ∨ ug.ownBlock = some b ∨ ud.ownBlock = some b ∨ su.ownBlock = some b) → b < w9.heap.size) := fun b hb => Nat.lt_of_lt_of_le (HSD8.out.lt b hb) B9.size
          have hltB : Hid (∀ b, (vr.ownBlock = some b ∨ vg.ownBlock = some b ∨ vd.ownBlock = some b ∨ sv.ownBlock = some b) → b < w9.heap.size) := sd9.lt
          obtain ⟨W11, hW11⟩ : ∃ y, W10.setRow w9.heap.size (vsA vr vg vd sv c' h') = y := ⟨_, rfl⟩
          rw [hW11] at bM11 hK11 hk911 hB11 bA11 sdA sdB
          have HSA := Lib.hid sdA
          have HSB := Lib.hid sdB
          have HB11 := Lib.hid hB11
          have HM11 := Lib.hid bM11
          have HA11 := Lib.hid bA11
          have h59 : w5.heap.size < w9.heap.size := by have := HBM8.out.lt; omega
          clear HV2 sd9 B9 hb10 hK11 hk911 hB11 sdA sdB hz89
          by_cases e0 : e8 = 0
          · subst e0
            clear bM11 bA11
            go_wp2_with (first | rw [hW10] | rw [hW11] | refine wpList_store_row rfl 47 _ _ rfl w9.heap.size (vsA vr vg vd sv c' h') rfl rfl 47 _ bN (vs_i _ _ _ _ _ _) rfl hone ?_)
            refine (HS.out _).mono ?_
            rintro e z1 ⟨rfl, Bz⟩
            go_wp2_with fail
            go_ret
            exact ⟨rfl, HB11.out.trans (Bz.mono HB11.out.size)⟩
          · obtain ⟨hf8, hL88, hm8⟩ := HKP.out e0
            subst hf8
            subst hL88
            have q0 : (e8 == 0) = false := by simpa using e0
            by_cases e60 : e8 = 60
            · subst e60
              have rg := bA11.range
              have th := bM11.there
              have hst1 := stA_one su HSA.out.ru.one c h
              have bP := bM11.put su c h
              have kP : Keep (· = w9.heap.size) W11 (W11.setCells w9.heap.size 3 (stA su c h).toList) := Keep.setCells (q := (· = w9.heap.size)) w9.heap.size (.inl rfl) _ _ _ (Keep.refl _ _)
              have bQ : VBox (W11.setCells w9.heap.size 3 (stA su c h).toList) w5.heap.size ur ug ud su c h := box_keep bA11 kP (fun e => by omega)
              have sA := HSA.out.but kP (fun b hb e => by have := hltA.out b hb; omega)
              have sB := HSB.out.but kP (fun b hb e => by have := hltB.out b hb; omega)
              obtain ⟨W12, hW12⟩ : ∃ y, W11.setCells w9.heap.size 3 (stA su c h).toList = y := ⟨_, rfl⟩
              rw [hW12] at bP bQ sA sB kP
              have rg5 := bQ.all
              have rg9 := bP.all
              have HA12 := Lib.hid sA
              have HB12 := Lib.hid sB
              have HKB := Lib.hid (HB11.out.trans (kP.below w.heap.size HB11.out.size (fun k hk => by subst hk; exact h89.out)))
              as_aux_lemma =>
                clear bM11 bA11 bP bQ sA sB kP
                go_wp2_with (first | rw [hW10] | rw [hW11] | rw [hW12] | refine wpList_store_row rfl 47 _ _ rfl w9.heap.size (vsA vr vg vd sv c' h') rfl rfl 47 _ bN (vs_i _ _ _ _ _ _) rfl hone ?_ | refine wpList_load_mid rfl 45 _ rfl w5.heap.size 3 rfl (stA su c h).toList _ rg Try.underlying45 rfl (st_i _ _ _) ?_ | refine wpList_store_mid rfl 45 _ _ rfl w9.heap.size 3 (stA su c h) rfl rfl th (st_i _ _ _) hst1 ?_ | refine wpList_load_row_w 47 _ rfl w5.heap.size 0 rfl rfl (vsA ur ug ud su c h) _ rg5 Try.underlying47 rfl (vs_i _ _ _ _ _ _) ?_ | refine wpList_load_row_w 47 _ rfl w9.heap.size 0 rfl rfl (vsA vr vg vd su c h) _ rg9 Try.underlying47 rfl (vs_i _ _ _ _ _ _) ?_)
                refine (Same_is _ _ _ _ _ _ _ _ _ _ _ _ _ _ _ _ _ _ HA12.out.r HA12.out.g HA12.out.d HA12.out.ru HB12.out.r HB12.out.g HB12.out.d HA12.out.ru).mono ?_
                rintro e z0 ⟨rfl, Bs⟩
                go_wp2_with fail
                refine (HS.out _).mono ?_
                rintro e z1 ⟨rfl, Bz⟩
                go_wp2_with fail
                go_ret
                exact ⟨rfl, (HKB.out.trans (Bs.mono HKB.out.size)).trans (Bz.mono (Nat.le_trans HKB.out.size Bs.size))⟩
            · have hmm := hm8 e60
              subst hmm
              have ec : c' = c := HCC'.out.1.symm.trans HCC.out.1
              have eh : h' = h := HCC'.out.2.symm.trans HCC.out.2
              subst ec
              subst eh
              have q60 : (e8 == 60) = false := by simpa using e60
              as_aux_lemma =>
                have rg5 := bA11.all
                have rg9 := bM11.all
                clear bM11 bA11
                go_wp2_with (first | rw [hW10] | rw [hW11] | refine wpList_store_row rfl 47 _ _ rfl w9.heap.size (vsA vr vg vd sv c' h') rfl rfl 47 _ bN (vs_i _ _ _ _ _ _) rfl hone ?_ | refine wpList_load_row_w 47 _ rfl w5.heap.size 0 rfl rfl (vsA ur ug ud su c' h') _ rg5 Try.underlying47 rfl (vs_i _ _ _ _ _ _) ?_ | refine wpList_load_row_w 47 _ rfl w9.heap.size 0 rfl rfl (vsA vr vg vd sv c' h') _ rg9 Try.underlying47 rfl (vs_i _ _ _ _ _ _) ?_)
                refine (Same_is _ _ _ _ _ _ _ _ _ _ _ _ _ _ _ _ _ _ HSA.out.r HSA.out.g HSA.out.d HSA.out.ru HSB.out.r HSB.out.g HSB.out.d HSB.out.ru).mono ?_
                rintro e z0 ⟨rfl, Bs⟩
                go_wp2_with fail
                refine (HS.out _).mono ?_
                rintro e z1 ⟨rfl, Bz⟩
                go_wp2_with fail
                go_ret
                exact ⟨rfl, (HB11.out.trans (Bs.mono HB11.out.size)).trans (Bz.mono (Nat.le_trans HB11.out.size Bs.size))⟩
      · have HM := Lib.hid (made_bad v p (.slice ua N uc) j c hc h0 W3 (HV.out.later HC3.out))
        clear hc h0
        go_wp2_with fail
        refine HM.out.mono ?_
        rintro e w4 ⟨rfl, B4⟩
        have hB4 := hBw3.trans (B4.mono hBw3.size)
        go_wp2_with fail
        refine (HS.out _).mono ?_
        rintro e z1 ⟨rfl, Bz⟩
        go_wp2_with fail
        go_ret
        exact ⟨rfl, hB4.trans (Bz.mono hB4.size)⟩
end Go.Proofs.Ytjplihljmohpjaa
