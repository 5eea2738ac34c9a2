/- What a sequence of pages goes through, gathered. -/
import Derived.Test.YtgljfiihaehedaaPg
import Derived.Test.YtgljfiihaehedaaColl
namespace Go.Proofs.Ytgljfiihaehedaa
open Go.RowKit Go.Shelf
attribute [local go_sem] Oper.semAt_some

theorem Try.infoInt : (Try.prog.info? 3).map (fun i => (i.zero, i.size, i.bytes)) = some (some (.int .i64 0), 1, 8) := by kernel_rfl
def rowN (l : List Nat) : List Value := l.map fun (x : Nat) => Value.int .i64 (x : Int)
theorem rowN_snoc (l : List Nat) (x : Nat) : rowN (l ++ [x]) = rowN l ++ [.int .i64 (x : Int)] := by unfold rowN; rw [List.map_append, List.map_singleton]
def nv (pre : List Pn) : List Nat := pre.map Subtype.val
def INC (w : World) (N : Int) (pre : List Pn) (V : World) : Prop :=
  (∃ u, Boxed V (w.heap.size + 3) 48 u ∧ V.ownsRow (w.heap.size + 4) 3 1 u (nv pre).length (rowN (nv pre)) ∧ True) ∧ (Below w.heap.size w V ∧ (Boxed V w.heap.size 3 (.int .i64 N) ∧ (Boxed V (w.heap.size + 1) 48 (.slice none 0 0) ∧ Boxed V (w.heap.size + 2) 4 (.bool false))))
theorem INC_own (w : World) (N : Int) (B : Nat) (hB : w.heap.size ≤ B) : OwnFrom B (INC w N) :=
  OwnFrom.and (Own.from (holdsRow_own (w.heap.size + 4) (w.heap.size + 3) _ _ 1 (fun pre : List Pn => (nv pre).length) (fun pre => rowN (nv pre)) (fun _ _ => True)) _) (OwnFrom.and (ownFrom_below (Nat.le_refl _) hB) (OwnFrom.and (Own.from (boxed_own _ _ (fun _ : List Pn => .int .i64 N)) _) (OwnFrom.and (Own.from (boxed_own _ _ (fun _ : List Pn => .slice none 0 0)) _) (Own.from (boxed_own _ _ (fun _ : List Pn => .bool false)) _))))
theorem bxn4 (w : World) (N : Int) : ∃ WL, (((w.alloc (.cells #[.int .i64 N] 3)).alloc (.cells #[.slice none 0 0] 48)).alloc (.cells #[.bool false] 4)).alloc (.cells #[.slice none 0 0] 48) = WL ∧ Below w.heap.size w WL ∧ WL.heap.size = w.heap.size + 4 ∧
    Boxed WL w.heap.size 3 (.int .i64 N) ∧ Boxed WL (w.heap.size + 1) 48 (.slice none 0 0) ∧ Boxed WL (w.heap.size + 2) 4 (.bool false) ∧ Boxed WL (w.heap.size + 3) 48 (.slice none 0 0) := by
  refine ⟨_, rfl, (((((Below.refl _ w).alloc (Nat.le_refl _) _).alloc (by simp) _).alloc (by simp; omega) _).alloc (by simp; omega) _), by simp, ?_, ?_, ?_, ?_⟩
  · exact (((Boxed.new w _ _).alloc _).alloc _).alloc _
  · have := Boxed.new (w.alloc (.cells #[.int .i64 N] 3)) 48 (.slice none 0 0)
    simp only [World.size_alloc] at this
    exact (this.alloc _).alloc _
  · have := Boxed.new ((w.alloc (.cells #[.int .i64 N] 3)).alloc (.cells #[.slice none 0 0] 48)) 4 (.bool false)
    simp only [World.size_alloc] at this
    exact this.alloc _
  · have := Boxed.new (((w.alloc (.cells #[.int .i64 N] 3)).alloc (.cells #[.slice none 0 0] 48)).alloc (.cells #[.bool false] 4)) 48 (.slice none 0 0)
    simp only [World.size_alloc] at this
    exact this
theorem seqI_func : (match Try.prog.underlying 43 with | some (.func _ _ _) => true | _ => false) = true := by kernel_rfl

set_option maxRecDepth 100000 in
set_option maxHeartbeats 4000000 in
theorem collN_in (gf : Nat) (lb : Array Value) (eg : ∀ args w, (callFunc gf args).run Try.prog w = .ok (.enter gf args) w) (xs : List Nat) (N : Nat) (hN : xs.length ≤ N) (hN2 : N ≤ 1024) (w : World)
    (hseq : ∀ V, Below w.heap.size w V → cG (w.heap.size + 3) 48 V → (∀ u, Boxed V (w.heap.size + 3) 48 u → u = .slice none 0 0) → SeqG Fence.wide 5 Try.prog gf lb encN (fun _ => cK (w.heap.size + 3) 48) (fun ys => ys.map Subtype.val = xs) (fun pre => pre.map Subtype.val <+: xs) 1025 V) :
    CallsIn Fence.wide 6 Try.prog 38 #[.func (.func gf) #[] lb, .int .i64 N] w fun e w' => ∃ u, e = .returned (.tuple #[u, .bool true]) ∧ w'.ownsRow (w.heap.size + 4) 3 1 u xs.length (rowN xs) ∧ Below w.heap.size w w' := by
  have hnil := fun W => eql_func_nil (P := Try.prog) 43 seqI_func (.func gf) #[] lb W
  obtain ⟨i0, hi, hz0, hz1, hz2⟩ := info_parts Try.infoInt
  refine callsIn_of_wp_marks Try.func38 rfl trivial ?_ rfl
  simp only [Try.ntmps38, List.size_toArray, List.length_cons, List.length_nil, Nat.reduceAdd, Nat.reduceSub, Array.replicate_succ, Array.replicate_zero, List.push_toArray, List.append_toArray, List.nil_append, List.cons_append]
  obtain ⟨WL, hWL, hbL, hzL, b0, b1, b2, b3⟩ := bxn4 w (N : Int)
  gi_wp2_with fail
  rw [show w.heap.size + 1 + 1 + 1 = w.heap.size + 3 by omega, show w.heap.size + 1 + 1 = w.heap.size + 2 by omega]
  have hsq := hseq WL hbL ⟨_, b3, fun g hg => by simp [Value.ownBlock] at hg⟩ (fun u hu => boxed_inj hu b3)
  clear hWL hseq
  refine range_g rfl (by decide) (gf := gf) (lb := lb) rfl (wide_fn _) eg hsq (fun h k => cK_trans h k) (fun _ V k o o' hk hc _ => cK_putObj V k o o' hk hc) (fun _ => rfl)
    (INC w N) (fun c pre _ => c = .ret ∧ N < pre.length) (INC_own w N _ (by omega)) (fun c => ownFrom_pure _ (fun pre : List Pn => c = .ret ∧ N < pre.length)) ⟨⟨_, b3, World.ownsRow_nil _ _ _ _, trivial⟩, hbL, b0, b1, b2⟩
    (fun x => { tmps := #[.func (.func gf) #[] lb, .int .i64 (N : Int), undef, .pointer (some ⟨w.heap.size, 0, none⟩), .pointer (some ⟨w.heap.size + 1, 0, none⟩), .pointer (some ⟨w.heap.size + 2, 0, none⟩), .pointer (some ⟨w.heap.size + 3, 0, none⟩), .int .i64 (x.1 : Nat), .func (.func gf) #[] lb, .bool false, .func (.func gf) #[] lb, .int .i64 (x.1 : Nat), undef, undef, undef, undef, undef, undef, undef, undef, undef], defers := [] }) ?assign ?body ?done ?stop
  case assign =>
    intro l x V K hK
    simp only [encN]
    gi_wp2
    exact hK
  case body =>
    rintro l pre x V ⟨⟨u, h1, h2, _⟩, hB, h3, h4, h5⟩ hlen5
    obtain ⟨p, hx1⟩ := x
    have c1 := h1.cell
    have c1' := h1.frozen
    have c3 := h3.cell
    have c4 := h4.cell
    have c4' := h4.frozen
    have c5 := h5.cell
    have c5' := h5.frozen
    have hsz := hB.size
    have hsz4 : w.heap.size + 4 ≤ V.heap.size := by have := h1.lt; omega
    obtain ⟨m, hm⟩ : ∃ m, (nv pre).length = m := ⟨_, rfl⟩
    have hml : pre.length = m := by rw [← hm]; unfold nv; simp
    have HM := Lib.hid hml
    rw [hm] at h2
    obtain ⟨ua, uc, rfl⟩ := own_form2 h2
    have hrow7 := h2.alloc (.cells #[.int .i64 (p : Int)] 3)
    by_cases hmn : m = N
    · subst hmn
      gi_wp2_with fail
      exact ⟨((KeepsOthers.setCell _ _ _).trans (KeepsOthers.setCell _ _ _)).from _, rfl, by rw [List.length_append, List.length_singleton, HM.out]; omega⟩
    · have hmn2 : ((m : Int) == (N : Int)) = false := by simp; omega
      have hmn3 : ¬ (m : Int) = (N : Int) := by omega
      gi_wp2_with (gi_at_builtin; refine wpListIn_append_lies _ rfl _ _ 48 rfl (w.heap.size + 4) 3 i0 (.int .i64 0) 1 8 Try.underlying48 hi hz0 hz1 hz2 rfl (by decide) _ _ _ rfl hrow7 ⟨V.heap.size, 0, none⟩ 1 1 [.int .i64 (p : Int)] rfl rfl ?c1 ?c2 (by decide) ?c3 ?c4 ?c5 _ rfl ?_)
      try case c1 => (intro j u hj; match j with | 0 => (simp at hj; subst hj; simp [Addr.add]) | j + 1 => simp at hj)
      case c2 => first | rfl | (intro u hu; simp at hu; subst hu; rfl)
      case c3 => unfold maxLen; omega
      case c4 => omega
      case c5 => first | omega | (simp; omega)
      intro g' cap' w1 hown' hgrow hli hlt'
      have h2w : V.ownsRow w.heap.size 3 1 _ _ _ := own_base h2 (by omega)
      have hno : ∀ k, k < w.heap.size + 4 → some k ≠ (Value.slice ua m uc).ownBlock := fun k hk e => by have := (h2.lt k e.symm).1; omega
      have hli2 : (Value.slice ua m uc).ownBlock = some g' ∨ V.heap.size ≤ g' := hli.imp id (fun e => by omega)
      have KA := Lib.hid (cK_append h1 (by decide) h2w hsz (by omega) (own_base hown' (by omega)) hgrow hli2 hlt')
      obtain ⟨a1, a2, a3, a4, a5⟩ := h1.appended (by decide) h2w hsz (by omega) (own_base hown' (by omega)) hgrow
      have z3 := (h3.alloc (.cells #[.int .i64 (p : Int)] 3)).kept hgrow (hno _ (by omega))
      have z4 := (h4.alloc (.cells #[.int .i64 (p : Int)] 3)).kept hgrow (hno _ (by omega))
      have z5 := (h5.alloc (.cells #[.int .i64 (p : Int)] 3)).kept hgrow (hno _ (by omega))
      have hc1 := a1.cell
      have hfz1 := a1.frozen
      have A2 := Lib.hid a2
      have A3 := Lib.hid (hown'.kept (grownBy_setCell' w1 (w.heap.size + 3) (.slice (some ⟨g', 0, none⟩) (m + 1) cap')) (.inr (fun e => by have := (hown'.lt _ e).1; omega)))
      have A4 := Lib.hid a4
      have A5 := Lib.hid (hB.trans (a5.mono (Nat.le_refl _)))
      clear a1 a2 a3 a4 a5 hown' hgrow
      gi_wp2_with fail
      refine ⟨A4.out.from _, KA.out, ⟨⟨_, A2.out, ?_, trivial⟩, A5.out, z3.other (by omega) _, z4.other (by omega) _, z5.other (by omega) _⟩⟩
      have hq : nv (pre ++ [⟨p, hx1⟩]) = nv pre ++ [p] := by unfold nv; rw [List.map_append, List.map_singleton]
      rw [hq, List.length_append, List.length_singleton, rowN_snoc, show (nv pre).length = m by unfold nv; rw [List.length_map]; exact HM.out]
      exact A3.out
  case done =>
    rintro D ys V hD hys ⟨⟨u, h1, h2, _⟩, hB, h3, h4, h5⟩ hK
    have hpy : nv ys = xs := hys
    rw [hpy] at h2
    obtain ⟨ua, uc, rfl⟩ := own_form2 h2
    have c1 := h1.cell
    have c1' := h1.frozen
    have c4 := h4.cell
    have c4' := h4.frozen
    have c5 := h5.cell
    have c5' := h5.frozen
    have hDl := (Array.getElem?_eq_some_iff.1 hK).1
    have hKe : ∀ W2 : World, (∀ j, j ≠ w.heap.size + 1 → j ≠ w.heap.size + 2 → W2.heap[j]? = V.heap[j]?) → W2.heap[D]? = some (.deferred (some [])) := fun W2 h => (h D (by omega) (by omega)).trans hK
    gi_wp2_with fail
    obtain ⟨V2, hV2⟩ : ∃ V2, ((V.setCell ⟨w.heap.size + 1, 0, none⟩ (.slice ua xs.length uc)).setCell ⟨w.heap.size + 2, 0, none⟩ (.bool true)) = V2 := ⟨_, rfl⟩
    have e4 : Boxed V2 (w.heap.size + 1) 48 (.slice ua xs.length uc) := by rw [← hV2]; exact (h4.set _).other (by omega) _
    have e5 : Boxed V2 (w.heap.size + 2) 4 (.bool true) := by rw [← hV2]; exact (h5.other (by omega) _).set _
    have e2 : V2.ownsRow (w.heap.size + 4) 3 1 (.slice ua xs.length uc) xs.length (rowN xs) := by
      rw [← hV2]
      have g1 := h2.kept (grownBy_setCell' V (w.heap.size + 1) (.slice ua xs.length uc)) (.inr (fun e => by have := (h2.lt _ e).1; omega))
      have h5' := h5.other (B' := w.heap.size + 1) (by omega) (.slice ua xs.length uc)
      exact g1.kept (grownBy_setCell' _ (w.heap.size + 2) (.bool true)) (.inr (fun e => by have := (h2.lt _ e).1; omega))
    have eB : Below w.heap.size w V2 := by rw [← hV2]; exact (hB.setCell (by dsimp only; omega) _).setCell (by dsimp only; omega) _
    have eK : V2.heap[D]? = some (.deferred (some [])) := hKe V2 (fun j j1 j2 => by rw [← hV2]; exact (Below.heap_setCell _ _ _ _ j2).trans (Below.heap_setCell _ _ _ _ j1))
    rw [hV2]
    have x4 : (V2.putObj D (.deferred none)).cell? ⟨w.heap.size + 1, 0, none⟩ = some (.slice ua xs.length uc) := by
      rw [World.cell?_of_block (w := V2) (World.putObj_heap_other (by show w.heap.size + 1 ≠ D; omega))]; exact e4.cell
    have x5 : (V2.putObj D (.deferred none)).cell? ⟨w.heap.size + 2, 0, none⟩ = some (.bool true) := by
      rw [World.cell?_of_block (w := V2) (World.putObj_heap_other (by show w.heap.size + 2 ≠ D; omega))]; exact e5.cell
    refine ⟨by simp, .inl ⟨D, _, rfl, run_takeDeferred eK, ?_⟩⟩
    refine ⟨.tuple #[.slice ua xs.length uc, .bool true], by simp [results, Try.results38, go_sem, x4, x5], _, rfl, ?_, eB.trans (belowK_b (w := w) (Nat.le_refl _) V2 D _ _ (by omega) eK rfl rfl)⟩
    have := ownsRow_putObj e2 (.deferred none) eK rfl
    exact this
  case stop =>
    rintro D c pre V hD hSp h hK
    obtain ⟨r, hr⟩ := hSp
    have := congrArg List.length hr
    simp at this
    have h2 := h.2
    exact absurd h2 (by omega)
set_option maxRecDepth 100000 in
/-- The pages of a set, gathered. -/
theorem pages_is (L : List Sp) (hL : SetL 0 L) (N : Nat) (hN : (pgL L).length ≤ N) (hN2 : N ≤ 1024) (BS bk ba : Nat) (u : Value) (w : World) (hbS : Boxed w BS 46 (fPc bk ba)) (hbK : Boxed w bk 22 u) (hu : SAt w u (toI L)) (hbA : Boxed w ba 3 (.int .i64 1)) :
    Calls Try.prog 38 #[.func (.func 69) #[] #[.pointer (some ⟨BS, 0, none⟩)], .int .i64 N] w fun e w' => ∃ u, e = .returned (.tuple #[u, .bool true]) ∧ w'.ownsRow (w.heap.size + 4) 3 1 u (pgL L).length (rowN (pgL L)) ∧ Below w.heap.size w w' := by
  refine (callsIn_wide (n := 6)).1 (collN_in 69 #[.pointer (some ⟨BS, 0, none⟩)] (enters_of Try.func69 (by kernel_rfl) rfl) (pgL L) N hN hN2 w fun V hV hG hnil => ?_)
  have hb : Below w.heap.size w V := hV
  refine pg_g 5 (by decide) BS bk ba L hL u _ _ _ (cons2_c (w.heap.size + 3) 48) V hG ⟨by have := hbA.lt; omega, fun v hv => by rw [hnil v hv]; simp [Value.ownBlock]⟩ (fun hne k hk => ⟨?_, fun v hv => by rw [hnil v hv]; simp [Value.ownBlock]⟩) (hbS.kept (grown_of_below hb) (by simp)) (hbK.kept (grown_of_below hb) (by simp)) (hu.later hb) (hbA.kept (grown_of_below hb) (by simp))
  have := SAt.own_lt hu (fun h1 => hne (List.eq_nil_of_length_eq_zero (by rw [← toI_len, h1]; rfl))) k hk
  omega
end Go.Proofs.Ytgljfiihaehedaa
