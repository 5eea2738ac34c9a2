/- Counts, the example, and states. -/
import Derived.Laws.StructEq
import Derived.Test.YtjplihljmohpjaaKf
import Derived.Test.YtjplihljmohpjaaKd
/- Counts. -/
namespace Go.Proofs.Ytjplihljmohpjaa
open Go.RowKit Go.Shelf
attribute [local go_sem] Oper.semAt_some

/-- How many pages of a list are of a kind; how many huge pages begin there. -/
def cnK (f : Pages) (k : Int) : List Nat → Nat
  | [] => 0
  | j :: l => (if (f j).kd = k then 1 else 0) + cnK f k l
def cnH (f : Pages) : List Nat → Nat
  | [] => 0
  | j :: l => (if (f j).hu = true ∧ j % 16 = 0 then 1 else 0) + cnH f l
theorem cnK_snoc (f : Pages) (k : Int) (j : Nat) : ∀ l, cnK f k (l ++ [j]) = cnK f k l + if (f j).kd = k then 1 else 0
  | [] => by show _ + 0 = 0 + _; omega
  | i :: l => by show _ + cnK f k (l ++ [j]) = _ + cnK f k l + _; rw [cnK_snoc f k j l]; omega
theorem cnH_snoc (f : Pages) (j : Nat) : ∀ l, cnH f (l ++ [j]) = cnH f l + if (f j).hu = true ∧ j % 16 = 0 then 1 else 0
  | [] => by show _ + 0 = 0 + _; omega
  | i :: l => by show _ + cnH f (l ++ [j]) = _ + cnH f l + _; rw [cnH_snoc f j l]; omega
theorem cnK_len (f : Pages) (k : Int) : ∀ l, cnK f k l ≤ l.length
  | [] => Nat.le_refl _
  | j :: l => by have := cnK_len f k l; show (if _ then 1 else 0) + cnK f k l ≤ l.length + 1; split <;> omega
theorem cnH_len (f : Pages) : ∀ l, cnH f l ≤ l.length
  | [] => Nat.le_refl _
  | j :: l => by have := cnH_len f l; show (if _ then 1 else 0) + cnH f l ≤ l.length + 1; split <;> omega
abbrev v5 (a b c d e : Nat) : Array Value := #[.int .i64 (a : Int), .int .i64 (b : Int), .int .i64 (c : Int), .int .i64 (d : Int), .int .i64 (e : Int)]
def NBx (W : World) (g : Nat) (a b c d e : Nat) : Prop := W.heap[g]? = some (.cells (v5 a b c d e) 67 (0, 0))
theorem NBx.lt {W : World} {g a b c d e : Nat} (s : NBx W g a b c d e) : g < W.heap.size := (Array.getElem?_eq_some_iff.1 s).1
theorem NBx.later {W V : World} {g a b c d e : Nat} (s : NBx W g a b c d e) (hb : Below W.heap.size W V) : NBx V g a b c d e := (hb.block g s.lt).trans s
theorem NBx.other {W : World} {g a b c d e : Nat} (s : NBx W g a b c d e) {x : Addr} (hx : g ≠ x.block) (u : Value) : NBx (W.setCell x u) g a b c d e := (Below.heap_setCell _ _ _ _ hx).trans s
theorem NBx.c0 {W : World} {g a b c d e : Nat} (s : NBx W g a b c d e) : W.cell? ⟨g, 0, none⟩ = some (.int .i64 (a : Int)) := by unfold NBx at s; simp [World.cell?, s]
theorem NBx.s0 {W : World} {g a b c d e : Nat} (s : NBx W g a b c d e) (x : Nat) : NBx (W.setCell ⟨g, 0, none⟩ (.int .i64 (x : Int))) g x b c d e := heap_setCell_same W g 0 _ _ _ s
theorem NBx.c1 {W : World} {g a b c d e : Nat} (s : NBx W g a b c d e) : W.cell? ⟨g, 1, none⟩ = some (.int .i64 (b : Int)) := by unfold NBx at s; simp [World.cell?, s]
theorem NBx.s1 {W : World} {g a b c d e : Nat} (s : NBx W g a b c d e) (x : Nat) : NBx (W.setCell ⟨g, 1, none⟩ (.int .i64 (x : Int))) g a x c d e := heap_setCell_same W g 1 _ _ _ s
theorem NBx.c2 {W : World} {g a b c d e : Nat} (s : NBx W g a b c d e) : W.cell? ⟨g, 2, none⟩ = some (.int .i64 (c : Int)) := by unfold NBx at s; simp [World.cell?, s]
theorem NBx.s2 {W : World} {g a b c d e : Nat} (s : NBx W g a b c d e) (x : Nat) : NBx (W.setCell ⟨g, 2, none⟩ (.int .i64 (x : Int))) g a b x d e := heap_setCell_same W g 2 _ _ _ s
theorem NBx.c3 {W : World} {g a b c d e : Nat} (s : NBx W g a b c d e) : W.cell? ⟨g, 3, none⟩ = some (.int .i64 (d : Int)) := by unfold NBx at s; simp [World.cell?, s]
theorem NBx.s3 {W : World} {g a b c d e : Nat} (s : NBx W g a b c d e) (x : Nat) : NBx (W.setCell ⟨g, 3, none⟩ (.int .i64 (x : Int))) g a b c x e := heap_setCell_same W g 3 _ _ _ s
theorem NBx.c4 {W : World} {g a b c d e : Nat} (s : NBx W g a b c d e) : W.cell? ⟨g, 4, none⟩ = some (.int .i64 (e : Int)) := by unfold NBx at s; simp [World.cell?, s]
theorem NBx.s4 {W : World} {g a b c d e : Nat} (s : NBx W g a b c d e) (x : Nat) : NBx (W.setCell ⟨g, 4, none⟩ (.int .i64 (x : Int))) g a b c d x := heap_setCell_same W g 4 _ _ _ s
theorem NBx.i0 {W : World} {g a b c d e : Nat} (s : NBx W g a b c d e) : NBx (W.setCell ⟨g, 0, none⟩ (.int .i64 ((a : Int) + 1))) g (a + 1) b c d e := s.s0 (a + 1)
theorem NBx.i1 {W : World} {g a b c d e : Nat} (s : NBx W g a b c d e) : NBx (W.setCell ⟨g, 1, none⟩ (.int .i64 ((b : Int) + 1))) g a (b + 1) c d e := s.s1 (b + 1)
theorem NBx.i2 {W : World} {g a b c d e : Nat} (s : NBx W g a b c d e) : NBx (W.setCell ⟨g, 2, none⟩ (.int .i64 ((c : Int) + 1))) g a b (c + 1) d e := s.s2 (c + 1)
theorem NBx.i3 {W : World} {g a b c d e : Nat} (s : NBx W g a b c d e) : NBx (W.setCell ⟨g, 3, none⟩ (.int .i64 ((d : Int) + 1))) g a b c (d + 1) e := s.s3 (d + 1)
theorem NBx.i4 {W : World} {g a b c d e : Nat} (s : NBx W g a b c d e) : NBx (W.setCell ⟨g, 4, none⟩ (.int .i64 ((e : Int) + 1))) g a b c d (e + 1) := s.s4 (e + 1)
theorem NBx.frozen {W : World} {g a b c d e : Nat} (s : NBx W g a b c d e) (j : Nat) : W.frozen? ⟨g, j, none⟩ = false := by unfold NBx at s; simp [World.frozen?, s]
theorem own_NBx {β : Type} (B g : Nat) (a b c d e : β → Nat) : OwnFrom B (fun (s : β) W => NBx W g (a s) (b s) (c s) (d s) (e s)) := fun _ A C row h hg hr => own_cells (β := Unit) B g _ rfl () A C row h hg hr
theorem n5_i (a b c d e : Nat) : (Try.prog.info? 67).map (·.size) = some (v5 a b c d e).size := by kernel_rfl
theorem grpB_of {x : Nat} (hx : x < 1024) : grpB (x : Int) = decide (x % 16 = 0) := by
  unfold grpB
  rw [show areB (x : Int) 1 = true by unfold areB; simp; omega, Bool.true_and, Int.tmod_eq_emod_of_nonneg (by omega)]
  rw [Bool.eq_iff_iff]; simp; omega
set_option maxRecDepth 100000 in
theorem Counts_no (s : Value) (w : World) (hs : Unmade w s) :
    Calls Try.prog 29 #[s] w fun e w' => e = .returned (.tuple #[.agg (v5 0 0 0 0 0), .int .i64 1]) ∧ Below w.heap.size w w' := by
  obtain ⟨W1, hW1⟩ : ∃ x, w.alloc (.cells #[.int .i64 0, .int .i64 0, .int .i64 0, .int .i64 0, .int .i64 0] 67) = x := ⟨_, rfl⟩
  have hb1 : Below w.heap.size w W1 := by rw [← hW1]; exact (Below.refl _ _).alloc (Nat.le_refl _) _
  have bN : NBx W1 w.heap.size 0 0 0 0 0 := by rw [← hW1]; exact World.alloc_heap_new w _
  have HM := Lib.hid (made_no s W1 (hs.later hb1))
  have hone : (v5 0 0 0 0 0).all (·.oneCell') = true := by kernel_rfl
  clear hs
  go_enter Try.func29, Try.ntmps29
  go_wp2_with fail
  try rw [hW1]
  refine HM.out.mono ?_
  rintro e w' ⟨rfl, rfl⟩
  go_wp2_with (refine wpList_store_row rfl 67 _ _ rfl w.heap.size (v5 0 0 0 0 0) rfl rfl 67 _ bN (n5_i _ _ _ _ _) rfl hone ?_)
  have m3 := setRow_heap W1 w.heap.size _ (v5 0 0 0 0 0) _ _ bN
  have hld : (loadVar 67 ⟨w.heap.size, 0, none⟩).run Try.prog _ = _ := run_loadVar_row _ _ 67 67 _ _ _ m3 Try.underlying67 rfl (n5_i _ _ _ _ _)
  exact bodyPost_ret (v := .tuple #[.agg (v5 0 0 0 0 0), .int .i64 1]) (by simp [results, Try.results29, asAddr, hld]) rfl ⟨rfl, below_row hb1 _ (by omega) _⟩
/-- What Counts answers, but for the error. -/
abbrev cnV (f : Pages) (l : List Nat) : Array Value := v5 (cnK f 0 l) (cnK f 1 l) (cnK f 2 l) (cnK f 3 l) (cnH f l)
set_option maxRecDepth 100000 in
set_option maxHeartbeats 8000000 in
theorem Counts_is (S P : Nat) (v : Value) (c h : Nat → Int) (f : Pages) (w : World) (hS : SyBox w S P v c h) (hP : PgAt w P f) :
    Calls Try.prog 29 #[.pointer (some ⟨S, 0, none⟩)] w fun e w' => e = .returned (.tuple #[.agg (cnV f (List.range' 0 1024)), .int .i64 0]) ∧ Below w.heap.size w w' := by
  refine (callsIn_wide (n := 5)).1 ?_
  refine callsIn_of_wp_marks Try.func29 rfl trivial ?_ rfl
  simp only [Try.ntmps29, List.size_toArray, List.length_cons, List.length_nil, Nat.reduceAdd, Nat.reduceSub, Array.replicate_succ, Array.replicate_zero, List.push_toArray, List.append_toArray, List.nil_append, List.cons_append]
  have hf1 := wide_fn 55
  have hf2 := wide_fn 53
  have hf4 := wide_fn 57
  obtain ⟨W0, hW0⟩ : ∃ x, w.alloc (.cells #[.int .i64 0, .int .i64 0, .int .i64 0, .int .i64 0, .int .i64 0] 67) = x := ⟨_, rfl⟩
  have hb0 : Below w.heap.size w W0 := by rw [← hW0]; exact (Below.refl _ _).alloc (Nat.le_refl _) _
  have hz0 : W0.heap.size = w.heap.size + 1 := by rw [← hW0]; simp
  have bR0 : NBx W0 w.heap.size 0 0 0 0 0 := by rw [← hW0]; exact World.alloc_heap_new w _
  have HM := Lib.hid (made_yes S P v c h W0 (hS.later hb0))
  gi_wp2_with fail
  try rw [hW0]
  refine (callsIn_wide.2 HM.out).mono ?_
  rintro e w' ⟨rfl, rfl⟩
  obtain ⟨W1, hW1⟩ : ∃ x, W0.alloc (.cells #[.int .i64 0, .int .i64 0, .int .i64 0, .int .i64 0, .int .i64 0] 67) = x := ⟨_, rfl⟩
  have hb01 : Below W0.heap.size W0 W1 := by rw [← hW1]; exact (Below.refl _ _).alloc (Nat.le_refl _) _
  have hb1 : Below w.heap.size w W1 := hb0.trans (hb01.mono hb0.size)
  have hz1 : W1.heap.size = w.heap.size + 2 := by rw [← hW1]; simp [hz0]
  have bN1 : NBx W1 (w.heap.size + 1) 0 0 0 0 0 := by rw [← hz0, ← hW1]; exact World.alloc_heap_new W0 _
  have bR1 := bR0.later hb01
  clear hW0
  gi_wp2_with fail
  try rw [hW1]
  clear hW1
  refine (from_any _ _ _ _ _).mono ?_
  rintro e w' ⟨rfl, hw'⟩
  obtain ⟨W2, hW2, hb2, hz2, f0, f1, f2⟩ := from_world W1 (.pointer (some ⟨S, 0, none⟩)) (0 : Nat) (1024 : Nat)
  rw [show ((0 : Nat) : Int) = 0 from rfl, show ((1024 : Nat) : Int) = 1024 from rfl, hw'] at hW2
  subst hW2
  clear hw'
  have bN2 := bN1.later hb2
  have bR2 := bR1.later hb2
  have hB2 := hb1.trans (hb2.mono hb1.size)
  have hSl := hS.lt
  have hPl := hP.lt
  rw [hz1] at f0 f1 f2
  gi_wp2_with fail
  try rw [hz1]
  refine range_g rfl (by decide) (gf := 83) (lb := #[.pointer (some ⟨w.heap.size + 2 + 1, 0, none⟩), .pointer (some ⟨w.heap.size + 2 + 2, 0, none⟩), .pointer (some ⟨w.heap.size + 2, 0, none⟩)]) rfl (wide_fn _) (enters_of Try.func83 (by kernel_rfl) rfl)
    (from_g 4 (by decide) S P (w.heap.size + 2 + 1) (w.heap.size + 2 + 2) (w.heap.size + 2) 0 1024 (by decide) (fun q => q = S ∨ (w.heap.size + 2 ≤ q ∧ q ≤ w.heap.size + 4)) (.inr (by omega)) (.inr (by omega)) (.inr (by omega)) (.inl rfl) _ v c h f1 f2 f0 (hS.later hB2)) (fun h k => KC.trans h k) (fun _ V k o o' hk hc _ => KC.putObj V k o o' hk hc) (fun _ => rfl)
    (fun pre V => NBx V (w.heap.size + 1) (cnK f 0 (pre.map Subtype.val)) (cnK f 1 (pre.map Subtype.val)) (cnK f 2 (pre.map Subtype.val)) (cnK f 3 (pre.map Subtype.val)) (cnH f (pre.map Subtype.val)) ∧ NBx V w.heap.size 0 0 0 0 0 ∧ Below w.heap.size w V)
    (fun _ _ _ => False)
    ?own (fun _ _ _ _ _ h _ _ => h) ?start ?a1 ?assign ?body ?done ?stop
  case assign =>
    intro l x Y K hK
    simp only [encP]
    gi_wp2
    exact hK
  case own => exact OwnFrom.and (own_NBx _ _ (fun pre : List Vn => cnK f 0 (pre.map Subtype.val)) (fun pre => cnK f 1 (pre.map Subtype.val)) (fun pre => cnK f 2 (pre.map Subtype.val)) (fun pre => cnK f 3 (pre.map Subtype.val)) (fun pre => cnH f (pre.map Subtype.val))) (OwnFrom.and (own_NBx _ _ (fun _ => 0) (fun _ => 0) (fun _ => 0) (fun _ => 0) (fun _ => 0)) (ownFrom_below (Nat.le_refl _) hB2.size))
  case start => exact ⟨bN2, bR2, hB2⟩
  case stop => exact fun _ _ _ _ _ _ h _ => h.elim
  case body =>
    rintro l pre x V ⟨h1, h2, hB⟩ hlen
    obtain ⟨x, hx⟩ := x
    have hpp : PgAt V P f := hP.of_heap (hB.block P hPl)
    have k0 := hpp.kd x hx
    have k1 := hpp.hu x hx
    have HA : Hid (∀ A' : World, Calls Try.prog 57 #[.int .i64 (x : Int)] A' fun e w' => e = .returned (.bool (decide (x % 16 = 0))) ∧ A' = w') := fun A' => isGroup_is x (by unfold I64; omega) _ (grpB_of hx) A'
    have hf5 : (Fence.wide.inRound l).fn 57 := hf4
    have hlm : (pre.map Subtype.val).length < 2000 := by rw [List.length_map]; exact hlen
    have l0 := cnK_len f 0 (pre.map Subtype.val)
    have l1 := cnK_len f 1 (pre.map Subtype.val)
    have l2 := cnK_len f 2 (pre.map Subtype.val)
    have l3 := cnK_len f 3 (pre.map Subtype.val)
    have l4 := cnH_len f (pre.map Subtype.val)
    have HI : Hid (∀ (V' : World), NBx V' (w.heap.size + 1) (cnK f 0 (pre.map Subtype.val) + if (f x).kd = 0 then 1 else 0) (cnK f 1 (pre.map Subtype.val) + if (f x).kd = 1 then 1 else 0) (cnK f 2 (pre.map Subtype.val) + if (f x).kd = 2 then 1 else 0) (cnK f 3 (pre.map Subtype.val) + if (f x).kd = 3 then 1 else 0) (cnH f (pre.map Subtype.val) + if (f x).hu = true ∧ x % 16 = 0 then 1 else 0) →
        NBx V' (w.heap.size + 1) (cnK f 0 ((pre ++ [(⟨x, hx⟩ : Vn)]).map Subtype.val)) (cnK f 1 ((pre ++ [(⟨x, hx⟩ : Vn)]).map Subtype.val)) (cnK f 2 ((pre ++ [(⟨x, hx⟩ : Vn)]).map Subtype.val)) (cnK f 3 ((pre ++ [(⟨x, hx⟩ : Vn)]).map Subtype.val)) (cnH f ((pre ++ [(⟨x, hx⟩ : Vn)]).map Subtype.val))) := by
      intro V' hV'
      rw [List.map_append, List.map_singleton, cnK_snoc, cnK_snoc, cnK_snoc, cnK_snoc, cnH_snoc]
      exact hV'
    generalize cnK f 0 (pre.map Subtype.val) = n0 at *
    generalize cnK f 1 (pre.map Subtype.val) = n1 at *
    generalize cnK f 2 (pre.map Subtype.val) = n2 at *
    generalize cnK f 3 (pre.map Subtype.val) = n3 at *
    generalize cnH f (pre.map Subtype.val) = n4 at *
    obtain ⟨kd, hu, bs, hfx⟩ : ∃ kd hu bs, f x = ⟨kd, hu, bs⟩ := ⟨(f x).kd, (f x).hu, (f x).by', rfl⟩
    rw [hfx] at k0 k1 HI
    simp only at k0 k1 HI
    replace l0 : n0 < 2000 := by omega
    replace l1 : n1 < 2000 := by omega
    replace l2 : n2 < 2000 := by omega
    replace l3 : n3 < 2000 := by omega
    replace l4 : n4 < 2000 := by omega
    clear hfx hpp hlm
    have q0 := h1.c0
    have q1 := h1.c1
    have q2 := h1.c2
    have q3 := h1.c3
    have q4 := h1.c4
    have qf := h1.frozen
    have FIN : Hid (∀ (V' : World), Keep (· = w.heap.size + 1) V V' → KeepsOthers V V' → NBx V' (w.heap.size + 1) (n0 + if kd = 0 then 1 else 0) (n1 + if kd = 1 then 1 else 0) (n2 + if kd = 2 then 1 else 0) (n3 + if kd = 3 then 1 else 0) (n4 + if hu = true ∧ x % 16 = 0 then 1 else 0) →
        KeepsFrom w'.heap.size V V' ∧ KC (fun q => q = S ∨ w.heap.size + 2 ≤ q ∧ q ≤ w.heap.size + 4) V V' ∧ NBx V' (w.heap.size + 1) (cnK f 0 ((pre ++ [(⟨x, hx⟩ : Vn)]).map Subtype.val)) (cnK f 1 ((pre ++ [(⟨x, hx⟩ : Vn)]).map Subtype.val)) (cnK f 2 ((pre ++ [(⟨x, hx⟩ : Vn)]).map Subtype.val)) (cnK f 3 ((pre ++ [(⟨x, hx⟩ : Vn)]).map Subtype.val)) (cnH f ((pre ++ [(⟨x, hx⟩ : Vn)]).map Subtype.val)) ∧ NBx V' w.heap.size 0 0 0 0 0 ∧ Below w.heap.size w V') :=
      fun V' hk ho hn => ⟨ho.from _, KC.of_keep hk (by rintro q (rfl | hq) e <;> omega), HI.out V' hn, (hk.block _ h2.lt (by omega)).trans h2, hB.trans (hk.below _ hB.size (fun q e => by omega))⟩
    have H1 := Lib.hid h1
    clear HI h1 h2 hB hP hS bN1 bR1 bN2 bR2 f0 f1 f2 hb2 hb1 hb01 hb0 bR0 hz0 hz1 hz2 hlen
    by_cases hk0 : kd = 0
    · subst hk0
      have q := H1.out.c0
      have qg := H1.out.frozen 0
      clear q0 q1 q2 q3 q4 qf
      simp only [show ((0 : Int) = 1) = False by simp, show ((0 : Int) = 2) = False by simp, show ((0 : Int) = 3) = False by simp, if_true, if_false, Nat.add_zero] at FIN
      cases hu
      · simp only [Bool.false_eq_true, false_and, if_false, Nat.add_zero] at FIN
        gi_wp2_with fail
        exact FIN.out _ ((Keep.refl (· = w.heap.size + 1) V).setCell _ _ (.inl rfl)) (KeepsOthers.setCell _ _ _) H1.out.i0
      · obtain ⟨G, hG⟩ : ∃ G, decide (x % 16 = 0) = G := ⟨_, rfl⟩
        rw [hG] at HA
        cases G
        · have hG2 : ¬ x % 16 = 0 := by simpa using hG
          simp only [hG2, and_false, if_false, Nat.add_zero] at FIN
          clear hG hG2
          gi_wp2_with fail
          refine (CallsIn.inRound l (callsIn_wide.2 (HA.out _))).mono ?_
          rintro e V' ⟨rfl, rfl⟩
          gi_wp2_with fail
          exact FIN.out _ ((Keep.refl (· = w.heap.size + 1) V).setCell _ _ (.inl rfl)) (KeepsOthers.setCell _ _ _) H1.out.i0
        · have hG2 : x % 16 = 0 := by simpa using hG
          simp only [hG2, and_self, if_true] at FIN
          clear hG hG2
          gi_wp2_with fail
          refine (CallsIn.inRound l (callsIn_wide.2 (HA.out _))).mono ?_
          rintro e V' ⟨rfl, rfl⟩
          have z4 := H1.out.i0.c4
          have zf := H1.out.i0.frozen 4
          gi_wp2_with fail
          exact FIN.out _ (((Keep.refl (· = w.heap.size + 1) V).setCell _ _ (.inl rfl)).setCell _ _ (.inl rfl)) ((KeepsOthers.setCell _ _ _).trans (KeepsOthers.setCell _ _ _)) H1.out.i0.i4
    by_cases hk1 : kd = 1
    · subst hk1
      have q := H1.out.c1
      have qg := H1.out.frozen 1
      clear q0 q1 q2 q3 q4 qf hk0
      simp only [show ((1 : Int) = 0) = False by simp, show ((1 : Int) = 2) = False by simp, show ((1 : Int) = 3) = False by simp, if_true, if_false, Nat.add_zero] at FIN
      cases hu
      · simp only [Bool.false_eq_true, false_and, if_false, Nat.add_zero] at FIN
        gi_wp2_with fail
        exact FIN.out _ ((Keep.refl (· = w.heap.size + 1) V).setCell _ _ (.inl rfl)) (KeepsOthers.setCell _ _ _) H1.out.i1
      · obtain ⟨G, hG⟩ : ∃ G, decide (x % 16 = 0) = G := ⟨_, rfl⟩
        rw [hG] at HA
        cases G
        · have hG2 : ¬ x % 16 = 0 := by simpa using hG
          simp only [hG2, and_false, if_false, Nat.add_zero] at FIN
          clear hG hG2
          gi_wp2_with fail
          refine (CallsIn.inRound l (callsIn_wide.2 (HA.out _))).mono ?_
          rintro e V' ⟨rfl, rfl⟩
          gi_wp2_with fail
          exact FIN.out _ ((Keep.refl (· = w.heap.size + 1) V).setCell _ _ (.inl rfl)) (KeepsOthers.setCell _ _ _) H1.out.i1
        · have hG2 : x % 16 = 0 := by simpa using hG
          simp only [hG2, and_self, if_true] at FIN
          clear hG hG2
          gi_wp2_with fail
          refine (CallsIn.inRound l (callsIn_wide.2 (HA.out _))).mono ?_
          rintro e V' ⟨rfl, rfl⟩
          have z4 := H1.out.i1.c4
          have zf := H1.out.i1.frozen 4
          gi_wp2_with fail
          exact FIN.out _ (((Keep.refl (· = w.heap.size + 1) V).setCell _ _ (.inl rfl)).setCell _ _ (.inl rfl)) ((KeepsOthers.setCell _ _ _).trans (KeepsOthers.setCell _ _ _)) H1.out.i1.i4
    by_cases hk2 : kd = 2
    · subst hk2
      have q := H1.out.c2
      have qg := H1.out.frozen 2
      clear q0 q1 q2 q3 q4 qf hk0 hk1
      simp only [show ((2 : Int) = 0) = False by simp, show ((2 : Int) = 1) = False by simp, show ((2 : Int) = 3) = False by simp, if_true, if_false, Nat.add_zero] at FIN
      cases hu
      · simp only [Bool.false_eq_true, false_and, if_false, Nat.add_zero] at FIN
        gi_wp2_with fail
        exact FIN.out _ ((Keep.refl (· = w.heap.size + 1) V).setCell _ _ (.inl rfl)) (KeepsOthers.setCell _ _ _) H1.out.i2
      · obtain ⟨G, hG⟩ : ∃ G, decide (x % 16 = 0) = G := ⟨_, rfl⟩
        rw [hG] at HA
        cases G
        · have hG2 : ¬ x % 16 = 0 := by simpa using hG
          simp only [hG2, and_false, if_false, Nat.add_zero] at FIN
          clear hG hG2
          gi_wp2_with fail
          refine (CallsIn.inRound l (callsIn_wide.2 (HA.out _))).mono ?_
          rintro e V' ⟨rfl, rfl⟩
          gi_wp2_with fail
          exact FIN.out _ ((Keep.refl (· = w.heap.size + 1) V).setCell _ _ (.inl rfl)) (KeepsOthers.setCell _ _ _) H1.out.i2
        · have hG2 : x % 16 = 0 := by simpa using hG
          simp only [hG2, and_self, if_true] at FIN
          clear hG hG2
          gi_wp2_with fail
          refine (CallsIn.inRound l (callsIn_wide.2 (HA.out _))).mono ?_
          rintro e V' ⟨rfl, rfl⟩
          have z4 := H1.out.i2.c4
          have zf := H1.out.i2.frozen 4
          gi_wp2_with fail
          exact FIN.out _ (((Keep.refl (· = w.heap.size + 1) V).setCell _ _ (.inl rfl)).setCell _ _ (.inl rfl)) ((KeepsOthers.setCell _ _ _).trans (KeepsOthers.setCell _ _ _)) H1.out.i2.i4
    by_cases hk3 : kd = 3
    · subst hk3
      have q := H1.out.c3
      have qg := H1.out.frozen 3
      clear q0 q1 q2 q3 q4 qf hk0 hk1 hk2
      simp only [show ((3 : Int) = 0) = False by simp, show ((3 : Int) = 1) = False by simp, show ((3 : Int) = 2) = False by simp, if_true, if_false, Nat.add_zero] at FIN
      cases hu
      · simp only [Bool.false_eq_true, false_and, if_false, Nat.add_zero] at FIN
        gi_wp2_with fail
        exact FIN.out _ ((Keep.refl (· = w.heap.size + 1) V).setCell _ _ (.inl rfl)) (KeepsOthers.setCell _ _ _) H1.out.i3
      · obtain ⟨G, hG⟩ : ∃ G, decide (x % 16 = 0) = G := ⟨_, rfl⟩
        rw [hG] at HA
        cases G
        · have hG2 : ¬ x % 16 = 0 := by simpa using hG
          simp only [hG2, and_false, if_false, Nat.add_zero] at FIN
          clear hG hG2
          gi_wp2_with fail
          refine (CallsIn.inRound l (callsIn_wide.2 (HA.out _))).mono ?_
          rintro e V' ⟨rfl, rfl⟩
          gi_wp2_with fail
          exact FIN.out _ ((Keep.refl (· = w.heap.size + 1) V).setCell _ _ (.inl rfl)) (KeepsOthers.setCell _ _ _) H1.out.i3
        · have hG2 : x % 16 = 0 := by simpa using hG
          simp only [hG2, and_self, if_true] at FIN
          clear hG hG2
          gi_wp2_with fail
          refine (CallsIn.inRound l (callsIn_wide.2 (HA.out _))).mono ?_
          rintro e V' ⟨rfl, rfl⟩
          have z4 := H1.out.i3.c4
          have zf := H1.out.i3.frozen 4
          gi_wp2_with fail
          exact FIN.out _ (((Keep.refl (· = w.heap.size + 1) V).setCell _ _ (.inl rfl)).setCell _ _ (.inl rfl)) ((KeepsOthers.setCell _ _ _).trans (KeepsOthers.setCell _ _ _)) H1.out.i3.i4
    have e0 : (kd == 0) = false := by simpa using hk0
    have e1 : (kd == 1) = false := by simpa using hk1
    have e2 : (kd == 2) = false := by simpa using hk2
    have e3 : (kd == 3) = false := by simpa using hk3
    simp only [hk0, hk1, hk2, hk3, if_false, Nat.add_zero] at FIN
    clear q0 q1 q2 q3 q4 qf hk0 hk1 hk2 hk3
    cases hu
    · simp only [Bool.false_eq_true, false_and, if_false, Nat.add_zero] at FIN
      gi_wp2_with fail
      exact FIN.out _ (Keep.refl (· = w.heap.size + 1) V) (KeepsOthers.refl _) H1.out
    · obtain ⟨G, hG⟩ : ∃ G, decide (x % 16 = 0) = G := ⟨_, rfl⟩
      rw [hG] at HA
      cases G
      · have hG2 : ¬ x % 16 = 0 := by simpa using hG
        simp only [hG2, and_false, if_false, Nat.add_zero] at FIN
        clear hG hG2
        gi_wp2_with fail
        refine (CallsIn.inRound l (callsIn_wide.2 (HA.out _))).mono ?_
        rintro e V' ⟨rfl, rfl⟩
        gi_wp2_with fail
        exact FIN.out _ (Keep.refl (· = w.heap.size + 1) V) (KeepsOthers.refl _) H1.out
      · have hG2 : x % 16 = 0 := by simpa using hG
        simp only [hG2, and_self, if_true] at FIN
        clear hG hG2
        gi_wp2_with fail
        refine (CallsIn.inRound l (callsIn_wide.2 (HA.out _))).mono ?_
        rintro e V' ⟨rfl, rfl⟩
        have z4 := H1.out.c4
        have zf := H1.out.frozen 4
        gi_wp2_with fail
        exact FIN.out _ ((Keep.refl (· = w.heap.size + 1) V).setCell _ _ (.inl rfl)) (KeepsOthers.setCell _ _ _) H1.out.i4
  case done =>
    rintro D ys V hD hys ⟨h1, h2, hB⟩ hK
    rw [hys] at h1
    obtain ⟨n0, hn0⟩ : ∃ n, cnK f 0 (List.range' 0 1024) = n := ⟨_, rfl⟩
    obtain ⟨n1, hn1⟩ : ∃ n, cnK f 1 (List.range' 0 1024) = n := ⟨_, rfl⟩
    obtain ⟨n2, hn2⟩ : ∃ n, cnK f 2 (List.range' 0 1024) = n := ⟨_, rfl⟩
    obtain ⟨n3, hn3⟩ : ∃ n, cnK f 3 (List.range' 0 1024) = n := ⟨_, rfl⟩
    obtain ⟨n4, hn4⟩ : ∃ n, cnH f (List.range' 0 1024) = n := ⟨_, rfl⟩
    have HV : Hid (cnV f (List.range' 0 1024) = v5 n0 n1 n2 n3 n4) := by unfold Hid cnV; rw [hn0, hn1, hn2, hn3, hn4]
    rw [hn0, hn1, hn2, hn3, hn4] at h1
    clear hn0 hn1 hn2 hn3 hn4
    have q0 := h1.c0
    have q1 := h1.c1
    have q2 := h1.c2
    have q3 := h1.c3
    have q4 := h1.c4
    have r0 := h2.c0
    have r1 := h2.c1
    have r2 := h2.c2
    have r3 := h2.c3
    have r4 := h2.c4
    have rf := h2.frozen
    have rl := h2.lt
    clear hys
    gi_wp2_with fail
    have g5 := ((((h2.s0 n0).s1 n1).s2 n2).s3 n3).s4 n4
    have cB := ((((hB.setCell (p := ⟨w.heap.size, 0, none⟩) (Nat.le_refl _) (.int .i64 (n0 : Int))).setCell (p := ⟨w.heap.size, 1, none⟩) (Nat.le_refl _) (.int .i64 (n1 : Int))).setCell (p := ⟨w.heap.size, 2, none⟩) (Nat.le_refl _) (.int .i64 (n2 : Int))).setCell (p := ⟨w.heap.size, 3, none⟩) (Nat.le_refl _) (.int .i64 (n3 : Int))).setCell (p := ⟨w.heap.size, 4, none⟩) (Nat.le_refl _) (.int .i64 (n4 : Int))
    obtain ⟨V5, hV5⟩ : ∃ x, ((((V.setCell ⟨w.heap.size, 0, none⟩ (.int .i64 (n0 : Int))).setCell ⟨w.heap.size, 1, none⟩ (.int .i64 (n1 : Int))).setCell ⟨w.heap.size, 2, none⟩ (.int .i64 (n2 : Int))).setCell ⟨w.heap.size, 3, none⟩ (.int .i64 (n3 : Int))).setCell ⟨w.heap.size, 4, none⟩ (.int .i64 (n4 : Int)) = x := ⟨_, rfl⟩
    have cK : V5.heap[D]? = some (.deferred (some [])) := by
      rw [← hV5, Below.heap_setCell _ _ _ _ (by simp; omega), Below.heap_setCell _ _ _ _ (by simp; omega), Below.heap_setCell _ _ _ _ (by simp; omega), Below.heap_setCell _ _ _ _ (by simp; omega), Below.heap_setCell _ _ _ _ (by simp; omega)]; exact hK
    rw [hV5] at g5 cB ⊢
    have g6 : NBx (V5.putObj D (.deferred none)) w.heap.size n0 n1 n2 n3 n4 := (World.putObj_heap_other (by omega)).trans g5
    have hld : (loadVar 67 ⟨w.heap.size, 0, none⟩).run Try.prog _ = _ := run_loadVar_row _ _ 67 67 _ _ _ g6 Try.underlying67 rfl (n5_i _ _ _ _ _)
    refine ⟨by simp, .inl ⟨D, _, rfl, run_takeDeferred cK, ?_⟩⟩
    exact ⟨.tuple #[.agg (v5 n0 n1 n2 n3 n4), .int .i64 0], by simp [results, Try.results29, asAddr, hld], by rw [HV.out], cB.trans (belowK_b (w := w) (Nat.le_refl _) V5 D _ _ (by omega) cK rfl rfl)⟩
end Go.Proofs.Ytjplihljmohpjaa

/- The example of the document. -/
namespace Go.Proofs.Ytjplihljmohpjaa
open Go.RowKit Go.Shelf
attribute [local go_sem] Oper.semAt_some

def sm0 : Nat → Nat := fun _ => 0
def sf1 : Pages := chgF (chgT 1) freeF (List.range' 0 4)
def sm1 : Nat → Nat := updN sm0 0 (sm0 0 + 1)
def sf2 : Pages := chgF (chgT 2) sf1 (List.range' 1 2)
def sm2 : Nat → Nat := updN sm1 2 (sm1 2 + 1)
def sf4 : Pages := wrF sf2 64 7
def sf5 : Pages := chgF (chgT 3) sf4 (List.range' 0 1)
def sm5 : Nat → Nat := updN sm2 4 (sm2 4 + 1)
def sf6 : Pages := chgF (chgT 1) sf5 (List.range' 1 2)
def sm6 : Nat → Nat := updN sm5 3 (sm5 3 + 1)
def sf7 : Pages := chgF (chgT 2) sf6 (List.range' 1 1)
def sm7 : Nat → Nat := updN sm6 2 (sm6 2 + 1)
theorem sR1 : opP (cTurn 0 0 1) freeF [] sm0 0 4 = (0, sf1, sm1) := by kernel_rfl
theorem sR2 : opP (cTurn 2 1 2) sf1 [] sm1 1 2 = (0, sf2, sm2) := by kernel_rfl
theorem sR3 : opP (cTurn 2 1 2) sf2 [] sm2 0 2 = (9, sf2, sm2) := by kernel_rfl
theorem sR4 : (rdE sf2 64).2 = 0 := by kernel_rfl
theorem sD1 : rdE sf4 64 = (7, 0) := by kernel_rfl
theorem sD2 : rdE sf4 65 = (0, 0) := by kernel_rfl
theorem sD3 : rdE sf4 63 = (0, 61) := by kernel_rfl
theorem sR5 : opP (cTurn 4 1 3) sf4 [] sm2 0 1 = (0, sf5, sm5) := by kernel_rfl
theorem sR6 : opP (cTurn 1 1 0) sf5 [] sm5 0 4 = (9, sf5, sm5) := by kernel_rfl
theorem sR7 : opP (cTurn 3 2 1) sf5 [] sm5 1 2 = (0, sf6, sm6) := by kernel_rfl
theorem sR8 : opP (cTurn 2 1 2) sf6 [] sm6 1 1 = (0, sf7, sm7) := by kernel_rfl
theorem sD4 : rdE sf7 64 = (0, 0) := by kernel_rfl
theorem sC : cnV sf7 (List.range' 0 1024) = v5 1020 2 1 1 0 := by kernel_rfl
theorem sm_all (m : Nat → Nat) (h : (List.range 7).all (fun k => decide (m k < 49708)) = true) : Sm m := fun k hk => by simpa using List.all_eq_true.1 h k (List.mem_range.2 hk)
theorem sS0 : Sm sm0 := sm_all _ (by decide)
theorem sS1 : Sm sm1 := sm_all _ (by decide)
theorem sS2 : Sm sm2 := sm_all _ (by decide)
theorem sS5 : Sm sm5 := sm_all _ (by decide)
theorem sS6 : Sm sm6 := sm_all _ (by decide)
theorem okL_nil : OkL [] := ⟨Nat.zero_le _, fun r hr => by cases hr⟩
theorem i64_of {x : Int} (h1 : -9223372036854775808 ≤ x) (h2 : x ≤ 9223372036854775807) : I64 x := ⟨h1, h2⟩
theorem eq5 (a b c d e : Int) (w : World) : (Go.binOp .eql 67 (.agg #[.int .i64 a, .int .i64 b, .int .i64 c, .int .i64 d, .int .i64 e]) (.agg #[.int .i64 a, .int .i64 b, .int .i64 c, .int .i64 d, .int .i64 e])).run Try.prog w = Result.ok (.bool true) w := by
  have ht : Try.prog.underlying 67 = some (.struct (Try.prog.fieldsOf 67)) := by kernel_rfl
  have hp : Try.prog.stoodInHeld 67 = false := by kernel_rfl
  obtain ⟨f0, f1, f2, f3, f4, hu, o0, o1, o2, o3, o4, t0, t1, t2, t3, t4⟩ : ∃ f0 f1 f2 f3 f4 : Field, Try.prog.underlying 67 = some (.struct #[f0, f1, f2, f3, f4]) ∧ f0.offset = 0 ∧ f1.offset = 1 ∧ f2.offset = 2 ∧ f3.offset = 3 ∧ f4.offset = 4 ∧ f0.type = 3 ∧ f1.type = 3 ∧ f2.type = 3 ∧ f3.type = 3 ∧ f4.type = 3 :=
    ⟨_, _, _, _, _, Try.underlying67, rfl, rfl, rfl, rfl, rfl, rfl, rfl, rfl, rfl, rfl⟩
  have hf : Try.prog.fieldsOf 67 = #[f0, f1, f2, f3, f4] := by
    have := ht.symm.trans hu
    simpa using this
  rw [run_eql_struct, run_equalIn_agg w 9999 67 _ _ ht hp, hf, eqF]
  · rfl
  · intro f hm
    simp at hm
    rcases hm with rfl | rfl | rfl | rfl | rfl
    · exact ⟨t0, a, fun W => by rw [t0, o0]; kernel_rfl⟩
    · exact ⟨t1, b, fun W => by rw [t1, o1]; kernel_rfl⟩
    · exact ⟨t2, c, fun W => by rw [t2, o2]; kernel_rfl⟩
    · exact ⟨t3, d, fun W => by rw [t3, o3]; kernel_rfl⟩
    · exact ⟨t4, e, fun W => by rw [t4, o4]; kernel_rfl⟩

abbrev noX : Nat → Prop := fun _ => False
set_option maxRecDepth 100000 in
set_option maxHeartbeats 8000000 in
theorem shown_is (w : World) : Calls Try.prog 12 #[] w fun e w' => e = .returned (.bool true) ∧ Below w.heap.size w w' := by
  have H0 := Lib.hid (New_ok (.slice none 0 0) [] okL_nil noX w (fun b h => h.elim) (nil_at w))
  go_enter Try.func12, Try.ntmps12
  go_wp2_with fail
  refine H0.out.mono ?_
  rintro e w0 ⟨S, P, rfl, hS, hP, s0, B0⟩
  clear H0
  have HSP : Hid (∀ k, SP S P k → w.heap.size ≤ k) := by rintro k (rfl | rfl) <;> assumption
  have C1 := Lib.hid (Reserve_is S P noX freeF [] okL_nil sm0 sS0 0 4 (i64_of (by decide) (by decide)) w0 s0)
  unfold Left at C1
  rw [sR1] at C1
  go_wp2_with fail
  refine C1.out.mono ?_
  rintro e w1 ⟨rfl, s1, k1⟩
  have B1 := B0.trans (k1.below w.heap.size B0.size HSP.out)
  clear C1 k1 s0 B0
  have C2 := Lib.hid (Commit_is S P noX sf1 [] okL_nil sm1 sS1 1 2 (i64_of (by decide) (by decide)) w1 s1)
  unfold Left at C2
  rw [sR2] at C2
  go_wp2_with fail
  refine C2.out.mono ?_
  rintro e w2 ⟨rfl, s2, k2⟩
  have B2 := B1.trans (k2.below w.heap.size B1.size HSP.out)
  clear C2 k2 s1 B1
  have C3 := Lib.hid (Commit_is S P noX sf2 [] okL_nil sm2 sS2 0 2 (i64_of (by decide) (by decide)) w2 s2)
  unfold Left at C3
  rw [sR3] at C3
  go_wp2_with fail
  refine C3.out.mono ?_
  rintro e w3 ⟨rfl, s3, k3⟩
  have B3 := B2.trans (k3.below w.heap.size B2.size HSP.out)
  clear C3 k3 s2 B2
  have C4 := Lib.hid (Write_is S P noX sf2 [] sm2 64 7 w3 s3 0 sR4)
  go_wp2_with fail
  refine C4.out.mono ?_
  rintro e w4 ⟨rfl, s4, k4⟩
  have B4 := B3.trans (k4.below w.heap.size B3.size HSP.out)
  rw [show wrF sf2 64 7 = sf4 from rfl] at s4
  clear C4 k4 s3 B3
  obtain ⟨v4, t4⟩ := s4
  have D0 := Lib.hid (Read_is S P v4 _ _ sf4 64 w4 t4.box t4.pg _ sD1)
  go_wp2_with fail
  refine D0.out.mono ?_
  rintro e w' ⟨rfl, rfl⟩
  clear D0
  have D1 := Lib.hid (Read_is S P v4 _ _ sf4 65 w4 t4.box t4.pg _ sD2)
  go_wp2_with fail
  refine D1.out.mono ?_
  rintro e w' ⟨rfl, rfl⟩
  clear D1
  have D2 := Lib.hid (Read_is S P v4 _ _ sf4 63 w4 t4.box t4.pg _ sD3)
  go_wp2_with fail
  refine D2.out.mono ?_
  rintro e w' ⟨rfl, rfl⟩
  clear D2
  have s4 : Sys w4 S P noX sf4 [] sm2 := ⟨v4, t4⟩
  clear t4
  have C5 := Lib.hid (Guard_is S P noX sf4 [] okL_nil sm2 sS2 0 1 (i64_of (by decide) (by decide)) w4 s4)
  unfold Left at C5
  rw [sR5] at C5
  go_wp2_with fail
  refine C5.out.mono ?_
  rintro e w5 ⟨rfl, s5, k5⟩
  have B5 := B4.trans (k5.below w.heap.size B4.size HSP.out)
  clear C5 k5 s4 B4
  have C6 := Lib.hid (Release_is S P noX sf5 [] okL_nil sm5 sS5 0 4 (i64_of (by decide) (by decide)) w5 s5)
  unfold Left at C6
  rw [sR6] at C6
  go_wp2_with fail
  refine C6.out.mono ?_
  rintro e w6 ⟨rfl, s6, k6⟩
  have B6 := B5.trans (k6.below w.heap.size B5.size HSP.out)
  clear C6 k6 s5 B5
  have C7 := Lib.hid (Decommit_is S P noX sf5 [] okL_nil sm5 sS5 1 2 (i64_of (by decide) (by decide)) w6 s6)
  unfold Left at C7
  rw [sR7] at C7
  go_wp2_with fail
  refine C7.out.mono ?_
  rintro e w7 ⟨rfl, s7, k7⟩
  have B7 := B6.trans (k7.below w.heap.size B6.size HSP.out)
  clear C7 k7 s6 B6
  have C8 := Lib.hid (Commit_is S P noX sf6 [] okL_nil sm6 sS6 1 1 (i64_of (by decide) (by decide)) w7 s7)
  unfold Left at C8
  rw [sR8] at C8
  go_wp2_with fail
  refine C8.out.mono ?_
  rintro e w8 ⟨rfl, s8, k8⟩
  have B8 := B7.trans (k8.below w.heap.size B7.size HSP.out)
  clear C8 k8 s7 B7
  obtain ⟨v8, t8⟩ := s8
  have D8 := Lib.hid (Read_is S P v8 _ _ sf7 64 w8 t8.box t8.pg _ sD4)
  go_wp2_with fail
  refine D8.out.mono ?_
  rintro e w' ⟨rfl, rfl⟩
  clear D8
  have C9 := Lib.hid (Counts_is S P v8 _ _ sf7 w8 t8.box t8.pg)
  rw [sC] at C9
  go_wp2_with fail
  refine C9.out.mono ?_
  rintro e w9 ⟨rfl, B9⟩
  have B10 := B8.trans (B9.mono B8.size)
  clear C9 t8
  have heq := eq5 1020 2 1 1 0
  go_wp2_with fail
  go_ret
  exact ⟨rfl, B10.alloc B10.size _⟩
end Go.Proofs.Ytjplihljmohpjaa

/- Systems that were not made. -/
namespace Go.Proofs.Ytjplihljmohpjaa
open Go.RowKit Go.Shelf
attribute [local go_sem] Oper.semAt_some

/-- The cells of a state of a system. -/
def vsA (r g d v : Value) (c h : Nat → Int) : Array Value := #[r, g, d, v, .int .i64 (c 0), .int .i64 (c 1), .int .i64 (c 2), .int .i64 (c 3), .int .i64 (c 4), .int .i64 (c 5), .int .i64 (c 6), .int .i64 (h 0), .int .i64 (h 1), .int .i64 (h 2), .int .i64 (h 3), .int .i64 (h 4), .int .i64 (h 5), .int .i64 (h 6)]
abbrev vsV (r g d v : Value) (c h : Nat → Int) : Value := .agg (vsA r g d v c h)
abbrev nilS : Value := .slice none 0 0
abbrev zeroS : Value := vsV nilS nilS nilS nilS zer zer
theorem vs_i (r g d v : Value) (c h : Nat → Int) : (Try.prog.info? 47).map (·.size) = some (vsA r g d v c h).size := by show _ = some 18; kernel_rfl
theorem vs_one (r g d v : Value) (c h : Nat → Int) (h1 : r.oneCell' = true) (h2 : g.oneCell' = true) (h3 : d.oneCell' = true) (h4 : v.oneCell' = true) : (vsA r g d v c h).all (·.oneCell') = true := by
  rw [Array.all_eq_true_iff_forall_mem]
  intro x hx
  unfold vsA at hx
  simp at hx
  rcases hx with rfl | rfl | rfl | rfl | hx
  · exact h1
  · exact h2
  · exact h3
  · exact h4
  · rcases hx with rfl | rfl | rfl | rfl | rfl | rfl | rfl | rfl | rfl | rfl | rfl | rfl | rfl | rfl <;> rfl
def VBox (W : World) (b : Nat) (r g d v : Value) (c h : Nat → Int) : Prop := W.heap[b]? = some (.cells (vsA r g d v c h) 47 (0, 0))
theorem VBox.lt {W : World} {b : Nat} {r g d v : Value} {c h : Nat → Int} (s : VBox W b r g d v c h) : b < W.heap.size := (Array.getElem?_eq_some_iff.1 s).1
theorem VBox.later {W V : World} {b : Nat} {r g d v : Value} {c h : Nat → Int} (s : VBox W b r g d v c h) (hb : Below W.heap.size W V) : VBox V b r g d v c h := (hb.block b s.lt).trans s
theorem VBox.cell {W : World} {b : Nat} {r g d v : Value} {c h : Nat → Int} (s : VBox W b r g d v c h) (j : Nat) : W.cell? ⟨b, j, none⟩ = (vsA r g d v c h)[j]? := by unfold VBox at s; simp [World.cell?, s]
theorem VBox.new (W : World) (r g d v : Value) (c h : Nat → Int) : VBox (W.alloc (.cells (vsA r g d v c h) 47)) W.heap.size r g d v c h := World.alloc_heap_new W _
theorem VBox.row {W : World} {b : Nat} {r g d v : Value} {c h : Nat → Int} (s : VBox W b r g d v c h) (r' g' d' v' : Value) (c' h' : Nat → Int) : VBox (W.setRow b (vsA r' g' d' v' c' h')) b r' g' d' v' c' h' := setRow_heap W b _ _ _ _ s
theorem vs_load {W : World} {b : Nat} {r g d v : Value} {c h : Nat → Int} (s : VBox W b r g d v c h) : (loadVar 47 ⟨b, 0, none⟩).run Try.prog W = .ok (.agg (vsA r g d v c h)) W :=
  run_loadVar_row W b 47 47 _ _ _ s Try.underlying47 rfl (vs_i r g d v c h)
theorem VBox.range {W : World} {b : Nat} {r g d v : Value} {c h : Nat → Int} (s : VBox W b r g d v c h) : W.rangeAt b 3 (stA v c h).toList := fun j u hu => by
  rw [s.cell, ← hu, Array.getElem?_toList]
  show (#[_, _, _] ++ stA v c h)[3 + j]? = _
  rw [Array.getElem?_append_right (by simp)]; simp
set_option maxRecDepth 100000 in
theorem Save_no (s : Value) (w : World) (hs : Unmade w s) :
    Calls Try.prog 17 #[s] w fun e w' => e = .returned zeroS ∧ Below w.heap.size w w' := by
  obtain ⟨W1, hW1⟩ : ∃ x, w.alloc (.cells #[nilS, nilS, nilS, nilS, .int .i64 0, .int .i64 0, .int .i64 0, .int .i64 0, .int .i64 0, .int .i64 0, .int .i64 0, .int .i64 0, .int .i64 0, .int .i64 0, .int .i64 0, .int .i64 0, .int .i64 0, .int .i64 0] 47) = x := ⟨_, rfl⟩
  have hb1 : Below w.heap.size w W1 := by rw [← hW1]; exact (Below.refl _ _).alloc (Nat.le_refl _) _
  have bN : VBox W1 w.heap.size nilS nilS nilS nilS zer zer := by rw [← hW1]; exact VBox.new w nilS nilS nilS nilS zer zer
  have HM := Lib.hid (made_no s W1 (hs.later hb1))
  have hone := vs_one nilS nilS nilS nilS zer zer rfl rfl rfl rfl
  clear hs
  go_enter Try.func17, Try.ntmps17
  go_wp2_with fail
  try rw [hW1]
  refine HM.out.mono ?_
  rintro e w' ⟨rfl, rfl⟩
  go_wp2_with (refine wpList_store_row rfl 47 _ _ rfl w.heap.size (vsA nilS nilS nilS nilS zer zer) rfl rfl 47 _ bN (vs_i _ _ _ _ _ _) rfl hone ?_)
  have hld := vs_load (bN.row nilS nilS nilS nilS zer zer)
  exact bodyPost_ret (v := zeroS) (by simp [results, Try.results17, asAddr, Act.put, hld]) rfl ⟨rfl, below_row hb1 _ (by omega) _⟩
set_option maxRecDepth 100000 in
theorem Plan_no (s r : Value) (w : World) (hs : Unmade w s) :
    Calls Try.prog 23 #[s, .agg #[r]] w (NilE w) := by
  obtain ⟨W1, hW1⟩ : ∃ x, w.alloc (.cells #[r] 24) = x := ⟨_, rfl⟩
  have hb1 : Below w.heap.size w W1 := by rw [← hW1]; exact (Below.refl _ _).alloc (Nat.le_refl _) _
  have HM := Lib.hid (made_no s W1 (hs.later hb1))
  clear hs
  go_enter Try.func23, Try.ntmps23
  go_wp2_with fail
  try rw [hW1]
  refine HM.out.mono ?_
  rintro e w' ⟨rfl, rfl⟩
  go_wp2_with fail
  go_ret
  exact ⟨rfl, hb1⟩
/-- A call as data. -/
abbrev acA (q a n t b : Int) (r : Value) : Array Value := #[.int .u8 q, .int .i64 a, .int .i64 n, .int .i64 t, .int .u8 b, r]
def ABx (W : World) (g : Nat) (q a n t b : Int) (r : Value) : Prop := W.heap[g]? = some (.cells (acA q a n t b r) 38 (0, 0))
theorem ABx.lt {W : World} {g : Nat} {q a n t b : Int} {r : Value} (s : ABx W g q a n t b r) : g < W.heap.size := (Array.getElem?_eq_some_iff.1 s).1
theorem ABx.later {W V : World} {g : Nat} {q a n t b : Int} {r : Value} (s : ABx W g q a n t b r) (hb : Below W.heap.size W V) : ABx V g q a n t b r := (hb.block g s.lt).trans s
theorem ABx.keep {W V : World} {g : Nat} {q a n t b : Int} {r : Value} {k : Nat → Prop} (s : ABx W g q a n t b r) (hb : Keep k W V) (hk : ¬ k g) : ABx V g q a n t b r := (hb.block g s.lt hk).trans s
theorem ABx.c0 {W : World} {g : Nat} {q a n t b : Int} {r : Value} (s : ABx W g q a n t b r) : W.cell? ⟨g, 0, none⟩ = some (.int .u8 q) := by unfold ABx at s; simp [World.cell?, s]
theorem ABx.c1 {W : World} {g : Nat} {q a n t b : Int} {r : Value} (s : ABx W g q a n t b r) : W.cell? ⟨g, 1, none⟩ = some (.int .i64 a) := by unfold ABx at s; simp [World.cell?, s]
theorem ABx.c2 {W : World} {g : Nat} {q a n t b : Int} {r : Value} (s : ABx W g q a n t b r) : W.cell? ⟨g, 2, none⟩ = some (.int .i64 n) := by unfold ABx at s; simp [World.cell?, s]
theorem ABx.c3 {W : World} {g : Nat} {q a n t b : Int} {r : Value} (s : ABx W g q a n t b r) : W.cell? ⟨g, 3, none⟩ = some (.int .i64 t) := by unfold ABx at s; simp [World.cell?, s]
theorem ABx.c4 {W : World} {g : Nat} {q a n t b : Int} {r : Value} (s : ABx W g q a n t b r) : W.cell? ⟨g, 4, none⟩ = some (.int .u8 b) := by unfold ABx at s; simp [World.cell?, s]
theorem ABx.c5 {W : World} {g : Nat} {q a n t b : Int} {r : Value} (s : ABx W g q a n t b r) : W.cell? ⟨g, 5, none⟩ = some r := by unfold ABx at s; simp [World.cell?, s]
theorem Protect_no (s : Value) (a n : Int) (b : Bool) (w : World) (hs : Unmade w s) : Calls Try.prog 33 #[s, .int .i64 a, .int .i64 n, .bool b] w (NilE w) := by
  cases b
  · exact Unguard_no s a n w hs
  · exact Guard_no s a n w hs
theorem what_cases {q : Int} (h0 : 0 ≤ q) (_ : q < 256) : ∃ k : Nat, k < 19 ∧ q.tmod 19 = (k : Int) := ⟨(q % 19).toNat, by omega, by rw [Int.tmod_eq_emod_of_nonneg h0]; omega⟩
set_option maxRecDepth 100000 in
set_option maxHeartbeats 8000000 in
theorem call_no (s : Value) (q a n t b : Int) (h0 : 0 ≤ q) (h1 : q < 256) (r : Value) (w : World) (hs : Unmade w s) :
    Calls Try.prog 22 #[s, .agg (acA q a n t b r)] w (NilE w) := by
  obtain ⟨W1, hW1⟩ : ∃ x, w.alloc (.cells (acA q a n t b r) 38) = x := ⟨_, rfl⟩
  have hb1 : Below w.heap.size w W1 := by rw [← hW1]; exact (Below.refl _ _).alloc (Nat.le_refl _) _
  have bA : ABx W1 w.heap.size q a n t b r := by rw [← hW1]; exact World.alloc_heap_new w _
  have HS := Lib.hid (hs.later hb1)
  have c0 := bA.c0
  have c1 := bA.c1
  have c2 := bA.c2
  have c3 := bA.c3
  have c4 := bA.c4
  have c5 := bA.c5
  obtain ⟨k, hk, hq⟩ := what_cases h0 h1
  clear hs h0 h1 bA
  go_enter Try.func22, Try.ntmps22
  have hk2 : k = 0 ∨ k = 1 ∨ k = 2 ∨ k = 3 ∨ k = 4 ∨ k = 5 ∨ k = 6 ∨ k = 7 ∨ k = 8 ∨ k = 9 ∨ k = 10 ∨ k = 11 ∨ k = 12 ∨ k = 13 ∨ k = 14 ∨ k = 15 ∨ k = 16 ∨ k = 17 ∨ k = 18 := by omega
  clear hk
  rcases hk2 with rfl | rfl | rfl | rfl | rfl | rfl | rfl | rfl | rfl | rfl | rfl | rfl | rfl | rfl | rfl | rfl | rfl | rfl | rfl
  · go_wp2_with fail
    try rw [hW1]
    refine (Reserve_no s a n W1 HS.out).mono ?_
    rintro e w2 ⟨rfl, B2⟩
    go_wp2_with fail
    go_ret
    exact ⟨rfl, hb1.trans (B2.mono hb1.size)⟩
  · go_wp2_with fail
    try rw [hW1]
    refine (Reserve_no s a n W1 HS.out).mono ?_
    rintro e w2 ⟨rfl, B2⟩
    go_wp2_with fail
    go_ret
    exact ⟨rfl, hb1.trans (B2.mono hb1.size)⟩
  · go_wp2_with fail
    try rw [hW1]
    refine (Release_no s a n W1 HS.out).mono ?_
    rintro e w2 ⟨rfl, B2⟩
    go_wp2_with fail
    go_ret
    exact ⟨rfl, hb1.trans (B2.mono hb1.size)⟩
  · go_wp2_with fail
    try rw [hW1]
    refine (Commit_no s a n W1 HS.out).mono ?_
    rintro e w2 ⟨rfl, B2⟩
    go_wp2_with fail
    go_ret
    exact ⟨rfl, hb1.trans (B2.mono hb1.size)⟩
  · go_wp2_with fail
    try rw [hW1]
    refine (Commit_no s a n W1 HS.out).mono ?_
    rintro e w2 ⟨rfl, B2⟩
    go_wp2_with fail
    go_ret
    exact ⟨rfl, hb1.trans (B2.mono hb1.size)⟩
  · go_wp2_with fail
    try rw [hW1]
    refine (Commit_no s a n W1 HS.out).mono ?_
    rintro e w2 ⟨rfl, B2⟩
    go_wp2_with fail
    go_ret
    exact ⟨rfl, hb1.trans (B2.mono hb1.size)⟩
  · go_wp2_with fail
    try rw [hW1]
    refine (Decommit_no s a n W1 HS.out).mono ?_
    rintro e w2 ⟨rfl, B2⟩
    go_wp2_with fail
    go_ret
    exact ⟨rfl, hb1.trans (B2.mono hb1.size)⟩
  · go_wp2_with fail
    try rw [hW1]
    refine (Decommit_no s a n W1 HS.out).mono ?_
    rintro e w2 ⟨rfl, B2⟩
    go_wp2_with fail
    go_ret
    exact ⟨rfl, hb1.trans (B2.mono hb1.size)⟩
  · go_wp2_with fail
    try rw [hW1]
    refine (Protect_no s a n _ W1 HS.out).mono ?_
    rintro e w2 ⟨rfl, B2⟩
    go_wp2_with fail
    go_ret
    exact ⟨rfl, hb1.trans (B2.mono hb1.size)⟩
  · go_wp2_with fail
    try rw [hW1]
    refine (Protect_no s a n _ W1 HS.out).mono ?_
    rintro e w2 ⟨rfl, B2⟩
    go_wp2_with fail
    go_ret
    exact ⟨rfl, hb1.trans (B2.mono hb1.size)⟩
  · go_wp2_with fail
    try rw [hW1]
    refine (Join_no s a W1 HS.out).mono ?_
    rintro e w2 ⟨rfl, B2⟩
    go_wp2_with fail
    go_ret
    exact ⟨rfl, hb1.trans (B2.mono hb1.size)⟩
  · go_wp2_with fail
    try rw [hW1]
    refine (Join_no s a W1 HS.out).mono ?_
    rintro e w2 ⟨rfl, B2⟩
    go_wp2_with fail
    go_ret
    exact ⟨rfl, hb1.trans (B2.mono hb1.size)⟩
  · go_wp2_with fail
    try rw [hW1]
    refine (Split_no s a W1 HS.out).mono ?_
    rintro e w2 ⟨rfl, B2⟩
    go_wp2_with fail
    go_ret
    exact ⟨rfl, hb1.trans (B2.mono hb1.size)⟩
  · go_wp2_with fail
    try rw [hW1]
    refine (Write_no s t b W1 HS.out).mono ?_
    rintro e w2 ⟨rfl, B2⟩
    go_wp2_with fail
    go_ret
    exact ⟨rfl, hb1.trans (B2.mono hb1.size)⟩
  · go_wp2_with fail
    try rw [hW1]
    refine (Write_no s t b W1 HS.out).mono ?_
    rintro e w2 ⟨rfl, B2⟩
    go_wp2_with fail
    go_ret
    exact ⟨rfl, hb1.trans (B2.mono hb1.size)⟩
  · go_wp2_with fail
    try rw [hW1]
    refine (Write_no s t b W1 HS.out).mono ?_
    rintro e w2 ⟨rfl, B2⟩
    go_wp2_with fail
    go_ret
    exact ⟨rfl, hb1.trans (B2.mono hb1.size)⟩
  · go_wp2_with fail
    try rw [hW1]
    refine (Plan_no s r W1 HS.out).mono ?_
    rintro e w2 ⟨rfl, B2⟩
    go_wp2_with fail
    go_ret
    exact ⟨rfl, hb1.trans (B2.mono hb1.size)⟩
  · go_wp2_with fail
    try rw [hW1]
    refine (Plan_no s r W1 HS.out).mono ?_
    rintro e w2 ⟨rfl, B2⟩
    go_wp2_with fail
    go_ret
    exact ⟨rfl, hb1.trans (B2.mono hb1.size)⟩
  · go_wp2_with fail
    try rw [hW1]
    refine (Plan_no s r W1 HS.out).mono ?_
    rintro e w2 ⟨rfl, B2⟩
    go_wp2_with fail
    go_ret
    exact ⟨rfl, hb1.trans (B2.mono hb1.size)⟩
/-- The cells of the zero system. -/
def ZSy (W : World) (g : Nat) : Prop := W.heap[g]? = some (.cells #[nilS, nilS, .int .i64 0, .int .i64 0, .int .i64 0, .int .i64 0, .int .i64 0, .int .i64 0, .int .i64 0, .int .i64 0, .int .i64 0, .int .i64 0, .int .i64 0, .int .i64 0, .int .i64 0, .int .i64 0] 79 (0, 0))
theorem neq5 (a b c d e : Int) (w : World) : (Go.binOp .neq 67 (.agg #[.int .i64 a, .int .i64 b, .int .i64 c, .int .i64 d, .int .i64 e]) (.agg #[.int .i64 a, .int .i64 b, .int .i64 c, .int .i64 d, .int .i64 e])).run Try.prog w = Result.ok (.bool false) w := by
  have ht : Try.prog.underlying 67 = some (.struct (Try.prog.fieldsOf 67)) := by kernel_rfl
  have hp : Try.prog.stoodInHeld 67 = false := by kernel_rfl
  obtain ⟨f0, f1, f2, f3, f4, hu, o0, o1, o2, o3, o4, t0, t1, t2, t3, t4⟩ : ∃ f0 f1 f2 f3 f4 : Field, Try.prog.underlying 67 = some (.struct #[f0, f1, f2, f3, f4]) ∧ f0.offset = 0 ∧ f1.offset = 1 ∧ f2.offset = 2 ∧ f3.offset = 3 ∧ f4.offset = 4 ∧ f0.type = 3 ∧ f1.type = 3 ∧ f2.type = 3 ∧ f3.type = 3 ∧ f4.type = 3 :=
    ⟨_, _, _, _, _, Try.underlying67, rfl, rfl, rfl, rfl, rfl, rfl, rfl, rfl, rfl, rfl⟩
  have hf : Try.prog.fieldsOf 67 = #[f0, f1, f2, f3, f4] := by
    have := ht.symm.trans hu
    simpa using this
  rw [run_neq_struct, run_equalIn_agg w 9999 67 _ _ ht hp, hf, eqF]
  · rfl
  · intro f hm
    simp at hm
    rcases hm with rfl | rfl | rfl | rfl | rfl
    · exact ⟨t0, a, fun W => by rw [t0, o0]; kernel_rfl⟩
    · exact ⟨t1, b, fun W => by rw [t1, o1]; kernel_rfl⟩
    · exact ⟨t2, c, fun W => by rw [t2, o2]; kernel_rfl⟩
    · exact ⟨t3, d, fun W => by rw [t3, o3]; kernel_rfl⟩
    · exact ⟨t4, e, fun W => by rw [t4, o4]; kernel_rfl⟩

set_option maxRecDepth 100000 in
set_option maxHeartbeats 4000000 in
theorem Same_zero (w : World) : Calls Try.prog 16 #[zeroS, zeroS] w fun e w' => e = .returned (.bool true) ∧ Below w.heap.size w w' := by
  obtain ⟨W1, hW1⟩ : ∃ x, (w.alloc (.cells (vsA nilS nilS nilS nilS zer zer) 47)).alloc (.cells (vsA nilS nilS nilS nilS zer zer) 47) = x := ⟨_, rfl⟩
  have hb1 : Below w.heap.size w W1 := by rw [← hW1]; exact ((Below.refl _ _).alloc (Nat.le_refl _) _).alloc (by simp) _
  have b1 : VBox W1 w.heap.size nilS nilS nilS nilS zer zer := by rw [← hW1]; exact (Below.heap_alloc _ _ _ (by simp)).trans (VBox.new w nilS nilS nilS nilS zer zer)
  have b2 : VBox W1 (w.heap.size + 1) nilS nilS nilS nilS zer zer := by
    have := VBox.new (w.alloc (.cells (vsA nilS nilS nilS nilS zer zer) 47)) nilS nilS nilS nilS zer zer
    rw [World.size_alloc] at this
    rw [← hW1]; exact this
  have p0 := b1.cell 0
  have p1 := b1.cell 1
  have p2 := b1.cell 2
  have p3 := b1.cell 3
  have p4 := b1.cell 4
  have p5 := b1.cell 5
  have p6 := b1.cell 6
  have p7 := b1.cell 7
  have p8 := b1.cell 8
  have p9 := b1.cell 9
  have p10 := b1.cell 10
  have p11 := b1.cell 11
  have p12 := b1.cell 12
  have p13 := b1.cell 13
  have p14 := b1.cell 14
  have p15 := b1.cell 15
  have p16 := b1.cell 16
  have p17 := b1.cell 17
  have q0 := b2.cell 0
  have q1 := b2.cell 1
  have q2 := b2.cell 2
  have q3 := b2.cell 3
  have q4 := b2.cell 4
  have q5 := b2.cell 5
  have q6 := b2.cell 6
  have q7 := b2.cell 7
  have q8 := b2.cell 8
  have q9 := b2.cell 9
  have q10 := b2.cell 10
  have q11 := b2.cell 11
  have q12 := b2.cell 12
  have q13 := b2.cell 13
  have q14 := b2.cell 14
  have q15 := b2.cell 15
  have q16 := b2.cell 16
  have q17 := b2.cell 17
  simp only [vsA, zer] at p0 p1 p2 p3 p4 p5 p6 p7 p8 p9 p10 p11 p12 p13 p14 p15 p16 p17 q0 q1 q2 q3 q4 q5 q6 q7 q8 q9 q10 q11 q12 q13 q14 q15 q16 q17
  simp at p0 p1 p2 p3 p4 p5 p6 p7 p8 p9 p10 p11 p12 p13 p14 p15 p16 p17 q0 q1 q2 q3 q4 q5 q6 q7 q8 q9 q10 q11 q12 q13 q14 q15 q16 q17
  have HS := Lib.hid (SameState_is nilS nilS zer zer [] W1 (nil_at _) (nil_at _))
  go_enter Try.func16, Try.ntmps16
  go_wp2_with fail
  try rw [hW1]
  refine HS.out.mono ?_
  rintro e w1 ⟨rfl, B1⟩
  have p0 := cell_later B1 p0
  have p1 := cell_later B1 p1
  have p2 := cell_later B1 p2
  have hB := hb1.trans (B1.mono hb1.size)
  go_wp2_with fail
  refine wp_loop_once ?_
  go_wp2_with fail
  refine wp_loop_once ?_
  go_wp2_with fail
  refine wp_loop_once ?_
  go_wp2_with fail
  go_ret
  exact ⟨rfl, hB⟩
end Go.Proofs.Ytjplihljmohpjaa
