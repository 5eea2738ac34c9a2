/- Counts. -/
import Derived.Test.YtnmeeddhagmjdaaVmK
namespace Go.Proofs.Ytnmeeddhagmjdaa
open Go.RowKit Go.Shelf
attribute [local go_sem] Oper.semAt_some

/-- How many pages of a list are of a kind; how many huge pages begin there. -/
def cnK (f : Pages) (k : Int) : List Nat → Nat
  | [] => 0
  | j :: l => (if (f j).kd = k then 1 else 0) + cnK f k l
def cnH (f : Pages) : List Nat → Nat
  | [] => 0
  | j :: l => (if (f j).hu = true ∧ j % 16 = 0 then 1 else 0) + cnH f l
theorem cnK_snoc (f : Pages) (k : Int) (j : Nat) : ∀ l, cnK f k (l ++ [j]) = cnK f k l + if (f j).kd = k then 1 else 0
  | [] => by show _ + 0 = 0 + _; omega
  | i :: l => by show _ + cnK f k (l ++ [j]) = _ + cnK f k l + _; rw [cnK_snoc f k j l]; omega
theorem cnH_snoc (f : Pages) (j : Nat) : ∀ l, cnH f (l ++ [j]) = cnH f l + if (f j).hu = true ∧ j % 16 = 0 then 1 else 0
  | [] => by show _ + 0 = 0 + _; omega
  | i :: l => by show _ + cnH f (l ++ [j]) = _ + cnH f l + _; rw [cnH_snoc f j l]; omega
theorem cnK_len (f : Pages) (k : Int) : ∀ l, cnK f k l ≤ l.length
  | [] => Nat.le_refl _
  | j :: l => by have := cnK_len f k l; show (if _ then 1 else 0) + cnK f k l ≤ l.length + 1; split <;> omega
theorem cnH_len (f : Pages) : ∀ l, cnH f l ≤ l.length
  | [] => Nat.le_refl _
  | j :: l => by have := cnH_len f l; show (if _ then 1 else 0) + cnH f l ≤ l.length + 1; split <;> omega
abbrev v5 (a b c d e : Nat) : Array Value := #[.int .i64 (a : Int), .int .i64 (b : Int), .int .i64 (c : Int), .int .i64 (d : Int), .int .i64 (e : Int)]
def NBx (W : World) (g : Nat) (a b c d e : Nat) : Prop := W.heap[g]? = some (.cells (v5 a b c d e) 67 (0, 0))
theorem NBx.lt {W : World} {g a b c d e : Nat} (s : NBx W g a b c d e) : g < W.heap.size := (Array.getElem?_eq_some_iff.1 s).1
theorem NBx.later {W V : World} {g a b c d e : Nat} (s : NBx W g a b c d e) (hb : Below W.heap.size W V) : NBx V g a b c d e := (hb.block g s.lt).trans s
theorem NBx.other {W : World} {g a b c d e : Nat} (s : NBx W g a b c d e) {x : Addr} (hx : g ≠ x.block) (u : Value) : NBx (W.setCell x u) g a b c d e := (Below.heap_setCell _ _ _ _ hx).trans s
theorem NBx.c0 {W : World} {g a b c d e : Nat} (s : NBx W g a b c d e) : W.cell? ⟨g, 0, none⟩ = some (.int .i64 (a : Int)) := by unfold NBx at s; simp [World.cell?, s]
theorem NBx.s0 {W : World} {g a b c d e : Nat} (s : NBx W g a b c d e) (x : Nat) : NBx (W.setCell ⟨g, 0, none⟩ (.int .i64 (x : Int))) g x b c d e := heap_setCell_same W g 0 _ _ _ s
theorem NBx.c1 {W : World} {g a b c d e : Nat} (s : NBx W g a b c d e) : W.cell? ⟨g, 1, none⟩ = some (.int .i64 (b : Int)) := by unfold NBx at s; simp [World.cell?, s]
theorem NBx.s1 {W : World} {g a b c d e : Nat} (s : NBx W g a b c d e) (x : Nat) : NBx (W.setCell ⟨g, 1, none⟩ (.int .i64 (x : Int))) g a x c d e := heap_setCell_same W g 1 _ _ _ s
theorem NBx.c2 {W : World} {g a b c d e : Nat} (s : NBx W g a b c d e) : W.cell? ⟨g, 2, none⟩ = some (.int .i64 (c : Int)) := by unfold NBx at s; simp [World.cell?, s]
theorem NBx.s2 {W : World} {g a b c d e : Nat} (s : NBx W g a b c d e) (x : Nat) : NBx (W.setCell ⟨g, 2, none⟩ (.int .i64 (x : Int))) g a b x d e := heap_setCell_same W g 2 _ _ _ s
theorem NBx.c3 {W : World} {g a b c d e : Nat} (s : NBx W g a b c d e) : W.cell? ⟨g, 3, none⟩ = some (.int .i64 (d : Int)) := by unfold NBx at s; simp [World.cell?, s]
theorem NBx.s3 {W : World} {g a b c d e : Nat} (s : NBx W g a b c d e) (x : Nat) : NBx (W.setCell ⟨g, 3, none⟩ (.int .i64 (x : Int))) g a b c x e := heap_setCell_same W g 3 _ _ _ s
theorem NBx.c4 {W : World} {g a b c d e : Nat} (s : NBx W g a b c d e) : W.cell? ⟨g, 4, none⟩ = some (.int .i64 (e : Int)) := by unfold NBx at s; simp [World.cell?, s]
theorem NBx.s4 {W : World} {g a b c d e : Nat} (s : NBx W g a b c d e) (x : Nat) : NBx (W.setCell ⟨g, 4, none⟩ (.int .i64 (x : Int))) g a b c d x := heap_setCell_same W g 4 _ _ _ s
theorem NBx.i0 {W : World} {g a b c d e : Nat} (s : NBx W g a b c d e) : NBx (W.setCell ⟨g, 0, none⟩ (.int .i64 ((a : Int) + 1))) g (a + 1) b c d e := s.s0 (a + 1)
theorem NBx.i1 {W : World} {g a b c d e : Nat} (s : NBx W g a b c d e) : NBx (W.setCell ⟨g, 1, none⟩ (.int .i64 ((b : Int) + 1))) g a (b + 1) c d e := s.s1 (b + 1)
theorem NBx.i2 {W : World} {g a b c d e : Nat} (s : NBx W g a b c d e) : NBx (W.setCell ⟨g, 2, none⟩ (.int .i64 ((c : Int) + 1))) g a b (c + 1) d e := s.s2 (c + 1)
theorem NBx.i3 {W : World} {g a b c d e : Nat} (s : NBx W g a b c d e) : NBx (W.setCell ⟨g, 3, none⟩ (.int .i64 ((d : Int) + 1))) g a b c (d + 1) e := s.s3 (d + 1)
theorem NBx.i4 {W : World} {g a b c d e : Nat} (s : NBx W g a b c d e) : NBx (W.setCell ⟨g, 4, none⟩ (.int .i64 ((e : Int) + 1))) g a b c d (e + 1) := s.s4 (e + 1)
theorem NBx.frozen {W : World} {g a b c d e : Nat} (s : NBx W g a b c d e) (j : Nat) : W.frozen? ⟨g, j, none⟩ = false := by unfold NBx at s; simp [World.frozen?, s]
theorem own_NBx {β : Type} (B g : Nat) (a b c d e : β → Nat) : OwnFrom B (fun (s : β) W => NBx W g (a s) (b s) (c s) (d s) (e s)) := fun _ A C row h hg hr => own_cells (β := Unit) B g _ rfl () A C row h hg hr
theorem n5_i (a b c d e : Nat) : (Try.prog.info? 67).map (·.size) = some (v5 a b c d e).size := by kernel_rfl
theorem grpB_of {x : Nat} (hx : x < 1024) : grpB (x : Int) = decide (x % 16 = 0) := by
  unfold grpB
  rw [show areB (x : Int) 1 = true by unfold areB; simp; omega, Bool.true_and, Int.tmod_eq_emod_of_nonneg (by omega)]
  rw [Bool.eq_iff_iff]; simp; omega
set_option maxRecDepth 100000 in
theorem Counts_no (s : Value) (w : World) (hs : Unmade w s) :
    Calls Try.prog 29 #[s] w fun e w' => e = .returned (.tuple #[.agg (v5 0 0 0 0 0), .int .i64 1]) ∧ Below w.heap.size w w' := by
  obtain ⟨W1, hW1⟩ : ∃ x, w.alloc (.cells #[.int .i64 0, .int .i64 0, .int .i64 0, .int .i64 0, .int .i64 0] 67) = x := ⟨_, rfl⟩
  have hb1 : Below w.heap.size w W1 := by rw [← hW1]; exact (Below.refl _ _).alloc (Nat.le_refl _) _
  have bN : NBx W1 w.heap.size 0 0 0 0 0 := by rw [← hW1]; exact World.alloc_heap_new w _
  have HM := Lib.hid (made_no s W1 (hs.later hb1))
  have hone : (v5 0 0 0 0 0).all (·.oneCell') = true := by kernel_rfl
  clear hs
  go_enter Try.func29, Try.ntmps29
  go_wp2_with fail
  try rw [hW1]
  refine HM.out.mono ?_
  rintro e w' ⟨rfl, rfl⟩
  go_wp2_with (refine wpList_store_row rfl 67 _ _ rfl w.heap.size (v5 0 0 0 0 0) rfl rfl 67 _ bN (n5_i _ _ _ _ _) rfl hone ?_)
  have m3 := setRow_heap W1 w.heap.size _ (v5 0 0 0 0 0) _ _ bN
  have hld : (loadVar 67 ⟨w.heap.size, 0, none⟩).run Try.prog _ = _ := run_loadVar_row _ _ 67 67 _ _ _ m3 Try.underlying67 rfl (n5_i _ _ _ _ _)
  exact bodyPost_ret (v := .tuple #[.agg (v5 0 0 0 0 0), .int .i64 1]) (by simp [results, Try.results29, asAddr, hld]) rfl ⟨rfl, below_row hb1 _ (by omega) _⟩
/-- What Counts answers, but for the error. -/
abbrev cnV (f : Pages) (l : List Nat) : Array Value := v5 (cnK f 0 l) (cnK f 1 l) (cnK f 2 l) (cnK f 3 l) (cnH f l)
set_option maxRecDepth 100000 in
set_option maxHeartbeats 8000000 in
theorem Counts_is (S P : Nat) (v : Value) (c h : Nat → Int) (f : Pages) (w : World) (hS : SyBox w S P v c h) (hP : PgAt w P f) :
    Calls Try.prog 29 #[.pointer (some ⟨S, 0, none⟩)] w fun e w' => e = .returned (.tuple #[.agg (cnV f (List.range' 0 1024)), .int .i64 0]) ∧ Below w.heap.size w w' := by
  refine (callsIn_wide (n := 5)).1 ?_
  refine callsIn_of_wp_marks Try.func29 rfl trivial ?_ rfl
  simp only [Try.ntmps29, List.size_toArray, List.length_cons, List.length_nil, Nat.reduceAdd, Nat.reduceSub, Array.replicate_succ, Array.replicate_zero, List.push_toArray, List.append_toArray, List.nil_append, List.cons_append]
  have hf1 := wide_fn 55
  have hf2 := wide_fn 53
  have hf4 := wide_fn 57
  obtain ⟨W0, hW0⟩ : ∃ x, w.alloc (.cells #[.int .i64 0, .int .i64 0, .int .i64 0, .int .i64 0, .int .i64 0] 67) = x := ⟨_, rfl⟩
  have hb0 : Below w.heap.size w W0 := by rw [← hW0]; exact (Below.refl _ _).alloc (Nat.le_refl _) _
  have hz0 : W0.heap.size = w.heap.size + 1 := by rw [← hW0]; simp
  have bR0 : NBx W0 w.heap.size 0 0 0 0 0 := by rw [← hW0]; exact World.alloc_heap_new w _
  have HM := Lib.hid (made_yes S P v c h W0 (hS.later hb0))
  gi_wp2_with fail
  try rw [hW0]
  refine (callsIn_wide.2 HM.out).mono ?_
  rintro e w' ⟨rfl, rfl⟩
  obtain ⟨W1, hW1⟩ : ∃ x, W0.alloc (.cells #[.int .i64 0, .int .i64 0, .int .i64 0, .int .i64 0, .int .i64 0] 67) = x := ⟨_, rfl⟩
  have hb01 : Below W0.heap.size W0 W1 := by rw [← hW1]; exact (Below.refl _ _).alloc (Nat.le_refl _) _
  have hb1 : Below w.heap.size w W1 := hb0.trans (hb01.mono hb0.size)
  have hz1 : W1.heap.size = w.heap.size + 2 := by rw [← hW1]; simp [hz0]
  have bN1 : NBx W1 (w.heap.size + 1) 0 0 0 0 0 := by rw [← hz0, ← hW1]; exact World.alloc_heap_new W0 _
  have bR1 := bR0.later hb01
  clear hW0
  gi_wp2_with fail
  try rw [hW1]
  clear hW1
  refine (from_any _ _ _ _ _).mono ?_
  rintro e w' ⟨rfl, hw'⟩
  obtain ⟨W2, hW2, hb2, hz2, f0, f1, f2⟩ := from_world W1 (.pointer (some ⟨S, 0, none⟩)) (0 : Nat) (1024 : Nat)
  rw [show ((0 : Nat) : Int) = 0 from rfl, show ((1024 : Nat) : Int) = 1024 from rfl, hw'] at hW2
  subst hW2
  clear hw'
  have bN2 := bN1.later hb2
  have bR2 := bR1.later hb2
  have hB2 := hb1.trans (hb2.mono hb1.size)
  have hSl := hS.lt
  have hPl := hP.lt
  rw [hz1] at f0 f1 f2
  gi_wp2_with fail
  try rw [hz1]
  refine range_g rfl (by decide) (gf := 83) (lb := #[.pointer (some ⟨w.heap.size + 2 + 1, 0, none⟩), .pointer (some ⟨w.heap.size + 2 + 2, 0, none⟩), .pointer (some ⟨w.heap.size + 2, 0, none⟩)]) rfl (wide_fn _) (enters_of Try.func83 (by kernel_rfl) rfl)
    (from_g 4 (by decide) S P (w.heap.size + 2 + 1) (w.heap.size + 2 + 2) (w.heap.size + 2) 0 1024 (by decide) (fun q => q = S ∨ (w.heap.size + 2 ≤ q ∧ q ≤ w.heap.size + 4)) (.inr (by omega)) (.inr (by omega)) (.inr (by omega)) (.inl rfl) _ v c h f1 f2 f0 (hS.later hB2)) (fun h k => KC.trans h k) (fun _ V k o o' hk hc _ => KC.putObj V k o o' hk hc) (fun _ => rfl)
    (fun pre V => NBx V (w.heap.size + 1) (cnK f 0 (pre.map Subtype.val)) (cnK f 1 (pre.map Subtype.val)) (cnK f 2 (pre.map Subtype.val)) (cnK f 3 (pre.map Subtype.val)) (cnH f (pre.map Subtype.val)) ∧ NBx V w.heap.size 0 0 0 0 0 ∧ Below w.heap.size w V)
    (fun _ _ _ => False)
    ?own (fun _ _ _ _ _ h _ _ => h) ?start ?a1 ?assign ?body ?done ?stop
  case assign =>
    intro l x Y K hK
    simp only [encP]
    gi_wp2
    exact hK
  case own => exact OwnFrom.and (own_NBx _ _ (fun pre : List Vn => cnK f 0 (pre.map Subtype.val)) (fun pre => cnK f 1 (pre.map Subtype.val)) (fun pre => cnK f 2 (pre.map Subtype.val)) (fun pre => cnK f 3 (pre.map Subtype.val)) (fun pre => cnH f (pre.map Subtype.val))) (OwnFrom.and (own_NBx _ _ (fun _ => 0) (fun _ => 0) (fun _ => 0) (fun _ => 0) (fun _ => 0)) (ownFrom_below (Nat.le_refl _) hB2.size))
  case start => exact ⟨bN2, bR2, hB2⟩
  case stop => exact fun _ _ _ _ _ _ h _ => h.elim
  case body =>
    rintro l pre x V ⟨h1, h2, hB⟩ hlen
    obtain ⟨x, hx⟩ := x
    have hpp : PgAt V P f := hP.of_heap (hB.block P hPl)
    have k0 := hpp.kd x hx
    have k1 := hpp.hu x hx
    have HA : Hid (∀ A' : World, Calls Try.prog 57 #[.int .i64 (x : Int)] A' fun e w' => e = .returned (.bool (decide (x % 16 = 0))) ∧ A' = w') := fun A' => isGroup_is x (by unfold I64; omega) _ (grpB_of hx) A'
    have hf5 : (Fence.wide.inRound l).fn 57 := hf4
    have hlm : (pre.map Subtype.val).length < 2000 := by rw [List.length_map]; exact hlen
    have l0 := cnK_len f 0 (pre.map Subtype.val)
    have l1 := cnK_len f 1 (pre.map Subtype.val)
    have l2 := cnK_len f 2 (pre.map Subtype.val)
    have l3 := cnK_len f 3 (pre.map Subtype.val)
    have l4 := cnH_len f (pre.map Subtype.val)
    have HI : Hid (∀ (V' : World), NBx V' (w.heap.size + 1) (cnK f 0 (pre.map Subtype.val) + if (f x).kd = 0 then 1 else 0) (cnK f 1 (pre.map Subtype.val) + if (f x).kd = 1 then 1 else 0) (cnK f 2 (pre.map Subtype.val) + if (f x).kd = 2 then 1 else 0) (cnK f 3 (pre.map Subtype.val) + if (f x).kd = 3 then 1 else 0) (cnH f (pre.map Subtype.val) + if (f x).hu = true ∧ x % 16 = 0 then 1 else 0) →
        NBx V' (w.heap.size + 1) (cnK f 0 ((pre ++ [(⟨x, hx⟩ : Vn)]).map Subtype.val)) (cnK f 1 ((pre ++ [(⟨x, hx⟩ : Vn)]).map Subtype.val)) (cnK f 2 ((pre ++ [(⟨x, hx⟩ : Vn)]).map Subtype.val)) (cnK f 3 ((pre ++ [(⟨x, hx⟩ : Vn)]).map Subtype.val)) (cnH f ((pre ++ [(⟨x, hx⟩ : Vn)]).map Subtype.val))) := by
      intro V' hV'
      rw [List.map_append, List.map_singleton, cnK_snoc, cnK_snoc, cnK_snoc, cnK_snoc, cnH_snoc]
      exact hV'
    generalize cnK f 0 (pre.map Subtype.val) = n0 at *
    generalize cnK f 1 (pre.map Subtype.val) = n1 at *
    generalize cnK f 2 (pre.map Subtype.val) = n2 at *
    generalize cnK f 3 (pre.map Subtype.val) = n3 at *
    generalize cnH f (pre.map Subtype.val) = n4 at *
    obtain ⟨kd, hu, bs, hfx⟩ : ∃ kd hu bs, f x = ⟨kd, hu, bs⟩ := ⟨(f x).kd, (f x).hu, (f x).by', rfl⟩
    rw [hfx] at k0 k1 HI
    simp only at k0 k1 HI
    replace l0 : n0 < 2000 := by omega
    replace l1 : n1 < 2000 := by omega
    replace l2 : n2 < 2000 := by omega
    replace l3 : n3 < 2000 := by omega
    replace l4 : n4 < 2000 := by omega
    clear hfx hpp hlm
    have q0 := h1.c0
    have q1 := h1.c1
    have q2 := h1.c2
    have q3 := h1.c3
    have q4 := h1.c4
    have qf := h1.frozen
    have FIN : Hid (∀ (V' : World), Keep (· = w.heap.size + 1) V V' → KeepsOthers V V' → NBx V' (w.heap.size + 1) (n0 + if kd = 0 then 1 else 0) (n1 + if kd = 1 then 1 else 0) (n2 + if kd = 2 then 1 else 0) (n3 + if kd = 3 then 1 else 0) (n4 + if hu = true ∧ x % 16 = 0 then 1 else 0) →
        KeepsFrom w'.heap.size V V' ∧ KC (fun q => q = S ∨ w.heap.size + 2 ≤ q ∧ q ≤ w.heap.size + 4) V V' ∧ NBx V' (w.heap.size + 1) (cnK f 0 ((pre ++ [(⟨x, hx⟩ : Vn)]).map Subtype.val)) (cnK f 1 ((pre ++ [(⟨x, hx⟩ : Vn)]).map Subtype.val)) (cnK f 2 ((pre ++ [(⟨x, hx⟩ : Vn)]).map Subtype.val)) (cnK f 3 ((pre ++ [(⟨x, hx⟩ : Vn)]).map Subtype.val)) (cnH f ((pre ++ [(⟨x, hx⟩ : Vn)]).map Subtype.val)) ∧ NBx V' w.heap.size 0 0 0 0 0 ∧ Below w.heap.size w V') :=
      fun V' hk ho hn => ⟨ho.from _, KC.of_keep hk (by rintro q (rfl | hq) e <;> omega), HI.out V' hn, (hk.block _ h2.lt (by omega)).trans h2, hB.trans (hk.below _ hB.size (fun q e => by omega))⟩
    have H1 := Lib.hid h1
    clear HI h1 h2 hB hP hS bN1 bR1 bN2 bR2 f0 f1 f2 hb2 hb1 hb01 hb0 bR0 hz0 hz1 hz2 hlen
    by_cases hk0 : kd = 0
    · subst hk0
      have q := H1.out.c0
      have qg := H1.out.frozen 0
      clear q0 q1 q2 q3 q4 qf
      simp only [show ((0 : Int) = 1) = False by simp, show ((0 : Int) = 2) = False by simp, show ((0 : Int) = 3) = False by simp, if_true, if_false, Nat.add_zero] at FIN
      cases hu
      · simp only [Bool.false_eq_true, false_and, if_false, Nat.add_zero] at FIN
        gi_wp2_with fail
        exact FIN.out _ ((Keep.refl (· = w.heap.size + 1) V).setCell _ _ (.inl rfl)) (KeepsOthers.setCell _ _ _) H1.out.i0
      · obtain ⟨G, hG⟩ : ∃ G, decide (x % 16 = 0) = G := ⟨_, rfl⟩
        rw [hG] at HA
        cases G
        · have hG2 : ¬ x % 16 = 0 := by simpa using hG
          simp only [hG2, and_false, if_false, Nat.add_zero] at FIN
          clear hG hG2
          gi_wp2_with fail
          refine (CallsIn.inRound l (callsIn_wide.2 (HA.out _))).mono ?_
          rintro e V' ⟨rfl, rfl⟩
          gi_wp2_with fail
          exact FIN.out _ ((Keep.refl (· = w.heap.size + 1) V).setCell _ _ (.inl rfl)) (KeepsOthers.setCell _ _ _) H1.out.i0
        · have hG2 : x % 16 = 0 := by simpa using hG
          simp only [hG2, and_self, if_true] at FIN
          clear hG hG2
          gi_wp2_with fail
          refine (CallsIn.inRound l (callsIn_wide.2 (HA.out _))).mono ?_
          rintro e V' ⟨rfl, rfl⟩
          have z4 := H1.out.i0.c4
          have zf := H1.out.i0.frozen 4
          gi_wp2_with fail
          exact FIN.out _ (((Keep.refl (· = w.heap.size + 1) V).setCell _ _ (.inl rfl)).setCell _ _ (.inl rfl)) ((KeepsOthers.setCell _ _ _).trans (KeepsOthers.setCell _ _ _)) H1.out.i0.i4
    by_cases hk1 : kd = 1
    · subst hk1
      have q := H1.out.c1
      have qg := H1.out.frozen 1
      clear q0 q1 q2 q3 q4 qf hk0
      simp only [show ((1 : Int) = 0) = False by simp, show ((1 : Int) = 2) = False by simp, show ((1 : Int) = 3) = False by simp, if_true, if_false, Nat.add_zero] at FIN
      cases hu
      · simp only [Bool.false_eq_true, false_and, if_false, Nat.add_zero] at FIN
        gi_wp2_with fail
        exact FIN.out _ ((Keep.refl (· = w.heap.size + 1) V).setCell _ _ (.inl rfl)) (KeepsOthers.setCell _ _ _) H1.out.i1
      · obtain ⟨G, hG⟩ : ∃ G, decide (x % 16 = 0) = G := ⟨_, rfl⟩
        rw [hG] at HA
        cases G
        · have hG2 : ¬ x % 16 = 0 := by simpa using hG
          simp only [hG2, and_false, if_false, Nat.add_zero] at FIN
          clear hG hG2
          gi_wp2_with fail
          refine (CallsIn.inRound l (callsIn_wide.2 (HA.out _))).mono ?_
          rintro e V' ⟨rfl, rfl⟩
          gi_wp2_with fail
          exact FIN.out _ ((Keep.refl (· = w.heap.size + 1) V).setCell _ _ (.inl rfl)) (KeepsOthers.setCell _ _ _) H1.out.i1
        · have hG2 : x % 16 = 0 := by simpa using hG
          simp only [hG2, and_self, if_true] at FIN
          clear hG hG2
          gi_wp2_with fail
          refine (CallsIn.inRound l (callsIn_wide.2 (HA.out _))).mono ?_
          rintro e V' ⟨rfl, rfl⟩
          have z4 := H1.out.i1.c4
          have zf := H1.out.i1.frozen 4
          gi_wp2_with fail
          exact FIN.out _ (((Keep.refl (· = w.heap.size + 1) V).setCell _ _ (.inl rfl)).setCell _ _ (.inl rfl)) ((KeepsOthers.setCell _ _ _).trans (KeepsOthers.setCell _ _ _)) H1.out.i1.i4
    by_cases hk2 : kd = 2
    · subst hk2
      have q := H1.out.c2
      have qg := H1.out.frozen 2
      clear q0 q1 q2 q3 q4 qf hk0 hk1
      simp only [show ((2 : Int) = 0) = False by simp, show ((2 : Int) = 1) = False by simp, show ((2 : Int) = 3) = False by simp, if_true, if_false, Nat.add_zero] at FIN
      cases hu
      · simp only [Bool.false_eq_true, false_and, if_false, Nat.add_zero] at FIN
        gi_wp2_with fail
        exact FIN.out _ ((Keep.refl (· = w.heap.size + 1) V).setCell _ _ (.inl rfl)) (KeepsOthers.setCell _ _ _) H1.out.i2
      · obtain ⟨G, hG⟩ : ∃ G, decide (x % 16 = 0) = G := ⟨_, rfl⟩
        rw [hG] at HA
        cases G
        · have hG2 : ¬ x % 16 = 0 := by simpa using hG
          simp only [hG2, and_false, if_false, Nat.add_zero] at FIN
          clear hG hG2
          gi_wp2_with fail
          refine (CallsIn.inRound l (callsIn_wide.2 (HA.out _))).mono ?_
          rintro e V' ⟨rfl, rfl⟩
          gi_wp2_with fail
          exact FIN.out _ ((Keep.refl (· = w.heap.size + 1) V).setCell _ _ (.inl rfl)) (KeepsOthers.setCell _ _ _) H1.out.i2
        · have hG2 : x % 16 = 0 := by simpa using hG
          simp only [hG2, and_self, if_true] at FIN
          clear hG hG2
          gi_wp2_with fail
          refine (CallsIn.inRound l (callsIn_wide.2 (HA.out _))).mono ?_
          rintro e V' ⟨rfl, rfl⟩
          have z4 := H1.out.i2.c4
          have zf := H1.out.i2.frozen 4
          gi_wp2_with fail
          exact FIN.out _ (((Keep.refl (· = w.heap.size + 1) V).setCell _ _ (.inl rfl)).setCell _ _ (.inl rfl)) ((KeepsOthers.setCell _ _ _).trans (KeepsOthers.setCell _ _ _)) H1.out.i2.i4
    by_cases hk3 : kd = 3
    · subst hk3
      have q := H1.out.c3
      have qg := H1.out.frozen 3
      clear q0 q1 q2 q3 q4 qf hk0 hk1 hk2
      simp only [show ((3 : Int) = 0) = False by simp, show ((3 : Int) = 1) = False by simp, show ((3 : Int) = 2) = False by simp, if_true, if_false, Nat.add_zero] at FIN
      cases hu
      · simp only [Bool.false_eq_true, false_and, if_false, Nat.add_zero] at FIN
        gi_wp2_with fail
        exact FIN.out _ ((Keep.refl (· = w.heap.size + 1) V).setCell _ _ (.inl rfl)) (KeepsOthers.setCell _ _ _) H1.out.i3
      · obtain ⟨G, hG⟩ : ∃ G, decide (x % 16 = 0) = G := ⟨_, rfl⟩
        rw [hG] at HA
        cases G
        · have hG2 : ¬ x % 16 = 0 := by simpa using hG
          simp only [hG2, and_false, if_false, Nat.add_zero] at FIN
          clear hG hG2
          gi_wp2_with fail
          refine (CallsIn.inRound l (callsIn_wide.2 (HA.out _))).mono ?_
          rintro e V' ⟨rfl, rfl⟩
          gi_wp2_with fail
          exact FIN.out _ ((Keep.refl (· = w.heap.size + 1) V).setCell _ _ (.inl rfl)) (KeepsOthers.setCell _ _ _) H1.out.i3
        · have hG2 : x % 16 = 0 := by simpa using hG
          simp only [hG2, and_self, if_true] at FIN
          clear hG hG2
          gi_wp2_with fail
          refine (CallsIn.inRound l (callsIn_wide.2 (HA.out _))).mono ?_
          rintro e V' ⟨rfl, rfl⟩
          have z4 := H1.out.i3.c4
          have zf := H1.out.i3.frozen 4
          gi_wp2_with fail
          exact FIN.out _ (((Keep.refl (· = w.heap.size + 1) V).setCell _ _ (.inl rfl)).setCell _ _ (.inl rfl)) ((KeepsOthers.setCell _ _ _).trans (KeepsOthers.setCell _ _ _)) H1.out.i3.i4
    have e0 : (kd == 0) = false := by simpa using hk0
    have e1 : (kd == 1) = false := by simpa using hk1
    have e2 : (kd == 2) = false := by simpa using hk2
    have e3 : (kd == 3) = false := by simpa using hk3
    simp only [hk0, hk1, hk2, hk3, if_false, Nat.add_zero] at FIN
    clear q0 q1 q2 q3 q4 qf hk0 hk1 hk2 hk3
    cases hu
    · simp only [Bool.false_eq_true, false_and, if_false, Nat.add_zero] at FIN
      gi_wp2_with fail
      exact FIN.out _ (Keep.refl (· = w.heap.size + 1) V) (KeepsOthers.refl _) H1.out
    · obtain ⟨G, hG⟩ : ∃ G, decide (x % 16 = 0) = G := ⟨_, rfl⟩
      rw [hG] at HA
      cases G
      · have hG2 : ¬ x % 16 = 0 := by simpa using hG
        simp only [hG2, and_false, if_false, Nat.add_zero] at FIN
        clear hG hG2
        gi_wp2_with fail
        refine (CallsIn.inRound l (callsIn_wide.2 (HA.out _))).mono ?_
        rintro e V' ⟨rfl, rfl⟩
        gi_wp2_with fail
        exact FIN.out _ (Keep.refl (· = w.heap.size + 1) V) (KeepsOthers.refl _) H1.out
      · have hG2 : x % 16 = 0 := by simpa using hG
        simp only [hG2, and_self, if_true] at FIN
        clear hG hG2
        gi_wp2_with fail
        refine (CallsIn.inRound l (callsIn_wide.2 (HA.out _))).mono ?_
        rintro e V' ⟨rfl, rfl⟩
        have z4 := H1.out.c4
        have zf := H1.out.frozen 4
        gi_wp2_with fail
        exact FIN.out _ ((Keep.refl (· = w.heap.size + 1) V).setCell _ _ (.inl rfl)) (KeepsOthers.setCell _ _ _) H1.out.i4
  case done =>
    rintro D ys V hD hys ⟨h1, h2, hB⟩ hK
    rw [hys] at h1
    obtain ⟨n0, hn0⟩ : ∃ n, cnK f 0 (List.range' 0 1024) = n := ⟨_, rfl⟩
    obtain ⟨n1, hn1⟩ : ∃ n, cnK f 1 (List.range' 0 1024) = n := ⟨_, rfl⟩
    obtain ⟨n2, hn2⟩ : ∃ n, cnK f 2 (List.range' 0 1024) = n := ⟨_, rfl⟩
    obtain ⟨n3, hn3⟩ : ∃ n, cnK f 3 (List.range' 0 1024) = n := ⟨_, rfl⟩
    obtain ⟨n4, hn4⟩ : ∃ n, cnH f (List.range' 0 1024) = n := ⟨_, rfl⟩
    have HV : Hid (cnV f (List.range' 0 1024) = v5 n0 n1 n2 n3 n4) := by unfold Hid cnV; rw [hn0, hn1, hn2, hn3, hn4]
    rw [hn0, hn1, hn2, hn3, hn4] at h1
    clear hn0 hn1 hn2 hn3 hn4
    have q0 := h1.c0
    have q1 := h1.c1
    have q2 := h1.c2
    have q3 := h1.c3
    have q4 := h1.c4
    have r0 := h2.c0
    have r1 := h2.c1
    have r2 := h2.c2
    have r3 := h2.c3
    have r4 := h2.c4
    have rf := h2.frozen
    have rl := h2.lt
    clear hys
    gi_wp2_with fail
    have g5 := ((((h2.s0 n0).s1 n1).s2 n2).s3 n3).s4 n4
    have cB := ((((hB.setCell (p := ⟨w.heap.size, 0, none⟩) (Nat.le_refl _) (.int .i64 (n0 : Int))).setCell (p := ⟨w.heap.size, 1, none⟩) (Nat.le_refl _) (.int .i64 (n1 : Int))).setCell (p := ⟨w.heap.size, 2, none⟩) (Nat.le_refl _) (.int .i64 (n2 : Int))).setCell (p := ⟨w.heap.size, 3, none⟩) (Nat.le_refl _) (.int .i64 (n3 : Int))).setCell (p := ⟨w.heap.size, 4, none⟩) (Nat.le_refl _) (.int .i64 (n4 : Int))
    obtain ⟨V5, hV5⟩ : ∃ x, ((((V.setCell ⟨w.heap.size, 0, none⟩ (.int .i64 (n0 : Int))).setCell ⟨w.heap.size, 1, none⟩ (.int .i64 (n1 : Int))).setCell ⟨w.heap.size, 2, none⟩ (.int .i64 (n2 : Int))).setCell ⟨w.heap.size, 3, none⟩ (.int .i64 (n3 : Int))).setCell ⟨w.heap.size, 4, none⟩ (.int .i64 (n4 : Int)) = x := ⟨_, rfl⟩
    have cK : V5.heap[D]? = some (.deferred (some [])) := by
      rw [← hV5, Below.heap_setCell _ _ _ _ (by simp; omega), Below.heap_setCell _ _ _ _ (by simp; omega), Below.heap_setCell _ _ _ _ (by simp; omega), Below.heap_setCell _ _ _ _ (by simp; omega), Below.heap_setCell _ _ _ _ (by simp; omega)]; exact hK
    rw [hV5] at g5 cB ⊢
    have g6 : NBx (V5.putObj D (.deferred none)) w.heap.size n0 n1 n2 n3 n4 := (World.putObj_heap_other (by omega)).trans g5
    have hld : (loadVar 67 ⟨w.heap.size, 0, none⟩).run Try.prog _ = _ := run_loadVar_row _ _ 67 67 _ _ _ g6 Try.underlying67 rfl (n5_i _ _ _ _ _)
    refine ⟨by simp, .inl ⟨D, _, rfl, run_takeDeferred cK, ?_⟩⟩
    exact ⟨.tuple #[.agg (v5 n0 n1 n2 n3 n4), .int .i64 0], by simp [results, Try.results29, asAddr, hld], by rw [HV.out], cB.trans (belowK_b (w := w) (Nat.le_refl _) V5 D _ _ (by omega) cK rfl rfl)⟩
end Go.Proofs.Ytnmeeddhagmjdaa
