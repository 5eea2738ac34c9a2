/- The calls of a system. -/
import Derived.Test.YtnmeeddhagmjdaaVmG
namespace Go.Proofs.Ytnmeeddhagmjdaa
open Go.RowKit Go.Shelf
attribute [local go_sem] Oper.semAt_some

abbrev cTurn (k : Nat) (x y : Int) : Cl := ⟨k, chkT x, chgT y⟩
abbrev cJoin : Cl := ⟨5, chkJ, chgJ⟩
abbrev cSplit : Cl := ⟨6, chkS, chgS⟩
theorem boxed_keep {W V : World} {b : Nat} {t : TypeId} {v : Value} {q : Nat → Prop} (s : Boxed W b t v) (hb : Keep q W V) (hq : ¬ q b) : Boxed V b t v := (hb.block b s.lt hq).trans s
theorem callv_turn (S P k : Nat) (x y : Int) (b1 b2 : Nat) (w : World) (h1 : Boxed w b1 3 (.int .i64 x)) (h2 : Boxed w b2 3 (.int .i64 y)) (n1 : ¬ SP S P b1) (n2 : ¬ SP S P b2) : CallV w S P (turnV k b1 b2) (cTurn k x y) :=
  ⟨90, 91, _, _, rfl, enters_of Try.func90 (by kernel_rfl) rfl, enters_of Try.func91 (by kernel_rfl) rfl,
    fun V f hK hp j hj => turn1_is x b1 P f j hj V (boxed_keep h1 hK n1) hp _ rfl, fun V f hK hp j hj => turn2_is y b2 P f j hj V (boxed_keep h2 hK n2) hp⟩
theorem callv_join (S P : Nat) (w : World) : CallV w S P joinV cJoin :=
  ⟨98, 99, _, _, rfl, enters_of Try.func98 (by kernel_rfl) rfl, enters_of Try.func99 (by kernel_rfl) rfl,
    fun V f _ hp j hj => join1_is P f j hj V hp _ rfl, fun V f _ hp j hj => join2_is P f j hj V hp⟩
theorem callv_split (S P : Nat) (w : World) : CallV w S P splitV cSplit :=
  ⟨93, 94, _, _, rfl, enters_of Try.func93 (by kernel_rfl) rfl, enters_of Try.func94 (by kernel_rfl) rfl,
    fun V f _ hp j hj => split1_is P f j hj V hp _ rfl, fun V f _ hp j hj => split2_is P f j hj V hp⟩
/-- What a call for pages leaves; for a group. -/
def opP (C : Cl) (f : Pages) (L : List Ru) (m : Nat → Nat) (a n : Int) : Int × Pages × (Nat → Nat) := if areB a n = true then doA C f L m a.toNat n.toNat else (7, f, m)
def opG (C : Cl) (f : Pages) (L : List Ru) (m : Nat → Nat) (a : Int) : Int × Pages × (Nat → Nat) := if grpB a = true then doA C f L m a.toNat 16 else (7, f, m)
theorem grpB_nat {a : Int} (h : grpB a = true) : ∃ x : Nat, a = (x : Int) ∧ x + 16 ≤ 1024 ∧ x % 16 = 0 := by
  unfold grpB at h
  rw [Bool.and_eq_true] at h
  obtain ⟨x, y, rfl, _, h2, h3⟩ := areB_nat h.1
  have h4 : ((x : Nat) : Int).tmod 16 = 0 := by simpa using h.2
  rw [Int.tmod_eq_emod_of_nonneg (by omega)] at h4
  exact ⟨x, rfl, by omega, by omega⟩
/-- A call of the system leaves R. -/
abbrev Left (S P : Nat) (X : Nat → Prop) (L : List Ru) (w : World) (R : Int × Pages × (Nat → Nat)) (e : Ending) (w' : World) : Prop := e = .returned (.int .i64 R.1) ∧ Sys w' S P X R.2.1 L R.2.2 ∧ Keep (SP S P) w w'

theorem box_call (w : World) (k : Int) (fc fg : Value) : ∃ W, w.alloc (.cells #[.int .i64 k, fc, fg] 120) = W ∧ Below w.heap.size w W ∧ CBox W w.heap.size k fc fg := ⟨_, rfl, (Below.refl _ _).alloc (Nat.le_refl _) _, World.alloc_heap_new w _⟩
set_option maxRecDepth 100000 in
set_option maxHeartbeats 2000000 in
theorem onPages_is (S P : Nat) (X : Nat → Prop) (f : Pages) (L : List Ru) (hL : OkL L) (m : Nat → Nat) (hm : Sm m) (C : Cl) (hk7 : C.kd < 7) (cv : Value) (a n : Int) (ha : I64 a) (w : World) (hs : Sys w S P X f L m) (hC : CallV w S P cv C) :
    Calls Try.prog 68 #[.pointer (some ⟨S, 0, none⟩), cv, .int .i64 a, .int .i64 n] w (Left S P X L w (opP C f L m a n)) := by
  have hC0 := hC
  obtain ⟨cf, gf, clb, glb, hcv, _, _, _, _⟩ := hC
  obtain ⟨W1, hW1, hb1, bC⟩ := box_call w C.kd (.func (.func cf) #[] clb) (.func (.func gf) #[] glb)
  have hs1 := hs.later hb1
  have hC1 := hC0.later (Keep.of_below hb1)
  obtain ⟨R, hR⟩ : ∃ R, opP C f L m a n = R := ⟨_, rfl⟩
  have hR2 := hR
  rw [hR]
  clear hR
  unfold opP at hR2
  obtain ⟨b, hb⟩ : ∃ b, areB a n = b := ⟨_, rfl⟩
  have HA := Lib.hid (arePages_is a n ha b hb)
  rw [hb] at hR2
  have HR := Lib.hid hR2
  obtain ⟨vS, sV⟩ := hs1
  have HM := Lib.hid (made_yes S P vS _ _ W1 sV.box)
  cases b
  · rw [if_neg (by simp)] at hR2
    subst hR2
    clear hb
    subst hcv
    go_enter Try.func68, Try.ntmps68
    go_wp2_with fail
    try rw [hW1]
    refine HM.out.mono ?_
    rintro e w' ⟨rfl, rfl⟩
    go_wp2_with fail
    refine (HA.out _).mono ?_
    rintro e w' ⟨rfl, rfl⟩
    go_wp2_with fail
    go_ret
    exact ⟨rfl, ⟨vS, sV⟩, Keep.of_below hb1⟩
  · obtain ⟨x, y, rfl, rfl, h1, h2⟩ := areB_nat hb
    have HD := Lib.hid (do_is S P X f L hL m hm C hk7 cv x y h2 W1 ⟨vS, sV⟩ hC1)
    rw [hcv] at HD
    subst hcv
    clear hb hR2
    go_enter Try.func68, Try.ntmps68
    go_wp2_with fail
    try rw [hW1]
    refine HM.out.mono ?_
    rintro e w' ⟨rfl, rfl⟩
    go_wp2_with fail
    refine (HA.out _).mono ?_
    rintro e w' ⟨rfl, rfl⟩
    go_wp2_with (refine wpList_load_row rfl 120 _ rfl w.heap.size rfl 120 _ (0, 0) _ bC Try.underlying120 rfl (call_i _ rfl) ?_)
    refine HD.out.mono ?_
    rintro e w2 ⟨rfl, h5, h6⟩
    go_wp2_with fail
    go_ret
    rw [← HR.out]
    exact ⟨rfl, h5, (Keep.of_below hb1).trans h6⟩
set_option maxRecDepth 100000 in
set_option maxHeartbeats 2000000 in
theorem onGroup_is (S P : Nat) (X : Nat → Prop) (f : Pages) (L : List Ru) (hL : OkL L) (m : Nat → Nat) (hm : Sm m) (C : Cl) (hk7 : C.kd < 7) (cv : Value) (a : Int) (ha : I64 a) (w : World) (hs : Sys w S P X f L m) (hC : CallV w S P cv C) :
    Calls Try.prog 73 #[.pointer (some ⟨S, 0, none⟩), cv, .int .i64 a] w (Left S P X L w (opG C f L m a)) := by
  have hC0 := hC
  obtain ⟨cf, gf, clb, glb, hcv, _, _, _, _⟩ := hC
  obtain ⟨W1, hW1, hb1, bC⟩ := box_call w C.kd (.func (.func cf) #[] clb) (.func (.func gf) #[] glb)
  have hs1 := hs.later hb1
  have hC1 := hC0.later (Keep.of_below hb1)
  obtain ⟨R, hR⟩ : ∃ R, opG C f L m a = R := ⟨_, rfl⟩
  have hR2 := hR
  rw [hR]
  clear hR
  unfold opG at hR2
  obtain ⟨b, hb⟩ : ∃ b, grpB a = b := ⟨_, rfl⟩
  have HA := Lib.hid (isGroup_is a ha b hb)
  rw [hb] at hR2
  have HR := Lib.hid hR2
  obtain ⟨vS, sV⟩ := hs1
  have HM := Lib.hid (made_yes S P vS _ _ W1 sV.box)
  cases b
  · rw [if_neg (by simp)] at hR2
    subst hR2
    clear hb
    subst hcv
    go_enter Try.func73, Try.ntmps73
    go_wp2_with fail
    try rw [hW1]
    refine HM.out.mono ?_
    rintro e w' ⟨rfl, rfl⟩
    go_wp2_with fail
    refine (HA.out _).mono ?_
    rintro e w' ⟨rfl, rfl⟩
    go_wp2_with fail
    go_ret
    exact ⟨rfl, ⟨vS, sV⟩, Keep.of_below hb1⟩
  · obtain ⟨x, rfl, h2, _⟩ := grpB_nat hb
    have HD := Lib.hid (do_is S P X f L hL m hm C hk7 cv x 16 h2 W1 ⟨vS, sV⟩ hC1)
    rw [hcv] at HD
    subst hcv
    clear hb hR2
    go_enter Try.func73, Try.ntmps73
    go_wp2_with fail
    try rw [hW1]
    refine HM.out.mono ?_
    rintro e w' ⟨rfl, rfl⟩
    go_wp2_with fail
    refine (HA.out _).mono ?_
    rintro e w' ⟨rfl, rfl⟩
    go_wp2_with (refine wpList_load_row rfl 120 _ rfl w.heap.size rfl 120 _ (0, 0) _ bC Try.underlying120 rfl (call_i _ rfl) ?_)
    refine HD.out.mono ?_
    rintro e w2 ⟨rfl, h5, h6⟩
    go_wp2_with fail
    go_ret
    rw [← HR.out]
    exact ⟨rfl, h5, (Keep.of_below hb1).trans h6⟩
/-- Of a system that was not made. -/
abbrev NilE (w : World) (e : Ending) (w' : World) : Prop := e = .returned (.int .i64 1) ∧ Below w.heap.size w w'
set_option maxRecDepth 100000 in
theorem onPages_no (s : Value) (k : Int) (fc fg : Value) (a n : Int) (w : World) (hs : Unmade w s) :
    Calls Try.prog 68 #[s, .agg #[.int .i64 k, fc, fg], .int .i64 a, .int .i64 n] w (NilE w) := by
  obtain ⟨W1, hW1, hb1, bC⟩ := box_call w k fc fg
  have HM := Lib.hid (made_no s W1 (hs.later hb1))
  clear hs
  go_enter Try.func68, Try.ntmps68
  go_wp2_with fail
  try rw [hW1]
  refine HM.out.mono ?_
  rintro e w' ⟨rfl, rfl⟩
  go_wp2_with fail
  go_ret
  exact ⟨rfl, hb1⟩
set_option maxRecDepth 100000 in
theorem onGroup_no (s : Value) (k : Int) (fc fg : Value) (a : Int) (w : World) (hs : Unmade w s) :
    Calls Try.prog 73 #[s, .agg #[.int .i64 k, fc, fg], .int .i64 a] w (NilE w) := by
  obtain ⟨W1, hW1, hb1, bC⟩ := box_call w k fc fg
  have HM := Lib.hid (made_no s W1 (hs.later hb1))
  clear hs
  go_enter Try.func73, Try.ntmps73
  go_wp2_with fail
  try rw [hW1]
  refine HM.out.mono ?_
  rintro e w' ⟨rfl, rfl⟩
  go_wp2_with fail
  go_ret
  exact ⟨rfl, hb1⟩
set_option maxRecDepth 100000 in
theorem Reserve_is (S P : Nat) (X : Nat → Prop) (f : Pages) (L : List Ru) (hL : OkL L) (m : Nat → Nat) (hm : Sm m) (a n : Int) (ha : I64 a) (w : World) (hs : Sys w S P X f L m) :
    Calls Try.prog 36 #[.pointer (some ⟨S, 0, none⟩), .int .i64 a, .int .i64 n] w (Left S P X L w (opP (cTurn 0 0 1) f L m a n)) := by
  have hSP : ∀ k, SP S P k → k < w.heap.size := by
    obtain ⟨v, s⟩ := hs
    rintro k (rfl | rfl)
    · exact s.box.lt
    · exact s.pg.lt
  go_enter Try.func36, Try.ntmps36
  go_wp2_with fail
  refine (turn_is 0 0 1 w).mono ?_
  rintro e w1 ⟨rfl, b1, b2, B1⟩
  go_wp2_with fail
  refine (onPages_is S P X f L hL m hm (cTurn 0 0 1) (by decide) _ a n ha w1 (hs.later B1) (callv_turn S P 0 0 1 _ _ w1 b1 b2 (fun h => by have := hSP _ h; omega) (fun h => by have := hSP _ h; omega))).mono ?_
  rintro e w2 ⟨rfl, h2, h3⟩
  go_wp2_with fail
  go_ret
  exact ⟨rfl, h2, (Keep.of_below B1).trans h3⟩
set_option maxRecDepth 100000 in
theorem Reserve_no (s : Value) (a n : Int) (w : World) (hs : Unmade w s) :
    Calls Try.prog 36 #[s, .int .i64 a, .int .i64 n] w (NilE w) := by
  have HS := Lib.hid hs
  clear hs
  go_enter Try.func36, Try.ntmps36
  go_wp2_with fail
  refine (turn_is 0 0 1 w).mono ?_
  rintro e w1 ⟨rfl, b1, b2, B1⟩
  go_wp2_with fail
  refine (onPages_no s 0 _ _ a n w1 (HS.out.later B1)).mono ?_
  rintro e w2 ⟨rfl, B2⟩
  go_wp2_with fail
  go_ret
  exact ⟨rfl, B1.trans (B2.mono B1.size)⟩
end Go.Proofs.Ytnmeeddhagmjdaa
