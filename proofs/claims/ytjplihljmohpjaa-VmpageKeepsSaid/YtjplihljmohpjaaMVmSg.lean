/- One call that changes something. -/
import Derived.Test.YtjplihljmohpjaaMVmSe
import Derived.Test.YtjplihljmohpjaaKj
namespace Go.Proofs.Ytjplihljmohpjaa
open Go.RowKit Go.Shelf
attribute [local go_sem] Oper.semAt_some

/-- What returns an error changes nothing, but for the count of calls if it is refused. -/
def KpR (f : Pages) (L : List Ru) (m : Nat → Nat) (e : Int) (f' : Pages) (L' : List Ru) (m' : Nat → Nat) : Prop := e ≠ 0 → f' = f ∧ L' = L ∧ (e ≠ 60 → m' = m)
theorem doA_kp (C : Cl) (f : Pages) (L : List Ru) (m : Nat → Nat) (a n : Nat) : KpR f L m (doA C f L m a n).1 (doA C f L m a n).2.1 L (doA C f L m a n).2.2 := by
  unfold doA KpR
  split
  · exact fun _ => ⟨rfl, rfl, fun _ => rfl⟩
  · split
    · exact fun _ => ⟨rfl, rfl, fun h => absurd rfl h⟩
    · exact fun h => absurd rfl h
theorem opP_kp (C : Cl) (f : Pages) (L : List Ru) (m : Nat → Nat) (a n : Int) : KpR f L m (opP C f L m a n).1 (opP C f L m a n).2.1 L (opP C f L m a n).2.2 := by
  unfold opP
  split
  · exact doA_kp _ _ _ _ _ _
  · exact fun _ => ⟨rfl, rfl, fun _ => rfl⟩
theorem opG_kp (C : Cl) (f : Pages) (L : List Ru) (m : Nat → Nat) (a : Int) : KpR f L m (opG C f L m a).1 (opG C f L m a).2.1 L (opG C f L m a).2.2 := by
  unfold opG
  split
  · exact doA_kp _ _ _ _ _ _
  · exact fun _ => ⟨rfl, rfl, fun _ => rfl⟩
theorem wr_kp (f : Pages) (L : List Ru) (m : Nat → Nat) (t b : Int) : KpR f L m (rdE f t).2 (wrF f t b) L m := by
  unfold KpR rdE wrF
  split
  · exact fun _ => ⟨rfl, rfl, fun _ => rfl⟩
  · split
    · exact fun h => absurd rfl h
    · exact fun _ => ⟨rfl, rfl, fun _ => rfl⟩
abbrev CallR (S P : Nat) (X : Nat → Prop) (w : World) (e : Int) (f' : Pages) (L' : List Ru) (m' : Nat → Nat) (en : Ending) (w' : World) : Prop := en = .returned (.int .i64 e) ∧ Sys w' S P X f' L' m' ∧ Keep (SP S P) w w'
set_option maxRecDepth 100000 in
set_option maxHeartbeats 8000000 in
theorem call_is (S P : Nat) (X : Nat → Prop) (f : Pages) (L : List Ru) (hL : OkL L) (m : Nat → Nat) (hm : Sm m) (x : Ac) (B0 : Nat) (w : World) (hx : AcOk w B0 x) (hs : Sys w S P X f L m) :
    ∃ e f' L' m', KpR f L m e f' L' m' ∧ OkL L' ∧ Calls Try.prog 22 #[.pointer (some ⟨S, 0, none⟩), .agg (acA x.q x.a x.n x.t x.b x.r)] w (CallR S P X w e f' L' m') := by
  obtain ⟨q, a, n, t, b, r, l⟩ := x
  obtain ⟨q0, q1, ha, hr, hro⟩ := hx
  simp only at q0 q1 ha hr hro ⊢
  obtain ⟨k, hk, hq⟩ := what_cases q0 q1
  obtain ⟨W1, hW1⟩ : ∃ x, w.alloc (.cells (acA q a n t b r) 38) = x := ⟨_, rfl⟩
  have hb1 : Below w.heap.size w W1 := by rw [← hW1]; exact (Below.refl _ _).alloc (Nat.le_refl _) _
  have bA : ABx W1 w.heap.size q a n t b r := by rw [← hW1]; exact World.alloc_heap_new w _
  have HS := Lib.hid (hs.later hb1)
  have HR := Lib.hid (hr.later hb1)
  have c0 := bA.c0
  have c1 := bA.c1
  have c2 := bA.c2
  have c3 := bA.c3
  have c4 := bA.c4
  have c5 := bA.c5
  have HL := Lib.hid hL
  have HM := Lib.hid hm
  have HA := Lib.hid ha
  clear hs hr hro bA hL hm ha q0 q1
  have hk2 : k = 0 ∨ k = 1 ∨ k = 2 ∨ k = 3 ∨ k = 4 ∨ k = 5 ∨ k = 6 ∨ k = 7 ∨ k = 8 ∨ k = 9 ∨ k = 10 ∨ k = 11 ∨ k = 12 ∨ k = 13 ∨ k = 14 ∨ k = 15 ∨ k = 16 ∨ k = 17 ∨ k = 18 := by omega
  clear hk
  rcases hk2 with rfl | rfl | rfl | rfl | rfl | rfl | rfl | rfl | rfl | rfl | rfl | rfl | rfl | rfl | rfl | rfl | rfl | rfl | rfl
  · refine ⟨_, _, _, _, opP_kp (cTurn 0 0 1) f L m a n, HL.out, ?_⟩
    go_enter Try.func22, Try.ntmps22
    go_wp2_with fail
    try rw [hW1]
    refine (Reserve_is S P X f L HL.out m HM.out a n HA.out W1 HS.out).mono ?_
    rintro e w2 ⟨rfl, s2, k2⟩
    go_wp2_with fail
    go_ret
    exact ⟨rfl, s2, (Keep.of_below hb1).trans k2⟩
  · refine ⟨_, _, _, _, opP_kp (cTurn 0 0 1) f L m a n, HL.out, ?_⟩
    go_enter Try.func22, Try.ntmps22
    go_wp2_with fail
    try rw [hW1]
    refine (Reserve_is S P X f L HL.out m HM.out a n HA.out W1 HS.out).mono ?_
    rintro e w2 ⟨rfl, s2, k2⟩
    go_wp2_with fail
    go_ret
    exact ⟨rfl, s2, (Keep.of_below hb1).trans k2⟩
  · refine ⟨_, _, _, _, opP_kp (cTurn 1 1 0) f L m a n, HL.out, ?_⟩
    go_enter Try.func22, Try.ntmps22
    go_wp2_with fail
    try rw [hW1]
    refine (Release_is S P X f L HL.out m HM.out a n HA.out W1 HS.out).mono ?_
    rintro e w2 ⟨rfl, s2, k2⟩
    go_wp2_with fail
    go_ret
    exact ⟨rfl, s2, (Keep.of_below hb1).trans k2⟩
  · refine ⟨_, _, _, _, opP_kp (cTurn 2 1 2) f L m a n, HL.out, ?_⟩
    go_enter Try.func22, Try.ntmps22
    go_wp2_with fail
    try rw [hW1]
    refine (Commit_is S P X f L HL.out m HM.out a n HA.out W1 HS.out).mono ?_
    rintro e w2 ⟨rfl, s2, k2⟩
    go_wp2_with fail
    go_ret
    exact ⟨rfl, s2, (Keep.of_below hb1).trans k2⟩
  · refine ⟨_, _, _, _, opP_kp (cTurn 2 1 2) f L m a n, HL.out, ?_⟩
    go_enter Try.func22, Try.ntmps22
    go_wp2_with fail
    try rw [hW1]
    refine (Commit_is S P X f L HL.out m HM.out a n HA.out W1 HS.out).mono ?_
    rintro e w2 ⟨rfl, s2, k2⟩
    go_wp2_with fail
    go_ret
    exact ⟨rfl, s2, (Keep.of_below hb1).trans k2⟩
  · refine ⟨_, _, _, _, opP_kp (cTurn 2 1 2) f L m a n, HL.out, ?_⟩
    go_enter Try.func22, Try.ntmps22
    go_wp2_with fail
    try rw [hW1]
    refine (Commit_is S P X f L HL.out m HM.out a n HA.out W1 HS.out).mono ?_
    rintro e w2 ⟨rfl, s2, k2⟩
    go_wp2_with fail
    go_ret
    exact ⟨rfl, s2, (Keep.of_below hb1).trans k2⟩
  · refine ⟨_, _, _, _, opP_kp (cTurn 3 2 1) f L m a n, HL.out, ?_⟩
    go_enter Try.func22, Try.ntmps22
    go_wp2_with fail
    try rw [hW1]
    refine (Decommit_is S P X f L HL.out m HM.out a n HA.out W1 HS.out).mono ?_
    rintro e w2 ⟨rfl, s2, k2⟩
    go_wp2_with fail
    go_ret
    exact ⟨rfl, s2, (Keep.of_below hb1).trans k2⟩
  · refine ⟨_, _, _, _, opP_kp (cTurn 3 2 1) f L m a n, HL.out, ?_⟩
    go_enter Try.func22, Try.ntmps22
    go_wp2_with fail
    try rw [hW1]
    refine (Decommit_is S P X f L HL.out m HM.out a n HA.out W1 HS.out).mono ?_
    rintro e w2 ⟨rfl, s2, k2⟩
    go_wp2_with fail
    go_ret
    exact ⟨rfl, s2, (Keep.of_below hb1).trans k2⟩
  · by_cases hp2 : n.tmod 2 = 0
    · have hpb : (n.tmod 2 == 0) = true := by simpa using hp2
      refine ⟨_, _, _, _, opP_kp (cTurn 4 1 3) f L m a n, HL.out, ?_⟩
      go_enter Try.func22, Try.ntmps22
      go_wp2_with fail
      try rw [hW1]
      refine (Guard_is S P X f L HL.out m HM.out a n HA.out W1 HS.out).mono ?_
      rintro e w2 ⟨rfl, s2, k2⟩
      go_wp2_with fail
      go_ret
      exact ⟨rfl, s2, (Keep.of_below hb1).trans k2⟩
    · have hpb : (n.tmod 2 == 0) = false := by simpa using hp2
      refine ⟨_, _, _, _, opP_kp (cTurn 4 3 1) f L m a n, HL.out, ?_⟩
      go_enter Try.func22, Try.ntmps22
      go_wp2_with fail
      try rw [hW1]
      refine (Unguard_is S P X f L HL.out m HM.out a n HA.out W1 HS.out).mono ?_
      rintro e w2 ⟨rfl, s2, k2⟩
      go_wp2_with fail
      go_ret
      exact ⟨rfl, s2, (Keep.of_below hb1).trans k2⟩
  · by_cases hp2 : n.tmod 2 = 0
    · have hpb : (n.tmod 2 == 0) = true := by simpa using hp2
      refine ⟨_, _, _, _, opP_kp (cTurn 4 1 3) f L m a n, HL.out, ?_⟩
      go_enter Try.func22, Try.ntmps22
      go_wp2_with fail
      try rw [hW1]
      refine (Guard_is S P X f L HL.out m HM.out a n HA.out W1 HS.out).mono ?_
      rintro e w2 ⟨rfl, s2, k2⟩
      go_wp2_with fail
      go_ret
      exact ⟨rfl, s2, (Keep.of_below hb1).trans k2⟩
    · have hpb : (n.tmod 2 == 0) = false := by simpa using hp2
      refine ⟨_, _, _, _, opP_kp (cTurn 4 3 1) f L m a n, HL.out, ?_⟩
      go_enter Try.func22, Try.ntmps22
      go_wp2_with fail
      try rw [hW1]
      refine (Unguard_is S P X f L HL.out m HM.out a n HA.out W1 HS.out).mono ?_
      rintro e w2 ⟨rfl, s2, k2⟩
      go_wp2_with fail
      go_ret
      exact ⟨rfl, s2, (Keep.of_below hb1).trans k2⟩
  · refine ⟨_, _, _, _, opG_kp cJoin f L m a, HL.out, ?_⟩
    go_enter Try.func22, Try.ntmps22
    go_wp2_with fail
    try rw [hW1]
    refine (Join_is S P X f L HL.out m HM.out a HA.out W1 HS.out).mono ?_
    rintro e w2 ⟨rfl, s2, k2⟩
    go_wp2_with fail
    go_ret
    exact ⟨rfl, s2, (Keep.of_below hb1).trans k2⟩
  · refine ⟨_, _, _, _, opG_kp cJoin f L m a, HL.out, ?_⟩
    go_enter Try.func22, Try.ntmps22
    go_wp2_with fail
    try rw [hW1]
    refine (Join_is S P X f L HL.out m HM.out a HA.out W1 HS.out).mono ?_
    rintro e w2 ⟨rfl, s2, k2⟩
    go_wp2_with fail
    go_ret
    exact ⟨rfl, s2, (Keep.of_below hb1).trans k2⟩
  · refine ⟨_, _, _, _, opG_kp cSplit f L m a, HL.out, ?_⟩
    go_enter Try.func22, Try.ntmps22
    go_wp2_with fail
    try rw [hW1]
    refine (Split_is S P X f L HL.out m HM.out a HA.out W1 HS.out).mono ?_
    rintro e w2 ⟨rfl, s2, k2⟩
    go_wp2_with fail
    go_ret
    exact ⟨rfl, s2, (Keep.of_below hb1).trans k2⟩
  · refine ⟨_, _, _, _, wr_kp f L m t b, HL.out, ?_⟩
    go_enter Try.func22, Try.ntmps22
    go_wp2_with fail
    try rw [hW1]
    refine (Write_is S P X f L m t b W1 HS.out _ rfl).mono ?_
    rintro e w2 ⟨rfl, s2, k2⟩
    go_wp2_with fail
    go_ret
    exact ⟨rfl, s2, (Keep.of_below hb1).trans k2⟩
  · refine ⟨_, _, _, _, wr_kp f L m t b, HL.out, ?_⟩
    go_enter Try.func22, Try.ntmps22
    go_wp2_with fail
    try rw [hW1]
    refine (Write_is S P X f L m t b W1 HS.out _ rfl).mono ?_
    rintro e w2 ⟨rfl, s2, k2⟩
    go_wp2_with fail
    go_ret
    exact ⟨rfl, s2, (Keep.of_below hb1).trans k2⟩
  · refine ⟨_, _, _, _, wr_kp f L m t b, HL.out, ?_⟩
    go_enter Try.func22, Try.ntmps22
    go_wp2_with fail
    try rw [hW1]
    refine (Write_is S P X f L m t b W1 HS.out _ rfl).mono ?_
    rintro e w2 ⟨rfl, s2, k2⟩
    go_wp2_with fail
    go_ret
    exact ⟨rfl, s2, (Keep.of_below hb1).trans k2⟩
  · obtain ⟨j, c, hc⟩ : ∃ j c, chkP l = (j, c) := ⟨_, _, rfl⟩
    by_cases h0 : c = 0
    · obtain ⟨L', rfl, hL'⟩ := chkP_ok (l := l) (by rw [hc]; exact h0)
      refine ⟨0, f, L', fun _ => 0, fun h => absurd rfl h, hL', ?_⟩
      have HP := Lib.hid (Plan_ok S P X f L m r L' hL' W1 HS.out HR.out)
      clear hc h0
      go_enter Try.func22, Try.ntmps22
      go_wp2_with fail
      try rw [hW1]
      refine HP.out.mono ?_
      rintro e w2 ⟨rfl, s2, k2⟩
      go_wp2_with fail
      go_ret
      exact ⟨rfl, s2, (Keep.of_below hb1).trans k2⟩
    · refine ⟨c, f, L, m, fun _ => ⟨rfl, rfl, fun _ => rfl⟩, HL.out, ?_⟩
      have HP := Lib.hid (Plan_bad S P X f L m r l j c hc h0 W1 HS.out HR.out)
      clear hc h0
      go_enter Try.func22, Try.ntmps22
      go_wp2_with fail
      try rw [hW1]
      refine HP.out.mono ?_
      rintro e w2 ⟨rfl, s2, k2⟩
      go_wp2_with fail
      go_ret
      exact ⟨rfl, s2, (Keep.of_below hb1).trans k2⟩
  · obtain ⟨j, c, hc⟩ : ∃ j c, chkP l = (j, c) := ⟨_, _, rfl⟩
    by_cases h0 : c = 0
    · obtain ⟨L', rfl, hL'⟩ := chkP_ok (l := l) (by rw [hc]; exact h0)
      refine ⟨0, f, L', fun _ => 0, fun h => absurd rfl h, hL', ?_⟩
      have HP := Lib.hid (Plan_ok S P X f L m r L' hL' W1 HS.out HR.out)
      clear hc h0
      go_enter Try.func22, Try.ntmps22
      go_wp2_with fail
      try rw [hW1]
      refine HP.out.mono ?_
      rintro e w2 ⟨rfl, s2, k2⟩
      go_wp2_with fail
      go_ret
      exact ⟨rfl, s2, (Keep.of_below hb1).trans k2⟩
    · refine ⟨c, f, L, m, fun _ => ⟨rfl, rfl, fun _ => rfl⟩, HL.out, ?_⟩
      have HP := Lib.hid (Plan_bad S P X f L m r l j c hc h0 W1 HS.out HR.out)
      clear hc h0
      go_enter Try.func22, Try.ntmps22
      go_wp2_with fail
      try rw [hW1]
      refine HP.out.mono ?_
      rintro e w2 ⟨rfl, s2, k2⟩
      go_wp2_with fail
      go_ret
      exact ⟨rfl, s2, (Keep.of_below hb1).trans k2⟩
  · obtain ⟨j, c, hc⟩ : ∃ j c, chkP l = (j, c) := ⟨_, _, rfl⟩
    by_cases h0 : c = 0
    · obtain ⟨L', rfl, hL'⟩ := chkP_ok (l := l) (by rw [hc]; exact h0)
      refine ⟨0, f, L', fun _ => 0, fun h => absurd rfl h, hL', ?_⟩
      have HP := Lib.hid (Plan_ok S P X f L m r L' hL' W1 HS.out HR.out)
      clear hc h0
      go_enter Try.func22, Try.ntmps22
      go_wp2_with fail
      try rw [hW1]
      refine HP.out.mono ?_
      rintro e w2 ⟨rfl, s2, k2⟩
      go_wp2_with fail
      go_ret
      exact ⟨rfl, s2, (Keep.of_below hb1).trans k2⟩
    · refine ⟨c, f, L, m, fun _ => ⟨rfl, rfl, fun _ => rfl⟩, HL.out, ?_⟩
      have HP := Lib.hid (Plan_bad S P X f L m r l j c hc h0 W1 HS.out HR.out)
      clear hc h0
      go_enter Try.func22, Try.ntmps22
      go_wp2_with fail
      try rw [hW1]
      refine HP.out.mono ?_
      rintro e w2 ⟨rfl, s2, k2⟩
      go_wp2_with fail
      go_ret
      exact ⟨rfl, s2, (Keep.of_below hb1).trans k2⟩
end Go.Proofs.Ytjplihljmohpjaa
