/- The reference's Same; RefusalsSame. -/
import Derived.Test.YtldebakeebajkaaDoorRfSm
namespace Go.Proofs.YtldebakeebajkaaDoor
open Go.RowKit Go.Shelf
attribute [local go_sem] Oper.semAt_some

set_option maxRecDepth 100000 in
set_option maxHeartbeats 1000000 in
theorem RSame_bad (v u : Value) (l1 l2 : List RlI) (i1 i2 : Nat) (c1 c2 r : Int) (h1 : chkP l1 = (i1, c1)) (h2 : chkP l2 = (i2, c2)) (hr0 : (if c1 = 0 then c2 else c1) = r) (hne : r ≠ 0) (w : World) (hr : RAt w v l1) (hs : RAt w u l2) :
    Calls Tryd.prog 23 #[.agg #[v], .agg #[u]] w fun e w' => e = .returned (.tuple #[.bool false, .int .i64 r]) ∧ Below w.heap.size w w' := by
  obtain ⟨WL, hWL, hbL, bP, bQ⟩ := two_plans w v u
  have q1 := bP.cell
  have HC := Lib.hid (RCheck_is v l1 i1 c1 h1 WL (hr.later hbL))
  have HC2 := Lib.hid (fun W hW => RCheck_is u l2 i2 c2 h2 W hW)
  have hsL := hs.later hbL
  clear h1 h2
  by_cases hc : c1 = 0
  · rw [if_pos hc] at hr0
    subst hc hr0
    have hq : (c2 != 0) = true := by simp [hne]
    clear hne
    go_enter Tryd.func23, Tryd.ntmps23
    go_wp2_with fail
    try rw [hWL]
    refine HC.out.mono ?_
    rintro e w1 ⟨rfl, B1⟩
    have q2 := (bQ.kept (grown_of_below B1) (by simp)).cell
    have hB1 := hbL.trans (B1.mono hbL.size)
    clear hWL q1
    go_wp2_with fail
    refine (HC2.out _ (hsL.later B1)).mono ?_
    rintro e w2 ⟨rfl, B2⟩
    go_wp2
    go_ret2
    exact ⟨rfl, hB1.trans (B2.mono hB1.size)⟩
  · rw [if_neg hc] at hr0
    subst hr0
    have hq : (c1 != 0) = true := by simp [hc]
    have hq2 : (c1 == 0) = false := by simp [hc]
    clear hne hc
    go_enter Tryd.func23, Tryd.ntmps23
    go_wp2_with fail
    try rw [hWL]
    refine HC.out.mono ?_
    rintro e w1 ⟨rfl, B1⟩
    have hB1 := hbL.trans (B1.mono hbL.size)
    clear hWL q1
    go_wp2_with fail
    go_ret2
    exact ⟨rfl, hB1⟩
set_option maxRecDepth 100000 in
set_option maxHeartbeats 1000000 in
theorem RSame_ok (v u : Value) (L M : List Ru) (hL : OkL L) (hM : OkL M) (b : Bool) (A : Nat) (hA : A = 49708) (hb : b = true ↔ ∀ k, k < 7 → ∀ n, n ≤ A → refP L k n = refP M k n) (w : World) (hr : RAt w v (toI L)) (hs : RAt w u (toI M)) :
    Calls Tryd.prog 23 #[.agg #[v], .agg #[u]] w fun e w' => e = .returned (.tuple #[.bool b, .int .i64 0]) ∧ Below w.heap.size w w' := by
  obtain ⟨WL, hWL, hbL, bP, bQ⟩ := two_plans w v u
  have q1 := bP.cell
  have HC := Lib.hid (RCheck_is v (toI L) 0 0 (chkP_of hL) WL (hr.later hbL))
  have HC2 := Lib.hid (fun W hW => RCheck_is u (toI M) 0 0 (chkP_of hM) W hW)
  have HS := Lib.hid (fun W hv hu => Rsame_is v u L M hL hM b A hA hb W hv hu)
  have hrL := hr.later hbL
  have hsL := hs.later hbL
  clear hb hA
  go_enter Tryd.func23, Tryd.ntmps23
  go_wp2_with fail
  try rw [hWL]
  refine HC.out.mono ?_
  rintro e w1 ⟨rfl, B1⟩
  have b1 := bP.kept (grown_of_below B1) (by simp)
  have b2 := bQ.kept (grown_of_below B1) (by simp)
  have q2 := b2.cell
  have hB1 := hbL.trans (B1.mono hbL.size)
  clear hWL q1
  go_wp2_with fail
  refine (HC2.out _ (hsL.later B1)).mono ?_
  rintro e w2 ⟨rfl, B2⟩
  have q3 := (b1.kept (grown_of_below B2) (by simp)).cell
  have q4 := (b2.kept (grown_of_below B2) (by simp)).cell
  have hB2 := hB1.trans (B2.mono hB1.size)
  clear q2
  go_wp2_with fail
  refine (HS.out _ ((hrL.later B1).later B2) ((hsL.later B1).later B2)).mono ?_
  rintro e w3 ⟨rfl, B3⟩
  go_wp2
  go_ret2
  exact ⟨rfl, hB2.trans (B3.mono hB2.size)⟩
set_option maxRecDepth 100000 in
set_option maxHeartbeats 1000000 in
theorem same_far1 (v u : Value) (l1 : List RlI) (hf : farB l1.length = true) (w : World) (hw : Gd w) (hr : RAt w v l1) :
    Calls Tryd.prog 4 #[.agg #[v], .agg #[u]] w fun e w' => e = .returned (.bool true) ∧ Below w.heap.size w w' := by
  obtain ⟨WL, hWL, hbL, bP, bQ⟩ := two_plans w v u
  have q1 := bP.cell
  have HF := Lib.hid (far_is v l1 true hf WL (hr.later hbL))
  clear hf
  go_enter Tryd.func4, Tryd.ntmps4
  go_wp2_with fail
  try rw [hWL]
  refine HF.out.mono ?_
  rintro e w1 ⟨rfl, B1⟩
  have hB1 := hbL.trans (B1.mono hbL.size)
  clear hWL
  go_wp2_with fail
  refine (shown_is _ (hw.later hB1)).mono ?_
  rintro e w2 ⟨rfl, B2⟩
  go_wp2
  go_ret
  exact ⟨rfl, hB1.trans (B2.mono hB1.size)⟩
set_option maxRecDepth 100000 in
set_option maxHeartbeats 1000000 in
theorem same_far2 (v u : Value) (l1 l2 : List RlI) (hf : farB l1.length = false) (hf2 : farB l2.length = true) (w : World) (hw : Gd w) (hr : RAt w v l1) (hs : RAt w u l2) :
    Calls Tryd.prog 4 #[.agg #[v], .agg #[u]] w fun e w' => e = .returned (.bool true) ∧ Below w.heap.size w w' := by
  obtain ⟨WL, hWL, hbL, bP, bQ⟩ := two_plans w v u
  have q1 := bP.cell
  have HF := Lib.hid (far_is v l1 false hf WL (hr.later hbL))
  have HF2 := Lib.hid (fun W hW => far_is u l2 true hf2 W hW)
  clear hf hf2
  go_enter Tryd.func4, Tryd.ntmps4
  go_wp2_with fail
  try rw [hWL]
  refine HF.out.mono ?_
  rintro e w1 ⟨rfl, B1⟩
  have hB1 := hbL.trans (B1.mono hbL.size)
  have q2 := (bQ.kept (grown_of_below B1) (by simp)).cell
  clear hWL q1
  go_wp2_with fail
  refine (HF2.out _ ((hs.later hbL).later B1)).mono ?_
  rintro e w2 ⟨rfl, B2⟩
  have hB2 := hB1.trans (B2.mono hB1.size)
  go_wp2_with fail
  refine (shown_is _ (hw.later hB2)).mono ?_
  rintro e w3 ⟨rfl, B3⟩
  go_wp2
  go_ret
  exact ⟨rfl, hB2.trans (B3.mono hB2.size)⟩
set_option maxRecDepth 100000 in
set_option maxHeartbeats 1000000 in
theorem same_any (v u : Value) (l1 l2 : List RlI) (hf : farB l1.length = false) (hf2 : farB l2.length = false) (w : World) (hw : Gd w) (hr : RAt w v l1) (hs : RAt w u l2) (b : Bool) (r : Int)
    (hS : ∀ W, RAt W v l1 → RAt W u l2 → Calls Tryd.prog 22 #[.agg #[v], .agg #[u]] W fun e w' => e = .returned (.tuple #[.bool b, .int .i64 r]) ∧ Below W.heap.size W w')
    (hRS : ∀ W, RAt W v l1 → RAt W u l2 → Calls Tryd.prog 23 #[.agg #[v], .agg #[u]] W fun e w' => e = .returned (.tuple #[.bool b, .int .i64 r]) ∧ Below W.heap.size W w') :
    Calls Tryd.prog 4 #[.agg #[v], .agg #[u]] w fun e w' => e = .returned (.bool true) ∧ Below w.heap.size w w' := by
  obtain ⟨WL, hWL, hbL, bP, bQ⟩ := two_plans w v u
  have q1 := bP.cell
  have HF := Lib.hid (far_is v l1 false hf WL (hr.later hbL))
  have HF2 := Lib.hid (fun W hW => far_is u l2 false hf2 W hW)
  have HS := Lib.hid hS
  have HRS := Lib.hid hRS
  have hrL := hr.later hbL
  have hsL := hs.later hbL
  clear hf hf2 hS hRS
  go_enter Tryd.func4, Tryd.ntmps4
  go_wp2_with fail
  try rw [hWL]
  refine HF.out.mono ?_
  rintro e w1 ⟨rfl, B1⟩
  have hB1 := hbL.trans (B1.mono hbL.size)
  have b1 := bP.kept (grown_of_below B1) (by simp)
  have b2 := bQ.kept (grown_of_below B1) (by simp)
  have q2 := b2.cell
  clear hWL q1
  go_wp2_with fail
  refine (HF2.out _ (hsL.later B1)).mono ?_
  rintro e w2 ⟨rfl, B2⟩
  have hB2 := hB1.trans (B2.mono hB1.size)
  have d1 := b1.kept (grown_of_below B2) (by simp)
  have d2 := b2.kept (grown_of_below B2) (by simp)
  have q3 := d1.cell
  have q4 := d2.cell
  clear q2
  go_wp2_with fail
  refine (HS.out _ ((hrL.later B1).later B2) ((hsL.later B1).later B2)).mono ?_
  rintro e w3 ⟨rfl, B3⟩
  have hB3 := hB2.trans (B3.mono hB2.size)
  have q5 := (d1.kept (grown_of_below B3) (by simp)).cell
  have q6 := (d2.kept (grown_of_below B3) (by simp)).cell
  clear q3 q4
  go_wp2_with fail
  refine (HRS.out _ (((hrL.later B1).later B2).later B3) (((hsL.later B1).later B2).later B3)).mono ?_
  rintro e w4 ⟨rfl, B4⟩
  have hB4 := hB3.trans (B4.mono hB3.size)
  clear q5 q6
  go_wp2_with fail
  refine (shown_is _ (hw.later hB4)).mono ?_
  rintro e w5 ⟨rfl, B5⟩
  go_wp2
  go_ret
  exact ⟨rfl, hB4.trans (B5.mono hB4.size)⟩
theorem law_same (v u : Value) (l1 l2 : List RlI) (w : World) (hw : Gd w) (hr : RAt w v l1) (hs : RAt w u l2) :
    Calls Tryd.prog 4 #[.agg #[v], .agg #[u]] w fun e w' => e = .returned (.bool true) ∧ Below w.heap.size w w' := by
  cases hf : farB l1.length
  · cases hf2 : farB l2.length
    · obtain ⟨i1, c1, h1⟩ : ∃ i c, chkP l1 = (i, c) := ⟨_, _, rfl⟩
      obtain ⟨i2, c2, h2⟩ : ∃ i c, chkP l2 = (i, c) := ⟨_, _, rfl⟩
      obtain ⟨r, hr0⟩ : ∃ r, (if c1 = 0 then c2 else c1) = r := ⟨_, rfl⟩
      by_cases hne : r = 0
      · have hc1 : c1 = 0 := by
          by_cases h : c1 = 0
          · exact h
          · rw [if_neg h] at hr0; omega
        have hc2 : c2 = 0 := by rw [if_pos hc1] at hr0; omega
        obtain ⟨L, rfl, hL⟩ := chkP_ok (l := l1) (by rw [h1]; exact hc1)
        obtain ⟨M, rfl, hM⟩ := chkP_ok (l := l2) (by rw [h2]; exact hc2)
        obtain ⟨A, hA⟩ : ∃ A : Nat, A = 49708 := ⟨_, rfl⟩
        obtain ⟨b, hb⟩ : ∃ b : Bool, b = true ↔ ∀ k, k < 7 → ∀ n, n ≤ A → refP L k n = refP M k n := by
          by_cases h : ∀ k, k < 7 → ∀ n, n ≤ A → refP L k n = refP M k n
          · exact ⟨true, ⟨fun _ => h, fun _ => rfl⟩⟩
          · exact ⟨false, ⟨fun e => (by cases e), fun e => absurd e h⟩⟩
        exact same_any v u _ _ hf hf2 w hw hr hs b 0 (fun W hv hu => Same_ok v u L M hL hM b A hA hb W hv hu) (fun W hv hu => RSame_ok v u L M hL hM b A hA hb W hv hu)
      · exact same_any v u _ _ hf hf2 w hw hr hs false r (fun W hv hu => Same_bad v u l1 l2 i1 i2 c1 c2 r h1 h2 hr0 hne W hv hu) (fun W hv hu => RSame_bad v u l1 l2 i1 i2 c1 c2 r h1 h2 hr0 hne W hv hu)
    · exact same_far2 v u l1 l2 hf hf2 w hw hr hs
  · exact same_far1 v u l1 hf w hw hr
end Go.Proofs.YtldebakeebajkaaDoor
