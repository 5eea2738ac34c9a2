/- checkRun, checkSize. -/
import Derived.Test.YtpplleojdcgceaaDoorCheck
namespace Go.Proofs.YtpplleojdcgceaaDoor
open Go.RowKit

/-- What checkRun answers. -/
def runB (N : Int) (ws : List Nat) (a t : Int) : Int := if checkB N ws ≠ 0 then checkB N ws else if a < 0 ∨ t < a ∨ N < t then 7 else 0
def sizeB (N : Int) (ws : List Nat) (s : Int) : Int := if checkB N ws ≠ 0 then checkB N ws else if s < 1 then 2 else 0
theorem Check_is (N : Int) (v : Value) (ws : List Nat) (c : Int) (hc : checkB N ws = c) (hf : Fit64 ws) (w : World) (h : WAt w v ws) :
    Calls Tryd.prog 19 #[bv N v] w fun e w' => e = .returned (.int .i64 c) ∧ Below w.heap.size w w' := by subst hc; exact Check_any N v ws hf w h

set_option maxRecDepth 100000 in
set_option maxHeartbeats 1000000 in
theorem checkRun_any (N : Int) (v : Value) (ws : List Nat) (a t : Int) (hf : Fit64 ws) (w : World) (h : WAt w v ws) :
    Calls Tryd.prog 56 #[bv N v, .int .i64 a, .int .i64 t] w fun e w' => e = .returned (.int .i64 (runB N ws a t)) ∧ Below w.heap.size w w' := by
  obtain ⟨c, hc⟩ : ∃ c, checkB N ws = c := ⟨_, rfl⟩
  have HC := Lib.hid hc
  have hd : Hid (runB N ws a t = if c ≠ 0 then c else if a < 0 ∨ t < a ∨ N < t then 7 else 0) := by unfold Hid runB; rw [hc]
  clear hc
  have b1 : Below w.heap.size w (w.alloc (.cells #[.int .i64 N, v] 24)) := (Below.refl _ _).alloc (Nat.le_refl _) _
  by_cases h0 : c = 0
  case neg =>
    have hq : (c != 0) = true := by simp [h0]
    have hd2 : Hid (runB N ws a t = c) := by unfold Hid; rw [hd.out, if_pos h0]
    clear h0
    go_enter Tryd.func56, Tryd.ntmps56
    go_wp2_with fail
    refine (Check_is N v ws c HC.out hf _ (h.later b1)).mono ?_
    rintro e w1 ⟨rfl, hB⟩
    go_wp2
    go_ret
    exact ⟨ret_int hd2.out.symm, b1.trans (hB.mono b1.size)⟩
  have hq : (c != 0) = false := by simp [h0]
  have hd2 : Hid (runB N ws a t = if a < 0 ∨ t < a ∨ N < t then 7 else 0) := by unfold Hid; rw [hd.out, if_neg (by simp [h0])]
  clear h0
  by_cases h1 : a < 0 <;> by_cases h2 : t < a <;> by_cases h3 : N < t
  all_goals
    go_enter Tryd.func56, Tryd.ntmps56
    go_wp2_with fail
    refine (Check_is N v ws c HC.out hf _ (h.later b1)).mono ?_
    rintro e w1 ⟨rfl, hB⟩
    obtain ⟨hcl, _⟩ := bcell hB
    go_wp2
    all_goals first | (exfalso; omega) | skip
    go_ret
    exact ⟨ret_int (by rw [hd2.out]; simp [h1, h2, h3]), b1.trans (hB.mono b1.size)⟩

set_option maxRecDepth 100000 in
set_option maxHeartbeats 1000000 in
theorem checkSize_any (N : Int) (v : Value) (ws : List Nat) (s : Int) (hf : Fit64 ws) (w : World) (h : WAt w v ws) :
    Calls Tryd.prog 67 #[bv N v, .int .i64 s] w fun e w' => e = .returned (.int .i64 (sizeB N ws s)) ∧ Below w.heap.size w w' := by
  obtain ⟨c, hc⟩ : ∃ c, checkB N ws = c := ⟨_, rfl⟩
  have HC := Lib.hid hc
  have hd : Hid (sizeB N ws s = if c ≠ 0 then c else if s < 1 then 2 else 0) := by unfold Hid sizeB; rw [hc]
  clear hc
  have b1 : Below w.heap.size w (w.alloc (.cells #[.int .i64 N, v] 24)) := (Below.refl _ _).alloc (Nat.le_refl _) _
  by_cases h0 : c = 0
  case neg =>
    have hq : (c != 0) = true := by simp [h0]
    have hd2 : Hid (sizeB N ws s = c) := by unfold Hid; rw [hd.out, if_pos h0]
    clear h0
    go_enter Tryd.func67, Tryd.ntmps67
    go_wp2_with fail
    refine (Check_is N v ws c HC.out hf _ (h.later b1)).mono ?_
    rintro e w1 ⟨rfl, hB⟩
    go_wp2
    go_ret
    exact ⟨ret_int hd2.out.symm, b1.trans (hB.mono b1.size)⟩
  have hq : (c != 0) = false := by simp [h0]
  have hd2 : Hid (sizeB N ws s = if s < 1 then 2 else 0) := by unfold Hid; rw [hd.out, if_neg (by simp [h0])]
  clear h0
  by_cases h1 : s < 1
  all_goals
    go_enter Tryd.func67, Tryd.ntmps67
    go_wp2_with fail
    refine (Check_is N v ws c HC.out hf _ (h.later b1)).mono ?_
    rintro e w1 ⟨rfl, hB⟩
    go_wp2
    go_ret
    exact ⟨ret_int (by rw [hd2.out]; simp [h1]), b1.trans (hB.mono b1.size)⟩
end Go.Proofs.YtpplleojdcgceaaDoor
