/- The contracts of the functions on single bytes. -/
import Derived.Test.YtdcgfbebeiheiaaGreatDoorBase
namespace Go.Proofs.YtdcgfbebeiheiaaGreatDoor
open Go.RowKit

def isDigB (c : Int) : Bool := decide (48 ≤ c ∧ c ≤ 57)
def isLetB (c : Int) : Bool := decide (97 ≤ c ∧ c ≤ 122 ∨ 65 ≤ c ∧ c ≤ 90)
/-- The value of a digit, 16 for what is none. -/
def dvB (c : Int) : Nat := if 48 ≤ c ∧ c ≤ 57 then (c - 48).toNat else if 97 ≤ c ∧ c ≤ 102 then (c - 87).toNat else 16

theorem dvB_hex (k : Nat) (hk : k < 16) : dvB (hexB k) = k := by unfold dvB hexB; split <;> split <;> (try split) <;> omega
theorem dvB_le (c : Int) : dvB c ≤ 16 := by unfold dvB; split <;> (try split) <;> omega
theorem dvB_get (c : Int) (h : dvB c < 16) : hexB (dvB c) = c := by unfold dvB hexB at *; split at h <;> (try split at h) <;> (try split) <;> omega

set_option maxHeartbeats 400000 in
theorem digitValue_any (c : Int) (w : World) (hw : Gd w) : Calls Tryz.prog 98 #[.int .u8 c] w fun e w' => e = .returned (.int .i64 (dvB c)) ∧ w = w' := by
  go_enter Tryz.func98, Tryz.ntmps98
  go_wp2
  go_loop [3] (fun v => ∃ k : Nat, k ≤ dvB c ∧ v = .int .i64 k) (fun v => 16 - (intOf v).toNat)
  case atStart => exact ⟨0, Nat.zero_le _, rfl⟩
  case round =>
    obtain ⟨k, hk, rfl⟩ := hrel
    have hle := dvB_le c
    by_cases hlt : k < 16
    · have hc := hw.dig k hlt
      have hgk := dvB_hex k hlt
      by_cases he : hexB k = c
      · have hk' : dvB c = k := by rw [← he]; exact hgk
        have he1 : (hexB k != c) = false := by simp [he]
        have Hk := Lib.hid hk'
        clear hgk he hk'
        go_wp2
        go_ret
        exact ⟨ret_int (by rw [Hk.out]), rfl⟩
      · have he1 : (hexB k != c) = true := by simp [he]
        have hk2 : k < dvB c := by
          rcases Nat.lt_or_ge k (dvB c) with h | h
          · exact h
          · exfalso; apply he; have : k = dvB c := by omega
            rw [this]; exact dvB_get c (by omega)
        clear hgk he
        go_wp2
        go_round
        case rel => exact ⟨k + 1, by omega, by go_num⟩
        case measure => simp [intOf]; omega
    · have hk' : dvB c = k := by omega
      have Hk := Lib.hid hk'
      clear hk'
      go_wp2
      go_ret
      exact ⟨ret_int (by rw [Hk.out]), rfl⟩

theorem isDigB_dv (c : Int) : isDigB c = decide ((dvB c : Int) < 10) := by
  unfold isDigB dvB
  rw [decide_eq_decide]
  split <;> (try split) <;> omega

set_option maxHeartbeats 400000 in
theorem isDecimalDigit_any (c : Int) (w : World) (hw : Gd w) : Calls Tryz.prog 88 #[.int .u8 c] w fun e w' => e = .returned (.bool (isDigB c)) ∧ w = w' := by
  have hle := dvB_le c
  go_enter Tryz.func88, Tryz.ntmps88
  go_wp2_with (go_at_call 98; refine (digitValue_any _ _ hw).mono ?_; rintro e w' ⟨rfl, rfl⟩)
  go_ret
  exact ⟨ret_bool (isDigB_dv c).symm, rfl⟩
end Go.Proofs.YtdcgfbebeiheiaaGreatDoor
