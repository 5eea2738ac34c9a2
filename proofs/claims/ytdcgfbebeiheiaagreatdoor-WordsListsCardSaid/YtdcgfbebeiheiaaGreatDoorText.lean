/- Names and texts: the program's and the reference's. -/
import Derived.Test.YtdcgfbebeiheiaaGreatDoorBytes
import Derived.Handy
namespace Go.Proofs.YtdcgfbebeiheiaaGreatDoor
open Go.RowKit

theorem drop_get (s : ByteArray) (k : Nat) (h : k < s.size) : s.data.toList.drop k = s[k] :: s.data.toList.drop (k + 1) := by
  have h' : k < s.data.toList.length := by simpa using h
  rw [List.drop_eq_getElem_cons h']; rfl
def inB (lo hi : Int) (c : UInt8) : Bool := decide (lo ≤ (c.toNat : Int) ∧ (c.toNat : Int) ≤ hi)
def withinB (lo hi : Int) (l : List UInt8) : Bool := l.all (inB lo hi)
def textB (l : List UInt8) : Bool := decide (l.length ≤ 200) && withinB 32 126 l
def wordB (c : UInt8) : Bool := isLetB c.toNat || isDigB c.toNat || decide ((c.toNat : Int) = 95)
def nameB (l : List UInt8) : Bool := decide (1 ≤ l.length ∧ l.length ≤ 16) && (isLetB ((l.headD 0).toNat)) && (l.drop 1).all wordB

theorem inB_yes {lo hi : Int} {c : UInt8} (h1 : lo ≤ (c.toNat : Int)) (h2 : (c.toNat : Int) ≤ hi) : inB lo hi c = true := decide_eq_true ⟨h1, h2⟩
theorem inB_no {lo hi : Int} {c : UInt8} (h : (c.toNat : Int) < lo ∨ hi < (c.toNat : Int)) : inB lo hi c = false := decide_eq_false (by omega)
theorem withinB_cons (lo hi : Int) (c : UInt8) (l : List UInt8) : withinB lo hi (c :: l) = (inB lo hi c && withinB lo hi l) := List.all_cons
theorem byte_lt (c : UInt8) : (c.toNat : Int) ≤ 255 := by have := c.toNat_lt; omega

set_option maxHeartbeats 400000 in
theorem within_any (s : ByteArray) (lo hi : Int) (w : World) (hs : s.size ≤ maxLen) :
    Calls Tryz.prog 67 #[.string s, .int .u8 lo, .int .u8 hi] w fun e w' => e = .returned (.bool (withinB lo hi s.data.toList)) ∧ w = w' := by
  unfold maxLen at hs
  go_enter Tryz.func67, Tryz.ntmps67
  go_wp2
  go_loop [10] (fun i => ∃ k : Nat, k ≤ s.size ∧ i = .int .i64 k ∧ Hid (withinB lo hi s.data.toList = withinB lo hi (s.data.toList.drop k))) (fun i => s.size - (intOf i).toNat)
  case atStart => exact ⟨0, Nat.zero_le _, rfl, rfl⟩
  case round =>
    obtain ⟨k, hk, rfl, HR⟩ := hrel
    by_cases hlt : k < s.size
    · have hd : Hid (s.data.toList.drop k = s[k] :: s.data.toList.drop (k + 1)) := drop_get s k hlt
      by_cases h1 : lo ≤ (s[k].toNat : Int) <;> by_cases h2 : (s[k].toNat : Int) ≤ hi
      · go_wp2
        all_goals first | (exfalso; omega) | skip
        go_round
        case rel => exact ⟨k + 1, by omega, by go_num, by unfold Hid; rw [HR.out, hd.out, withinB_cons, inB_yes h1 h2]; rfl⟩
        case measure => simp [intOf]; omega
      all_goals
        go_wp2
        all_goals first | (exfalso; omega) | skip
        go_ret
        exact ⟨ret_bool (by rw [HR.out, hd.out, withinB_cons, inB_no (by omega)]; rfl), rfl⟩
    · have h0 : Hid (s.data.toList.drop k = []) := List.drop_eq_nil_of_le (by simp; omega)
      go_wp2
      go_ret
      exact ⟨ret_bool (by rw [HR.out, h0.out]; rfl), rfl⟩

set_option maxHeartbeats 400000 in
theorem Text_any (s : ByteArray) (w : World) (hs : s.size ≤ maxLen) :
    Calls Tryz.prog 45 #[.string s] w fun e w' => e = .returned (.bool (textB s.data.toList)) ∧ w = w' := by
  have hs' := hs
  unfold maxLen at hs'
  by_cases hl : s.size ≤ 200
  all_goals
    go_enter Tryz.func45, Tryz.ntmps45
    go_wp2_with (go_at_call 67; refine (within_any s _ _ _ hs).mono ?_; rintro e w' ⟨rfl, rfl⟩)
    go_ret
    exact ⟨ret_bool (by unfold textB; simp [hl]), rfl⟩

set_option maxHeartbeats 400000 in
theorem refdigit_any (c : Int) (w : World) : Calls Tryz.prog 53 #[.int .u8 c] w fun e w' => e = .returned (.bool (isDigB c)) ∧ w = w' := by
  unfold isDigB
  by_cases h1 : 48 ≤ c <;> by_cases h2 : c ≤ 57 <;> (try (exfalso; omega))
  all_goals
    go_enter Tryz.func53, Tryz.ntmps53
    go_wp2
    go_ret
    exact ⟨ret_bool (by simp <;> omega), rfl⟩

set_option maxHeartbeats 400000 in
theorem refText_any (s : ByteArray) (w : World) (hs : s.size ≤ maxLen) :
    Calls Tryz.prog 59 #[.string s] w fun e w' => e = .returned (.bool (textB s.data.toList)) ∧ w = w' := by
  unfold maxLen at hs
  go_enter Tryz.func59, Tryz.ntmps59
  go_wp2
  go_loop [3] (fun i => ∃ k : Nat, k ≤ s.size ∧ i = .int .i64 k ∧ Hid (withinB 32 126 s.data.toList = withinB 32 126 (s.data.toList.drop k))) (fun i => s.size - (intOf i).toNat)
  case atStart => exact ⟨0, Nat.zero_le _, rfl, rfl⟩
  case round =>
    obtain ⟨k, hk, rfl, HR⟩ := hrel
    by_cases hlt : k < s.size
    · have hd : Hid (s.data.toList.drop k = s[k] :: s.data.toList.drop (k + 1)) := drop_get s k hlt
      by_cases h1 : (32 : Int) ≤ (s[k].toNat : Int) <;> by_cases h2 : (s[k].toNat : Int) ≤ 126
      · go_wp2
        all_goals first | (exfalso; omega) | skip
        go_round
        case rel => exact ⟨k + 1, by omega, by go_num, by unfold Hid; rw [HR.out, hd.out, withinB_cons, inB_yes h1 h2]; rfl⟩
        case measure => simp [intOf]; omega
      all_goals
        go_wp2
        all_goals first | (exfalso; omega) | (go_ret; exact ⟨ret_bool (by unfold textB; rw [HR.out, hd.out, withinB_cons, inB_no (by omega), Bool.false_and, Bool.and_false]), rfl⟩)
    · have h0 : Hid (s.data.toList.drop k = []) := List.drop_eq_nil_of_le (by simp; omega)
      go_wp2
      go_ret
      exact ⟨ret_bool (by unfold textB; rw [HR.out, h0.out]; simp [withinB]; omega), rfl⟩

theorem wordB_def (c : UInt8) : wordB c = (isLetB c.toNat || isDigB c.toNat || decide ((c.toNat : Int) = 95)) := rfl

theorem nameB_all (l : List UInt8) (h1 : isLetB ((l.headD 0).toNat) = true) : (l.drop 1).all wordB = l.all wordB := by
  cases l with
  | nil => rfl
  | cons c l => simp only [List.headD_cons] at h1; simp [wordB, h1]

end Go.Proofs.YtdcgfbebeiheiaaGreatDoor
