/- Names and texts: the program's and the reference's. -/
import Derived.Test.YtdcgfbebeiheiaaDoorBytes
import Derived.Handy
namespace Go.Proofs.YtdcgfbebeiheiaaDoor
open Go.RowKit

theorem drop_get (s : ByteArray) (k : Nat) (h : k < s.size) : s.data.toList.drop k = s[k] :: s.data.toList.drop (k + 1) := by
  have h' : k < s.data.toList.length := by simpa using h
  rw [List.drop_eq_getElem_cons h']; rfl
def inB (lo hi : Int) (c : UInt8) : Bool := decide (lo ≤ (c.toNat : Int) ∧ (c.toNat : Int) ≤ hi)
def withinB (lo hi : Int) (l : List UInt8) : Bool := l.all (inB lo hi)
def textB (l : List UInt8) : Bool := decide (l.length ≤ 200) && withinB 32 126 l
def wordB (c : UInt8) : Bool := isLetB c.toNat || isDigB c.toNat || decide ((c.toNat : Int) = 95)
def nameB (l : List UInt8) : Bool := decide (1 ≤ l.length ∧ l.length ≤ 16) && (isLetB ((l.headD 0).toNat)) && (l.drop 1).all wordB

theorem inB_yes {lo hi : Int} {c : UInt8} (h1 : lo ≤ (c.toNat : Int)) (h2 : (c.toNat : Int) ≤ hi) : inB lo hi c = true := decide_eq_true ⟨h1, h2⟩
theorem inB_no {lo hi : Int} {c : UInt8} (h : (c.toNat : Int) < lo ∨ hi < (c.toNat : Int)) : inB lo hi c = false := decide_eq_false (by omega)
theorem withinB_cons (lo hi : Int) (c : UInt8) (l : List UInt8) : withinB lo hi (c :: l) = (inB lo hi c && withinB lo hi l) := List.all_cons
theorem byte_lt (c : UInt8) : (c.toNat : Int) ≤ 255 := by have := c.toNat_lt; omega

set_option maxHeartbeats 400000 in
theorem within_any (s : ByteArray) (lo hi : Int) (w : World) (hs : s.size ≤ maxLen) :
    Calls Tryd.prog 37 #[.string s, .int .u8 lo, .int .u8 hi] w fun e w' => e = .returned (.bool (withinB lo hi s.data.toList)) ∧ w = w' := by
  unfold maxLen at hs
  go_enter Tryd.func37, Tryd.ntmps37
  go_wp2
  go_loop [10] (fun i => ∃ k : Nat, k ≤ s.size ∧ i = .int .i64 k ∧ Hid (withinB lo hi s.data.toList = withinB lo hi (s.data.toList.drop k))) (fun i => s.size - (intOf i).toNat)
  case atStart => exact ⟨0, Nat.zero_le _, rfl, rfl⟩
  case round =>
    obtain ⟨k, hk, rfl, HR⟩ := hrel
    by_cases hlt : k < s.size
    · have hd : Hid (s.data.toList.drop k = s[k] :: s.data.toList.drop (k + 1)) := drop_get s k hlt
      by_cases h1 : lo ≤ (s[k].toNat : Int) <;> by_cases h2 : (s[k].toNat : Int) ≤ hi
      · go_wp2
        all_goals first | (exfalso; omega) | skip
        go_round
        case rel => exact ⟨k + 1, by omega, by go_num, by unfold Hid; rw [HR.out, hd.out, withinB_cons, inB_yes h1 h2]; rfl⟩
        case measure => simp [intOf]; omega
      all_goals
        go_wp2
        all_goals first | (exfalso; omega) | skip
        go_ret
        exact ⟨ret_bool (by rw [HR.out, hd.out, withinB_cons, inB_no (by omega)]; rfl), rfl⟩
    · have h0 : Hid (s.data.toList.drop k = []) := List.drop_eq_nil_of_le (by simp; omega)
      go_wp2
      go_ret
      exact ⟨ret_bool (by rw [HR.out, h0.out]; rfl), rfl⟩

set_option maxHeartbeats 400000 in
theorem Text_any (s : ByteArray) (w : World) (hs : s.size ≤ maxLen) :
    Calls Tryd.prog 13 #[.string s] w fun e w' => e = .returned (.bool (textB s.data.toList)) ∧ w = w' := by
  have hs' := hs
  unfold maxLen at hs'
  by_cases hl : s.size ≤ 200
  all_goals
    go_enter Tryd.func13, Tryd.ntmps13
    go_wp2_with (go_at_call 37; refine (within_any s _ _ _ hs).mono ?_; rintro e w' ⟨rfl, rfl⟩)
    go_ret
    exact ⟨ret_bool (by unfold textB; simp [hl]), rfl⟩

set_option maxHeartbeats 400000 in
theorem refletter_any (c : Int) (w : World) : Calls Tryd.prog 35 #[.int .u8 c] w fun e w' => e = .returned (.bool (isLetB c)) ∧ w = w' := by
  unfold isLetB
  by_cases h1 : 97 ≤ c <;> by_cases h2 : c ≤ 122 <;> by_cases h3 : 65 ≤ c <;> by_cases h4 : c ≤ 90 <;> (try (exfalso; omega))
  all_goals
    go_enter Tryd.func35, Tryd.ntmps35
    go_wp2
    go_ret
    exact ⟨ret_bool (by simp <;> omega), rfl⟩

set_option maxHeartbeats 400000 in
theorem refdigit_any (c : Int) (w : World) : Calls Tryd.prog 36 #[.int .u8 c] w fun e w' => e = .returned (.bool (isDigB c)) ∧ w = w' := by
  unfold isDigB
  by_cases h1 : 48 ≤ c <;> by_cases h2 : c ≤ 57 <;> (try (exfalso; omega))
  all_goals
    go_enter Tryd.func36, Tryd.ntmps36
    go_wp2
    go_ret
    exact ⟨ret_bool (by simp <;> omega), rfl⟩

set_option maxHeartbeats 400000 in
theorem refText_any (s : ByteArray) (w : World) (hs : s.size ≤ maxLen) :
    Calls Tryd.prog 14 #[.string s] w fun e w' => e = .returned (.bool (textB s.data.toList)) ∧ w = w' := by
  unfold maxLen at hs
  go_enter Tryd.func14, Tryd.ntmps14
  go_wp2
  go_loop [3] (fun i => ∃ k : Nat, k ≤ s.size ∧ i = .int .i64 k ∧ Hid (withinB 32 126 s.data.toList = withinB 32 126 (s.data.toList.drop k))) (fun i => s.size - (intOf i).toNat)
  case atStart => exact ⟨0, Nat.zero_le _, rfl, rfl⟩
  case round =>
    obtain ⟨k, hk, rfl, HR⟩ := hrel
    by_cases hlt : k < s.size
    · have hd : Hid (s.data.toList.drop k = s[k] :: s.data.toList.drop (k + 1)) := drop_get s k hlt
      by_cases h1 : (32 : Int) ≤ (s[k].toNat : Int) <;> by_cases h2 : (s[k].toNat : Int) ≤ 126
      · go_wp2
        all_goals first | (exfalso; omega) | skip
        go_round
        case rel => exact ⟨k + 1, by omega, by go_num, by unfold Hid; rw [HR.out, hd.out, withinB_cons, inB_yes h1 h2]; rfl⟩
        case measure => simp [intOf]; omega
      all_goals
        go_wp2
        all_goals first | (exfalso; omega) | (go_ret; exact ⟨ret_bool (by unfold textB; rw [HR.out, hd.out, withinB_cons, inB_no (by omega), Bool.false_and, Bool.and_false]), rfl⟩)
    · have h0 : Hid (s.data.toList.drop k = []) := List.drop_eq_nil_of_le (by simp; omega)
      go_wp2
      go_ret
      exact ⟨ret_bool (by unfold textB; rw [HR.out, h0.out]; simp [withinB]; omega), rfl⟩

theorem wordB_def (c : UInt8) : wordB c = (isLetB c.toNat || isDigB c.toNat || decide ((c.toNat : Int) = 95)) := rfl

set_option maxHeartbeats 1000000 in
theorem Name_any (s : ByteArray) (w : World) (hw : Gd w) (hs : s.size ≤ maxLen) :
    Calls Tryd.prog 11 #[.string s] w fun e w' => e = .returned (.bool (nameB s.data.toList)) ∧ w = w' := by
  unfold maxLen at hs
  by_cases hl1 : 1 ≤ s.size
  case neg =>
    go_enter Tryd.func11, Tryd.ntmps11
    go_wp2
    go_ret
    exact ⟨ret_bool (by unfold nameB; simp; omega), rfl⟩
  by_cases hl2 : s.size ≤ 16
  case neg =>
    go_enter Tryd.func11, Tryd.ntmps11
    go_wp2
    go_ret
    exact ⟨ret_bool (by unfold nameB; simp; omega), rfl⟩
  have h00 : Hid (s.data.toList.headD 0 = s[0]) := by have := drop_get s 0 hl1; rw [List.drop_zero] at this; unfold Hid; rw [this]; rfl
  by_cases hb : isLetB (s[0].toNat : Int) = true
  case neg =>
    have hb' : isLetB (s[0].toNat : Int) = false := by simpa using hb
    clear hb
    go_enter Tryd.func11, Tryd.ntmps11
    go_wp2_with (go_at_call 33; refine (isLetter_any _ _).mono ?_; rintro e w' ⟨rfl, rfl⟩)
    go_ret
    exact ⟨ret_bool (by unfold nameB; rw [h00.out, hb']; simp), rfl⟩
  go_enter Tryd.func11, Tryd.ntmps11
  go_wp2_with (go_at_call 33; refine (isLetter_any _ _).mono ?_; rintro e w' ⟨rfl, rfl⟩)
  go_loop [3] (fun i => ∃ k : Nat, 1 ≤ k ∧ k ≤ s.size ∧ i = .int .i64 k ∧ Hid ((s.data.toList.drop 1).all wordB = (s.data.toList.drop k).all wordB)) (fun i => s.size - (intOf i).toNat)
  case atStart => exact ⟨1, by omega, by omega, rfl, rfl⟩
  case round =>
    obtain ⟨k, hk1, hk, rfl, HR⟩ := hrel
    by_cases hlt : k < s.size
    · have hd : Hid (s.data.toList.drop k = s[k] :: s.data.toList.drop (k + 1)) := drop_get s k hlt
      cases h1 : isLetB (s[k].toNat : Int) <;> cases h2 : isDigB (s[k].toNat : Int) <;> by_cases h3 : (s[k].toNat : Int) = 95
      all_goals
        have hwB : Hid (wordB s[k] = (isLetB s[k].toNat || isDigB s[k].toNat || decide ((s[k].toNat : Int) = 95))) := rfl
        go_wp2_with (first | (go_at_call 33; refine (isLetter_any _ _).mono ?_; rintro e w' ⟨rfl, rfl⟩) | (go_at_call 34; refine (isDecimalDigit_any _ _ hw).mono ?_; rintro e w' ⟨rfl, rfl⟩))
        all_goals first
          | (go_ret; exact ⟨ret_bool (by unfold nameB; rw [HR.out, hd.out, List.all_cons, hwB.out, h1, h2]; simp [h3]), rfl⟩)
          | (go_round
             case rel => exact ⟨k + 1, by omega, by omega, by go_num, by unfold Hid; rw [HR.out, hd.out, List.all_cons, hwB.out, h1, h2]; simp [h3]⟩
             case measure => simp [intOf]; omega)
    · have h0 : Hid (s.data.toList.drop k = []) := List.drop_eq_nil_of_le (by simp; omega)
      go_wp2
      go_ret
      exact ⟨ret_bool (by unfold nameB; rw [HR.out, h0.out, h00.out, hb]; simp; omega), rfl⟩

theorem nameB_all (l : List UInt8) (h1 : isLetB ((l.headD 0).toNat) = true) : (l.drop 1).all wordB = l.all wordB := by
  cases l with
  | nil => rfl
  | cons c l => simp only [List.headD_cons] at h1; simp [wordB, h1]

set_option maxHeartbeats 1000000 in
theorem refName_any (s : ByteArray) (w : World) (hs : s.size ≤ maxLen) :
    Calls Tryd.prog 12 #[.string s] w fun e w' => e = .returned (.bool (nameB s.data.toList)) ∧ w = w' := by
  unfold maxLen at hs
  by_cases hl1 : 1 ≤ s.size
  case neg =>
    go_enter Tryd.func12, Tryd.ntmps12
    go_wp2
    go_ret
    exact ⟨ret_bool (by unfold nameB; simp; omega), rfl⟩
  by_cases hl2 : s.size ≤ 16
  case neg =>
    go_enter Tryd.func12, Tryd.ntmps12
    go_wp2
    go_ret
    exact ⟨ret_bool (by unfold nameB; simp; omega), rfl⟩
  have h00 : Hid (s.data.toList.headD 0 = s[0]) := by have := drop_get s 0 hl1; rw [List.drop_zero] at this; unfold Hid; rw [this]; rfl
  by_cases hb : isLetB (s[0].toNat : Int) = true
  case neg =>
    have hb' : isLetB (s[0].toNat : Int) = false := by simpa using hb
    clear hb
    go_enter Tryd.func12, Tryd.ntmps12
    go_wp2_with (go_at_call 35; refine (refletter_any _ _).mono ?_; rintro e w' ⟨rfl, rfl⟩)
    go_ret
    exact ⟨ret_bool (by unfold nameB; rw [h00.out, hb']; simp), rfl⟩
  have hall : Hid ((s.data.toList.drop 1).all wordB = s.data.toList.all wordB) := nameB_all _ (by rw [h00.out]; exact hb)
  go_enter Tryd.func12, Tryd.ntmps12
  go_wp2_with (go_at_call 35; refine (refletter_any _ _).mono ?_; rintro e w' ⟨rfl, rfl⟩)
  go_loop [3] (fun i => ∃ k : Nat, k ≤ s.size ∧ i = .int .i64 k ∧ Hid (s.data.toList.all wordB = (s.data.toList.drop k).all wordB)) (fun i => s.size - (intOf i).toNat)
  case atStart => exact ⟨0, by omega, rfl, rfl⟩
  case round =>
    obtain ⟨k, hk, rfl, HR⟩ := hrel
    by_cases hlt : k < s.size
    · have hd : Hid (s.data.toList.drop k = s[k] :: s.data.toList.drop (k + 1)) := drop_get s k hlt
      cases h1 : isLetB (s[k].toNat : Int) <;> cases h2 : isDigB (s[k].toNat : Int) <;> by_cases h3 : (s[k].toNat : Int) = 95
      all_goals
        have hwB : Hid (wordB s[k] = (isLetB s[k].toNat || isDigB s[k].toNat || decide ((s[k].toNat : Int) = 95))) := rfl
        go_wp2_with (first | (go_at_call 35; refine (refletter_any _ _).mono ?_; rintro e w' ⟨rfl, rfl⟩) | (go_at_call 36; refine (refdigit_any _ _).mono ?_; rintro e w' ⟨rfl, rfl⟩))
        all_goals first
          | (go_ret; exact ⟨ret_bool (by unfold nameB; rw [hall.out, HR.out, hd.out, List.all_cons, hwB.out, h1, h2]; simp [h3]), rfl⟩)
          | (go_round
             case rel => exact ⟨k + 1, by omega, by go_num, by unfold Hid; rw [HR.out, hd.out, List.all_cons, hwB.out, h1, h2]; simp [h3]⟩
             case measure => simp [intOf]; omega)
    · have h0 : Hid (s.data.toList.drop k = []) := List.drop_eq_nil_of_le (by simp; omega)
      go_wp2
      go_ret
      exact ⟨ret_bool (by unfold nameB; rw [hall.out, HR.out, h0.out, h00.out, hb]; simp; omega), rfl⟩
end Go.Proofs.YtdcgfbebeiheiaaDoor
