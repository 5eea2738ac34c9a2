/- Where a field ends, and what is a field, the other way. -/
import Derived.Test.YtdcgfbebeiheiaaGreatDoorText
import Derived.Lib.Strings
namespace Go.Proofs.YtdcgfbebeiheiaaGreatDoor
open Go.RowKit

/-- Where the first field of a text ends, the other way. -/
def uE : List UInt8 → Nat
  | [] => 0
  | c :: l => if (c.toNat : Int) = 32 then 0 else 1 + uE l
def qE : List UInt8 → Nat
  | [] => 0
  | [_] => 1
  | c :: d :: l => if c = 34 then (if d = 34 then 2 + qE l else 1) else 1 + qE (d :: l)
def reB : List UInt8 → Nat
  | [] => 0
  | c :: l => if c = 34 then 1 + qE l else uE (c :: l)

theorem qE_one (c : UInt8) (h : ¬ (c.toNat : Int) = 34) (x : List UInt8) : qE (c :: x) = 1 + qE x := by
  cases x with
  | nil => rfl
  | cons d l => rw [qE, if_neg (fun e => h (by rw [e]; rfl))]
theorem qE_end : qE [34] = 1 := rfl
theorem qE_lone (d : UInt8) (h : ¬ (d.toNat : Int) = 34) (l : List UInt8) : qE (34 :: d :: l) = 1 := by rw [qE, if_pos rfl, if_neg (fun e => h (by rw [e]; rfl))]
theorem qE_two (l : List UInt8) : qE (34 :: 34 :: l) = 2 + qE l := by rw [qE, if_pos rfl, if_pos rfl]
theorem is34' {c : UInt8} (h : (c.toNat : Int) = 34) : c = 34 := UInt8.toNat_inj.1 (by have : ((34 : UInt8).toNat : Int) = 34 := rfl; omega)
theorem uE_blank (c : UInt8) (h : (c.toNat : Int) = 32) (l : List UInt8) : uE (c :: l) = 0 := by rw [uE, if_pos h]
theorem uE_plain (c : UInt8) (h : ¬ (c.toNat : Int) = 32) (l : List UInt8) : uE (c :: l) = 1 + uE l := by rw [uE, if_neg h]

set_option maxHeartbeats 1000000 in
theorem end_u (s : ByteArray) (p : Nat) (hp : p < s.size) (w : World) (hs : s.size ≤ 1000000) (hq : ¬ (s[p].toNat : Int) = 34) :
    Calls Tryz.prog 32 #[.string s, .int .i64 (p : Int)] w fun e w' => e = .returned (.int .i64 ((p + uE (s.data.toList.drop p) : Nat) : Int)) ∧ w = w' := by
  have hq1 : ((s[p].toNat : Int) == 34) = false := by simp [hq]
  have hp1 : (p : Int) < (s.size : Int) := by omega
  clear hq
  go_enter Tryz.func32, Tryz.ntmps32
  go_wp2
  go_loop [6] (fun i => ∃ k : Nat, k ≤ s.size ∧ i = .int .i64 k ∧ Hid (p + uE (s.data.toList.drop p) = k + uE (s.data.toList.drop k))) (fun i => s.size - (intOf i).toNat)
  case atStart => exact ⟨p, by omega, rfl, rfl⟩
  case round =>
    obtain ⟨k, hk, rfl, HR⟩ := hrel
    by_cases hlt : k < s.size
    · have hd : Hid (s.data.toList.drop k = s[k] :: s.data.toList.drop (k + 1)) := drop_get s k hlt
      by_cases h1 : (s[k].toNat : Int) = 32
      · have h2 : Hid (uE (s.data.toList.drop k) = 0) := by unfold Hid; rw [hd.out, uE_blank _ h1]
        go_wp2
        all_goals first | (exfalso; omega) | skip
        go_ret
        exact ⟨ret_int (by have e1 := HR.out; have e2 := h2.out; omega), rfl⟩
      · have h2 : Hid (uE (s.data.toList.drop k) = 1 + uE (s.data.toList.drop (k + 1))) := by unfold Hid; rw [hd.out, uE_plain _ h1]
        go_wp2
        all_goals first | (exfalso; omega) | skip
        go_round
        case rel => exact ⟨k + 1, by omega, by go_num, by unfold Hid; rw [HR.out, h2.out]; omega⟩
        case measure => simp [intOf]; omega
    · have h0 : Hid (s.data.toList.drop k = []) := List.drop_eq_nil_of_le (by simp; omega)
      go_wp2
      go_ret
      exact ⟨ret_int (by have e1 := HR.out; rw [h0.out] at e1; change _ = k + 0 at e1; omega), rfl⟩

set_option maxHeartbeats 2000000 in
theorem end_q (s : ByteArray) (p : Nat) (hp : p < s.size) (w : World) (hs : s.size ≤ 1000000) (hq : (s[p].toNat : Int) = 34) :
    Calls Tryz.prog 32 #[.string s, .int .i64 (p : Int)] w fun e w' => e = .returned (.int .i64 ((p + 1 + qE (s.data.toList.drop (p + 1)) : Nat) : Int)) ∧ w = w' := by
  have hq1 : ((s[p].toNat : Int) == 34) = true := by simp [hq]
  have hp1 : (p : Int) < (s.size : Int) := by omega
  clear hq
  go_enter Tryz.func32, Tryz.ntmps32
  go_wp2
  go_loop [6] (fun i => ∃ k : Nat, k ≤ s.size ∧ i = .int .i64 k ∧ Hid (p + 1 + qE (s.data.toList.drop (p + 1)) = k + qE (s.data.toList.drop k))) (fun i => s.size - (intOf i).toNat)
  case atStart => exact ⟨p + 1, by omega, by go_num, rfl⟩
  case round =>
    obtain ⟨k, hk, rfl, HR⟩ := hrel
    by_cases hlt : k < s.size
    · have hd : Hid (s.data.toList.drop k = s[k] :: s.data.toList.drop (k + 1)) := drop_get s k hlt
      by_cases h1 : (s[k].toNat : Int) = 34
      · have H1 := Lib.hid (is34' h1)
        by_cases hl2 : k + 1 < s.size
        · have hlt5 : ((k : Int) + 1 == (s.size : Int)) = false := by simp; omega
          have hd2 : Hid (s.data.toList.drop (k + 1) = s[k + 1] :: s.data.toList.drop (k + 1 + 1)) := drop_get s (k + 1) hl2
          by_cases h2 : (s[k + 1].toNat : Int) = 34
          · have H2 := Lib.hid (is34' h2)
            have h3 : ((s[k + 1].toNat : Int) != 34) = false := by simp [h2]
            have h4 : Hid (qE (s.data.toList.drop k) = 2 + qE (s.data.toList.drop (k + 1 + 1))) := by unfold Hid; rw [hd.out, hd2.out, H1.out, H2.out, qE_two]
            clear h2
            go_wp2
            all_goals first | (exfalso; omega) | skip
            go_round
            case rel => exact ⟨k + 1 + 1, by omega, by go_num, by unfold Hid; rw [HR.out, h4.out]; omega⟩
            case measure => simp [intOf]; omega
          · have h3 : ((s[k + 1].toNat : Int) != 34) = true := by simp [h2]
            have h4 : Hid (qE (s.data.toList.drop k) = 1) := by unfold Hid; rw [hd.out, hd2.out, H1.out, qE_lone _ h2]
            clear h2
            go_wp2
            all_goals first | (exfalso; omega) | skip
            go_ret
            exact ⟨ret_int (by have e1 := HR.out; have e2 := h4.out; omega), rfl⟩
        · have hlt5 : ((k : Int) + 1 == (s.size : Int)) = true := by simp; omega
          have h0 : s.data.toList.drop (k + 1) = [] := List.drop_eq_nil_of_le (by simp; omega)
          have h4 : Hid (qE (s.data.toList.drop k) = 1) := by unfold Hid; rw [hd.out, h0, H1.out]; rfl
          clear h0
          go_wp2
          all_goals first | (exfalso; omega) | skip
          go_ret
          exact ⟨ret_int (by have e1 := HR.out; have e2 := h4.out; omega), rfl⟩
      · have h2 : Hid (qE (s.data.toList.drop k) = 1 + qE (s.data.toList.drop (k + 1))) := by unfold Hid; rw [hd.out, qE_one _ h1]
        go_wp2
        all_goals first | (exfalso; omega) | skip
        go_round
        case rel => exact ⟨k + 1, by omega, by go_num, by unfold Hid; rw [HR.out, h2.out]; omega⟩
        case measure => simp [intOf]; omega
    · have h0 : Hid (s.data.toList.drop k = []) := List.drop_eq_nil_of_le (by simp; omega)
      go_wp2
      go_ret
      exact ⟨ret_int (by have e1 := HR.out; rw [h0.out] at e1; change _ = k + 0 at e1; omega), rfl⟩

theorem refend_any (s : ByteArray) (p : Nat) (hp : p < s.size) (w : World) (hs : s.size ≤ 1000000) :
    Calls Tryz.prog 32 #[.string s, .int .i64 (p : Int)] w fun e w' => e = .returned (.int .i64 ((p + reB (s.data.toList.drop p) : Nat) : Int)) ∧ w = w' := by
  have hd := drop_get s p hp
  by_cases hq : (s[p].toNat : Int) = 34
  · have h := end_q s p hp w hs hq
    have e : p + 1 + qE (s.data.toList.drop (p + 1)) = p + reB (s.data.toList.drop p) := by rw [hd, reB, if_pos (is34' hq)]; omega
    rw [e] at h
    exact h
  · have h := end_u s p hp w hs hq
    have e : p + uE (s.data.toList.drop p) = p + reB (s.data.toList.drop p) := by rw [hd, reB, if_neg (fun e => hq (by rw [e]; rfl))]
    rw [e] at h
    exact h

/-- Is that a field, said the other way? -/
def plainB (l : List UInt8) : Bool := l.all fun c => !decide ((c.toNat : Int) = 32) && !decide ((c.toNat : Int) = 34)
def rgtB (q : Bool) (l : List UInt8) : Bool := if q then textB l else !l.isEmpty && plainB l && textB l
theorem plainB_cons (c : UInt8) (l : List UInt8) : plainB (c :: l) = ((!decide ((c.toNat : Int) = 32) && !decide ((c.toNat : Int) = 34)) && plainB l) := List.all_cons

set_option maxHeartbeats 2000000 in
theorem refRight_q (s : ByteArray) (w : World) (hs : s.size ≤ 1000000) :
    Calls Tryz.prog 34 #[.agg #[.bool true, .string s]] w fun e w' => e = .returned (.bool (rgtB true s.data.toList)) ∧ Below w.heap.size w w' := by
  go_enter Tryz.func34, Tryz.ntmps34
  go_wp2_with (go_at_call 59; refine (refText_any _ _ (by unfold maxLen; omega)).mono ?_; rintro e w' ⟨rfl, rfl⟩)
  go_ret
  exact ⟨rfl, (Below.refl _ _).alloc (Nat.le_refl _) _⟩

set_option maxHeartbeats 2000000 in
theorem refRight_b (s : ByteArray) (w : World) (hs : s.size ≤ 1000000) :
    Calls Tryz.prog 34 #[.agg #[.bool false, .string s]] w fun e w' => e = .returned (.bool (rgtB false s.data.toList)) ∧ Below w.heap.size w w' := by
  have hB0 : Below w.heap.size w (w.alloc (.cells #[.bool false, .string s] 49)) := (Below.refl _ _).alloc (Nat.le_refl _) _
  by_cases h0 : s.size = 0
  · have hd : Hid (rgtB false s.data.toList = false) := by
      have : s.data.toList = [] := List.eq_nil_of_length_eq_zero (by rw [← Lib.size_eq]; exact h0)
      unfold Hid rgtB; rw [this]; rfl
    have hq : ((s.size : Int) == 0) = true := by simp [h0]
    clear h0
    go_enter Tryz.func34, Tryz.ntmps34
    go_wp2
    go_ret
    exact ⟨ret_bool hd.out.symm, hB0⟩
  have hd : Hid (rgtB false s.data.toList = (plainB s.data.toList && textB s.data.toList)) := by
    unfold Hid rgtB
    have : s.data.toList.isEmpty = false := by
      cases h : s.data.toList with
      | nil => exact absurd (by rw [Lib.size_eq, h]; rfl) h0
      | cons c l => rfl
    rw [this]; rfl
  have hq : ((s.size : Int) == 0) = false := by simp [h0]
  clear h0
  go_enter Tryz.func34, Tryz.ntmps34
  go_wp2
  go_loop [3] (fun i => ∃ k : Nat, k ≤ s.size ∧ i = .int .i64 k ∧ Hid (plainB s.data.toList = plainB (s.data.toList.drop k))) (fun i => s.size - (intOf i).toNat)
  case atStart => exact ⟨0, Nat.zero_le _, rfl, rfl⟩
  case round =>
    obtain ⟨k, hk, rfl, HR⟩ := hrel
    by_cases hlt : k < s.size
    · have hdr : Hid (s.data.toList.drop k = s[k] :: s.data.toList.drop (k + 1)) := drop_get s k hlt
      by_cases h1 : (s[k].toNat : Int) = 32
      · have q1 : ((s[k].toNat : Int) == 32) = true := by simp [h1]
        have h2 : Hid (plainB (s.data.toList.drop k) = false) := by unfold Hid; rw [hdr.out, plainB_cons, decide_eq_true h1]; rfl
        clear h1
        go_wp2
        all_goals first | (exfalso; omega) | skip
        go_ret
        exact ⟨ret_bool (by rw [hd.out, HR.out, h2.out]; rfl), hB0⟩
      · by_cases h3 : (s[k].toNat : Int) = 34
        · have q1 : ((s[k].toNat : Int) == 32) = false := by simp [h1]
          have q2 : ((s[k].toNat : Int) == 34) = true := by simp [h3]
          have h2 : Hid (plainB (s.data.toList.drop k) = false) := by unfold Hid; rw [hdr.out, plainB_cons, decide_eq_true h3, Bool.not_true, Bool.and_false]; rfl
          clear h1 h3
          go_wp2
          all_goals first | (exfalso; omega) | skip
          go_ret
          exact ⟨ret_bool (by rw [hd.out, HR.out, h2.out]; rfl), hB0⟩
        · have q1 : ((s[k].toNat : Int) == 32) = false := by simp [h1]
          have q2 : ((s[k].toNat : Int) == 34) = false := by simp [h3]
          have h2 : Hid (plainB (s.data.toList.drop k) = plainB (s.data.toList.drop (k + 1))) := by unfold Hid; rw [hdr.out, plainB_cons, decide_eq_false h1, decide_eq_false h3]; rfl
          clear h1 h3
          go_wp2
          all_goals first | (exfalso; omega) | skip
          go_round
          case rel => exact ⟨k + 1, by omega, by go_num, by unfold Hid; rw [HR.out, h2.out]⟩
          case measure => simp [intOf]; omega
    · have h0 : Hid (s.data.toList.drop k = []) := List.drop_eq_nil_of_le (by simp; omega)
      go_wp2_with (go_at_call 59; refine (refText_any _ _ (by unfold maxLen; omega)).mono ?_; rintro e w' ⟨rfl, rfl⟩)
      go_ret
      exact ⟨ret_bool (by rw [hd.out, HR.out, h0.out]; rfl), hB0⟩
end Go.Proofs.YtdcgfbebeiheiaaGreatDoor
