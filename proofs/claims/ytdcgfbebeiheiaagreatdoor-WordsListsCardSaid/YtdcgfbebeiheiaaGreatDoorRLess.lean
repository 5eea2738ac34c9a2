/- The other way to lists: which text comes first, and what a number is. -/
import Derived.Test.YtdcgfbebeiheiaaGreatDoorRefI
import Derived.Test.YtdcgfbebeiheiaaGreatDoorListM
namespace Go.Proofs.YtdcgfbebeiheiaaGreatDoor
open Go.RowKit

set_option maxHeartbeats 2000000 in
theorem rless_any (a b : ByteArray) (w : World) :
    Calls Tryz.prog 27 #[.string a, .string b] w fun e w' => e = .returned (.bool (beforeB a.data.toList b.data.toList)) ∧ w = w' := by
  have hdef : Hid (beforeB a.data.toList b.data.toList = if a.size = b.size then Op.bytesLess a.toList b.toList else decide (a.size < b.size)) := by
    unfold Hid beforeB; rw [Lib.size_eq, Lib.size_eq, Lib.toList_data, Lib.toList_data]
  rcases Nat.lt_trichotomy a.size b.size with h | h | h
  · have H : Hid (beforeB a.data.toList b.data.toList = true) := by unfold Hid; rw [hdef.out, if_neg (by omega)]; exact decide_eq_true h
    go_enter Tryz.func27, Tryz.ntmps27
    go_wp2
    all_goals first | (exfalso; omega) | skip
    go_ret
    refine ⟨ret_bool ?_, rfl⟩
    rw [H.out]
  · have H : Hid (beforeB a.data.toList b.data.toList = Op.bytesLess a.toList b.toList) := by unfold Hid; rw [hdef.out, if_pos h]
    have h1 : ((a.size : Int) == (b.size : Int)) = true := by simp [h]
    have h2 : ¬ (a.size < b.size) := by omega
    have h3 : b.size ≤ a.size := by omega
    go_enter Tryz.func27, Tryz.ntmps27
    go_wp2
    all_goals first | (exfalso; omega) | skip
    go_ret
    refine ⟨ret_bool ?_, rfl⟩
    rw [H.out]
    try simp [h2]
  · have H : Hid (beforeB a.data.toList b.data.toList = false) := by unfold Hid; rw [hdef.out, if_neg (by omega)]; exact decide_eq_false (by omega)
    have h1 : ((a.size : Int) == (b.size : Int)) = false := by rw [beq_eq_false_iff_ne]; omega
    have h2 : ¬ (a.size < b.size) := by omega
    have h3 : b.size ≤ a.size := by omega
    go_enter Tryz.func27, Tryz.ntmps27
    go_wp2
    all_goals first | (exfalso; omega) | skip
    go_ret
    refine ⟨ret_bool ?_, rfl⟩
    rw [H.out]
    try simp [h2]

theorem natB_dec (l : List UInt8) (h : natB l = true) : decB l = true ∧ l.headD 0 ≠ 45 := by
  obtain ⟨c, r, rfl, h1, h2⟩ := head_dg h
  have hc : ¬ c = 45 := fun e => by rw [e] at h1; exact absurd h1 (by decide)
  refine ⟨?_, hc⟩
  unfold decB
  rw [if_neg (by simp [Lib.hasPrefix, List.isPrefixOf]; exact fun e => hc e.symm)]
  exact h

set_option maxHeartbeats 2000000 in
theorem number_any (s : ByteArray) (w : World) (hs : s.size ≤ maxLen) :
    Calls Tryz.prog 51 #[.string s] w fun e w' => e = .returned (.bool (natB s.data.toList)) ∧ w = w' := by
  cases hdec : decB s.data.toList
  · have HN : Hid (natB s.data.toList = false) := by
      unfold Hid
      cases hn : natB s.data.toList
      · rfl
      · rw [(natB_dec _ hn).1] at hdec; exact absurd hdec (by decide)
    have HDEC := Lib.hid hdec
    clear hdec
    go_enter Tryz.func51, Tryz.ntmps51
    go_wp2_with (go_at_call 52; refine (whole_any _ _ hs).mono ?_; rintro e w' ⟨rfl, rfl⟩; rw [HDEC.out])
    all_goals first | (exfalso; omega) | skip
    go_ret
    exact ⟨ret_bool (by rw [HN.out]), rfl⟩
  · have h0 : 0 < s.size := by
      rcases Nat.eq_zero_or_pos s.size with hz | hz
      · rw [Lib.size_eq, List.length_eq_zero_iff] at hz
        rw [hz] at hdec
        exact absurd hdec (by decide)
      · exact hz
    have hdr := drop_get s 0 h0
    rw [List.drop_zero] at hdr
    have HDEC := Lib.hid hdec
    by_cases h45 : (s[0].toNat : Int) = 45
    · have HN : Hid (natB s.data.toList = false) := by
        unfold Hid
        cases hn : natB s.data.toList
        · rfl
        · refine absurd ?_ (natB_dec _ hn).2
          rw [hdr]
          exact UInt8.toNat_inj.1 (by have : ((45 : UInt8).toNat : Int) = 45 := rfl; show s[0].toNat = _; omega)
      have h1 : ((s[0].toNat : Int) != 45) = false := by simp [h45]
      clear hdec hdr
      go_enter Tryz.func51, Tryz.ntmps51
      go_wp2_with (go_at_call 52; refine (whole_any _ _ hs).mono ?_; rintro e w' ⟨rfl, rfl⟩; rw [HDEC.out])
      all_goals first | (exfalso; omega) | skip
      go_ret
      exact ⟨ret_bool (by rw [HN.out]), rfl⟩
    · have HN : Hid (natB s.data.toList = true) := by
        unfold Hid
        rcases decB_cases _ hdec with ⟨r, hr, _, _, _⟩ | ⟨_, h2, _⟩
        · exfalso; apply h45
          rw [hr] at hdr
          rw [← (List.cons.inj hdr).1]; rfl
        · exact h2
      have h1 : ((s[0].toNat : Int) != 45) = true := by simp [h45]
      clear hdec hdr
      go_enter Tryz.func51, Tryz.ntmps51
      go_wp2_with (go_at_call 52; refine (whole_any _ _ hs).mono ?_; rintro e w' ⟨rfl, rfl⟩; rw [HDEC.out])
      all_goals first | (exfalso; omega) | skip
      go_ret
      exact ⟨ret_bool (by rw [HN.out]), rfl⟩
end Go.Proofs.YtdcgfbebeiheiaaGreatDoor
