/- Whether a text is a whole number: the other way. -/
import Derived.Test.YtdcgfbebeiheiaaGreatDoorDigits
import Derived.Test.YtdcgfbebeiheiaaGreatDoorNums
import Derived.Test.YtdcgfbebeiheiaaGreatDoorText
namespace Go.Proofs.YtdcgfbebeiheiaaGreatDoor
open Go.RowKit

theorem decB_def (l : List UInt8) : decB l = (!(Lib.trimPrefix l [45]).isEmpty && !(decide ((((Lib.trimPrefix l [45]).headD 0).toNat : Int) = 48) && !(Lib.trimPrefix l [45] == [48])) && (Lib.trimPrefix l [45]).all dgB && !(l == [45, 48])) := by
  unfold decB
  by_cases hp : Lib.hasPrefix l [45] = true
  · rw [if_pos hp]
    cases l with
    | nil => simp [Lib.hasPrefix] at hp
    | cons c r =>
      have hc : c = 45 := by simp [Lib.hasPrefix, List.isPrefixOf] at hp; exact hp.symm
      have e : Lib.trimPrefix (c :: r) [45] = r := by unfold Lib.trimPrefix; rw [if_pos hp]; rfl
      rw [e, hc]
      have e2 : ((45 :: r : List UInt8) == [45, 48]) = (r == [48]) := by simp
      rw [e2]
      rfl
  · rw [if_neg hp]
    have e : Lib.trimPrefix l [45] = l := by unfold Lib.trimPrefix; rw [if_neg hp]
    have e2 : (l == [45, 48]) = false := by
      cases hb : (l == [45, 48]) with
      | false => rfl
      | true => exact absurd (by rw [eq_of_beq hb]; rfl) hp
    rw [e, e2]
    simp [natB]

theorem dg_def (c : UInt8) : dgB c = isDigB c.toNat := rfl
theorem drop_all (s : ByteArray) (k : Nat) (h : k < s.size) : (s.data.toList.drop k).all dgB = (dgB s[k] && (s.data.toList.drop (k + 1)).all dgB) := by
  rw [drop_get s k h, List.all_cons]

set_option maxRecDepth 100000 in
set_option maxHeartbeats 4000000 in
theorem whole_0 (s : ByteArray) (w : World) (hs : s.size ≤ maxLen) (h0 : 0 < s.size) (c0 : Int) (hc0 : (s[0].toNat : Int) = c0) (h45 : ¬ c0 = 45) (T : List UInt8) (hT : Hid (Lib.trimPrefix s.data.toList [45] = T)) (hT2 : Hid (T = s.data.toList.drop 0)) :
    Calls Tryz.prog 52 #[.string s] w fun e w' => e = .returned (.bool (decB s.data.toList)) ∧ w = w' := by
  unfold maxLen at hs
  have hb45 : (c0 == 45) = false := by simp [h45]
  have HD : Hid (decB s.data.toList = _) := decB_def s.data.toList
  have HSL := Lib.hid (Lib.toList_data s)
  go_enter Tryz.func52, Tryz.ntmps52
  go_wp2
  go_loop [4] (fun i => ∃ k : Nat, k ≤ s.size ∧ i = .int .i64 k ∧ Hid (T.all dgB = (s.data.toList.drop k).all dgB)) (fun i => s.size - (intOf i).toNat)
  case atStart => exact ⟨0, Nat.zero_le _, rfl, by unfold Hid; rw [hT2.out, List.drop_zero]⟩
  case round =>
    obtain ⟨k, hk, rfl, HR⟩ := hrel
    by_cases hlt : k < s.size
    · have HA := Lib.hid (drop_all s k hlt)
      cases hdg : isDigB (s[k].toNat : Int)
      · go_wp2_with (go_at_call 53; refine (refdigit_any _ _).mono ?_; rintro e w' ⟨rfl, rfl⟩)
        all_goals first | (exfalso; omega) | skip
        go_ret
        have hf : T.all dgB = false := by rw [HR.out, HA.out, dg_def, hdg]; rfl
        exact ⟨ret_bool (by rw [HD.out, hT.out, hf]; simp), rfl⟩
      · go_wp2_with (go_at_call 53; refine (refdigit_any _ _).mono ?_; rintro e w' ⟨rfl, rfl⟩)
        all_goals first | (exfalso; omega) | skip
        go_round
        case rel => exact ⟨k + 1, by omega, by go_num, by unfold Hid; rw [HR.out, HA.out, dg_def, hdg]; rfl⟩
        case measure => simp [intOf]; omega
    · have hall : T.all dgB = true := by
        rw [HR.out, List.drop_eq_nil_of_le (by rw [← Lib.size_eq]; omega)]; rfl
      have HALL := Lib.hid hall
      clear hall HR
      have hem : ¬ s.size = 0 := by omega
      · have hb1 : ((s.size : Int) == 0) = false := by rw [beq_eq_false_iff_ne]; omega
        have hfl : 0 < s.size := by omega
        have HR2 : Hid (T = s[0] :: s.data.toList.drop (0 + 1)) := by unfold Hid; rw [hT2.out]; exact drop_get s 0 hfl
        by_cases h48 : c0 = 48
        · have H1 : s[0] = 48 := UInt8.toNat_inj.1 (by have : ((48 : UInt8).toNat : Int) = 48 := rfl; omega)
          have HH := Lib.hid H1
          clear H1
          by_cases hl : 0 + 1 < s.size
          · have hl2 : ¬ (s.data.toList.drop (0 + 1) = []) := by
              rw [List.drop_eq_nil_iff, ← Lib.size_eq]; omega
            obtain ⟨R, hR⟩ : ∃ R, s.data.toList.drop (0 + 1) = R := ⟨_, rfl⟩
            rw [hR] at hl2 HR2
            have HL := Lib.hid hl2
            clear hl2 hR
            go_wp2
            all_goals first | (exfalso; omega) | skip
            go_ret
            exact ⟨ret_bool (by rw [HD.out, hT.out, HALL.out, HR2.out, HH.out]; simp [HL.out]), rfl⟩
          · have hl2 : s.data.toList.drop (0 + 1) = [] := List.drop_eq_nil_of_le (by rw [← Lib.size_eq]; omega)
            have HL := Lib.hid hl2
            clear hl2
            go_wp2
            all_goals first | (exfalso; omega) | skip
            go_ret
            refine ⟨ret_bool ?_, rfl⟩
            rw [HD.out, hT.out, HALL.out, HR2.out, HL.out, HH.out]
            first | rfl | (rw [HSL.out]; rfl) | simp
        · go_wp2
          all_goals first | (exfalso; omega) | skip
          go_ret
          refine ⟨ret_bool ?_, rfl⟩
          rw [HD.out, hT.out, HALL.out, HR2.out]
          first | (simp [hc0, h48]; done) | (rw [HSL.out]; simp [hc0, h48]; done)

set_option maxRecDepth 100000 in
set_option maxHeartbeats 4000000 in
theorem whole_z (s : ByteArray) (w : World) (_hs : s.size ≤ maxLen) (hz : s.size = 0) (T : List UInt8) (hT : Hid (Lib.trimPrefix s.data.toList [45] = T)) (hT2 : Hid (T = s.data.toList.drop 0)) :
    Calls Tryz.prog 52 #[.string s] w fun e w' => e = .returned (.bool (decB s.data.toList)) ∧ w = w' := by
  have HD : Hid (decB s.data.toList = _) := decB_def s.data.toList
  have HSL := Lib.hid (Lib.toList_data s)
  go_enter Tryz.func52, Tryz.ntmps52
  go_wp2
  go_loop [4] (fun i => ∃ k : Nat, k ≤ s.size ∧ i = .int .i64 k ∧ Hid (T.all dgB = (s.data.toList.drop k).all dgB)) (fun i => s.size - (intOf i).toNat)
  case atStart => exact ⟨0, Nat.zero_le _, rfl, by unfold Hid; rw [hT2.out, List.drop_zero]⟩
  case round =>
    obtain ⟨k, hk, rfl, HR⟩ := hrel
    obtain rfl : k = 0 := by omega
    have hnil : T = [] := by rw [hT2.out, List.drop_zero, ← List.length_eq_zero_iff, ← Lib.size_eq]; omega
    have HN := Lib.hid hnil
    have hb1 : ((s.size : Int) == 0) = true := by simp [hz]
    clear hnil
    go_wp2
    all_goals first | (exfalso; omega) | skip
    go_ret
    exact ⟨ret_bool (by rw [HD.out, hT.out, HN.out]; rfl), rfl⟩

set_option maxRecDepth 100000 in
set_option maxHeartbeats 4000000 in
theorem whole_1 (s : ByteArray) (w : World) (hs : s.size ≤ maxLen) (h0 : 0 < s.size) (h45 : (s[0].toNat : Int) = 45) (T : List UInt8) (hT : Hid (Lib.trimPrefix s.data.toList [45] = T)) (hT2 : Hid (T = s.data.toList.drop 1)) :
    Calls Tryz.prog 52 #[.string s] w fun e w' => e = .returned (.bool (decB s.data.toList)) ∧ w = w' := by
  unfold maxLen at hs
  have HD : Hid (decB s.data.toList = _) := decB_def s.data.toList
  have HSL := Lib.hid (Lib.toList_data s)
  go_enter Tryz.func52, Tryz.ntmps52
  go_wp2
  go_loop [4] (fun i => ∃ k : Nat, 1 ≤ k ∧ k ≤ s.size ∧ i = .int .i64 k ∧ Hid (T.all dgB = (s.data.toList.drop k).all dgB)) (fun i => s.size - (intOf i).toNat)
  case atStart => exact ⟨1, Nat.le_refl _, by omega, rfl, by unfold Hid; rw [hT2.out]⟩
  case round =>
    obtain ⟨k, hfk, hk, rfl, HR⟩ := hrel
    by_cases hlt : k < s.size
    · have HA := Lib.hid (drop_all s k hlt)
      cases hdg : isDigB (s[k].toNat : Int)
      · go_wp2_with (go_at_call 53; refine (refdigit_any _ _).mono ?_; rintro e w' ⟨rfl, rfl⟩)
        all_goals first | (exfalso; omega) | skip
        go_ret
        have hf : T.all dgB = false := by rw [HR.out, HA.out, dg_def, hdg]; rfl
        exact ⟨ret_bool (by rw [HD.out, hT.out, hf]; simp), rfl⟩
      · go_wp2_with (go_at_call 53; refine (refdigit_any _ _).mono ?_; rintro e w' ⟨rfl, rfl⟩)
        all_goals first | (exfalso; omega) | skip
        go_round
        case rel => exact ⟨k + 1, by omega, by omega, by go_num, by unfold Hid; rw [HR.out, HA.out, dg_def, hdg]; rfl⟩
        case measure => simp [intOf]; omega
    · have hall : T.all dgB = true := by
        rw [HR.out, List.drop_eq_nil_of_le (by rw [← Lib.size_eq]; omega)]; rfl
      have HALL := Lib.hid hall
      clear hall HR
      by_cases hem : s.size = 1
      · have hb1 : ((s.size : Int) == 1) = true := by simp [hem]
        have hnil : T = [] := by rw [hT2.out]; exact List.drop_eq_nil_of_le (by rw [← Lib.size_eq]; omega)
        have HN := Lib.hid hnil
        clear hnil
        go_wp2
        all_goals first | (exfalso; omega) | skip
        go_ret
        exact ⟨ret_bool (by rw [HD.out, hT.out, HN.out]; rfl), rfl⟩
      · have hb1 : ((s.size : Int) == 1) = false := by rw [beq_eq_false_iff_ne]; omega
        have hfl : 1 < s.size := by omega
        have HR2 : Hid (T = s[1] :: s.data.toList.drop (1 + 1)) := by unfold Hid; rw [hT2.out]; exact drop_get s 1 hfl
        by_cases h48 : (s[1].toNat : Int) = 48
        · have H1 : s[1] = 48 := UInt8.toNat_inj.1 (by have : ((48 : UInt8).toNat : Int) = 48 := rfl; omega)
          have HH := Lib.hid H1
          clear H1
          by_cases hl : 1 + 1 < s.size
          · have hl2 : ¬ (s.data.toList.drop (1 + 1) = []) := by
              rw [List.drop_eq_nil_iff, ← Lib.size_eq]; omega
            obtain ⟨R, hR⟩ : ∃ R, s.data.toList.drop (1 + 1) = R := ⟨_, rfl⟩
            rw [hR] at hl2 HR2
            have HL := Lib.hid hl2
            clear hl2 hR
            go_wp2
            all_goals first | (exfalso; omega) | skip
            go_ret
            exact ⟨ret_bool (by rw [HD.out, hT.out, HALL.out, HR2.out, HH.out]; simp [HL.out]), rfl⟩
          · have hl2 : s.data.toList.drop (1 + 1) = [] := List.drop_eq_nil_of_le (by rw [← Lib.size_eq]; omega)
            have HL := Lib.hid hl2
            clear hl2
            go_wp2
            all_goals first | (exfalso; omega) | skip
            go_ret
            refine ⟨ret_bool ?_, rfl⟩
            rw [HD.out, hT.out, HALL.out, HR2.out, HL.out, HH.out]
            first | rfl | (rw [HSL.out]; rfl) | simp
        · go_wp2
          all_goals first | (exfalso; omega) | skip
          go_ret
          refine ⟨ret_bool ?_, rfl⟩
          rw [HD.out, hT.out, HALL.out, HR2.out]
          first | (simp [h48]; done) | (rw [HSL.out]; simp [h48]; done)

theorem whole_any (s : ByteArray) (w : World) (hs : s.size ≤ maxLen) :
    Calls Tryz.prog 52 #[.string s] w fun e w' => e = .returned (.bool (decB s.data.toList)) ∧ w = w' := by
  by_cases h0 : 0 < s.size
  · have hd := drop_get s 0 h0
    rw [List.drop_zero] at hd
    by_cases h45 : (s[0].toNat : Int) = 45
    · have hc : s[0] = 45 := UInt8.toNat_inj.1 (by have : ((45 : UInt8).toNat : Int) = 45 := rfl; omega)
      refine whole_1 s w hs h0 h45 _ ?_ rfl
      unfold Hid Lib.trimPrefix Lib.hasPrefix
      rw [hd, hc]
      rfl
    · refine whole_0 s w hs h0 _ rfl h45 _ ?_ rfl
      have hc : ¬ s[0] = 45 := fun e => h45 (by rw [e]; rfl)
      unfold Hid Lib.trimPrefix Lib.hasPrefix
      rw [hd]
      rw [if_neg (by simp [List.isPrefixOf]; exact fun e => hc e.symm)]
      rfl
  · have hz : s.data.toList = [] := by rw [← List.length_eq_zero_iff, ← Lib.size_eq]; omega
    refine whole_z s w hs (by omega) _ ?_ rfl
    unfold Hid
    rw [hz]
    rfl
end Go.Proofs.YtdcgfbebeiheiaaGreatDoor
