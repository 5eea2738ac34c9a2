/- The other way to unquote: its walk. -/
import Derived.Test.YtdcgfbebeiheiaaGreatDoorRefQ
namespace Go.Proofs.YtdcgfbebeiheiaaGreatDoor
open Go.RowKit

/-- What stands from k on, ahead of the last byte. -/
def restQ (l : List UInt8) (k : Nat) : List UInt8 := (l.drop k).take (l.length - 1 - k)
theorem restQ_step (s : ByteArray) (k : Nat) (h : k < s.size - 1) (hs : k < s.size) : restQ s.data.toList k = s[k] :: restQ s.data.toList (k + 1) := by
  unfold restQ
  rw [drop_get s k hs, show s.data.toList.length - 1 - k = (s.data.toList.length - 1 - (k + 1)) + 1 by rw [← Lib.size_eq]; omega]
  rfl
theorem restQ_end (s : ByteArray) : restQ s.data.toList (s.size - 1) = [] := by
  unfold restQ
  rw [← Lib.size_eq, Nat.sub_self]; simp
theorem restQ_one (s : ByteArray) : restQ s.data.toList 1 = innerB s.data.toList := rfl

theorem unDbl_plain (c : UInt8) (h : ¬ c = 34) (l : List UInt8) : unDbl (c :: l) = (unDbl l).map (c :: ·) := by
  cases l with
  | nil => simp [unDbl, h]
  | cons d r => rw [unDbl, if_neg h]
theorem unDbl_lone (d : UInt8) (h : ¬ d = 34) (l : List UInt8) : unDbl (34 :: d :: l) = none := by rw [unDbl, if_pos rfl, if_neg h]
theorem unDbl_two (l : List UInt8) : unDbl (34 :: 34 :: l) = (unDbl l).map (34 :: ·) := by rw [unDbl, if_pos rfl, if_pos rfl]
theorem unDbl_last : unDbl [34] = none := rfl

theorem is34 {c : UInt8} (h : (c.toNat : Int) = 34) : c = 34 := UInt8.toNat_inj.1 (by have : ((34 : UInt8).toNat : Int) = 34 := rfl; omega)
theorem not34 {c : UInt8} (h : ¬ (c.toNat : Int) = 34) : ¬ c = 34 := fun e => h (by rw [e]; rfl)

set_option maxRecDepth 100000 in
set_option maxHeartbeats 4000000 in
theorem refUnquote_any (s : ByteArray) (w : World) (hs : s.size ≤ 1000000) :
    Calls Tryz.prog 33 #[.string s] w fun e w' => e = .returned (.tuple #[.string ⟨(unqB s.data.toList).1.toArray⟩, .int .i64 (unqB s.data.toList).2]) ∧ w = w' := by
  have hd : Hid (unqB s.data.toList = if decide (2 ≤ s.size) && decide (((s.data.toList[0]?.getD 0).toNat : Int) = 34) && decide (((s.data.toList[s.size - 1]?.getD 0).toNat : Int) = 34) then
      (match unDbl (innerB s.data.toList) with
      | some t => (if textB t then (t, 0) else ([], 6) : List UInt8 × Int)
      | none => (([], 6) : List UInt8 × Int))
    else ([], 6)) := by unfold Hid; rw [unqB_eq, Lib.size_eq]; rfl
  by_cases h2 : 2 ≤ s.size
  case neg =>
    have hd2 : Hid (unqB s.data.toList = ([], 6)) := by unfold Hid; rw [hd.out]; simp [h2]
    go_enter Tryz.func33, Tryz.ntmps33
    go_wp2
    go_ret2
    rw [hd2.out]
    exact ⟨rfl, rfl⟩
  have e0 : Hid (s.data.toList[0]?.getD 0 = s[0]) := by unfold Hid; rw [List.getElem?_eq_getElem (by rw [← Lib.size_eq]; omega)]; rfl
  have e1 : Hid (s.data.toList[s.size - 1]?.getD 0 = s[s.size - 1]) := by unfold Hid; rw [List.getElem?_eq_getElem (by rw [← Lib.size_eq]; omega)]; rfl
  have hi1 : (s.size : Int) - 1 < (s.size : Int) := by omega
  have hi2 : (0 : Int) ≤ (s.size : Int) - 1 := by omega
  have hi3 : ((s.size : Int) - 1).toNat = s.size - 1 := by omega
  by_cases h3 : (s[0].toNat : Int) = 34
  case neg =>
    have hd2 : Hid (unqB s.data.toList = ([], 6)) := by unfold Hid; rw [hd.out, e0.out]; simp [h3]
    have h4 : ((s[0].toNat : Int) != 34) = true := by simp [h3]
    clear h3
    go_enter Tryz.func33, Tryz.ntmps33
    go_wp2
    go_ret2
    rw [hd2.out]
    exact ⟨rfl, rfl⟩
  have h4 : ((s[0].toNat : Int) != 34) = false := by simp [h3]
  have H3 := Lib.hid h3
  clear h3
  by_cases h5 : (s[s.size - 1].toNat : Int) = 34
  case neg =>
    have hd2 : Hid (unqB s.data.toList = ([], 6)) := by unfold Hid; rw [hd.out, e0.out, e1.out]; simp [h5]
    have h6 : ((s[s.size - 1].toNat : Int) != 34) = true := by simp [h5]
    go_enter Tryz.func33, Tryz.ntmps33
    go_wp2
    go_ret2
    rw [hd2.out]
    exact ⟨rfl, rfl⟩
  have h6 : ((s[s.size - 1].toNat : Int) != 34) = false := by simp [h5]
  have hd2 : Hid (unqB s.data.toList = (match unDbl (innerB s.data.toList) with
      | some t => (if textB t then (t, 0) else ([], 6) : List UInt8 × Int)
      | none => (([], 6) : List UInt8 × Int))) := by
    unfold Hid; rw [hd.out, e0.out, e1.out]; simp [h2, H3.out, h5]
  clear h5
  go_enter Tryz.func33, Tryz.ntmps33
  go_wp2
  go_loop [4, 5] (fun o i => ∃ (k : Nat) (a : ByteArray), k ≤ s.size - 1 ∧ i = .int .i64 k ∧ o = .string a ∧ a.size ≤ k ∧ Hid (unDbl (innerB s.data.toList) = (unDbl (restQ s.data.toList k)).map (a.data.toList ++ ·))) (fun o i => s.size - (intOf i).toNat)
  case atStart => exact ⟨1, ⟨#[]⟩, by omega, rfl, rfl, by decide, by unfold Hid; rw [restQ_one]; simp⟩
  case round =>
    obtain ⟨k, a, hk, rfl, rfl, ha, HR⟩ := hrel
    by_cases hlt : k < s.size - 1
    · have hlt2 : k < s.size := by omega
      have hlt3 : (k : Int) < (s.size : Int) - 1 := by omega
      have hp := piece_size s k hlt2
      have hq : (a ++ s.extract k (k + 1)).size = a.size + 1 := by rw [ByteArray.size_append, hp]
      have HS := Lib.hid (restQ_step s k hlt hlt2)
      by_cases h34 : (s[k].toNat : Int) = 34
      · have H34 := Lib.hid (is34 h34)
        by_cases hl2 : k + 1 < s.size - 1
        · have hlt4 : k + 1 < s.size := by omega
          have hlt5 : ¬ ((k : Int) + 1 = (s.size : Int) - 1) := by omega
          have HS2 := Lib.hid (restQ_step s (k + 1) hl2 hlt4)
          by_cases h35 : (s[k + 1].toNat : Int) = 34
          · have H35 := Lib.hid (is34 h35)
            have h36 : ((s[k + 1].toNat : Int) != 34) = false := by simp [h35]
            have h37 : ((k : Int) + 1 == (s.size : Int) - 1) = false := by simp [hlt5]
            clear h35
            go_wp2
            all_goals first | (exfalso; omega) | skip
            go_round
            case rel => exact ⟨k + 1 + 1, _, by omega, by go_num, rfl, by rw [hq]; omega, by
              unfold Hid
              rw [HR.out, HS.out, HS2.out, H34.out, H35.out, unDbl_two, cat_list, piece_list s k hlt2, H34.out, Option.map_map]
              congr 1
              funext x
              simp⟩
            case measure => simp [intOf]; omega
          · have H35 := Lib.hid (not34 h35)
            have h36 : ((s[k + 1].toNat : Int) != 34) = true := by simp [h35]
            have h37 : ((k : Int) + 1 == (s.size : Int) - 1) = false := by simp [hlt5]
            clear h35
            go_wp2
            all_goals first | (exfalso; omega) | skip
            go_ret2
            rw [hd2.out, HR.out, HS.out, HS2.out, H34.out, unDbl_lone _ H35.out]
            exact ⟨rfl, rfl⟩
        · have hlt5 : (k : Int) + 1 = (s.size : Int) - 1 := by omega
          have h37 : ((k : Int) + 1 == (s.size : Int) - 1) = true := by simp [hlt5]
          go_wp2
          all_goals first | (exfalso; omega) | skip
          go_ret2
          rw [hd2.out, HR.out, HS.out, H34.out, show k + 1 = s.size - 1 by omega, restQ_end, unDbl_last]
          exact ⟨rfl, rfl⟩
      · have H34 := Lib.hid (not34 h34)
        go_wp2
        all_goals first | (exfalso; omega) | skip
        go_round
        case rel => exact ⟨k + 1, _, by omega, by go_num, rfl, by rw [hq]; omega, by
          unfold Hid
          rw [HR.out, HS.out, unDbl_plain _ H34.out, cat_list, piece_list s k hlt2, Option.map_map]
          congr 1
          funext x
          simp⟩
        case measure => simp [intOf]; omega
    · have hke : k = s.size - 1 := by omega
      have hlt3 : ¬ ((k : Int) < (s.size : Int) - 1) := by omega
      have hm : a.size ≤ maxLen := by unfold maxLen; omega
      have HT : Hid (unDbl (innerB s.data.toList) = some a.data.toList) := by
        unfold Hid
        rw [HR.out, hke, restQ_end]
        simp [unDbl]
      cases ht : textB a.data.toList
      · go_wp2_with (go_at_call 59; refine (refText_any _ _ hm).mono ?_; rintro e w' ⟨rfl, rfl⟩)
        all_goals first | (exfalso; omega) | skip
        go_ret2
        rw [hd2.out, HT.out]
        simp only []
        rw [if_neg (by rw [ht]; decide)]
        exact ⟨rfl, trivial⟩
      · go_wp2_with (go_at_call 59; refine (refText_any _ _ hm).mono ?_; rintro e w' ⟨rfl, rfl⟩)
        all_goals first | (exfalso; omega) | skip
        go_ret2
        rw [hd2.out, HT.out]
        simp only []
        rw [if_pos ht]
        exact ⟨ret_str (ba_of_list rfl) rfl, trivial⟩
end Go.Proofs.YtdcgfbebeiheiaaGreatDoor
