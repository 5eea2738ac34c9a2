/- The other way to quote: its walk. -/
import Derived.Test.YtdcgfbebeiheiaaGreatDoorQuoteM
import Derived.Test.YtdcgfbebeiheiaaGreatDoorText
import Derived.KernelRfl
namespace Go.Proofs.YtdcgfbebeiheiaaGreatDoor
open Go.RowKit

theorem cat_list (a b : ByteArray) : (a ++ b).data.toList = a.data.toList ++ b.data.toList := by simp
theorem piece_list (s : ByteArray) (k : Nat) (h : k < s.size) : (s.extract k (k + 1)).data.toList = [s[k]] := by
  have e : (s.extract k (k + 1)).data.toList = (s.data.toList.drop k).take (k + 1 - k) := by simp [List.take_drop]
  rw [e, drop_get s k h, show k + 1 - k = 1 by omega]
  rfl
theorem piece_size (s : ByteArray) (k : Nat) (h : k < s.size) : (s.extract k (k + 1)).size = 1 := by rw [Lib.size_eq, piece_list s k h]; rfl
theorem ba_of_list {a : ByteArray} {l : List UInt8} (h : a.data.toList = l) : a = ⟨l.toArray⟩ := by
  obtain ⟨⟨x⟩⟩ := a
  simp only at h
  rw [h]
theorem ret_str {a b : ByteArray} {c d : Int} (h : a = b) (h2 : c = d) : Ending.returned (.tuple #[.string a, .int .i64 c]) = .returned (.tuple #[.string b, .int .i64 d]) := by rw [h, h2]

set_option maxRecDepth 100000 in
set_option maxHeartbeats 2000000 in
theorem refQuote_any (s : ByteArray) (w : World) (hs : s.size ≤ 1000000) :
    Calls Tryz.prog 40 #[.string s] w fun e w' => e = .returned (.tuple #[.string ⟨(quoteB s.data.toList).1.toArray⟩, .int .i64 (quoteB s.data.toList).2]) ∧ w = w' := by
  have hm : s.size ≤ maxLen := by unfold maxLen; omega
  cases ht : textB s.data.toList
  case false =>
    have hd : Hid (quoteB s.data.toList = ([], 2)) := by unfold Hid; rw [quoteB_eq, if_neg (by rw [ht]; decide)]
    go_enter Tryz.func40, Tryz.ntmps40
    go_wp2_with (go_at_call 59; refine (refText_any _ _ hm).mono ?_; rintro e w' ⟨rfl, rfl⟩)
    go_ret2
    rw [hd.out]
    exact ⟨rfl, rfl⟩
  case true =>
    have hd : Hid (quoteB s.data.toList = (34 :: (dblQ s.data.toList ++ [34]), 0)) := by unfold Hid; rw [quoteB_eq, if_pos ht]
    go_enter Tryz.func40, Tryz.ntmps40
    go_wp2_with (go_at_call 59; refine (refText_any _ _ hm).mono ?_; rintro e w' ⟨rfl, rfl⟩)
    go_loop [4, 5] (fun o i => ∃ (k : Nat) (a : ByteArray), k ≤ s.size ∧ i = .int .i64 k ∧ o = .string a ∧ a.size ≤ 1 + 2 * k ∧ Hid (a.data.toList ++ dblQ (s.data.toList.drop k) = 34 :: dblQ s.data.toList)) (fun o i => s.size - (intOf i).toNat)
    case atStart => exact ⟨0, ⟨#[34]⟩, Nat.zero_le _, rfl, rfl, by decide, rfl⟩
    case round =>
      obtain ⟨k, a, hk, rfl, rfl, ha, HR⟩ := hrel
      by_cases hlt : k < s.size
      · have hdr : Hid (s.data.toList.drop k = s[k] :: s.data.toList.drop (k + 1)) := drop_get s k hlt
        have hp := piece_size s k hlt
        have hq : (a ++ s.extract k (k + 1)).size = a.size + 1 := by rw [ByteArray.size_append, hp]
        by_cases h34 : (s[k].toNat : Int) = 34
        · go_wp2
          all_goals first | (exfalso; omega) | skip
          go_round
          case rel => exact ⟨k + 1, _, by omega, by go_num, rfl, by rw [ByteArray.size_append, hq]; show _ + 1 ≤ _; omega, by
            have h34' : s[k] = 34 := UInt8.toNat_inj.1 (by have : ((34 : UInt8).toNat : Int) = 34 := rfl; omega)
            unfold Hid
            rw [← HR.out, hdr.out, cat_list, cat_list, piece_list s k hlt, dblQ, if_pos h34', h34']
            simp⟩
          case measure => simp [intOf]; omega
        · go_wp2
          all_goals first | (exfalso; omega) | skip
          go_round
          case rel => exact ⟨k + 1, _, by omega, by go_num, rfl, by rw [hq]; omega, by
            have h34' : ¬ s[k] = 34 := fun e => h34 (by rw [e]; rfl)
            unfold Hid
            rw [← HR.out, hdr.out, cat_list, piece_list s k hlt, dblQ, if_neg h34']
            simp⟩
          case measure => simp [intOf]; omega
      · have h0 : Hid (s.data.toList.drop k = []) := List.drop_eq_nil_of_le (by simp; omega)
        go_wp2
        go_ret2
        have HR2 := HR.out
        rw [h0.out, dblQ, List.append_nil] at HR2
        exact ⟨ret_str (by rw [hd.out]; exact ba_of_list (by rw [cat_list, HR2]; rfl)) (by rw [hd.out]), rfl⟩
end Go.Proofs.YtdcgfbebeiheiaaGreatDoor
