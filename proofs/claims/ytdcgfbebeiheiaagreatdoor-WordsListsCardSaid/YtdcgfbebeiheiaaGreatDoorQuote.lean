/- Quotations and bare fields. -/
import Derived.Test.YtdcgfbebeiheiaaGreatDoorNums
import Derived.Lib.Replace
import Derived.Lib.ReplaceLaws
import Derived.Lib.SplitLaws
import Derived.Handy
import Derived.Lib.SmallJoins
namespace Go.Proofs.YtdcgfbebeiheiaaGreatDoor
open Go.RowKit

def quoteB (l : List UInt8) : List UInt8 × Int := if textB l then (34 :: (Lib.replaceAll l [34] [34, 34] ++ [34]), 0) else ([], 2)

theorem Replace_any (s old new : ByteArray) (w : World) (hw : Gd w) (hs : s.size ≤ 4000000) (h1 : 1 ≤ old.size) (h2 : new.size ≤ 2) :
    Calls Tryz.prog 46 #[.string s, .string old, .string new] w fun e w' =>
      e = .returned (.string ⟨(Lib.replaceAll s.data.toList old.data.toList new.data.toList).toArray⟩) ∧ Below w.heap.size w w' :=
  let ⟨m, hm⟩ := hw.ml
  Tryz.strings_ReplaceAll s old new m w (by omega) hm h1 (by
    have := Lib.countB_le old h1 s.size s (Nat.le_refl _)
    have : Lib.countB s old * new.size ≤ 4000000 * 2 := Nat.mul_le_mul (by omega) h2
    omega)

theorem replaceK_len (old new : List UInt8) (hn : new.length ≤ 2) : ∀ (k : Nat) (l : List UInt8), (Lib.replaceK old new k l).length ≤ l.length + 2 * k
  | 0, l => by simp [Lib.replaceK]
  | k + 1, l => by
    rw [Lib.replaceK]
    split
    · omega
    · have := replaceK_len old new hn k (l.drop ((Lib.index l old).toNat + old.length))
      simp only [List.length_append, List.length_take, List.length_drop] at *
      omega
theorem replaceAll_len (l old new : List UInt8) (hn : new.length ≤ 2) : (Lib.replaceAll l old new).length ≤ 3 * l.length + 2 := by
  unfold Lib.replaceAll Lib.replace
  split
  · omega
  · have := replaceK_len old new hn (Lib.replaceNum l old (-1)) l
    have h2 : Lib.replaceNum l old (-1) ≤ l.length + 1 := by unfold Lib.replaceNum; rw [if_pos (by left; decide)]; exact Lib.count_le _ _
    omega

theorem ba_ext {a b : ByteArray} (h : a.data.toList = b.data.toList) : a = b := by
  rw [← Lib.mk_data a, ← Lib.mk_data b, h]
theorem quote_cat (L : List UInt8) : (⟨(34 :: (L ++ [34])).toArray⟩ : ByteArray) = ⟨#[34]⟩ ++ ⟨L.toArray⟩ ++ ⟨#[34]⟩ := by
  apply ba_ext
  simp
set_option maxHeartbeats 1000000 in
theorem Quote_any (s : ByteArray) (w : World) (hw : Gd w) (hs : s.size ≤ maxLen) :
    Calls Tryz.prog 21 #[.string s] w fun e w' => e = .returned (.tuple #[.string ⟨(quoteB s.data.toList).1.toArray⟩, .int .i64 (quoteB s.data.toList).2]) ∧ Below w.heap.size w w' := by
  cases ht : textB s.data.toList
  · have hd : Hid (quoteB s.data.toList = ([], 2)) := by unfold Hid quoteB; rw [ht]; rfl
    go_enter Tryz.func21, Tryz.ntmps21
    go_wp2_with (go_at_call 45; refine (Text_any _ _ hs).mono ?_; rintro e w' ⟨rfl, rfl⟩)
    go_ret2
    rw [hd.out]
    exact ⟨rfl, Below.refl _ _⟩
  · have hd : Hid (quoteB s.data.toList = (34 :: (Lib.replaceAll s.data.toList [34] [34, 34] ++ [34]), 0)) := by unfold Hid quoteB; rw [ht]; rfl
    have hs2 : s.size ≤ 200 := by
      unfold textB at ht
      rw [Bool.and_eq_true, decide_eq_true_eq] at ht
      rw [Lib.size_eq]; exact ht.1
    have hlen := replaceAll_len s.data.toList [34] [34, 34] (Nat.le_refl _)
    rw [← Lib.size_eq] at hlen
    obtain ⟨L, hL⟩ : ∃ L, Lib.replaceAll s.data.toList [34] [34, 34] = L := ⟨_, rfl⟩
    rw [hL] at hlen
    have hLs : L.length ≤ 1000 := by omega
    have HL := Lib.hid hL
    clear hL hlen
    go_enter Tryz.func21, Tryz.ntmps21
    go_wp2_with (first | (go_at_call 45; refine (Text_any _ _ hs).mono ?_; rintro e w' ⟨rfl, rfl⟩) | (go_at_call 46; refine (Replace_any _ _ _ _ hw (by omega) (by decide) (by decide)).mono ?_; rintro e w' ⟨rfl, hB⟩; rw [HL.out]))
    go_ret2
    rw [hd.out, HL.out]
    refine ⟨?_, hB⟩
    rw [show (⟨(34 :: (L ++ [34])).toArray⟩ : ByteArray) = ⟨#[34]⟩ ++ ⟨L.toArray⟩ ++ ⟨#[34]⟩ from quote_cat L]
    rfl

theorem Contains_q (s : ByteArray) (w : World) : Calls Tryz.prog 77 #[.string s, .string ⟨#[34]⟩] w fun e w' => e = .returned (.bool (decide (0 ≤ Lib.indexByte s.data.toList 34))) ∧ w = w' :=
  (Tryz.strings_Contains_one s 34 w).mono fun _ _ ⟨h, h'⟩ => ⟨h, h'.symm⟩
def bareB (l : List UInt8) : Bool := !l.isEmpty && decide (l.length ≤ 200) && withinB 33 126 l && !(decide (0 ≤ Lib.indexByte l 34))

set_option maxHeartbeats 1000000 in
theorem isBare_any (s : ByteArray) (w : World) (hs : s.size ≤ maxLen) :
    Calls Tryz.prog 58 #[.string s] w fun e w' => e = .returned (.bool (bareB s.data.toList)) ∧ w = w' := by
  have hs' := hs
  unfold maxLen at hs'
  have hd : Hid (bareB s.data.toList = (!s.toList.isEmpty && decide (s.size ≤ 200) && withinB 33 126 s.data.toList && !(decide (0 ≤ Lib.indexByte s.data.toList 34)))) := by
    unfold Hid bareB; rw [Lib.toList_data, Lib.size_eq]
  cases he : s.toList.isEmpty <;> by_cases hl : s.size ≤ 200 <;> cases hw : withinB 33 126 s.data.toList
  all_goals
    go_enter Tryz.func58, Tryz.ntmps58
    go_wp2_with (first | (go_at_call 67; refine (within_any s _ _ _ hs).mono ?_; rintro e w' ⟨rfl, rfl⟩) | (go_at_call 77; refine (Contains_q s _).mono ?_; rintro e w' ⟨rfl, rfl⟩))
    all_goals
      go_ret
      exact ⟨ret_bool (by rw [hd.out, he, hw]; simp [hl]), rfl⟩

/-- Where the first field of a text ends. -/
def feB : Bool → List UInt8 → Nat
  | _, [] => 0
  | q, c :: r => if (c.toNat : Int) = 32 ∧ q = false then 0 else 1 + feB (if (c.toNat : Int) = 34 then !q else q) r
theorem feB_le : ∀ (l : List UInt8) (q : Bool), feB q l ≤ l.length
  | [], _ => Nat.le_refl _
  | c :: r, q => by
    rw [feB]
    split
    · exact Nat.zero_le _
    · have := feB_le r (if (c.toNat : Int) = 34 then !q else q)
      simp only [List.length_cons]; omega

set_option maxHeartbeats 1000000 in
theorem fieldEnd1_any (c : Int) (q : Bool) (a : Addr) (w : World) (hc : w.cell? a = some (.bool q)) (hf : w.frozen? a = false) :
    Calls Tryz.prog 75 #[.int .u8 c, .pointer (some a)] w fun e w' => e = .returned (.bool (decide (c = 32 ∧ q = false))) ∧ w' = (if c = 34 then w.setCell a (.bool (!q)) else w) := by
  by_cases h1 : c = 34
  · have h2 : (c == 34) = true := by simp [h1]
    have h3 : (c == 32) = false := by simp [h1]
    rw [if_pos h1]
    have h4 : decide (c = 32 ∧ q = false) = false := by simp [h1]
    rw [h4]
    clear h1 h4
    go_enter Tryz.func75, Tryz.ntmps75
    go_wp2
    go_ret
    exact ⟨rfl, rfl⟩
  · have h2 : (c == 34) = false := by simp [h1]
    rw [if_neg h1]
    by_cases h5 : c = 32
    · have h3 : (c == 32) = true := by simp [h5]
      have h4 : decide (c = 32 ∧ q = false) = !q := by cases q <;> simp [h5]
      rw [h4]
      clear h1 h4 h5
      go_enter Tryz.func75, Tryz.ntmps75
      go_wp2
      go_ret
      exact ⟨rfl, rfl⟩
    · have h3 : (c == 32) = false := by simp [h5]
      have h4 : decide (c = 32 ∧ q = false) = false := by simp [h5]
      rw [h4]
      clear h1 h4 h5
      go_enter Tryz.func75, Tryz.ntmps75
      go_wp2
      go_ret
      exact ⟨rfl, rfl⟩
end Go.Proofs.YtdcgfbebeiheiaaGreatDoor
