/- Decimal forms: what the program reads as a number. -/
import Derived.Test.YtdcgfbebeiheiaaGreatDoorText
import Derived.Test.YtdcgfbebeiheiaaGreatDoorShelf
import Derived.WalkSmall
import Derived.Sort.Grow
import Derived.Lib.ParseIntB
import Derived.Lib.SmallJoins
import Derived.Lib.AtoiErrMem
namespace Go.Proofs.YtdcgfbebeiheiaaGreatDoor
open Go.RowKit

def dgB (c : UInt8) : Bool := isDigB c.toNat
def natB (l : List UInt8) : Bool := !l.isEmpty && !(decide (((l.headD 0).toNat : Int) = 48) && !(l == [48])) && l.all dgB
def decB (l : List UInt8) : Bool := if Lib.hasPrefix l [45] then natB (Lib.trimPrefix l [45]) && !(Lib.trimPrefix l [45] == [48]) else natB l

set_option maxHeartbeats 1000000 in
theorem isNatural_any (s : ByteArray) (w : World) (hw : Gd w) (hs : s.size ≤ maxLen) :
    Calls Tryz.prog 74 #[.string s] w fun e w' => e = .returned (.bool (natB s.data.toList)) ∧ w = w' := by
  unfold maxLen at hs
  have htl := Lib.toList_data s
  have Htl : Hid (s.toList = s.data.toList) := htl
  clear htl
  by_cases hl1 : 1 ≤ s.size
  case neg =>
    have h0 : Hid (s.data.toList = []) := by unfold Hid; apply List.eq_nil_of_length_eq_zero; rw [← Lib.size_eq]; omega
    have he : s.toList.isEmpty = true := by rw [Htl.out, h0.out]; rfl
    go_enter Tryz.func74, Tryz.ntmps74
    go_wp2
    go_ret
    exact ⟨ret_bool (by rw [h0.out]; rfl), rfl⟩
  have hne : Hid (s.data.toList ≠ []) := by unfold Hid; intro h; have := Lib.size_eq s; rw [h, List.length_nil] at this; omega
  have he : s.toList.isEmpty = false := by rw [Htl.out]; simpa using hne.out
  have he2 : Hid (s.data.toList.isEmpty = false) := by unfold Hid; simpa using hne.out
  have h00 : Hid (s.data.toList.headD 0 = s[0]) := by have := drop_get s 0 hl1; rw [List.drop_zero] at this; unfold Hid; rw [this]; rfl
  have hdef : Hid (natB s.data.toList = (!(decide ((s[0].toNat : Int) = 48) && !(s.toList == [48])) && s.data.toList.all dgB)) := by
    unfold Hid natB; rw [he2.out, h00.out, Htl.out]; simp
  by_cases h48 : (s[0].toNat : Int) = 48 <;> cases hz : (s.toList == [48])
  case pos.false =>
    go_enter Tryz.func74, Tryz.ntmps74
    go_wp2
    go_ret
    exact ⟨ret_bool (by rw [hdef.out, hz]; simp [h48]), rfl⟩
  all_goals
    have hdef2 : Hid (natB s.data.toList = s.data.toList.all dgB) := by unfold Hid; rw [hdef.out, hz]; simp [h48]
    go_enter Tryz.func74, Tryz.ntmps74
    go_wp2
    go_loop [17] (fun i => ∃ k : Nat, k ≤ s.size ∧ i = .int .i64 k ∧ Hid (s.data.toList.all dgB = (s.data.toList.drop k).all dgB)) (fun i => s.size - (intOf i).toNat)
    case atStart => exact ⟨0, Nat.zero_le _, rfl, rfl⟩
    case round =>
      obtain ⟨k, hk, rfl, HR⟩ := hrel
      by_cases hlt : k < s.size
      · have hd : Hid (s.data.toList.drop k = s[k] :: s.data.toList.drop (k + 1)) := drop_get s k hlt
        have hdg : Hid (dgB s[k] = isDigB s[k].toNat) := rfl
        cases h1 : isDigB (s[k].toNat : Int)
        all_goals
          go_wp2_with (go_at_call 88; refine (isDecimalDigit_any _ _ hw).mono ?_; rintro e w' ⟨rfl, rfl⟩)
        · go_ret
          exact ⟨ret_bool (by rw [hdef2.out, HR.out, hd.out, List.all_cons, hdg.out, h1]; rfl), rfl⟩
        · go_round
          case rel => exact ⟨k + 1, by omega, by go_num, by unfold Hid; rw [HR.out, hd.out, List.all_cons, hdg.out, h1]; rfl⟩
          case measure => simp [intOf]; omega
      · have h0 : Hid (s.data.toList.drop k = []) := List.drop_eq_nil_of_le (by simp; omega)
        go_wp2
        go_ret
        exact ⟨ret_bool (by rw [hdef2.out, HR.out, h0.out]; rfl), rfl⟩

theorem CutPrefix_any (s p : ByteArray) (w : World) :
    Calls Tryz.prog 106 #[.string s, .string p] w fun e w' => e = .returned (.tuple #[.string ⟨(Lib.trimPrefix s.data.toList p.data.toList).toArray⟩, .bool (Lib.hasPrefix s.data.toList p.data.toList)]) ∧ w = w' :=
  (Tryz.strings_CutPrefix s p w).mono fun _ _ ⟨h1, h2⟩ => ⟨h1, h2.symm⟩

theorem hasPrefix_no (l p : List UInt8) (h : Lib.hasPrefix l p = false) : Lib.trimPrefix l p = l := by unfold Lib.trimPrefix; rw [h]; rfl

set_option maxHeartbeats 1000000 in
theorem isDecimalForm_any (s : ByteArray) (w : World) (hw : Gd w) (hs : s.size ≤ maxLen) :
    Calls Tryz.prog 96 #[.string s] w fun e w' => e = .returned (.bool (decB s.data.toList)) ∧ w = w' := by
  have hle := Lib.trimPrefix_le s.data.toList [45]
  have hsz := Lib.size_eq s
  have hb : (⟨(Lib.trimPrefix s.data.toList [45]).toArray⟩ : ByteArray).size ≤ maxLen := by rw [Lib.size_eq]; simp only; omega
  have hd : Hid (decB s.data.toList = if Lib.hasPrefix s.data.toList [45] then natB (Lib.trimPrefix s.data.toList [45]) && !(Lib.trimPrefix s.data.toList [45] == [48]) else natB s.data.toList) := rfl
  clear hle hsz
  cases hp : Lib.hasPrefix s.data.toList [45]
  · go_enter Tryz.func96, Tryz.ntmps96
    go_wp2_with (first | (go_at_call 106; refine (CutPrefix_any _ _ _).mono ?_; rintro e w' ⟨rfl, rfl⟩) | (go_at_call 74; refine (isNatural_any _ _ hw hs).mono ?_; rintro e w' ⟨rfl, rfl⟩))
    go_ret
    exact ⟨ret_bool (by rw [hd.out, hp]; rfl), rfl⟩
  · go_enter Tryz.func96, Tryz.ntmps96
    go_wp2_with (first | (go_at_call 106; refine (CutPrefix_any _ _ _).mono ?_; rintro e w' ⟨rfl, rfl⟩) | (go_at_call 74; refine (isNatural_any _ _ hw hb).mono ?_; rintro e w' ⟨rfl, rfl⟩))
    all_goals
      go_ret
      rename_i hn
      exact ⟨ret_bool (by rw [hd.out, hp]; simp only [if_true]; simp [hn]), rfl⟩

/-- The number that a decimal form stands for. -/
def natV (l : List UInt8) : Nat := l.foldl (fun a c => a * 10 + (c.toNat - 48)) 0
def numV (l : List UInt8) : Int := if Lib.hasPrefix l [45] then -(natV (Lib.trimPrefix l [45]) : Int) else natV l
/-- What Int answers: the number and the error. -/
def intB (l : List UInt8) (mn mx : Int) : Int × Int := if mx < mn then (0, 2) else if decB l = false then (0, 6) else if numV l < mn ∨ mx < numV l then (0, 7) else (numV l, 0)

def valF (a : Nat) (l : List UInt8) : Nat := l.foldl (fun a c => a * 10 + (c.toNat - 48)) a
theorem valF_cons (a : Nat) (c : UInt8) (l : List UInt8) : valF a (c :: l) = valF (a * 10 + (c.toNat - 48)) l := by unfold valF; rw [List.foldl_cons]
theorem natV_def (l : List UInt8) : natV l = valF 0 l := rfl
theorem valF_ge : ∀ (l : List UInt8) (a : Nat), a ≤ valF a l
  | [], a => Nat.le_refl _
  | c :: l, a => by rw [valF_cons]; exact Nat.le_trans (by omega) (valF_ge l _)
theorem dgB_iff (c : UInt8) : dgB c = true ↔ (48 ≤ c.toNat ∧ c.toNat ≤ 57) := by unfold dgB isDigB; simp; omega

theorem parseUintM_ok (M : Nat) (hM : M < 18446744073709551620) : ∀ (l : List UInt8) (acc : Nat), l.all dgB = true → acc ≤ M → Lib.parseUintM M acc l = (if M < valF acc l then .range else .ok (valF acc l))
  | [], acc, _, h => by rw [Lib.parseUintM, show valF acc [] = acc from rfl, if_neg (by omega)]
  | c :: l, acc, hd, h => by
    rw [List.all_cons, Bool.and_eq_true] at hd
    have hc := (dgB_iff c).1 hd.1
    have hv := valF_ge l (acc * 10 + (c.toNat - 48))
    rw [Lib.parseUintM, if_pos hc, valF_cons]
    by_cases h1 : 1844674407370955162 ≤ acc
    · rw [if_pos h1, if_pos (by omega)]
    · rw [if_neg h1]
      by_cases h2 : M < acc * 10 + (c.toNat - 48)
      · rw [if_pos h2, if_pos (by omega)]
      · rw [if_neg h2]
        exact parseUintM_ok M hM l _ hd.2 (by omega)

theorem natB_parts {l : List UInt8} (h : natB l = true) : l ≠ [] ∧ l.all dgB = true := by
  unfold natB at h
  simp only [Bool.and_eq_true, Bool.not_eq_true'] at h
  exact ⟨by intro e; rw [e] at h; simp at h, h.2⟩

theorem parseUintB_nat {l : List UInt8} (h : natB l = true) : Lib.parseUintB 64 l = (if 18446744073709551615 < natV l then .range else .ok (natV l)) := by
  obtain ⟨h1, h2⟩ := natB_parts h
  unfold Lib.parseUintB
  rw [if_neg h1, parseUintM_ok _ (by decide) l 0 h2 (by omega)]
  rfl

theorem head_dg {l : List UInt8} (h : natB l = true) : ∃ c r, l = c :: r ∧ 48 ≤ c.toNat ∧ c.toNat ≤ 57 := by
  obtain ⟨h1, h2⟩ := natB_parts h
  cases l with
  | nil => exact absurd rfl h1
  | cons c r =>
    rw [List.all_cons, Bool.and_eq_true] at h2
    exact ⟨c, r, rfl, (dgB_iff c).1 h2.1⟩

theorem prefix45 (l : List UInt8) : Lib.hasPrefix l [45] = true ↔ ∃ r, l = 45 :: r := by
  unfold Lib.hasPrefix
  cases l with
  | nil => simp [List.isPrefixOf]
  | cons c r =>
    constructor
    · intro h
      simp only [List.isPrefixOf, Bool.and_eq_true, beq_iff_eq] at h
      exact ⟨r, by rw [← h.1]⟩
    · rintro ⟨r', h⟩
      cases h
      rfl

theorem dec_parse {l : List UInt8} (h : decB l = true) :
    (Lib.parseIntB 64 l = .ok (numV l) ∧ -9223372036854775808 ≤ numV l ∧ numV l ≤ 9223372036854775807) ∨
    (Lib.parseIntB 64 l = .range ∧ (numV l < -9223372036854775808 ∨ 9223372036854775807 < numV l)) := by
  unfold decB at h
  unfold numV
  cases hp : Lib.hasPrefix l [45] with
  | true =>
    rw [hp] at h
    simp only [if_true, Bool.and_eq_true] at h ⊢
    obtain ⟨r, rfl⟩ := (prefix45 l).1 hp
    have ht : Lib.trimPrefix (45 :: r) [45] = r := by unfold Lib.trimPrefix; rw [hp]; rfl
    rw [ht] at h ⊢
    have hu := parseUintB_nat h.1
    simp only [Lib.parseIntB]
    rw [if_pos (by right; decide), hu]
    by_cases hb : 18446744073709551615 < natV r
    · rw [if_pos hb]; right; exact ⟨rfl, by left; omega⟩
    · rw [if_neg hb]
      simp only
      rw [if_neg (by intro hh; exact hh.1 (by decide))]
      by_cases hc : 2 ^ 63 < natV r
      · right; refine ⟨?_, by left; omega⟩
        rw [if_pos ⟨by decide, hc⟩]
      · left; refine ⟨?_, by omega, by omega⟩
        rw [if_neg (by intro hh; exact hc hh.2), if_pos (by decide)]
  | false =>
    rw [hp] at h
    simp only [Bool.false_eq_true, if_false] at h ⊢
    obtain ⟨c, r, rfl, hc1, hc2⟩ := head_dg h
    have hu := parseUintB_nat h
    simp only [Lib.parseIntB]
    rw [if_neg (by omega), hu]
    by_cases hb : 18446744073709551615 < natV (c :: r)
    · rw [if_pos hb]; right; exact ⟨rfl, by right; omega⟩
    · rw [if_neg hb]
      simp only
      by_cases hc : 2 ^ 63 ≤ natV (c :: r)
      · right; refine ⟨?_, by right; omega⟩
        rw [if_pos ⟨by omega, hc⟩]
      · left; refine ⟨?_, by omega, by omega⟩
        rw [if_neg (by intro hh; exact hc hh.2), if_neg (by omega), if_neg (by omega)]

set_option maxHeartbeats 1000000 in
theorem Int_any (s : ByteArray) (mn mx : Int) (w : World) (hw : Gd w) (hs : s.size ≤ 281474976710656) (hmn : -9223372036854775808 ≤ mn) (hmx : mx ≤ 9223372036854775807) :
    Calls Tryz.prog 87 #[.string s, .int .i64 mn, .int .i64 mx] w fun e w' => e = .returned (.tuple #[.int .i64 (intB s.data.toList mn mx).1, .int .i64 (intB s.data.toList mn mx).2]) ∧ Below w.heap.size w w' := by
  have hs' : s.size ≤ maxLen := by unfold maxLen; omega
  have hdef : Hid (intB s.data.toList mn mx = if mx < mn then (0, 2) else if decB s.data.toList = false then (0, 6) else if numV s.data.toList < mn ∨ mx < numV s.data.toList then (0, 7) else (numV s.data.toList, 0)) := rfl
  by_cases h1 : mx < mn
  · go_enter Tryz.func87, Tryz.ntmps87
    go_wp2
    go_ret2
    rw [hdef.out, if_pos h1]
    exact ⟨rfl, Below.refl _ _⟩
  cases h2 : decB s.data.toList
  · go_enter Tryz.func87, Tryz.ntmps87
    go_wp2_with (go_at_call 96; refine (isDecimalForm_any _ _ hw hs').mono ?_; rintro e w' ⟨rfl, rfl⟩)
    go_ret2
    rw [hdef.out, if_neg (by omega), if_pos h2]
    exact ⟨rfl, Below.refl _ _⟩
  have hdef2 : Hid (intB s.data.toList mn mx = if numV s.data.toList < mn ∨ mx < numV s.data.toList then (0, 7) else (numV s.data.toList, 0)) := by unfold Hid; rw [hdef.out, if_neg h1, if_neg (by rw [h2]; decide)]
  obtain ⟨tp, p, hvar⟩ := hw.er
  have HV := Lib.hid hvar
  clear hvar
  rcases dec_parse h2 with ⟨hp, hlo, hhi⟩ | ⟨hp, hout⟩
  · have HP := Lib.hid hp
    clear hp
    by_cases h3 : numV s.data.toList < mn <;> by_cases h4 : mx < numV s.data.toList
    all_goals
      go_enter Tryz.func87, Tryz.ntmps87
      go_wp2_with (first | (go_at_call 96; refine (isDecimalForm_any _ _ hw hs').mono ?_; rintro e w' ⟨rfl, rfl⟩) | (go_at_call 97; refine (Tryz.strconv_ParseInt_10_at64_ok _ (by omega) _ HP.out _).mono ?_; rintro e w' ⟨rfl, hw'⟩))
      all_goals
        go_ret2
        rw [hdef2.out]
        refine ⟨?_, ?_⟩
        · first | (rw [if_pos (by omega)]; rfl) | (rw [if_neg (by omega)]; rfl)
        · rcases hw' with rfl | ⟨t, rfl⟩
          · exact Below.refl _ _
          · exact Lib.bytesWorld_below _ _ _
  · have HP := Lib.hid hp
    clear hp
    have hin : numV s.data.toList < mn ∨ mx < numV s.data.toList := by omega
    go_enter Tryz.func87, Tryz.ntmps87
    go_wp2_with (first | (go_at_call 96; refine (isDecimalForm_any _ _ hw hs').mono ?_; rintro e w' ⟨rfl, rfl⟩) | (go_at_call 97; refine (Tryz.strconv_ParseInt_10_at64_range_var _ hs HP.out tp p _ HV.out).mono ?_; rintro e w' ⟨N, rfl, hN, hc, hB⟩))
    go_ret2
    rw [hdef2.out, if_pos hin]
    exact ⟨rfl, hB⟩

def clampB (l : List UInt8) : Int := if (intB l 0 9999).2 = 7 then 10000 else (intB l 0 9999).1
theorem intB_list (l : List UInt8) : (decB l = false ∧ intB l 0 9999 = (0, 6)) ∨ (decB l = true ∧ (numV l < 0 ∨ 9999 < numV l) ∧ intB l 0 9999 = (0, 7)) ∨ (decB l = true ∧ 0 ≤ numV l ∧ numV l ≤ 9999 ∧ intB l 0 9999 = (numV l, 0)) := by
  have h0 : ¬ ((9999 : Int) < 0) := by decide
  by_cases h1 : decB l = false
  · left; exact ⟨h1, by unfold intB; rw [if_neg h0, if_pos h1]⟩
  · right
    have h1' : decB l = true := by simpa using h1
    by_cases h2 : numV l < 0 ∨ 9999 < numV l
    · left; exact ⟨h1', h2, by unfold intB; rw [if_neg h0, if_neg h1, if_pos h2]⟩
    · right; exact ⟨h1', by omega, by omega, by unfold intB; rw [if_neg h0, if_neg h1, if_neg h2]⟩
theorem clampB_cases (l : List UInt8) : (decB l = false ∧ clampB l = 0) ∨ (decB l = true ∧ (numV l < 0 ∨ 9999 < numV l) ∧ clampB l = 10000) ∨ (decB l = true ∧ 0 ≤ numV l ∧ numV l ≤ 9999 ∧ clampB l = numV l) := by
  unfold clampB
  rcases intB_list l with ⟨h, e⟩ | ⟨h, h2, e⟩ | ⟨h, h2, h3, e⟩
  · left; rw [e]; exact ⟨h, rfl⟩
  · right; left; rw [e]; exact ⟨h, h2, rfl⟩
  · right; right; rw [e]; exact ⟨h, h2, h3, rfl⟩
theorem clampB_bd (l : List UInt8) : 0 ≤ clampB l ∧ clampB l ≤ 10000 := by
  rcases clampB_cases l with ⟨_, e⟩ | ⟨_, _, e⟩ | ⟨_, h2, h3, e⟩ <;> rw [e] <;> omega

set_option maxHeartbeats 1000000 in
theorem clamped_any (s : ByteArray) (w : World) (hw : Gd w) (hs : s.size ≤ 281474976710656) :
    Calls Tryz.prog 73 #[.string s] w fun e w' => e = .returned (.int .i64 (clampB s.data.toList)) ∧ Below w.heap.size w w' := by
  unfold clampB
  by_cases h7 : (intB s.data.toList 0 9999).2 = 7
  all_goals
    go_enter Tryz.func73, Tryz.ntmps73
    go_wp2_with (go_at_call 87; refine (Int_any _ _ _ _ hw hs (by decide) (by decide)).mono ?_; rintro e w' ⟨rfl, hB⟩)
    go_ret
    first | exact ⟨rfl, hB⟩ | (rw [if_pos h7]; exact ⟨rfl, hB⟩) | (rw [if_neg h7]; exact ⟨rfl, hB⟩)
end Go.Proofs.YtdcgfbebeiheiaaGreatDoor
