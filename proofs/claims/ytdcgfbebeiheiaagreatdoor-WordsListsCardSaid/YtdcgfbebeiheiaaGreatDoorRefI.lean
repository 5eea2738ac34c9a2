/- The other way to read a number: its walk. -/
import Derived.Test.YtdcgfbebeiheiaaGreatDoorWhole
import Derived.Test.YtdcgfbebeiheiaaGreatDoorNumM
namespace Go.Proofs.YtdcgfbebeiheiaaGreatDoor
open Go.RowKit

/-- Within 64 bits. -/
def wrapI (x : Int) : Int := (x + 9223372036854775808) % 18446744073709551616 - 9223372036854775808
theorem wrapI_bounds (x : Int) : -9223372036854775808 ≤ wrapI x ∧ wrapI x ≤ 9223372036854775807 := by unfold wrapI; omega
theorem wrapI_in {x : Int} (h0 : -9223372036854775808 ≤ x) (h1 : x ≤ 9223372036854775807) : wrapI x = x := by unfold wrapI; omega

theorem wrap_step (m v d : Int) (h : m = wrapI v) : wrap64 (wrap64 (10 * m) + d) = wrapI (10 * v + d) := by
  subst h
  unfold wrap64 wrapI
  omega
theorem take_step (s : ByteArray) (k : Nat) (h : k < s.size) : s.data.toList.take (k + 1) = s.data.toList.take k ++ [s[k]] := by
  rw [List.take_add_one, List.getElem?_eq_getElem (by rw [← Lib.size_eq]; exact h)]
  rfl
theorem all_at (s : ByteArray) (k : Nat) (h : k < s.size) (f : Nat) (hf : f ≤ k) (ha : (s.data.toList.drop f).all dgB = true) : dgB s[k] = true := by
  have hk : k < s.data.toList.length := by rw [← Lib.size_eq]; exact h
  have h1 : s.data.toList[k] ∈ s.data.toList.drop f := by
    rw [List.mem_iff_getElem]
    exact ⟨k - f, by rw [List.length_drop]; omega, by rw [List.getElem_drop]; congr 1; omega⟩
  exact List.all_eq_true.1 ha _ h1

set_option maxRecDepth 100000 in
set_option maxHeartbeats 8000000 in
theorem refInt_pos (s : ByteArray) (mn mx : Int) (w : World) (hs : s.size ≤ 20) (hmn : -9223372036854775808 ≤ mn) (hmx : mx ≤ 9223372036854775807) (hmm : mn ≤ mx) (hdec : decB s.data.toList = true)
    (h0 : 0 < s.size) (c0 : Int) (hc0 : (s[0].toNat : Int) = c0) (h45 : ¬ c0 = 45) (ha : (s.data.toList.drop 0).all dgB = true) (hv : numV s.data.toList = (natV s.data.toList : Int)) :
    Calls Tryz.prog 29 #[.string s, .int .i64 mn, .int .i64 mx] w fun e w' => e = .returned (.tuple #[.int .i64 (intB s.data.toList mn mx).1, .int .i64 (intB s.data.toList mn mx).2]) ∧ Below w.heap.size w w' := by
  have hsm : s.size ≤ maxLen := by unfold maxLen; omega
  have hb45 : (c0 == 45) = false := by simp [h45]
  have HI : Hid (intB s.data.toList mn mx = if numV s.data.toList < mn ∨ mx < numV s.data.toList then (0, 7) else (numV s.data.toList, 0)) := by
    unfold Hid intB; rw [if_neg (by omega), if_neg (by rw [hdec]; decide)]
  have HDEC := Lib.hid hdec
  have HA := Lib.hid ha
  have HV := Lib.hid hv
  clear hdec ha hv
  go_enter Tryz.func29, Tryz.ntmps29
  go_wp2_with (go_at_call 52; refine (whole_any _ _ hsm).mono ?_; rintro e w' ⟨rfl, rfl⟩; rw [HDEC.out])
  all_goals first | (exfalso; omega) | skip
  go_loop [8, 9] (fun n i => ∃ (k : Nat) (m : Int), k ≤ s.size ∧ i = .int .i64 k ∧ n = .int .i64 m ∧ (-9223372036854775808 ≤ m ∧ m ≤ 9223372036854775807) ∧ Hid (m = wrapI ((natV (s.data.toList.take k) : Int)))) (fun n i => s.size - (intOf i).toNat)
  case atStart => exact ⟨0, 0, Nat.zero_le _, rfl, rfl, by omega, by unfold Hid wrapI natV; simp⟩
  case round =>
    obtain ⟨k, m, hk, rfl, rfl, hm, HR⟩ := hrel
    by_cases hlt : k < s.size
    · have hk1 : 0 ≤ k := Nat.zero_le _
      have hdd := all_at s k hlt 0 (by omega) HA.out
      have hdn := dgB_nat _ hdd
      have hdg : isDigB (s[k].toNat : Int) = true := hdd
      have hd1 : 48 ≤ (s[k].toNat : Int) ∧ (s[k].toNat : Int) ≤ 57 := by omega
      clear hdd
      have HN : Hid (natV (s.data.toList.take (k + 1)) = natV (s.data.toList.take k) * 10 + (s[k].toNat - 48)) := by
        unfold Hid
        rw [take_step s k hlt]; exact natV_snoc _ _
      go_wp2_with (go_at_call 53; refine (refdigit_any _ _).mono ?_; rintro e w' ⟨rfl, rfl⟩; rw [hdg])
      all_goals first | (exfalso; omega) | skip
      go_round
      case rel =>
        refine ⟨k + 1, wrapI (10 * ((natV (s.data.toList.take k) : Int)) + ((s[k].toNat : Int) - 48)), by omega, by go_num, ?_, wrapI_bounds _, ?_⟩
        · rw [← wrap_step m _ _ HR.out]
        · unfold Hid
          rw [HN.out]
          congr 1
          omega
      case measure => simp [intOf]; omega
    · have hke : k = s.size := by omega
      have hmv : m = wrapI (numV s.data.toList) := by
        rw [HR.out, HV.out, hke, List.take_of_length_le (by rw [← Lib.size_eq]; omega)]
      by_cases hr : -9223372036854775808 ≤ numV s.data.toList ∧ numV s.data.toList ≤ 9223372036854775807
      · have hmv2 : numV s.data.toList = m := by rw [hmv, wrapI_in hr.1 hr.2]
        have HX : Hid ((⟨(Lib.itoa m).toArray⟩ : BA) = s) := by
          unfold Hid
          rw [← hmv2, itoa_numV _ HDEC.out]
        have HM := Lib.hid hmv2
        clear hmv hr hmv2 hke HR
        by_cases h1 : m < mn
        · go_wp2_with (go_at_call 28; refine (refDigits_any m _ hm.1 hm.2).mono ?_; rintro e w1 ⟨rfl, hB⟩; rw [HX.out])
          all_goals first | (exfalso; omega) | skip
          go_ret2
          rw [HI.out, HM.out, if_pos (.inl h1)]
          exact ⟨rfl, hB⟩
        · by_cases h2 : mx < m
          · go_wp2_with (go_at_call 28; refine (refDigits_any m _ hm.1 hm.2).mono ?_; rintro e w1 ⟨rfl, hB⟩; rw [HX.out])
            all_goals first | (exfalso; omega) | skip
            go_ret2
            rw [HI.out, HM.out, if_pos (.inr h2)]
            exact ⟨rfl, hB⟩
          · go_wp2_with (go_at_call 28; refine (refDigits_any m _ hm.1 hm.2).mono ?_; rintro e w1 ⟨rfl, hB⟩; rw [HX.out])
            all_goals first | (exfalso; omega) | skip
            go_ret2
            rw [HI.out, HM.out, if_neg (by omega)]
            exact ⟨rfl, hB⟩
      · have hout : numV s.data.toList < mn ∨ mx < numV s.data.toList := by omega
        have hne : ¬ (Lib.itoa m = s.data.toList) := by
          intro e
          have h1 := (numV_itoa m).1
          rw [e] at h1
          exact hr (by rw [h1]; exact hm)
        have HI2 : Hid (intB s.data.toList mn mx = (0, 7)) := by unfold Hid; rw [HI.out, if_pos hout]
        obtain ⟨X, hX⟩ : ∃ X : BA, (⟨(Lib.itoa m).toArray⟩ : BA) = X := ⟨_, rfl⟩
        have hne3 : ¬ (X.data.toList = s.data.toList) := by
          rw [← hX]; exact hne
        have hne4 : ¬ (X.toList = s.toList) := by rw [Lib.toList_data, Lib.toList_data]; exact hne3
        have HX := Lib.hid hX
        clear hmv hr hout hne hke hX HI HR
        go_wp2_with (go_at_call 28; refine (refDigits_any m _ hm.1 hm.2).mono ?_; rintro e w1 ⟨rfl, hB⟩; rw [HX.out])
        all_goals first | (exfalso; omega) | contradiction | skip
        all_goals
          go_ret2
          rw [HI2.out]
          exact ⟨rfl, hB⟩

set_option maxRecDepth 100000 in
set_option maxHeartbeats 8000000 in
theorem refInt_neg (s : ByteArray) (mn mx : Int) (w : World) (hs : s.size ≤ 20) (hmn : -9223372036854775808 ≤ mn) (hmx : mx ≤ 9223372036854775807) (hmm : mn ≤ mx) (hdec : decB s.data.toList = true)
    (h0 : 0 < s.size) (c0 : Int) (hc0 : (s[0].toNat : Int) = c0) (h45 : c0 = 45) (ha : (s.data.toList.drop 1).all dgB = true) (hv : numV s.data.toList = -(natV (s.data.toList.drop 1) : Int)) :
    Calls Tryz.prog 29 #[.string s, .int .i64 mn, .int .i64 mx] w fun e w' => e = .returned (.tuple #[.int .i64 (intB s.data.toList mn mx).1, .int .i64 (intB s.data.toList mn mx).2]) ∧ Below w.heap.size w w' := by
  have hsm : s.size ≤ maxLen := by unfold maxLen; omega
  have hb45 : (c0 == 45) = true := by simp [h45]
  have HI : Hid (intB s.data.toList mn mx = if numV s.data.toList < mn ∨ mx < numV s.data.toList then (0, 7) else (numV s.data.toList, 0)) := by
    unfold Hid intB; rw [if_neg (by omega), if_neg (by rw [hdec]; decide)]
  have HDEC := Lib.hid hdec
  have HA := Lib.hid ha
  have HV := Lib.hid hv
  clear hdec ha hv
  go_enter Tryz.func29, Tryz.ntmps29
  go_wp2_with (go_at_call 52; refine (whole_any _ _ hsm).mono ?_; rintro e w' ⟨rfl, rfl⟩; rw [HDEC.out])
  all_goals first | (exfalso; omega) | skip
  go_loop [8, 9] (fun n i => ∃ (k : Nat) (m : Int), k ≤ s.size ∧ i = .int .i64 k ∧ n = .int .i64 m ∧ (-9223372036854775808 ≤ m ∧ m ≤ 9223372036854775807) ∧ Hid (m = wrapI (-(natV ((s.data.toList.drop 1).take (k - 1)) : Int)))) (fun n i => s.size - (intOf i).toNat)
  case atStart => exact ⟨0, 0, Nat.zero_le _, rfl, rfl, by omega, by unfold Hid wrapI natV; simp⟩
  case round =>
    obtain ⟨k, m, hk, rfl, rfl, hm, HR⟩ := hrel
    by_cases hlt : k < s.size
    · by_cases hk0 : k = 0
      · subst hk0
        have hdg : isDigB (s[0].toNat : Int) = false := by rw [hc0, h45]; rfl
        go_wp2_with (go_at_call 53; refine (refdigit_any _ _).mono ?_; rintro e w' ⟨rfl, rfl⟩)
        all_goals first | (exfalso; omega) | skip
        go_round
        case rel => exact ⟨0 + 1, m, by omega, by go_num, rfl, hm, HR⟩
        case measure => simp [intOf]; omega
      · have hk1 : 1 ≤ k := by omega
        have hdd := all_at s k hlt 1 (by omega) HA.out
        have hdn := dgB_nat _ hdd
        have hdg : isDigB (s[k].toNat : Int) = true := hdd
        have hd1 : 48 ≤ (s[k].toNat : Int) ∧ (s[k].toNat : Int) ≤ 57 := by omega
        clear hdd
        have HN : Hid (natV ((s.data.toList.drop 1).take (k + 1 - 1)) = natV ((s.data.toList.drop 1).take (k - 1)) * 10 + (s[k].toNat - 48)) := by
          unfold Hid
          obtain ⟨j, rfl⟩ : ∃ j, k = j + 1 := ⟨k - 1, by omega⟩
          rw [show j + 1 + 1 - 1 = j + 1 by omega, show j + 1 - 1 = j by omega, List.take_add_one, List.getElem?_drop, show 1 + j = j + 1 by omega, List.getElem?_eq_getElem (by rw [← Lib.size_eq]; exact hlt)]
          exact natV_snoc _ _
        go_wp2_with (go_at_call 53; refine (refdigit_any _ _).mono ?_; rintro e w' ⟨rfl, rfl⟩; rw [hdg])
        all_goals first | (exfalso; omega) | skip
        go_round
        case rel =>
          refine ⟨k + 1, wrapI (10 * (-(natV ((s.data.toList.drop 1).take (k - 1)) : Int)) + (-((s[k].toNat : Int) - 48))), by omega, by go_num, ?_, wrapI_bounds _, ?_⟩
          · rw [← wrap_step m _ _ HR.out]
          · unfold Hid
            rw [HN.out]
            congr 1
            omega
        case measure => simp [intOf]; omega
    · have hke : k = s.size := by omega
      have hmv : m = wrapI (numV s.data.toList) := by
        rw [HR.out, HV.out, hke, List.take_of_length_le (by rw [List.length_drop]; rw [← Lib.size_eq]; omega)]
      by_cases hr : -9223372036854775808 ≤ numV s.data.toList ∧ numV s.data.toList ≤ 9223372036854775807
      · have hmv2 : numV s.data.toList = m := by rw [hmv, wrapI_in hr.1 hr.2]
        have HX : Hid ((⟨(Lib.itoa m).toArray⟩ : BA) = s) := by
          unfold Hid
          rw [← hmv2, itoa_numV _ HDEC.out]
        have HM := Lib.hid hmv2
        clear hmv hr hmv2 hke HR
        by_cases h1 : m < mn
        · go_wp2_with (go_at_call 28; refine (refDigits_any m _ hm.1 hm.2).mono ?_; rintro e w1 ⟨rfl, hB⟩; rw [HX.out])
          all_goals first | (exfalso; omega) | skip
          go_ret2
          rw [HI.out, HM.out, if_pos (.inl h1)]
          exact ⟨rfl, hB⟩
        · by_cases h2 : mx < m
          · go_wp2_with (go_at_call 28; refine (refDigits_any m _ hm.1 hm.2).mono ?_; rintro e w1 ⟨rfl, hB⟩; rw [HX.out])
            all_goals first | (exfalso; omega) | skip
            go_ret2
            rw [HI.out, HM.out, if_pos (.inr h2)]
            exact ⟨rfl, hB⟩
          · go_wp2_with (go_at_call 28; refine (refDigits_any m _ hm.1 hm.2).mono ?_; rintro e w1 ⟨rfl, hB⟩; rw [HX.out])
            all_goals first | (exfalso; omega) | skip
            go_ret2
            rw [HI.out, HM.out, if_neg (by omega)]
            exact ⟨rfl, hB⟩
      · have hout : numV s.data.toList < mn ∨ mx < numV s.data.toList := by omega
        have hne : ¬ (Lib.itoa m = s.data.toList) := by
          intro e
          have h1 := (numV_itoa m).1
          rw [e] at h1
          exact hr (by rw [h1]; exact hm)
        have HI2 : Hid (intB s.data.toList mn mx = (0, 7)) := by unfold Hid; rw [HI.out, if_pos hout]
        obtain ⟨X, hX⟩ : ∃ X : BA, (⟨(Lib.itoa m).toArray⟩ : BA) = X := ⟨_, rfl⟩
        have hne3 : ¬ (X.data.toList = s.data.toList) := by
          rw [← hX]; exact hne
        have hne4 : ¬ (X.toList = s.toList) := by rw [Lib.toList_data, Lib.toList_data]; exact hne3
        have HX := Lib.hid hX
        clear hmv hr hout hne hke hX HI HR
        go_wp2_with (go_at_call 28; refine (refDigits_any m _ hm.1 hm.2).mono ?_; rintro e w1 ⟨rfl, hB⟩; rw [HX.out])
        all_goals first | (exfalso; omega) | contradiction | skip
        all_goals
          go_ret2
          rw [HI2.out]
          exact ⟨rfl, hB⟩

theorem refInt_any (s : ByteArray) (mn mx : Int) (w : World) (hs : s.size ≤ maxLen) (hmn : -9223372036854775808 ≤ mn) (hmx : mx ≤ 9223372036854775807) :
    Calls Tryz.prog 29 #[.string s, .int .i64 mn, .int .i64 mx] w fun e w' => e = .returned (.tuple #[.int .i64 (intB s.data.toList mn mx).1, .int .i64 (intB s.data.toList mn mx).2]) ∧ Below w.heap.size w w' := by
  by_cases hmm : mn ≤ mx
  · cases hdec : decB s.data.toList
    · have HI : Hid (intB s.data.toList mn mx = (0, 6)) := by unfold Hid intB; rw [if_neg (by omega), if_pos hdec]
      have HDEC := Lib.hid hdec
      clear hdec
      go_enter Tryz.func29, Tryz.ntmps29
      go_wp2_with (go_at_call 52; refine (whole_any _ _ hs).mono ?_; rintro e w' ⟨rfl, rfl⟩; rw [HDEC.out])
      all_goals first | (exfalso; omega) | skip
      go_ret2
      rw [HI.out]
      exact ⟨rfl, Below.refl _ _⟩
    · by_cases hl : s.size ≤ 20
      · have h0 : 0 < s.size := by
          rcases Nat.eq_zero_or_pos s.size with hz | hz
          · rw [Lib.size_eq, List.length_eq_zero_iff] at hz
            rw [hz] at hdec
            exact absurd hdec (by decide)
          · exact hz
        have hdr := drop_get s 0 h0
        rw [List.drop_zero] at hdr
        rcases decB_cases _ hdec with ⟨r, hr, h1, _, h3⟩ | ⟨h1, h2, h3⟩
        · have e1 : s[0] = 45 := by rw [hr] at hdr; exact (List.cons.inj hdr).1.symm
          have e2 : s.data.toList.drop 1 = r := by rw [hr]; rfl
          exact refInt_neg s mn mx w hl hmn hmx hmm hdec h0 _ rfl (by rw [e1]; rfl) (by rw [e2]; exact ((natB_iff r).1 h1).2.2) (by rw [e2]; exact h3)
        · have e1 : ¬ s[0] = 45 := by
            intro e
            rw [hdr, e] at h1
            simp [Lib.hasPrefix, List.isPrefixOf] at h1
          exact refInt_pos s mn mx w hl hmn hmx hmm hdec h0 _ rfl (fun h => e1 (UInt8.toNat_inj.1 (by have : ((45 : UInt8).toNat : Int) = 45 := rfl; omega))) (by rw [List.drop_zero]; exact ((natB_iff _).1 h2).2.2) h3
      · have hbig := numV_big _ hdec (by rw [← Lib.size_eq]; omega)
        have HI : Hid (intB s.data.toList mn mx = (0, 7)) := by unfold Hid intB; rw [if_neg (by omega), if_neg (by rw [hdec]; decide), if_pos (by omega)]
        have HDEC := Lib.hid hdec
        clear hdec hbig
        go_enter Tryz.func29, Tryz.ntmps29
        go_wp2_with (go_at_call 52; refine (whole_any _ _ hs).mono ?_; rintro e w' ⟨rfl, rfl⟩; rw [HDEC.out])
        all_goals first | (exfalso; omega) | skip
        go_ret2
        rw [HI.out]
        exact ⟨rfl, Below.refl _ _⟩
  · have HI : Hid (intB s.data.toList mn mx = (0, 2)) := by unfold Hid intB; rw [if_pos (by omega)]
    go_enter Tryz.func29, Tryz.ntmps29
    go_wp2
    all_goals first | (exfalso; omega) | skip
    go_ret2
    rw [HI.out]
    exact ⟨rfl, Below.refl _ _⟩
end Go.Proofs.YtdcgfbebeiheiaaGreatDoor
