/- Unquote, readField, fieldEnd. -/
import Derived.Test.YtdcgfbebeiheiaaGreatDoorQuote
namespace Go.Proofs.YtdcgfbebeiheiaaGreatDoor
open Go.RowKit

theorem Clone_any (s : ByteArray) (w : World) (hs : s.size ≤ 281474976710656) :
    Calls Tryz.prog 44 #[.string s] w fun e w' => e = .returned (.string s) ∧ Below w.heap.size w w' := by
  go_enter Tryz.func44, Tryz.ntmps44
  go_wp2_with (go_at_call 66; refine (Tryz.stringslite_Clone s w hs).mono ?_; rintro e w' ⟨rfl, hB⟩)
  go_ret
  exact ⟨rfl, hB⟩

def innerB (l : List UInt8) : List UInt8 := (l.drop 1).take (l.length - 1 - 1)
def unqT (l : List UInt8) : List UInt8 := Lib.replaceAll (innerB l) [34, 34] [34]
def unqB (l : List UInt8) : List UInt8 × Int :=
  if decide (2 ≤ l.length) && decide (((l[0]?.getD 0).toNat : Int) = 34) && decide (((l[l.length - 1]?.getD 0).toNat : Int) = 34) then
    (if textB (unqT l) && (Lib.replaceAll (unqT l) [34] [34, 34] == innerB l) then (unqT l, 0) else ([], 6))
  else ([], 6)

set_option maxHeartbeats 2000000 in
theorem Unquote_any (s : ByteArray) (w : World) (hw : Gd w) (hs : s.size ≤ 1000000) :
    Calls Tryz.prog 57 #[.string s] w fun e w' => e = .returned (.tuple #[.string ⟨(unqB s.data.toList).1.toArray⟩, .int .i64 (unqB s.data.toList).2]) ∧ Below w.heap.size w w' := by
  have hd : Hid (unqB s.data.toList = if decide (2 ≤ s.size) && decide (((s.data.toList[0]?.getD 0).toNat : Int) = 34) && decide (((s.data.toList[s.size - 1]?.getD 0).toNat : Int) = 34) then
    (if textB (unqT s.data.toList) && (Lib.replaceAll (unqT s.data.toList) [34] [34, 34] == innerB s.data.toList) then (unqT s.data.toList, 0) else ([], 6))
    else ([], 6)) := by unfold Hid unqB; rw [Lib.size_eq]
  by_cases h2 : 2 ≤ s.size
  case neg =>
    have hd2 : Hid (unqB s.data.toList = ([], 6)) := by unfold Hid; rw [hd.out]; simp [h2]
    go_enter Tryz.func57, Tryz.ntmps57
    go_wp2
    go_ret2
    rw [hd2.out]
    exact ⟨rfl, Below.refl _ _⟩
  have e0 : Hid (s.data.toList[0]?.getD 0 = s[0]) := by unfold Hid; rw [List.getElem?_eq_getElem (by rw [← Lib.size_eq]; omega)]; rfl
  have e1 : Hid (s.data.toList[s.size - 1]?.getD 0 = s[s.size - 1]) := by unfold Hid; rw [List.getElem?_eq_getElem (by rw [← Lib.size_eq]; omega)]; rfl
  have hi1 : (s.size : Int) - 1 < (s.size : Int) := by omega
  have hi2 : (0 : Int) ≤ (s.size : Int) - 1 := by omega
  have hi3 : ((s.size : Int) - 1).toNat = s.size - 1 := by omega
  by_cases h3 : (s[0].toNat : Int) = 34
  case neg =>
    have hd2 : Hid (unqB s.data.toList = ([], 6)) := by unfold Hid; rw [hd.out, e0.out]; simp [h3]
    have h4 : ((s[0].toNat : Int) != 34) = true := by simp [h3]
    clear h3
    go_enter Tryz.func57, Tryz.ntmps57
    go_wp2
    go_ret2
    rw [hd2.out]
    exact ⟨rfl, Below.refl _ _⟩
  have h4 : ((s[0].toNat : Int) != 34) = false := by simp [h3]
  have H3 := Lib.hid h3
  clear h3
  by_cases h5 : (s[s.size - 1].toNat : Int) = 34
  case neg =>
    have hd2 : Hid (unqB s.data.toList = ([], 6)) := by unfold Hid; rw [hd.out, e0.out, e1.out]; simp [h5]
    have h6 : ((s[s.size - 1].toNat : Int) != 34) = true := by simp [h5]
    go_enter Tryz.func57, Tryz.ntmps57
    go_wp2
    go_ret2
    rw [hd2.out]
    exact ⟨rfl, Below.refl _ _⟩
  have h6 : ((s[s.size - 1].toNat : Int) != 34) = false := by simp [h5]
  have hd2 : Hid (unqB s.data.toList = (if textB (unqT s.data.toList) && (Lib.replaceAll (unqT s.data.toList) [34] [34, 34] == innerB s.data.toList) then (unqT s.data.toList, 0) else ([], 6))) := by
    unfold Hid; rw [hd.out, e0.out, e1.out]; simp [h2, H3.out, h5]
  clear h5
  have hI : (s.extract 1 (s.size - 1)).data.toList = innerB s.data.toList := by rw [Lib.extract_data]; unfold innerB; rw [Lib.size_eq]
  have hIl : (innerB s.data.toList).length ≤ s.size := by unfold innerB; rw [Lib.size_eq]; simp only [List.length_take, List.length_drop]; omega
  have hIs : (s.extract 1 (s.size - 1)).size ≤ 1000000 := by rw [Lib.size_eq, hI]; omega
  have hTl : (unqT s.data.toList).length ≤ 3 * 1000000 + 2 := by
    have := replaceAll_len (innerB s.data.toList) [34, 34] [34] (by decide)
    unfold unqT; omega
  have hTs : (⟨(unqT s.data.toList).toArray⟩ : ByteArray).size ≤ 3000002 := by rw [Lib.size_eq]; exact hTl
  have HI := Lib.hid hI
  have htd : Hid (Lib.replaceAll (innerB s.data.toList) [34, 34] [34] = unqT s.data.toList) := rfl
  have hit : Hid ((s.extract 1 (s.size - 1)).toList = innerB s.data.toList) := by unfold Hid; rw [Lib.toList_data, hI]
  clear hI hIl
  obtain ⟨I, hI'⟩ : ∃ I, innerB s.data.toList = I := ⟨_, rfl⟩
  obtain ⟨T, hT⟩ : ∃ T, unqT s.data.toList = T := ⟨_, rfl⟩
  rw [hT] at hd2 htd hTl hTs
  rw [hI'] at HI hd2 htd hit
  clear hI' hT
  go_enter Tryz.func57, Tryz.ntmps57
  go_wp2_with fail
  refine (Replace_any _ _ _ _ hw (by omega) (by decide) (by decide)).mono ?_
  rintro e W1 ⟨rfl, hB1⟩
  rw [HI.out, show (⟨#[34, 34]⟩ : ByteArray).data.toList = [34, 34] from rfl, show (⟨#[34]⟩ : ByteArray).data.toList = [34] from rfl, htd.out]
  cases ht : textB T
  · go_wp2_with (go_at_call 45; refine (Text_any _ _ (by unfold maxLen; omega)).mono ?_; rintro e w' ⟨rfl, rfl⟩)
    go_ret2
    rw [hd2.out, ht]
    exact ⟨rfl, hB1⟩
  · cases he : (Lib.replaceAll T [34] [34, 34] == I)
    · go_wp2_with fail
      refine (Text_any _ _ (by unfold maxLen; omega)).mono ?_
      rintro e w' ⟨rfl, rfl⟩
      rw [show (⟨T.toArray⟩ : ByteArray).data.toList = T from rfl, ht]
      go_wp2_with fail
      refine (Replace_any _ _ _ _ (hw.later hB1) (by omega) (by decide) (by decide)).mono ?_
      rintro e W2 ⟨rfl, hB2⟩
      rw [show (⟨T.toArray⟩ : ByteArray).data.toList = T from rfl, show (⟨#[34, 34]⟩ : ByteArray).data.toList = [34, 34] from rfl, show (⟨#[34]⟩ : ByteArray).data.toList = [34] from rfl]
      have hne : (Lib.replaceAll T [34] [34, 34] == (s.extract 1 (s.size - 1)).toList) = false := by rw [hit.out]; exact he
      go_wp2_with fail
      go_ret2
      rw [hd2.out, ht, he]
      exact ⟨rfl, hB1.trans (hB2.mono hB1.size)⟩
    · go_wp2_with fail
      refine (Text_any _ _ (by unfold maxLen; omega)).mono ?_
      rintro e w' ⟨rfl, rfl⟩
      rw [show (⟨T.toArray⟩ : ByteArray).data.toList = T from rfl, ht]
      go_wp2_with fail
      refine (Replace_any _ _ _ _ (hw.later hB1) (by omega) (by decide) (by decide)).mono ?_
      rintro e W2 ⟨rfl, hB2⟩
      rw [show (⟨T.toArray⟩ : ByteArray).data.toList = T from rfl, show (⟨#[34, 34]⟩ : ByteArray).data.toList = [34, 34] from rfl, show (⟨#[34]⟩ : ByteArray).data.toList = [34] from rfl]
      have hne : (Lib.replaceAll T [34] [34, 34] == (s.extract 1 (s.size - 1)).toList) = true := by rw [hit.out]; exact he
      go_wp2_with fail
      refine (Clone_any _ _ (by omega)).mono ?_
      rintro e W3 ⟨rfl, hB3⟩
      go_wp2_with fail
      go_ret2
      rw [hd2.out, ht, he]
      exact ⟨rfl, (hB1.trans (hB2.mono hB1.size)).trans (hB3.mono (Nat.le_trans hB1.size hB2.size))⟩

def rfB (l : List UInt8) : Bool × List UInt8 × Bool := if Lib.hasPrefix l [34] then (true, (unqB l).1, decide ((unqB l).2 = 0)) else (false, l, bareB l)

theorem HasPrefix_any (s p : ByteArray) (w : World) :
    Calls Tryz.prog 56 #[.string s, .string p] w fun e w' => e = .returned (.bool (Lib.hasPrefix s.data.toList p.data.toList)) ∧ w = w' :=
  (Tryz.strings_HasPrefix s p w).mono fun _ _ ⟨h, h'⟩ => ⟨h, h'.symm⟩

theorem pair_cells {w W : World} {a b : Value} {t : TypeId} (hb : Below (w.heap.size + 1) (w.alloc (.cells #[a, b] t)) W) :
    W.cell? ⟨w.heap.size, 0, none⟩ = some a ∧ W.cell? ⟨w.heap.size, 1, none⟩ = some b ∧ W.frozen? ⟨w.heap.size, 0, none⟩ = false ∧ W.frozen? ⟨w.heap.size, 1, none⟩ = false :=
  ⟨(hb.cell (p := ⟨w.heap.size, 0, none⟩) (Nat.lt_succ_self _)).trans (by simp), (hb.cell (p := ⟨w.heap.size, 1, none⟩) (Nat.lt_succ_self _)).trans (by simp),
   (hb.frozen (p := ⟨w.heap.size, 0, none⟩) (Nat.lt_succ_self _)).trans (by simp), (hb.frozen (p := ⟨w.heap.size, 1, none⟩) (Nat.lt_succ_self _)).trans (by simp)⟩

set_option maxRecDepth 100000 in
set_option maxHeartbeats 2000000 in
theorem readField_any (s : ByteArray) (w : World) (hw : Gd w) (hs : s.size ≤ 1000000) :
    Calls Tryz.prog 31 #[.string s] w fun e w' => e = .returned (.tuple #[.agg #[.bool (rfB s.data.toList).1, .string ⟨(rfB s.data.toList).2.1.toArray⟩], .bool (rfB s.data.toList).2.2]) ∧ Below w.heap.size w w' := by
  have hd : Hid (rfB s.data.toList = if Lib.hasPrefix s.data.toList [34] then (true, (unqB s.data.toList).1, decide ((unqB s.data.toList).2 = 0)) else (false, s.data.toList, bareB s.data.toList)) := rfl
  have hb0 : Below w.heap.size w (w.alloc (.cells #[.bool false, .string ⟨#[]⟩] 42)) := (Below.refl _ _).alloc (Nat.le_refl _) _
  cases hp : Lib.hasPrefix s.data.toList [34]
  · go_enter Tryz.func31, Tryz.ntmps31
    go_wp2_with (go_at_call 56; refine (HasPrefix_any _ _ _).mono ?_; rintro e w' ⟨rfl, rfl⟩)
    refine (Clone_any _ _ (by omega)).mono ?_
    rintro e W1 ⟨rfl, hB1⟩
    obtain ⟨c0, c1, f0, f1⟩ := pair_cells (hB1.mono (by simp))
    go_wp2_with (go_at_call 58; refine (isBare_any _ _ (by unfold maxLen; omega)).mono ?_; rintro e w' ⟨rfl, rfl⟩)
    have hdf : rfB s.data.toList = (false, s.data.toList, bareB s.data.toList) := by rw [hd.out, hp]; rfl
    rw [hdf]
    refine bodyPost_ret (v := .tuple #[.agg #[.bool false, .string s], .bool (bareB s.data.toList)]) (by simp [results, Tryz.results31, go_sem, c0, c1]) rfl ⟨?_, ?_⟩
    · rw [show (⟨s.data.toList.toArray⟩ : ByteArray) = s from Lib.mk_data s]
    · exact ((hb0.trans (hB1.mono hb0.size)).setCell (Nat.le_refl _) _).setCell (Nat.le_refl _) _
  · go_enter Tryz.func31, Tryz.ntmps31
    go_wp2_with (go_at_call 56; refine (HasPrefix_any _ _ _).mono ?_; rintro e w' ⟨rfl, rfl⟩)
    refine (Unquote_any _ _ (hw.later hb0) hs).mono ?_
    rintro e W1 ⟨rfl, hB1⟩
    obtain ⟨c0, c1, f0, f1⟩ := pair_cells (hB1.mono (by simp))
    go_wp2_with fail
    have hdf : rfB s.data.toList = (true, (unqB s.data.toList).1, decide ((unqB s.data.toList).2 = 0)) := by rw [hd.out, hp]; rfl
    rw [hdf]
    refine bodyPost_ret (v := .tuple #[.agg #[.bool true, .string ⟨(unqB s.data.toList).1.toArray⟩], .bool ((unqB s.data.toList).2 == 0)]) (by simp [results, Tryz.results31, go_sem, c0, c1]) rfl ⟨?_, ?_⟩
    · rfl
    · exact ((hb0.trans (hB1.mono hb0.size)).setCell (Nat.le_refl _) _).setCell (Nat.le_refl _) _

set_option maxHeartbeats 2000000 in
theorem fieldEnd_any (s : ByteArray) (w : World) (hs : s.size ≤ maxLen) :
    Calls Tryz.prog 55 #[.string s] w fun e w' => e = .returned (.int .i64 (feB false s.data.toList)) ∧ Below w.heap.size w w' := by
  unfold maxLen at hs
  go_enter Tryz.func55, Tryz.ntmps55
  go_wp2
  go_loopw [5] (fun i wr => ∃ (k : Nat) (q : Bool), k ≤ s.size ∧ i = .int .i64 k ∧ Hid (feB false s.data.toList = k + feB q (s.data.toList.drop k)) ∧ wr.cell? ⟨w.heap.size, 0, none⟩ = some (.bool q) ∧ wr.frozen? ⟨w.heap.size, 0, none⟩ = false ∧ Below w.heap.size w wr) (fun i _ => s.size - (intOf i).toNat)
  case atStart => exact ⟨0, false, Nat.zero_le _, rfl, by unfold Hid; simp, by simp, by simp, (Below.refl _ _).alloc (Nat.le_refl _) _⟩
  case round =>
    obtain ⟨k, q, hk, rfl, HR, hc, hf, hB⟩ := hrel
    by_cases hlt : k < s.size
    · have hdr : Hid (s.data.toList.drop k = s[k] :: s.data.toList.drop (k + 1)) := drop_get s k hlt
      by_cases h1 : (s[k].toNat : Int) = 32 ∧ q = false
      · have he : Hid (feB false s.data.toList = k) := by unfold Hid; rw [HR.out, hdr.out, feB, if_pos h1]; rfl
        have hb : decide ((s[k].toNat : Int) = 32 ∧ q = false) = true := decide_eq_true h1
        have h34 : ¬ (s[k].toNat : Int) = 34 := by omega
        clear h1
        go_wp2_with (go_at_call 75; refine (fieldEnd1_any _ q _ _ hc hf).mono ?_; rintro e w' ⟨rfl, hw'⟩; rw [if_neg h34] at hw'; subst hw')
        go_ret
        exact ⟨ret_int (by rw [he.out]), hB⟩
      · have hb : decide ((s[k].toNat : Int) = 32 ∧ q = false) = false := decide_eq_false h1
        have he : Hid (feB q (s.data.toList.drop k) = 1 + feB (if (s[k].toNat : Int) = 34 then !q else q) (s.data.toList.drop (k + 1))) := by unfold Hid; rw [hdr.out, feB, if_neg h1]
        by_cases h34 : (s[k].toNat : Int) = 34
        · have he2 : Hid (feB false s.data.toList = ((k + 1 : Nat)) + feB (!q) (s.data.toList.drop (k + 1))) := by unfold Hid; rw [HR.out, he.out, if_pos h34]; omega
          have H34 := Lib.hid h34
          clear h1 h34 he
          go_wp2_with (go_at_call 75; refine (fieldEnd1_any _ q _ _ hc hf).mono ?_; rintro e w' ⟨rfl, hw'⟩; rw [if_pos H34.out] at hw'; subst hw'; rw [hb])
          go_roundw
          case rel => exact ⟨k + 1, !q, by omega, by go_num, he2, by rw [World.cell?_setCell_same' _ _ _ (by rw [hc]; rfl)], by rw [World.frozen?_setCell]; exact hf, hB.setCell (Nat.le_refl _) _⟩
          case measure => simp [intOf]; omega
        · have he2 : Hid (feB false s.data.toList = ((k + 1 : Nat)) + feB q (s.data.toList.drop (k + 1))) := by unfold Hid; rw [HR.out, he.out, if_neg h34]; omega
          have H34 := Lib.hid h34
          clear h1 h34 he
          go_wp2_with (go_at_call 75; refine (fieldEnd1_any _ q _ _ hc hf).mono ?_; rintro e w' ⟨rfl, hw'⟩; rw [if_neg H34.out] at hw'; subst hw'; rw [hb])
          go_roundw
          case rel => exact ⟨k + 1, q, by omega, by go_num, he2, hc, hf, hB⟩
          case measure => simp [intOf]; omega
    · have h0 : Hid (s.data.toList.drop k = []) := List.drop_eq_nil_of_le (by simp; omega)
      have he : Hid (feB false s.data.toList = k) := by unfold Hid; rw [HR.out, h0.out]; rfl
      go_wp2
      go_ret
      exact ⟨ret_int (by rw [he.out]), hB⟩
end Go.Proofs.YtdcgfbebeiheiaaGreatDoor
