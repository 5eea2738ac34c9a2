/- Join, the other way: its walk. -/
import Derived.Test.YtdcgfbebeiheiaaGreatDoorSplR
import Derived.Test.YtdcgfbebeiheiaaGreatDoorJoin
namespace Go.Proofs.YtdcgfbebeiheiaaGreatDoor
open Go.RowKit

theorem right_eq (q : Bool) (l : List UInt8) : rgtB q l = rightB (q, l) := by
  cases q
  · exact bare_eq l
  · rfl
theorem refRight_any (q : Bool) (s : ByteArray) (w : World) (hs : s.size ≤ 1000000) :
    Calls Tryz.prog 34 #[.agg #[.bool q, .string s]] w fun e w' => e = .returned (.bool (rightB (q, s.data.toList))) ∧ Below w.heap.size w w' := by
  rw [← right_eq]
  cases q
  · exact refRight_b s w hs
  · exact refRight_q s w hs
theorem refQuote_f (s P : BA) (w : World) (hs : s.size ≤ 1000000) (ht : rightB (true, s.data.toList) = true) (hP : (⟨(wrB (true, s.data.toList)).toArray⟩ : BA) = P) :
    Calls Tryz.prog 40 #[.string s] w fun x w' => x = .returned (.tuple #[.string P, .int .i64 0]) ∧ w = w' := by
  have h := refQuote_any s w hs
  have ht2 : textB s.data.toList = true := ht
  have hq : quoteB s.data.toList = (wrB (true, s.data.toList), 0) := by rw [quoteB_eq, if_pos ht2]; rfl
  rw [hq] at h
  rw [← hP]
  exact h

set_option maxRecDepth 100000 in
set_option maxHeartbeats 8000000 in
theorem refJoin_any (v : Value) (L : List Fd) (w : World) (h : FieldsAt w v L) (hL : ∀ x ∈ L, x.2.length ≤ 1000000) (hn0 : L.length ≤ 100000) :
    Calls Tryz.prog 18 #[v] w fun e w' => e = .returned (.tuple #[.string ⟨(joinB L).1.toArray⟩, .int .i64 (joinB L).2]) ∧ Below w.heap.size w w' := by
  obtain ⟨a, cap, rfl⟩ := h.form
  obtain ⟨n, hn⟩ : ∃ n, L.length = n := ⟨_, rfl⟩
  have HN := Lib.hid hn
  rw [hn] at h hn0 ⊢
  by_cases h64 : 64 < n
  · have hd : Hid (joinB L = ([], 3)) := by unfold Hid joinB; rw [if_pos (by omega)]
    clear hn
    go_enter Tryz.func18, Tryz.ntmps18
    go_wp2_with fail
    go_ret2
    rw [hd.out]
    exact ⟨rfl, Below.refl _ _⟩
  have hd : Hid (joinB L = if L.all rightB then (if 4096 < (jn (L.map wrB)).length then ([], 3) else (jn (L.map wrB), 0)) else ([], 2)) := by unfold Hid joinB; rw [if_neg (by omega)]
  have HL := Lib.hid hL
  clear hL hn
  go_enter Tryz.func18, Tryz.ntmps18
  go_wp2_with fail
  go_loopw [4, 5] (fun o i wr => ∃ (k : Nat) (J : BA), k ≤ n ∧ i = .int .i64 k ∧ o = .string J ∧ J.size ≤ 403 * k ∧ Hid (J.data.toList = jn ((L.take k).map wrB)) ∧ Hid (∀ x ∈ L.take k, rightB x = true) ∧ Below w.heap.size w wr) (fun _ i _ => n - (intOf i).toNat)
  case atStart => exact ⟨0, ⟨#[]⟩, Nat.zero_le _, rfl, rfl, Nat.zero_le _, rfl, (fun x hx => by cases hx), Below.refl _ _⟩
  case round =>
    obtain ⟨k, J, hk, rfl, rfl, hJs, HJ, hR, hB⟩ := hrel
    by_cases hlt : k < n
    · have hkl : k < L.length := by rw [HN.out]; exact hlt
      obtain ⟨b, off, rfl, k1, k2⟩ := h.at k hkl
      obtain ⟨x, hx⟩ : ∃ x, L[k] = x := ⟨_, rfl⟩
      have hxo : L[k]? = some x := by rw [List.getElem?_eq_getElem hkl, hx]
      have hxl := HL.out x (List.mem_of_getElem? hxo)
      rw [hx] at k1 k2
      obtain ⟨q, t⟩ := x
      obtain ⟨s, hs⟩ : ∃ s : BA, (⟨t.toArray⟩ : BA) = s := ⟨_, rfl⟩
      have hst : s.data.toList = t := by rw [← hs]
      rw [hs] at k2
      replace k1 := cell_later hB k1
      replace k2 := cell_later hB k2
      have hsl : s.size ≤ 1000000 := by rw [Lib.size_eq, hst]; exact hxl
      subst hst
      have hi1 : (k : Int) < (n : Int) := by omega
      have hsz := hB.size
      have HXO := Lib.hid hxo
      simp only at k1 k2
      clear hx hs hxl hxo
      go_wp2_with fail
      refine (refRight_any q s _ hsl).mono ?_
      rintro e w3 ⟨rfl, B3⟩
      have hB3 : Below w.heap.size w w3 := hB.trans (B3.mono hB.size)
      replace k1 := cell_later B3 k1
      replace k2 := cell_later B3 k2
      cases hr : rightB (q, s.data.toList)
      · have hd2 : Hid (joinB L = ([], 2)) := by
          unfold Hid; rw [hd.out, if_neg]
          intro ha
          have := List.all_eq_true.1 ha _ (List.mem_of_getElem? HXO.out)
          rw [hr] at this; cases this
        clear hr
        go_wp2_with fail
        go_ret2
        rw [hd2.out]
        exact ⟨rfl, hB3⟩
      · have hwl := wr_len hr
        have hR2 : Hid (∀ x ∈ L.take (k + 1), rightB x = true) := by
          intro y hy
          rw [List.take_add_one, HXO.out] at hy
          rcases List.mem_append.1 hy with hy | hy
          · exact hR.out y hy
          · simp at hy; rw [hy]; exact hr
        obtain ⟨P, hP⟩ : ∃ P : BA, (⟨(wrB (q, s.data.toList)).toArray⟩ : BA) = P := ⟨_, rfl⟩
        have hPl : Hid (P.data.toList = wrB (q, s.data.toList)) := by unfold Hid; rw [← hP]
        have hPs : P.size ≤ 402 := by rw [Lib.size_eq, hPl.out]; exact hwl
        have hc1 : (⟨#[32]⟩ : BA).size = 1 := rfl
        have hJb : (J ++ (⟨#[32]⟩ : BA)).size = J.size + 1 := by rw [ByteArray.size_append, hc1]
        by_cases hk0 : 0 < k
        · have hk1 : (0 : Int) < (k : Int) := by omega
          have HT : Hid (jn ((L.take (k + 1)).map wrB) = J.data.toList ++ 32 :: P.data.toList) := by unfold Hid; rw [jn_next L k _ hk0 HXO.out, HJ.out, hPl.out]
          cases q
          · have hsP : s = P := by rw [← hP]; exact (Lib.mk_data s).symm
            subst hsP
            clear hP hr
            go_wp2_with fail
            go_roundw
            case rel => exact ⟨k + 1, (J ++ (⟨#[32]⟩ : BA)) ++ s, by omega, by go_num, rfl, by rw [ByteArray.size_append]; omega, by unfold Hid; rw [HT.out]; simp, hR2, hB3⟩
            case measure => simp [intOf]; omega
          · have HQ := Lib.hid (fun w => refQuote_f s P w hsl hr hP)
            clear hP hr
            go_wp2_with fail
            refine (HQ.out _).mono ?_
            rintro e w4 ⟨rfl, rfl⟩
            go_wp2_with fail
            go_roundw
            case rel => exact ⟨k + 1, (J ++ (⟨#[32]⟩ : BA)) ++ P, by omega, by go_num, rfl, by rw [ByteArray.size_append]; omega, by unfold Hid; rw [HT.out]; simp, hR2, hB3⟩
            case measure => simp [intOf]; omega
        · have hk1 : ¬ (0 : Int) < (k : Int) := by omega
          have hkz : k = 0 := by omega
          have HT : Hid (jn ((L.take (k + 1)).map wrB) = J.data.toList ++ P.data.toList) := by
            unfold Hid
            have e : J.data.toList = [] := by rw [HJ.out, hkz]; rfl
            rw [e, hPl.out]
            have hx2 := HXO.out
            rw [hkz] at hx2 ⊢
            exact jn_zero L _ hx2
          clear hkz
          cases q
          · have hsP : s = P := by rw [← hP]; exact (Lib.mk_data s).symm
            subst hsP
            clear hP hr
            go_wp2_with fail
            go_roundw
            case rel => exact ⟨k + 1, J ++ s, by omega, by go_num, rfl, by rw [ByteArray.size_append]; omega, by unfold Hid; rw [HT.out]; simp, hR2, hB3⟩
            case measure => simp [intOf]; omega
          · have HQ := Lib.hid (fun w => refQuote_f s P w hsl hr hP)
            clear hP hr
            go_wp2_with fail
            refine (HQ.out _).mono ?_
            rintro e w4 ⟨rfl, rfl⟩
            go_wp2_with fail
            go_roundw
            case rel => exact ⟨k + 1, J ++ P, by omega, by go_num, rfl, by rw [ByteArray.size_append]; omega, by unfold Hid; rw [HT.out]; simp, hR2, hB3⟩
            case measure => simp [intOf]; omega
    · have hi1 : ¬ ((k : Int) < (n : Int)) := by omega
      have hs : L.take k = L := List.take_of_length_le (by rw [HN.out]; omega)
      rw [hs] at HJ
      have hall : L.all rightB = true := by rw [hs] at hR; exact List.all_eq_true.2 hR.out
      have hd2 : Hid (joinB L = if 4096 < J.size then ([], 3) else (J.data.toList, 0)) := by unfold Hid; rw [hd.out, if_pos hall, ← HJ.out, ← Lib.size_eq]
      clear hs hall
      by_cases h4 : 4096 < J.size
      · have h5 : (4096 : Int) < (J.size : Int) := by omega
        have hd3 : Hid (joinB L = ([], 3)) := by unfold Hid; rw [hd2.out, if_pos h4]
        go_wp2_with fail
        go_ret2
        rw [hd3.out]
        exact ⟨rfl, hB⟩
      · have h5 : ¬ (4096 : Int) < (J.size : Int) := by omega
        have hd3 : Hid (joinB L = (J.data.toList, 0)) := by unfold Hid; rw [hd2.out, if_neg h4]
        go_wp2_with fail
        go_ret2
        rw [hd3.out]
        exact ⟨ret_str (Lib.mk_data J).symm rfl, hB⟩
end Go.Proofs.YtdcgfbebeiheiaaGreatDoor
