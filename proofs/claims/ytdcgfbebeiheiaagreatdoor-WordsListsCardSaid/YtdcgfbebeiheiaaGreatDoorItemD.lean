/- Items with a dash, numbers alone, and parseItem whole. -/
import Derived.Test.YtdcgfbebeiheiaaGreatDoorItem
namespace Go.Proofs.YtdcgfbebeiheiaaGreatDoor
open Go.RowKit

set_option maxRecDepth 100000 in
set_option maxHeartbeats 8000000 in
theorem parseItem_d (s : ByteArray) (w : World) (hw : Gd w) (hs0 : s.size ≤ 4000000000) (hx : (Lib.cut s.data.toList [120]).2.2 = false) (hy : (Lib.cut s.data.toList [45]).2.2 = true) :
    Calls Tryz.prog 50 #[.string s] w fun e w' => e = .returned (.tuple #[.agg #[.int .i64 (clampB (Lib.cut s.data.toList [45]).1), .int .i64 (clampB (Lib.cut s.data.toList [45]).2.1 - clampB (Lib.cut s.data.toList [45]).1 + 1), .int .i64 1], .bool (natB (Lib.cut s.data.toList [45]).1 && natB (Lib.cut s.data.toList [45]).2.1 && beforeB (Lib.cut s.data.toList [45]).1 (Lib.cut s.data.toList [45]).2.1)]) ∧ Below w.heap.size w w' := by
  obtain ⟨hl1, hl2⟩ := cut_len s.data.toList [45]
  have hsz := Lib.size_eq s
  generalize hA : (Lib.cut s.data.toList [45]).1 = A at *
  generalize hB : (Lib.cut s.data.toList [45]).2.1 = B at *
  have hAs : (⟨A.toArray⟩ : ByteArray).size ≤ 281474976710656 := by rw [Lib.size_eq]; simp only; omega
  have hBs : (⟨B.toArray⟩ : ByteArray).size ≤ 281474976710656 := by rw [Lib.size_eq]; simp only; omega
  have hAm : (⟨A.toArray⟩ : ByteArray).size ≤ maxLen := by unfold maxLen; omega
  have hBm : (⟨B.toArray⟩ : ByteArray).size ≤ maxLen := by unfold maxLen; omega
  clear hl1 hl2 hsz
  obtain ⟨bA, bA'⟩ := clampB_bd A
  obtain ⟨bB, bB'⟩ := clampB_bd B
  have HA := Lib.hid hA
  have HB := Lib.hid hB
  have HY := Lib.hid hy
  clear hA hB hy
  go_enter Tryz.func50, Tryz.ntmps50
  go_wp2_with fail
  refine (Cut_any _ _ _ (hw.later (by exact (Below.refl _ _).alloc (Nat.le_refl _) _)) hs0).mono ?_
  rintro e w' ⟨rfl, n, rfl⟩
  rw [hx]
  have hb0 : Below w.heap.size w ((w.alloc (.cells #[.int .i64 0, .int .i64 0, .int .i64 0] 56)).drewN n) := below_drewN ((Below.refl _ _).alloc (Nat.le_refl _) _) n
  go_wp2_with fail
  refine (Cut_any _ _ _ (hw.later hb0) hs0).mono ?_
  rintro e w' ⟨rfl, n2, rfl⟩
  have hb0 : Below w.heap.size w ((w.alloc (.cells #[.int .i64 0, .int .i64 0, .int .i64 0] 56)).drewN (n + n2)) := below_drewN ((Below.refl _ _).alloc (Nat.le_refl _) _) (n + n2)
  rw [HA.out, HB.out, HY.out]
  go_wp2_with fail
  refine (clamped_any ⟨A.toArray⟩ _ (hw.later hb0) hAs).mono ?_
  rintro e W1 ⟨rfl, hb1⟩
  have hb1' : Below w.heap.size w W1 := hb0.trans (hb1.mono hb0.size)
  go_wp2_with fail
  refine (clamped_any ⟨B.toArray⟩ _ (hw.later hb1') hBs).mono ?_
  rintro e W2 ⟨rfl, hb2⟩
  have hb2' : Below w.heap.size w W2 := hb1'.trans (hb2.mono hb1'.size)
  go_wp2_with fail
  refine (clamped_any ⟨A.toArray⟩ _ (hw.later hb2') hAs).mono ?_
  rintro e W4 ⟨rfl, hb4⟩
  have hb4' : Below w.heap.size w W4 := hb2'.trans (hb4.mono hb2'.size)
  go_wp2_with fail
  have hbx : Below (w.heap.size + 1) ((w.alloc (.cells #[.int .i64 0, .int .i64 0, .int .i64 0] 56)).drewN (n + n2)) W4 := ((hb1.mono (by simp)).trans (hb2.mono (by have := hb1.size; simp at this; omega))).trans (hb4.mono (by have := hb1.size; have := hb2.size; simp at *; omega))
  have c0 : W4.cell? ⟨w.heap.size, 0, none⟩ = some (.int .i64 0) := (hbx.cell (p := ⟨w.heap.size, 0, none⟩) (Nat.lt_succ_self _)).trans (by simp)
  have c1 : W4.cell? ⟨w.heap.size, 1, none⟩ = some (.int .i64 0) := (hbx.cell (p := ⟨w.heap.size, 1, none⟩) (Nat.lt_succ_self _)).trans (by simp)
  have c2 : W4.cell? ⟨w.heap.size, 2, none⟩ = some (.int .i64 0) := (hbx.cell (p := ⟨w.heap.size, 2, none⟩) (Nat.lt_succ_self _)).trans (by simp)
  have f0 : W4.frozen? ⟨w.heap.size, 0, none⟩ = false := (hbx.frozen (p := ⟨w.heap.size, 0, none⟩) (Nat.lt_succ_self _)).trans (by simp)
  have f1 : W4.frozen? ⟨w.heap.size, 1, none⟩ = false := (hbx.frozen (p := ⟨w.heap.size, 1, none⟩) (Nat.lt_succ_self _)).trans (by simp)
  have f2 : W4.frozen? ⟨w.heap.size, 2, none⟩ = false := (hbx.frozen (p := ⟨w.heap.size, 2, none⟩) (Nat.lt_succ_self _)).trans (by simp)
  have hgw : Gd (W4.alloc (.cells #[.int .i64 (clampB A), .int .i64 (clampB B - clampB A + 1), .int .i64 1] 56)) := hw.later (hb4'.alloc hb4'.size _)
  have hlt : w.heap.size < W4.heap.size := by have := hbx.size; simp at this; omega
  have hb3 : Below w.heap.size w (W4.alloc (.cells #[.int .i64 (clampB A), .int .i64 (clampB B - clampB A + 1), .int .i64 1] 56)) := hb4'.alloc hb4'.size _
  have hb3x := (Below.refl (w.heap.size + 1) W4).alloc hlt (.cells #[.int .i64 (clampB A), .int .i64 (clampB B - clampB A + 1), .int .i64 1] 56)
  have d0 := (hb3x.cell (p := ⟨w.heap.size, 0, none⟩) (Nat.lt_succ_self _)).trans c0
  have d1 := (hb3x.cell (p := ⟨w.heap.size, 1, none⟩) (Nat.lt_succ_self _)).trans c1
  have d2 := (hb3x.cell (p := ⟨w.heap.size, 2, none⟩) (Nat.lt_succ_self _)).trans c2
  have g0 := (hb3x.frozen (p := ⟨w.heap.size, 0, none⟩) (Nat.lt_succ_self _)).trans f0
  have g1 := (hb3x.frozen (p := ⟨w.heap.size, 1, none⟩) (Nat.lt_succ_self _)).trans f1
  have g2 := (hb3x.frozen (p := ⟨w.heap.size, 2, none⟩) (Nat.lt_succ_self _)).trans f2
  obtain ⟨q0, q1, q2⟩ := cell_new3 W4 (.int .i64 (clampB A)) (.int .i64 (clampB B - clampB A + 1)) (.int .i64 1) 56
  clear c0 c1 c2 f0 f1 f2 hb3x hbx hb2 hb2' hb1 hb1' hb0 hb4 hb4'
  obtain ⟨W3, hW3⟩ : ∃ x, W4.alloc (.cells #[.int .i64 (clampB A), .int .i64 (clampB B - clampB A + 1), .int .i64 1] 56) = x := ⟨_, rfl⟩
  rw [hW3] at hgw hb3 d0 d1 d2 g0 g1 g2 q0 q1 q2 ⊢
  clear hW3
  obtain ⟨N, hN⟩ : ∃ x, W4.heap.size = x := ⟨_, rfl⟩
  rw [hN] at hlt q0 q1 q2 ⊢
  clear hN
  have hne : N ≠ w.heap.size := by omega
  have hne2 : w.heap.size ≠ N := by omega
  cases nA : natB A
  case false =>
    first | go_region_with (first | (go_at_call 74; refine (isNatural_is _ _ (by repeat (first | exact hgw | refine Gd.drew ?_)) (by assumption) _ (by first | exact nA | exact nB)).mono ?_; rintro e w' ⟨rfl, rfl⟩) | (go_at_call 48; refine (before_any _ _ _).mono ?_; rintro e w' ⟨rfl, rfl⟩)) | fail
    all_goals
      go_wp2
      refine bodyPost_ret (v := .tuple #[.agg #[.int .i64 (clampB A), .int .i64 (clampB B - clampB A + 1), .int .i64 1], .bool (false)]) (by simp [results, Tryz.results50, go_sem, d0, d1, d2]) rfl ⟨?_, ?_⟩
      · simp [nA]
      · go_grown
  cases nB : natB B
  case false =>
    first | go_region_with (first | (go_at_call 74; refine (isNatural_is _ _ (by repeat (first | exact hgw | refine Gd.drew ?_)) (by assumption) _ (by first | exact nA | exact nB)).mono ?_; rintro e w' ⟨rfl, rfl⟩) | (go_at_call 48; refine (before_any _ _ _).mono ?_; rintro e w' ⟨rfl, rfl⟩)) | fail
    all_goals
      go_wp2
      refine bodyPost_ret (v := .tuple #[.agg #[.int .i64 (clampB A), .int .i64 (clampB B - clampB A + 1), .int .i64 1], .bool (false)]) (by simp [results, Tryz.results50, go_sem, d0, d1, d2]) rfl ⟨?_, ?_⟩
      · simp [nA, nB]
      · go_grown
  case true =>
    first | go_region_held3 (fun w' => w'.cell? ⟨N, 0, none⟩ = some (.int .i64 (clampB A)) ∧ w'.cell? ⟨N, 1, none⟩ = some (.int .i64 (clampB B - clampB A + 1)) ∧ w'.cell? ⟨N, 2, none⟩ = some (.int .i64 1)) (go_keep) (first | (go_at_call 74; refine (isNatural_is _ _ (by repeat (first | exact hgw | refine Gd.drew ?_)) (by assumption) _ (by first | exact nA | exact nB)).mono ?_; rintro e w' ⟨rfl, rfl⟩) | (go_at_call 48; refine (before_any _ _ _).mono ?_; rintro e w' ⟨rfl, rfl⟩)) | fail
    all_goals
      go_wp2
      refine bodyPost_ret (v := .tuple #[.agg #[.int .i64 (clampB A), .int .i64 (clampB B - clampB A + 1), .int .i64 1], .bool (beforeB A B)]) (by simp [results, Tryz.results50, go_sem, d0, d1, d2]) rfl ⟨?_, ?_⟩
      · simp [nA, nB]
      · go_grown

end Go.Proofs.YtdcgfbebeiheiaaGreatDoor
