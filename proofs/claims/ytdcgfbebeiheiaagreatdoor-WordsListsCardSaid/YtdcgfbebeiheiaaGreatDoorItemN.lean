/- parseItem, whole. -/
import Derived.Test.YtdcgfbebeiheiaaGreatDoorItemD
namespace Go.Proofs.YtdcgfbebeiheiaaGreatDoor
open Go.RowKit

set_option maxRecDepth 100000 in
set_option maxHeartbeats 2000000 in
theorem parseItem_n (s : ByteArray) (w : World) (hw : Gd w) (hs0 : s.size ≤ 4000000000) (hx : (Lib.cut s.data.toList [120]).2.2 = false) (hy : (Lib.cut s.data.toList [45]).2.2 = false) :
    Calls Tryz.prog 50 #[.string s] w fun e w' => e = .returned (.tuple #[.agg #[.int .i64 (clampB s.data.toList), .int .i64 1, .int .i64 0], .bool (natB s.data.toList)]) ∧ Below w.heap.size w w' := by
  have HY := Lib.hid hy
  clear hy
  go_enter Tryz.func50, Tryz.ntmps50
  go_wp2_with fail
  refine (Cut_any _ _ _ (hw.later (by exact (Below.refl _ _).alloc (Nat.le_refl _) _)) hs0).mono ?_
  rintro e w' ⟨rfl, n, rfl⟩
  rw [hx]
  have hb0 : Below w.heap.size w ((w.alloc (.cells #[.int .i64 0, .int .i64 0, .int .i64 0] 56)).drewN n) := below_drewN ((Below.refl _ _).alloc (Nat.le_refl _) _) n
  go_wp2_with fail
  refine (Cut_any _ _ _ (hw.later hb0) hs0).mono ?_
  rintro e w' ⟨rfl, n2, rfl⟩
  have hb0 : Below w.heap.size w ((w.alloc (.cells #[.int .i64 0, .int .i64 0, .int .i64 0] 56)).drewN (n + n2)) := below_drewN ((Below.refl _ _).alloc (Nat.le_refl _) _) (n + n2)
  rw [HY.out]
  go_wp2_with fail
  refine (clamped_any s _ (hw.later hb0) (by omega)).mono ?_
  rintro e W1 ⟨rfl, hb1⟩
  have hb1' : Below w.heap.size w W1 := hb0.trans (hb1.mono hb0.size)
  have hbx : Below (w.heap.size + 1) ((w.alloc (.cells #[.int .i64 0, .int .i64 0, .int .i64 0] 56)).drewN (n + n2)) W1 := hb1.mono (by simp)
  have c0 : W1.cell? ⟨w.heap.size, 0, none⟩ = some (.int .i64 0) := (hbx.cell (p := ⟨w.heap.size, 0, none⟩) (Nat.lt_succ_self _)).trans (by simp)
  have c1 : W1.cell? ⟨w.heap.size, 1, none⟩ = some (.int .i64 0) := (hbx.cell (p := ⟨w.heap.size, 1, none⟩) (Nat.lt_succ_self _)).trans (by simp)
  have c2 : W1.cell? ⟨w.heap.size, 2, none⟩ = some (.int .i64 0) := (hbx.cell (p := ⟨w.heap.size, 2, none⟩) (Nat.lt_succ_self _)).trans (by simp)
  have f0 : W1.frozen? ⟨w.heap.size, 0, none⟩ = false := (hbx.frozen (p := ⟨w.heap.size, 0, none⟩) (Nat.lt_succ_self _)).trans (by simp)
  have f1 : W1.frozen? ⟨w.heap.size, 1, none⟩ = false := (hbx.frozen (p := ⟨w.heap.size, 1, none⟩) (Nat.lt_succ_self _)).trans (by simp)
  have f2 : W1.frozen? ⟨w.heap.size, 2, none⟩ = false := (hbx.frozen (p := ⟨w.heap.size, 2, none⟩) (Nat.lt_succ_self _)).trans (by simp)
  go_wp2_with (go_at_call 74; refine (isNatural_any s _ (hw.later hb1') (by unfold maxLen; omega)).mono ?_; rintro e w' ⟨rfl, rfl⟩)
  refine bodyPost_ret (v := .tuple #[.agg #[.int .i64 (clampB s.data.toList), .int .i64 1, .int .i64 0], .bool (natB s.data.toList)]) (by simp [results, Tryz.results50, go_sem, c0, c1, c2]) rfl ⟨rfl, ?_⟩
  exact ((hb1'.setCell (Nat.le_refl _) _).setCell (Nat.le_refl _) _).setCell (Nat.le_refl _) _

theorem parseItem_any (s : ByteArray) (w : World) (hw : Gd w) (hs0 : s.size ≤ 4000000000) :
    Calls Tryz.prog 50 #[.string s] w fun e w' => e = .returned (.tuple #[.agg #[.int .i64 (piB s.data.toList).1, .int .i64 (piB s.data.toList).2.1, .int .i64 (piB s.data.toList).2.2.1], .bool (piB s.data.toList).2.2.2]) ∧ Below w.heap.size w w' := by
  unfold piB
  cases hx : (Lib.cut s.data.toList [120]).2.2
  · cases hy : (Lib.cut s.data.toList [45]).2.2
    · exact parseItem_n s w hw hs0 hx hy
    · exact parseItem_d s w hw hs0 hx hy
  · exact parseItem_x s w hw hs0 hx
end Go.Proofs.YtdcgfbebeiheiaaGreatDoor
