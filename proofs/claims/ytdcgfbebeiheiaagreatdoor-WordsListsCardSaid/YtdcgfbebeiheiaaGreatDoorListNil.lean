/- List of the nil slice. -/
import Derived.Test.YtdcgfbebeiheiaaGreatDoorList
namespace Go.Proofs.YtdcgfbebeiheiaaGreatDoor
open Go.RowKit

set_option maxRecDepth 100000 in
set_option maxHeartbeats 2000000 in
theorem canonical_nil (w : World) :
    Calls Tryz.prog 22 #[.slice none 0 0] w fun e w' => e = .returned (.string ⟨#[]⟩) ∧ Below w.heap.size w w' := by
  obtain ⟨i0, hi, hz0, hz1, hz2⟩ := info_parts Tryz.infoStr
  obtain ⟨w1, hmk, hown, hgr⟩ := run_make_full (P := Tryz.prog) (w := w) w.heap.size 45 9 i0 _ 1 Tryz.underlying45 hi hz0 hz1 .i64 .i64 1 (by rw [hz2]; omega) (by unfold maxLen; omega) (Nat.le_refl _)
  have ec : ((1 : Nat) : Int) = 1 := rfl
  rw [ec] at hmk
  have hb0 : w1.cell? ⟨w.heap.size, 0, none⟩ = some (.string ⟨#[]⟩) := by
    rw [hown.cellAt 0 (by decide)]
    simp [madeCells, Value.cells]
  have hlt : w.heap.size < w1.heap.size := (hown.lt w.heap.size rfl).2
  have bel := (Below.refl w.heap.size w).grown hgr (Nat.le_refl _) (fun k e => by cases e)
  clear hi hown hgr
  go_enter Tryz.func22, Tryz.ntmps22
  go_wp2
  refine wp_loop_once ?_
  go_wp2
  go_ret
  exact ⟨rfl, (bel.alloc bel.size _).alloc (by have := bel.size; simp; omega) _⟩

set_option maxRecDepth 100000 in
set_option maxHeartbeats 2000000 in
theorem List_nil (w : World) :
    Calls Tryz.prog 8 #[.slice none 0 0] w fun e w' => e = .returned (.tuple #[.string ⟨#[]⟩, .int .i64 0]) ∧ Below w.heap.size w w' := by
  go_enter Tryz.func8, Tryz.ntmps8
  go_wp2
  refine wp_loop_once ?_
  go_wp2_with (go_at_call 22; refine (canonical_nil w).mono ?_; rintro e w' ⟨rfl, hB⟩)
  go_ret2
  exact ⟨rfl, hB⟩
end Go.Proofs.YtdcgfbebeiheiaaGreatDoor
