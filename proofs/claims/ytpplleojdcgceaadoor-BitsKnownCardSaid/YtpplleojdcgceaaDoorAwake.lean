/- The examples' bits, and the calls that wake the layer. -/
import Derived.Test.YtpplleojdcgceaaDoorBlock
namespace Go.Proofs.YtpplleojdcgceaaDoor
open Go.RowKit Go.Shelf
attribute [local go_sem] Oper.semAt_some

set_option maxRecDepth 100000 in
theorem ten_any (w : World) : Calls Tryd.prog 49 #[] w fun e w' => (∃ v, e = .returned (bv 10 v) ∧ WAt w' v [531]) ∧ Below w.heap.size w w' := by
  go_enter Tryd.func49, Tryd.ntmps49
  go_wp2
  refine bodyPost_ret (v := bv 10 (.slice (some ⟨w.heap.size + 1, 0, none⟩) 1 1)) (by simp [results, Tryd.results49, go_sem]) rfl ⟨⟨_, rfl, .inr ⟨_, 0, 1, rfl, by decide, by decide, fun j hj => ?_⟩⟩, ((Below.refl _ _).alloc (Nat.le_refl _) _).alloc (by simp) _⟩
  simp at hj
  subst hj
  exact World.cell?_alloc2_new _ _ _ 0

theorem fit531 : Fit64 [531] := by intro x hx; simp at hx; subst hx; decide
theorem aw1 : countB 10 [531] 1 5 = (2, 0) := by kernel_rfl
theorem aw2 : selectB 10 [531] 2 false = (5, 0) := by kernel_rfl
theorem aw3 : fitB 10 [531] 3 0 = (5, 0) := by kernel_rfl
theorem aw4 : bestB 10 [531] 2 = (2, 0) := by kernel_rfl
theorem aw5 : blockB 10 [531] 2 = (0, 4) := by kernel_rfl

set_option maxRecDepth 100000 in
set_option maxHeartbeats 1000000 in
theorem awake_any (w : World) (hgd : Gd w) : Calls Tryd.prog 14 #[] w fun e w' => e = .returned (.bool true) ∧ Below w.heap.size w w' := by
  go_enter Tryd.func14, Tryd.ntmps14
  go_wp2_with fail
  refine (ten_any w).mono ?_
  rintro e w1 ⟨⟨v1, rfl, h1⟩, hB1⟩
  go_wp2_with fail
  refine (Count_any 10 1 5 v1 [531] fit531 _ h1).mono ?_
  rintro e w2 ⟨rfl, hB2⟩
  simp only [aw1]
  have hC2 := hB1.trans (hB2.mono hB1.size)
  go_wp2_with fail
  refine (ten_any _).mono ?_
  rintro e w3 ⟨⟨v3, rfl, h3⟩, hB3⟩
  have hC3 := hC2.trans (hB3.mono hC2.size)
  go_wp2_with fail
  refine (Select_any 10 2 v3 false [531] fit531 _ (hgd.later hC3) h3 (by decide)).mono ?_
  rintro e w4 ⟨rfl, hB4⟩
  simp only [aw2]
  have hC4 := hC3.trans (hB4.mono hC3.size)
  go_wp2_with fail
  refine (ten_any _).mono ?_
  rintro e w5 ⟨⟨v5, rfl, h5⟩, hB5⟩
  have hC5 := hC4.trans (hB5.mono hC4.size)
  go_wp2_with fail
  refine (Fit_any 10 3 0 v5 [531] fit531 _ (hgd.later hC5) h5).mono ?_
  rintro e w6 ⟨rfl, hB6⟩
  simp only [aw3]
  have hC6 := hC5.trans (hB6.mono hC5.size)
  go_wp2_with fail
  refine (ten_any _).mono ?_
  rintro e w7 ⟨⟨v7, rfl, h7⟩, hB7⟩
  have hC7 := hC6.trans (hB7.mono hC6.size)
  go_wp2_with fail
  refine (Best_any 10 2 v7 [531] fit531 _ (hgd.later hC7) h7).mono ?_
  rintro e w8 ⟨rfl, hB8⟩
  simp only [aw4]
  have hC8 := hC7.trans (hB8.mono hC7.size)
  go_wp2_with fail
  refine (ten_any _).mono ?_
  rintro e w9 ⟨⟨v9, rfl, h9⟩, hB9⟩
  have hC9 := hC8.trans (hB9.mono hC8.size)
  go_wp2_with fail
  refine (Block_any 10 2 v9 [531] fit531 _ h9).mono ?_
  rintro e wA ⟨rfl, hBA⟩
  simp only [aw5]
  have hCA := hC9.trans (hBA.mono hC9.size)
  go_wp2
  go_ret
  exact ⟨rfl, hCA⟩
end Go.Proofs.YtpplleojdcgceaaDoor
