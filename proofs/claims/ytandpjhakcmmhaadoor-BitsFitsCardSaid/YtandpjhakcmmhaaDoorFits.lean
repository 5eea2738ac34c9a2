/- The law on fits. -/
import Derived.Test.YtandpjhakcmmhaaDoorRefBest
import Derived.Test.YtandpjhakcmmhaaDoorRefBlock
import Derived.Test.YtandpjhakcmmhaaDoorRefFit
import Derived.Test.YtandpjhakcmmhaaDoorFinds
namespace Go.Proofs.YtandpjhakcmmhaaDoor
open Go.RowKit Go.Shelf
attribute [local go_sem] Oper.semAt_some

set_option maxRecDepth 100000 in
set_option maxHeartbeats 1000000 in
theorem RefBest_is (N s : Int) (v : Value) (ws : List Nat) (hf : Fit64 ws) (w : World) (h : WAt w v ws) (x y : Int) (hx : bestB N ws s = (x, y)) :
    Calls Tryd.prog 38 #[bv N v, .int .i64 s] w fun e w' => e = .returned (.tuple #[.int .i64 x, .int .i64 y]) ∧ Below w.heap.size w w' := by
  obtain ⟨c, hc⟩ : ∃ c, checkB N ws = c := ⟨_, rfl⟩
  obtain ⟨wA, hwA⟩ : ∃ wA, w.alloc (.cells #[.int .i64 N, v] 24) = wA := ⟨_, rfl⟩
  have hAB : Below w.heap.size w wA := by rw [← hwA]; exact (Below.refl _ _).alloc (Nat.le_refl _) _
  have hA := h.later hAB
  have HW := Lib.hid hwA
  have HC := Lib.hid hc
  clear hwA
  by_cases h0 : c = 0
  · subst h0
    obtain ⟨n, rfl, hn4, _⟩ := check_ok hc
    by_cases hs : s < 1
    · have hxy : ((0 : Int), (2 : Int)) = (x, y) := by
        rw [← hx]
        have : sizeB n ws s = 2 := by unfold sizeB; rw [if_neg (by simp [hc]), if_pos hs]
        unfold bestB; rw [this, if_pos (by decide)]
      obtain ⟨rfl, rfl⟩ := Prod.mk.inj hxy
      clear hxy hx hc
      go_enter Tryd.func38, Tryd.ntmps38
      go_wp2_with fail
      rw [HW.out]
      refine (RefCheck_is n v ws hf _ hA 0 HC.out).mono ?_
      rintro e w1 ⟨rfl, hB1⟩
      go_wp2
      go_ret2
      exact ⟨rfl, hAB.trans (hB1.mono hAB.size)⟩
    · have hz : sizeB n ws s = 0 := by unfold sizeB; rw [if_neg (by simp [hc]), if_neg hs]
      obtain ⟨s', rfl⟩ : ∃ k : Nat, s = k := ⟨s.toNat, by omega⟩
      refine RefBest_ok n s' v ws hf w h hc (by omega) x y ?_
      rw [← hx]; unfold bestB; rw [if_neg (by rw [hz]; simp)]; rfl
  · have hq : (c != 0) = true := by simp [h0]
    have hxy : ((0 : Int), c) = (x, y) := by
      rw [← hx]
      have : sizeB N ws s = c := by unfold sizeB; rw [hc, if_pos h0]
      unfold bestB; rw [this, if_pos h0]
    obtain ⟨rfl, rfl⟩ := Prod.mk.inj hxy
    clear hxy hx hc h0
    go_enter Tryd.func38, Tryd.ntmps38
    go_wp2_with fail
    rw [HW.out]
    refine (RefCheck_is N v ws hf _ hA c HC.out).mono ?_
    rintro e w1 ⟨rfl, hB1⟩
    go_wp2
    go_ret2
    exact ⟨rfl, hAB.trans (hB1.mono hAB.size)⟩

set_option maxRecDepth 100000 in
set_option maxHeartbeats 4000000 in
theorem law_fits (N : Int) (v : Value) (ws : List Nat) (hf : Fit64 ws) (s a : Int) (w : World) (hgd : Gd w) (h : WAt w v ws) :
    Calls Tryd.prog 6 #[bv N v, .int .i64 s, .int .i64 a] w fun e w' => e = .returned (.bool true) ∧ Below w.heap.size w w' := by
  obtain ⟨va, vc, rfl⟩ := h.form
  obtain ⟨wA, hwA⟩ : ∃ wA, w.alloc (.cells #[.int .i64 N, .slice va ws.length vc] 24) = wA := ⟨_, rfl⟩
  have hAB : Below w.heap.size w wA := by rw [← hwA]; exact (Below.refl _ _).alloc (Nat.le_refl _) _
  have bA : BBox wA w.heap.size N (.slice va ws.length vc) := by rw [← hwA]; exact BBox.new w N _
  have hA := h.later hAB
  have hgA := hgd.later hAB
  have x0 := bA.c0
  have y0 := bA.c1
  have HW := Lib.hid hwA
  clear hwA
  obtain ⟨f1, f2, hf1⟩ : ∃ x y, fitB N ws s a = (x, y) := ⟨_, _, rfl⟩
  obtain ⟨b1, b2, hb1⟩ : ∃ x y, bestB N ws s = (x, y) := ⟨_, _, rfl⟩
  obtain ⟨k1, k2, hk1⟩ : ∃ x y, blockB N ws s = (x, y) := ⟨_, _, rfl⟩
  have H1 := Lib.hid hf1
  have H2 := Lib.hid hb1
  have H3 := Lib.hid hk1
  clear hf1 hb1 hk1
  by_cases h20 : (20 : Int) < (ws.length : Int) ∧ (ws.length : Int) ≤ 64
  · obtain ⟨q1, q2⟩ := h20
    go_enter Tryd.func6, Tryd.ntmps6
    go_wp2_with fail
    rw [HW.out]
    refine (awake_any _ hgA).mono ?_
    rintro e w1 ⟨rfl, hB1⟩
    have D1 := hB1
    have x1 := (bA.later D1).c0
    have y1 := (bA.later D1).c1
    go_wp2
    go_ret
    exact ⟨rfl, hAB.trans (D1.mono hAB.size)⟩
  · cases hfar : decide (100 < ws.length) with
    | true =>
      have HF := Lib.hid hfar
      clear hfar
      by_cases q1 : (20 : Int) < (ws.length : Int) <;> by_cases q2 : (ws.length : Int) ≤ 64
      all_goals first | (exfalso; omega) | skip
      all_goals
        clear h20
        go_enter Tryd.func6, Tryd.ntmps6
        go_wp2_with fail
        rw [HW.out]
        refine (far_is N _ ws _ hA true HF.out).mono ?_
        rintro e w1 ⟨rfl, hB1⟩
        have D1 := hB1
        have x1 := (bA.later D1).c0
        have y1 := (bA.later D1).c1
        go_wp2_with fail
        refine (awake_any _ (hgA.later D1)).mono ?_
        rintro e w2 ⟨rfl, hB2⟩
        have D2 := D1.trans (hB2.mono D1.size)
        have x2 := (bA.later D2).c0
        have y2 := (bA.later D2).c1
        go_wp2
        go_ret
        exact ⟨rfl, hAB.trans (D2.mono hAB.size)⟩
    | false =>
      have HF := Lib.hid hfar
      clear hfar
      by_cases q1 : (20 : Int) < (ws.length : Int) <;> by_cases q2 : (ws.length : Int) ≤ 64
      all_goals first | (exfalso; omega) | skip
      all_goals
        clear h20
        go_enter Tryd.func6, Tryd.ntmps6
        go_wp2_with fail
        rw [HW.out]
        refine (far_is N _ ws _ hA false HF.out).mono ?_
        rintro e w1 ⟨rfl, hB1⟩
        have D1 := hB1
        have x1 := (bA.later D1).c0
        have y1 := (bA.later D1).c1
        go_wp2_with fail
        refine (Fit_is N _ ws hf _ (hA.later D1) (hgA.later D1) _ _ _ _ H1.out).mono ?_
        rintro e w2 ⟨rfl, hB2⟩
        have D2 := D1.trans (hB2.mono D1.size)
        have x2 := (bA.later D2).c0
        have y2 := (bA.later D2).c1
        go_wp2_with fail
        refine (RefFit_is N s a _ ws hf _ (hA.later D2) _ _ H1.out).mono ?_
        rintro e w3 ⟨rfl, hB3⟩
        have D3 := D2.trans (hB3.mono D2.size)
        have x3 := (bA.later D3).c0
        have y3 := (bA.later D3).c1
        go_wp2_with fail
        refine (Best_is N _ ws hf _ (hA.later D3) (hgA.later D3) _ _ _ H2.out).mono ?_
        rintro e w4 ⟨rfl, hB4⟩
        have D4 := D3.trans (hB4.mono D3.size)
        have x4 := (bA.later D4).c0
        have y4 := (bA.later D4).c1
        go_wp2_with fail
        refine (RefBest_is N s _ ws hf _ (hA.later D4) _ _ H2.out).mono ?_
        rintro e w5 ⟨rfl, hB5⟩
        have D5 := D4.trans (hB5.mono D4.size)
        have x5 := (bA.later D5).c0
        have y5 := (bA.later D5).c1
        go_wp2_with fail
        refine (Block_is N _ ws hf _ (hA.later D5) _ _ _ H3.out).mono ?_
        rintro e w6 ⟨rfl, hB6⟩
        have D6 := D5.trans (hB6.mono D5.size)
        have x6 := (bA.later D6).c0
        have y6 := (bA.later D6).c1
        go_wp2_with fail
        refine (RefBlock_is N s _ ws hf _ (hA.later D6) _ _ H3.out).mono ?_
        rintro e w7 ⟨rfl, hB7⟩
        have D7 := D6.trans (hB7.mono D6.size)
        have x7 := (bA.later D7).c0
        have y7 := (bA.later D7).c1
        go_wp2_with fail
        refine (awake_any _ (hgA.later D7)).mono ?_
        rintro e w8 ⟨rfl, hB8⟩
        have D8 := D7.trans (hB8.mono D7.size)
        have x8 := (bA.later D8).c0
        have y8 := (bA.later D8).c1
        go_wp2
        go_ret
        exact ⟨rfl, hAB.trans (D8.mono hAB.size)⟩
end Go.Proofs.YtandpjhakcmmhaaDoor
