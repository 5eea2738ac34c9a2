/- The law on runs. -/
import Derived.Test.YtandpjhakcmmhaaDoorRefRuns
import Derived.Test.YtandpjhakcmmhaaDoorFinds
namespace Go.Proofs.YtandpjhakcmmhaaDoor
open Go.RowKit Go.Shelf
attribute [local go_sem] Oper.semAt_some

set_option maxRecDepth 100000 in
set_option maxHeartbeats 4000000 in
theorem law_runs (N : Int) (v : Value) (ws : List Nat) (hf : Fit64 ws) (on : Bool) (w : World) (hgd : Gd w) (h : WAt w v ws) :
    Calls Tryd.prog 5 #[bv N v, .bool on] w fun e w' => e = .returned (.bool true) ∧ Below w.heap.size w w' := by
  obtain ⟨wA, hwA⟩ : ∃ wA, w.alloc (.cells #[.int .i64 N, v] 24) = wA := ⟨_, rfl⟩
  have hAB : Below w.heap.size w wA := by rw [← hwA]; exact (Below.refl _ _).alloc (Nat.le_refl _) _
  have bA : BBox wA w.heap.size N v := by rw [← hwA]; exact BBox.new w N v
  have hA := h.later hAB
  have hgA := hgd.later hAB
  have HW := Lib.hid hwA
  clear hwA
  cases hfar : decide (100 < ws.length) with
  | true =>
    have HF := Lib.hid hfar
    clear hfar
    go_enter Tryd.func5, Tryd.ntmps5
    go_wp2_with fail
    rw [HW.out]
    refine (far_is N v ws _ hA true HF.out).mono ?_
    rintro e w1 ⟨rfl, hB1⟩
    have D1 := hB1
    have x1 := (bA.later D1).c0
    have y1 := (bA.later D1).c1
    go_wp2_with fail
    refine (awake_any _ (hgA.later D1)).mono ?_
    rintro e w2 ⟨rfl, hB2⟩
    have D2 := D1.trans (hB2.mono D1.size)
    have x2 := (bA.later D2).c0
    have y2 := (bA.later D2).c1
    go_wp2
    go_ret
    exact ⟨rfl, hAB.trans (D2.mono hAB.size)⟩
  | false =>
    have HF := Lib.hid hfar
    clear hfar
    obtain ⟨c, hc⟩ : ∃ c, checkB N ws = c := ⟨_, rfl⟩
    by_cases h0 : c = 0
    · subst h0
      obtain ⟨n, rfl, hn4, hlen⟩ := check_ok hc
      have HC := Lib.hid hc
      clear hlen hc
      have hll : (runsL ws on 0 n).length ≤ 5000 := by rw [← refR_runs]; have := refR_len ws on n; omega
      obtain ⟨L, hL⟩ : ∃ L, runsL ws on 0 n = L := ⟨_, rfl⟩
      rw [hL] at hll
      have HLL := Lib.hid hL
      clear hL
      go_enter Tryd.func5, Tryd.ntmps5
      go_wp2_with fail
      rw [HW.out]
      refine (far_is n v ws _ hA false HF.out).mono ?_
      rintro e w1 ⟨rfl, hB1⟩
      have D1 := hB1
      have x1 := (bA.later D1).c0
      have y1 := (bA.later D1).c1
      go_wp2_with fail
      refine (Runs_ok n v on ws hf _ (hgA.later D1) (hA.later D1) HC.out).mono ?_
      rintro e w2 ⟨u1, rfl, hu1, hB2⟩
      rw [HLL.out] at hu1
      have D2 := D1.trans (hB2.mono D1.size)
      have x2 := (bA.later D2).c0
      have y2 := (bA.later D2).c1
      go_wp2_with fail
      refine (RefRuns_ok n v on ws hf _ (hA.later D2) HC.out).mono ?_
      rintro e w3 ⟨u2, rfl, hu2, hB3⟩
      rw [HLL.out] at hu2
      have D3 := D2.trans (hB3.mono D2.size)
      have hu3 := hu1.kept (grown_of_below hB3) (Classical.em _)
      go_wp2_with fail
      refine (SameRuns_eq _ _ u1 u2 L hll w3 hu3 hu2).mono ?_
      rintro e w4 ⟨rfl, hB4⟩
      have D4 := D3.trans (hB4.mono D3.size)
      go_wp2_with fail
      refine (awake_any _ (hgA.later D4)).mono ?_
      rintro e w5 ⟨rfl, hB5⟩
      go_wp2
      go_ret
      exact ⟨rfl, hAB.trans ((D4.trans (hB5.mono D4.size)).mono hAB.size)⟩
    · have HC := Lib.hid hc
      clear hc
      go_enter Tryd.func5, Tryd.ntmps5
      go_wp2_with fail
      rw [HW.out]
      refine (far_is N v ws _ hA false HF.out).mono ?_
      rintro e w1 ⟨rfl, hB1⟩
      have D1 := hB1
      have x1 := (bA.later D1).c0
      have y1 := (bA.later D1).c1
      go_wp2_with fail
      refine (Runs_bad N v on ws hf _ (hA.later D1) c HC.out h0).mono ?_
      rintro e w2 ⟨rfl, hB2⟩
      have D2 := D1.trans (hB2.mono D1.size)
      have x2 := (bA.later D2).c0
      have y2 := (bA.later D2).c1
      go_wp2_with fail
      refine (RefRuns_bad N v on ws hf _ (hA.later D2) c HC.out h0).mono ?_
      rintro e w3 ⟨rfl, hB3⟩
      have D3 := D2.trans (hB3.mono D2.size)
      have x3 := (bA.later D3).c0
      have y3 := (bA.later D3).c1
      go_wp2_with fail
      refine (SameRuns_eq 0 0 _ _ [] (by simp) w3 (World.ownsRow_nil _ _ _ _) (World.ownsRow_nil _ _ _ _)).mono ?_
      rintro e w4 ⟨rfl, hB4⟩
      have D4 := D3.trans (hB4.mono D3.size)
      go_wp2_with fail
      refine (awake_any _ (hgA.later D4)).mono ?_
      rintro e w5 ⟨rfl, hB5⟩
      go_wp2
      go_ret
      exact ⟨rfl, hAB.trans ((D4.trans (hB5.mono D4.size)).mono hAB.size)⟩
end Go.Proofs.YtandpjhakcmmhaaDoor
