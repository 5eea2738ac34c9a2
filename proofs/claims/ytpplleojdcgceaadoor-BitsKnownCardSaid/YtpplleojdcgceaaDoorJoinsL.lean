/- The law on joins. -/
import Derived.Test.YtpplleojdcgceaaDoorLens
import Derived.Deep.RegionHeld3
namespace Go.Proofs.YtpplleojdcgceaaDoor
open Go.RowKit Go.Shelf
attribute [local go_sem] Oper.semAt_some

theorem boxes_two (w : World) (M N : Int) (u v : Value) : ∃ wA, (w.alloc (.cells #[.int .i64 M, u] 24)).alloc (.cells #[.int .i64 N, v] 24) = wA ∧ Below w.heap.size w wA ∧ BBox wA w.heap.size M u ∧ BBox wA (w.heap.size + 1) N v := by
  refine ⟨_, rfl, ((Below.refl _ _).alloc (Nat.le_refl _) _).alloc (by simp) _, (BBox.new w M u).alloc _, ?_⟩
  have := BBox.new (w.alloc (.cells #[.int .i64 M, u] 24)) N v
  rw [World.size_alloc] at this
  exact this

set_option maxRecDepth 100000 in
set_option maxHeartbeats 8000000 in
theorem law_joins (M N : Int) (u v : Value) (va vb : List Nat) (fa : Fit64 va) (fb : Fit64 vb) (w : World) (gd0 : Gd w) (ha : WAt w u va) (hb : WAt w v vb) :
    Calls Tryd.prog 7 #[bv M u, bv N v] w fun e w' => e = .returned (.bool true) ∧ Below w.heap.size w w' := by
  obtain ⟨wA, hwA, hAB, bA, bB⟩ := boxes_two w M N u v
  have hA := ha.later hAB
  have hB := hb.later hAB
  have hgA := gd0.later hAB
  have HW := Lib.hid hwA
  have oAB : w.heap.size < w.heap.size + 1 := by omega
  clear hwA
  cases hfar : decide (100 < va.length) with
  | true =>
    have HF := Lib.hid hfar
    clear hfar
    go_enter Tryd.func7, Tryd.ntmps7
    go_wp2_with fail
    rw [HW.out]
    have xA0_0 := bA.c0
    have xA1_0 := bA.c1
    have xlA_0 := bA.lt
    have xfA0_0 := bA.fz 0
    have xfA1_0 := bA.fz 1
    have xB0_0 := bB.c0
    have xB1_0 := bB.c1
    have xlB_0 := bB.lt
    have xfB0_0 := bB.fz 0
    have xfB1_0 := bB.fz 1
    refine (far_is M u va _ hA true HF.out).mono ?_
    rintro e w1 ⟨rfl, B1⟩
    clear xA0_0 xA1_0 xlA_0 xfA0_0 xfA1_0 xB0_0 xB1_0 xlB_0 xfB0_0 xfB1_0
    have D1 := hAB.trans (B1.mono hAB.size)
    have bA_1 := bA.later B1
    have bB_1 := bB.later B1
    have hA_1 := hA.later B1
    have hB_1 := hB.later B1
    have gd_1 := hgA.later B1
    have xA0_1 := bA_1.c0
    have xA1_1 := bA_1.c1
    have xlA_1 := bA_1.lt
    have xfA0_1 := bA_1.fz 0
    have xfA1_1 := bA_1.fz 1
    have xB0_1 := bB_1.c0
    have xB1_1 := bB_1.c1
    have xlB_1 := bB_1.lt
    have xfB0_1 := bB_1.fz 0
    have xfB1_1 := bB_1.fz 1
    go_wp2_with fail
    refine (awake_any _ gd_1).mono ?_
    rintro e w2 ⟨rfl, B2⟩
    clear xA0_1 xA1_1 xlA_1 xfA0_1 xfA1_1 xB0_1 xB1_1 xlB_1 xfB0_1 xfB1_1
    have D2 := D1.trans (B2.mono D1.size)
    have bA_2 := bA_1.later B2
    have bB_2 := bB_1.later B2
    have hA_2 := hA_1.later B2
    have hB_2 := hB_1.later B2
    have gd_2 := gd_1.later B2
    have xA0_2 := bA_2.c0
    have xA1_2 := bA_2.c1
    have xlA_2 := bA_2.lt
    have xfA0_2 := bA_2.fz 0
    have xfA1_2 := bA_2.fz 1
    have xB0_2 := bB_2.c0
    have xB1_2 := bB_2.c1
    have xlB_2 := bB_2.lt
    have xfB0_2 := bB_2.fz 0
    have xfB1_2 := bB_2.fz 1
    go_wp2
    go_ret
    exact ⟨rfl, D2⟩
  | false =>
    have HF := Lib.hid hfar
    clear hfar
    cases hfar2 : decide (100 < vb.length) with
    | true =>
      have HG := Lib.hid hfar2
      clear hfar2
      go_enter Tryd.func7, Tryd.ntmps7
      go_wp2_with fail
      rw [HW.out]
      have xA0_0 := bA.c0
      have xA1_0 := bA.c1
      have xlA_0 := bA.lt
      have xfA0_0 := bA.fz 0
      have xfA1_0 := bA.fz 1
      have xB0_0 := bB.c0
      have xB1_0 := bB.c1
      have xlB_0 := bB.lt
      have xfB0_0 := bB.fz 0
      have xfB1_0 := bB.fz 1
      refine (far_is M u va _ hA false HF.out).mono ?_
      rintro e w1 ⟨rfl, B1⟩
      clear xA0_0 xA1_0 xlA_0 xfA0_0 xfA1_0 xB0_0 xB1_0 xlB_0 xfB0_0 xfB1_0
      have D1 := hAB.trans (B1.mono hAB.size)
      have bA_1 := bA.later B1
      have bB_1 := bB.later B1
      have hA_1 := hA.later B1
      have hB_1 := hB.later B1
      have gd_1 := hgA.later B1
      have xA0_1 := bA_1.c0
      have xA1_1 := bA_1.c1
      have xlA_1 := bA_1.lt
      have xfA0_1 := bA_1.fz 0
      have xfA1_1 := bA_1.fz 1
      have xB0_1 := bB_1.c0
      have xB1_1 := bB_1.c1
      have xlB_1 := bB_1.lt
      have xfB0_1 := bB_1.fz 0
      have xfB1_1 := bB_1.fz 1
      go_wp2_with fail
      refine (far_is N v vb _ hB_1 true HG.out).mono ?_
      rintro e w2 ⟨rfl, B2⟩
      clear xA0_1 xA1_1 xlA_1 xfA0_1 xfA1_1 xB0_1 xB1_1 xlB_1 xfB0_1 xfB1_1
      have D2 := D1.trans (B2.mono D1.size)
      have bA_2 := bA_1.later B2
      have bB_2 := bB_1.later B2
      have hA_2 := hA_1.later B2
      have hB_2 := hB_1.later B2
      have gd_2 := gd_1.later B2
      have xA0_2 := bA_2.c0
      have xA1_2 := bA_2.c1
      have xlA_2 := bA_2.lt
      have xfA0_2 := bA_2.fz 0
      have xfA1_2 := bA_2.fz 1
      have xB0_2 := bB_2.c0
      have xB1_2 := bB_2.c1
      have xlB_2 := bB_2.lt
      have xfB0_2 := bB_2.fz 0
      have xfB1_2 := bB_2.fz 1
      go_wp2_with fail
      refine (awake_any _ gd_2).mono ?_
      rintro e w3 ⟨rfl, B3⟩
      clear xA0_2 xA1_2 xlA_2 xfA0_2 xfA1_2 xB0_2 xB1_2 xlB_2 xfB0_2 xfB1_2
      have D3 := D2.trans (B3.mono D2.size)
      have bA_3 := bA_2.later B3
      have bB_3 := bB_2.later B3
      have hA_3 := hA_2.later B3
      have hB_3 := hB_2.later B3
      have gd_3 := gd_2.later B3
      have xA0_3 := bA_3.c0
      have xA1_3 := bA_3.c1
      have xlA_3 := bA_3.lt
      have xfA0_3 := bA_3.fz 0
      have xfA1_3 := bA_3.fz 1
      have xB0_3 := bB_3.c0
      have xB1_3 := bB_3.c1
      have xlB_3 := bB_3.lt
      have xfB0_3 := bB_3.fz 0
      have xfB1_3 := bB_3.fz 1
      go_wp2
      go_ret
      exact ⟨rfl, D3⟩
    | false =>
      have HG := Lib.hid hfar2
      clear hfar2
      obtain ⟨K1, w1s, c1, hx1⟩ : ∃ K ws c, opB (fun x y => x && y) M va N vb = (K, ws, c) := ⟨_, _, _, rfl⟩
      obtain ⟨K2, w2s, c2, hx2⟩ : ∃ K ws c, opB (fun x y => x || y) M va N vb = (K, ws, c) := ⟨_, _, _, rfl⟩
      obtain ⟨K3, w3s, c3, hx3⟩ : ∃ K ws c, opB (fun x y => x && !y) M va N vb = (K, ws, c) := ⟨_, _, _, rfl⟩
      obtain ⟨K4, w4s, c4, hx4⟩ : ∃ K ws c, flipB M va = (K, ws, c) := ⟨_, _, _, rfl⟩
      have L1 : w1s.length ≤ 1000000 := opB_len hx1
      have L2 : w2s.length ≤ 1000000 := opB_len hx2
      have L3 : w3s.length ≤ 1000000 := opB_len hx3
      have L4 : w4s.length ≤ 1000000 := flipB_len hx4
      have H1 := Lib.hid hx1
      have H2 := Lib.hid hx2
      have H3 := Lib.hid hx3
      have H4 := Lib.hid hx4
      clear hx1 hx2 hx3 hx4
      go_enter Tryd.func7, Tryd.ntmps7
      go_wp2_with fail
      rw [HW.out]
      have xA0_0 := bA.c0
      have xA1_0 := bA.c1
      have xlA_0 := bA.lt
      have xfA0_0 := bA.fz 0
      have xfA1_0 := bA.fz 1
      have xB0_0 := bB.c0
      have xB1_0 := bB.c1
      have xlB_0 := bB.lt
      have xfB0_0 := bB.fz 0
      have xfB1_0 := bB.fz 1
      refine (far_is M u va _ hA false HF.out).mono ?_
      rintro e w1 ⟨rfl, B1⟩
      clear xA0_0 xA1_0 xlA_0 xfA0_0 xfA1_0 xB0_0 xB1_0 xlB_0 xfB0_0 xfB1_0
      have D1 := hAB.trans (B1.mono hAB.size)
      have bA_1 := bA.later B1
      have bB_1 := bB.later B1
      have hA_1 := hA.later B1
      have hB_1 := hB.later B1
      have gd_1 := hgA.later B1
      have xA0_1 := bA_1.c0
      have xA1_1 := bA_1.c1
      have xlA_1 := bA_1.lt
      have xfA0_1 := bA_1.fz 0
      have xfA1_1 := bA_1.fz 1
      have xB0_1 := bB_1.c0
      have xB1_1 := bB_1.c1
      have xlB_1 := bB_1.lt
      have xfB0_1 := bB_1.fz 0
      have xfB1_1 := bB_1.fz 1
      go_wp2_with fail
      refine (far_is N v vb _ hB_1 false HG.out).mono ?_
      rintro e w2 ⟨rfl, B2⟩
      clear xA0_1 xA1_1 xlA_1 xfA0_1 xfA1_1 xB0_1 xB1_1 xlB_1 xfB0_1 xfB1_1
      have D2 := D1.trans (B2.mono D1.size)
      have bA_2 := bA_1.later B2
      have bB_2 := bB_1.later B2
      have hA_2 := hA_1.later B2
      have hB_2 := hB_1.later B2
      have gd_2 := gd_1.later B2
      have xA0_2 := bA_2.c0
      have xA1_2 := bA_2.c1
      have xlA_2 := bA_2.lt
      have xfA0_2 := bA_2.fz 0
      have xfA1_2 := bA_2.fz 1
      have xB0_2 := bB_2.c0
      have xB1_2 := bB_2.c1
      have xlB_2 := bB_2.lt
      have xfB0_2 := bB_2.fz 0
      have xfB1_2 := bB_2.fz 1
      go_wp2_with fail
      refine (And_is M N u v va vb fa fb _ hA_2 hB_2 _ _ _ H1.out).mono ?_
      rintro e w3 ⟨z, rfl, hz, B3⟩
      obtain ⟨za, zn, zc, rfl⟩ := hz.form3
      clear xA0_2 xA1_2 xlA_2 xfA0_2 xfA1_2 xB0_2 xB1_2 xlB_2 xfB0_2 xfB1_2
      have D3 := D2.trans (B3.mono D2.size)
      have bA_3 := bA_2.later B3
      have bB_3 := bB_2.later B3
      have hA_3 := hA_2.later B3
      have hB_3 := hB_2.later B3
      have gd_3 := gd_2.later B3
      replace hz : WAt w3 (.slice za zn zc) w1s := hz
      have hz_3 := hz
      clear hz
      have xA0_3 := bA_3.c0
      have xA1_3 := bA_3.c1
      have xlA_3 := bA_3.lt
      have xfA0_3 := bA_3.fz 0
      have xfA1_3 := bA_3.fz 1
      have xB0_3 := bB_3.c0
      have xB1_3 := bB_3.c1
      have xlB_3 := bB_3.lt
      have xfB0_3 := bB_3.fz 0
      have xfB1_3 := bB_3.fz 1
      go_wp2_with fail
      have oAZ := bA_3.lt
      have oBZ := bB_3.lt
      have oDZ := D3.size
      clear xA0_3 xA1_3 xlA_3 xfA0_3 xfA1_3 xB0_3 xB1_3 xlB_3 xfB0_3 xfB1_3
      have A3 := (Below.refl w3.heap.size w3).alloc (Nat.le_refl _) (.cells #[.int .i64 K1, (.slice za zn zc)] 24)
      have D4 := D3.trans (A3.mono D3.size)
      have bA_4 := bA_3.later A3
      have bB_4 := bB_3.later A3
      have hA_4 := hA_3.later A3
      have hB_4 := hB_3.later A3
      have hz_4 := hz_3.later A3
      have gd_4 := gd_3.later A3
      have bZ_4 := BBox.new w3 K1 (.slice za zn zc)
      have xA0_4 := bA_4.c0
      have xA1_4 := bA_4.c1
      have xlA_4 := bA_4.lt
      have xfA0_4 := bA_4.fz 0
      have xfA1_4 := bA_4.fz 1
      have xB0_4 := bB_4.c0
      have xB1_4 := bB_4.c1
      have xlB_4 := bB_4.lt
      have xfB0_4 := bB_4.fz 0
      have xfB1_4 := bB_4.fz 1
      have xZ0_4 := bZ_4.c0
      have xZ1_4 := bZ_4.c1
      have xlZ_4 := bZ_4.lt
      have xfZ0_4 := bZ_4.fz 0
      have xfZ1_4 := bZ_4.fz 1
      refine (RefAnd_is M N u v va vb fa fb _ _ _ H1.out _ hA_4 hB_4).mono ?_
      rintro e w4 ⟨z, rfl, hz, B4⟩
      obtain ⟨ya, yn, yc, rfl⟩ := hz.form3
      clear xA0_4 xA1_4 xlA_4 xfA0_4 xfA1_4 xB0_4 xB1_4 xlB_4 xfB0_4 xfB1_4 xZ0_4 xZ1_4 xlZ_4 xfZ0_4 xfZ1_4
      have D5 := D4.trans (B4.mono D4.size)
      have bA_5 := bA_4.later B4
      have bB_5 := bB_4.later B4
      have bZ_5 := bZ_4.later B4
      have hA_5 := hA_4.later B4
      have hB_5 := hB_4.later B4
      have hz_5 := hz_4.later B4
      have gd_5 := gd_4.later B4
      replace hz : WAt w4 (.slice ya yn yc) w1s := hz
      have hy_5 := hz
      clear hz
      have xA0_5 := bA_5.c0
      have xA1_5 := bA_5.c1
      have xlA_5 := bA_5.lt
      have xfA0_5 := bA_5.fz 0
      have xfA1_5 := bA_5.fz 1
      have xB0_5 := bB_5.c0
      have xB1_5 := bB_5.c1
      have xlB_5 := bB_5.lt
      have xfB0_5 := bB_5.fz 0
      have xfB1_5 := bB_5.fz 1
      have xZ0_5 := bZ_5.c0
      have xZ1_5 := bZ_5.c1
      have xlZ_5 := bZ_5.lt
      have xfZ0_5 := bZ_5.fz 0
      have xfZ1_5 := bZ_5.fz 1
      go_wp2_with fail
      have oAY := bA_5.lt
      have oBY := bB_5.lt
      have oZY := bZ_5.lt
      have oDY := D5.size
      clear xA0_5 xA1_5 xlA_5 xfA0_5 xfA1_5 xB0_5 xB1_5 xlB_5 xfB0_5 xfB1_5 xZ0_5 xZ1_5 xlZ_5 xfZ0_5 xfZ1_5
      have A5 := (Below.refl w4.heap.size w4).alloc (Nat.le_refl _) (.cells #[.int .i64 K1, (.slice ya yn yc)] 24)
      have D6 := D5.trans (A5.mono D5.size)
      have bA_6 := bA_5.later A5
      have bB_6 := bB_5.later A5
      have bZ_6 := bZ_5.later A5
      have hA_6 := hA_5.later A5
      have hB_6 := hB_5.later A5
      have hz_6 := hz_5.later A5
      have hy_6 := hy_5.later A5
      have gd_6 := gd_5.later A5
      have bY_6 := BBox.new w4 K1 (.slice ya yn yc)
      have xA0_6 := bA_6.c0
      have xA1_6 := bA_6.c1
      have xlA_6 := bA_6.lt
      have xfA0_6 := bA_6.fz 0
      have xfA1_6 := bA_6.fz 1
      have xB0_6 := bB_6.c0
      have xB1_6 := bB_6.c1
      have xlB_6 := bB_6.lt
      have xfB0_6 := bB_6.fz 0
      have xfB1_6 := bB_6.fz 1
      have xZ0_6 := bZ_6.c0
      have xZ1_6 := bZ_6.c1
      have xlZ_6 := bZ_6.lt
      have xfZ0_6 := bZ_6.fz 0
      have xfZ1_6 := bZ_6.fz 1
      have xY0_6 := bY_6.c0
      have xY1_6 := bY_6.c1
      have xlY_6 := bY_6.lt
      have xfY0_6 := bY_6.fz 0
      have xfY1_6 := bY_6.fz 1
      refine (Same_eq K1 _ _ w1s L1 _ hz_6 hy_6).mono ?_
      rintro e w5 ⟨rfl, B5⟩
      clear xA0_6 xA1_6 xlA_6 xfA0_6 xfA1_6 xB0_6 xB1_6 xlB_6 xfB0_6 xfB1_6 xZ0_6 xZ1_6 xlZ_6 xfZ0_6 xfZ1_6 xY0_6 xY1_6 xlY_6 xfY0_6 xfY1_6
      have D7 := D6.trans (B5.mono D6.size)
      have bA_7 := bA_6.later B5
      have bB_7 := bB_6.later B5
      have bZ_7 := bZ_6.later B5
      have bY_7 := bY_6.later B5
      have hA_7 := hA_6.later B5
      have hB_7 := hB_6.later B5
      have hz_7 := hz_6.later B5
      have hy_7 := hy_6.later B5
      have gd_7 := gd_6.later B5
      have xA0_7 := bA_7.c0
      have xA1_7 := bA_7.c1
      have xlA_7 := bA_7.lt
      have xfA0_7 := bA_7.fz 0
      have xfA1_7 := bA_7.fz 1
      have xB0_7 := bB_7.c0
      have xB1_7 := bB_7.c1
      have xlB_7 := bB_7.lt
      have xfB0_7 := bB_7.fz 0
      have xfB1_7 := bB_7.fz 1
      have xZ0_7 := bZ_7.c0
      have xZ1_7 := bZ_7.c1
      have xlZ_7 := bZ_7.lt
      have xfZ0_7 := bZ_7.fz 0
      have xfZ1_7 := bZ_7.fz 1
      have xY0_7 := bY_7.c0
      have xY1_7 := bY_7.c1
      have xlY_7 := bY_7.lt
      have xfY0_7 := bY_7.fz 0
      have xfY1_7 := bY_7.fz 1
      go_wp2_with fail
      refine (Or_is M N u v va vb fa fb _ hA_7 hB_7 _ _ _ H2.out).mono ?_
      rintro e w6 ⟨z, rfl, hz, B6⟩
      obtain ⟨zza, zzn, zzc, rfl⟩ := hz.form3
      clear xA0_7 xA1_7 xlA_7 xfA0_7 xfA1_7 xB0_7 xB1_7 xlB_7 xfB0_7 xfB1_7 xZ0_7 xZ1_7 xlZ_7 xfZ0_7 xfZ1_7 xY0_7 xY1_7 xlY_7 xfY0_7 xfY1_7
      have D8 := D7.trans (B6.mono D7.size)
      have bA_8 := bA_7.later B6
      have bB_8 := bB_7.later B6
      have bZ_8 := bZ_7.later B6
      have bY_8 := bY_7.later B6
      have hA_8 := hA_7.later B6
      have hB_8 := hB_7.later B6
      have hz_8 := hz_7.later B6
      have hy_8 := hy_7.later B6
      have gd_8 := gd_7.later B6
      replace hz : WAt w6 (.slice zza zzn zzc) w2s := hz
      have hzz_8 := hz
      clear hz
      have xA0_8 := bA_8.c0
      have xA1_8 := bA_8.c1
      have xlA_8 := bA_8.lt
      have xfA0_8 := bA_8.fz 0
      have xfA1_8 := bA_8.fz 1
      have xB0_8 := bB_8.c0
      have xB1_8 := bB_8.c1
      have xlB_8 := bB_8.lt
      have xfB0_8 := bB_8.fz 0
      have xfB1_8 := bB_8.fz 1
      have xZ0_8 := bZ_8.c0
      have xZ1_8 := bZ_8.c1
      have xlZ_8 := bZ_8.lt
      have xfZ0_8 := bZ_8.fz 0
      have xfZ1_8 := bZ_8.fz 1
      have xY0_8 := bY_8.c0
      have xY1_8 := bY_8.c1
      have xlY_8 := bY_8.lt
      have xfY0_8 := bY_8.fz 0
      have xfY1_8 := bY_8.fz 1
      go_wp2_with fail
      clear xA0_8 xA1_8 xlA_8 xfA0_8 xfA1_8 xB0_8 xB1_8 xlB_8 xfB0_8 xfB1_8 xZ0_8 xZ1_8 xlZ_8 xfZ0_8 xfZ1_8 xY0_8 xY1_8 xlY_8 xfY0_8 xfY1_8
      have hA_9 : WAt ((w6.setCell ⟨w3.heap.size, 0, none⟩ (.int .i64 K2)).setCell ⟨w3.heap.size, 1, none⟩ (.slice zza zzn zzc)) u va := hA_8.write bZ_8
      have hB_9 : WAt ((w6.setCell ⟨w3.heap.size, 0, none⟩ (.int .i64 K2)).setCell ⟨w3.heap.size, 1, none⟩ (.slice zza zzn zzc)) v vb := hB_8.write bZ_8
      have hz_9 : WAt ((w6.setCell ⟨w3.heap.size, 0, none⟩ (.int .i64 K2)).setCell ⟨w3.heap.size, 1, none⟩ (.slice zza zzn zzc)) (.slice za zn zc) w1s := hz_8.write bZ_8
      have hy_9 : WAt ((w6.setCell ⟨w3.heap.size, 0, none⟩ (.int .i64 K2)).setCell ⟨w3.heap.size, 1, none⟩ (.slice zza zzn zzc)) (.slice ya yn yc) w1s := hy_8.write bZ_8
      have hzz_9 : WAt ((w6.setCell ⟨w3.heap.size, 0, none⟩ (.int .i64 K2)).setCell ⟨w3.heap.size, 1, none⟩ (.slice zza zzn zzc)) (.slice zza zzn zzc) w2s := hzz_8.write bZ_8
      have bA_9 : BBox ((w6.setCell ⟨w3.heap.size, 0, none⟩ (.int .i64 K2)).setCell ⟨w3.heap.size, 1, none⟩ (.slice zza zzn zzc)) w.heap.size M u := (bA_8.setOther (by omega) 0 _).setOther (by omega) 1 _
      have bB_9 : BBox ((w6.setCell ⟨w3.heap.size, 0, none⟩ (.int .i64 K2)).setCell ⟨w3.heap.size, 1, none⟩ (.slice zza zzn zzc)) (w.heap.size + 1) N v := (bB_8.setOther (by omega) 0 _).setOther (by omega) 1 _
      have bZ_9 : BBox ((w6.setCell ⟨w3.heap.size, 0, none⟩ (.int .i64 K2)).setCell ⟨w3.heap.size, 1, none⟩ (.slice zza zzn zzc)) w3.heap.size K2 (.slice zza zzn zzc) := bZ_8.write
      have bY_9 : BBox ((w6.setCell ⟨w3.heap.size, 0, none⟩ (.int .i64 K2)).setCell ⟨w3.heap.size, 1, none⟩ (.slice zza zzn zzc)) w4.heap.size K1 (.slice ya yn yc) := (bY_8.setOther (by omega) 0 _).setOther (by omega) 1 _
      have D9 : Below w.heap.size w ((w6.setCell ⟨w3.heap.size, 0, none⟩ (.int .i64 K2)).setCell ⟨w3.heap.size, 1, none⟩ (.slice zza zzn zzc)) := (D8.setCell (by dsimp only; omega) _).setCell (by dsimp only; omega) _
      have gd_9 : Gd ((w6.setCell ⟨w3.heap.size, 0, none⟩ (.int .i64 K2)).setCell ⟨w3.heap.size, 1, none⟩ (.slice zza zzn zzc)) := gd0.later (D9)
      have xA0_9 := bA_9.c0
      have xA1_9 := bA_9.c1
      have xlA_9 := bA_9.lt
      have xfA0_9 := bA_9.fz 0
      have xfA1_9 := bA_9.fz 1
      have xB0_9 := bB_9.c0
      have xB1_9 := bB_9.c1
      have xlB_9 := bB_9.lt
      have xfB0_9 := bB_9.fz 0
      have xfB1_9 := bB_9.fz 1
      have xZ0_9 := bZ_9.c0
      have xZ1_9 := bZ_9.c1
      have xlZ_9 := bZ_9.lt
      have xfZ0_9 := bZ_9.fz 0
      have xfZ1_9 := bZ_9.fz 1
      have xY0_9 := bY_9.c0
      have xY1_9 := bY_9.c1
      have xlY_9 := bY_9.lt
      have xfY0_9 := bY_9.fz 0
      have xfY1_9 := bY_9.fz 1
      refine (RefOr_is M N u v va vb fa fb _ _ _ H2.out _ hA_9 hB_9).mono ?_
      rintro e w7 ⟨z, rfl, hz, B7⟩
      obtain ⟨yya, yyn, yyc, rfl⟩ := hz.form3
      clear xA0_9 xA1_9 xlA_9 xfA0_9 xfA1_9 xB0_9 xB1_9 xlB_9 xfB0_9 xfB1_9 xZ0_9 xZ1_9 xlZ_9 xfZ0_9 xfZ1_9 xY0_9 xY1_9 xlY_9 xfY0_9 xfY1_9
      have D10 := D9.trans (B7.mono D9.size)
      have bA_10 := bA_9.later B7
      have bB_10 := bB_9.later B7
      have bZ_10 := bZ_9.later B7
      have bY_10 := bY_9.later B7
      have hA_10 := hA_9.later B7
      have hB_10 := hB_9.later B7
      have hz_10 := hz_9.later B7
      have hy_10 := hy_9.later B7
      have hzz_10 := hzz_9.later B7
      have gd_10 := gd_9.later B7
      replace hz : WAt w7 (.slice yya yyn yyc) w2s := hz
      have hyy_10 := hz
      clear hz
      have xA0_10 := bA_10.c0
      have xA1_10 := bA_10.c1
      have xlA_10 := bA_10.lt
      have xfA0_10 := bA_10.fz 0
      have xfA1_10 := bA_10.fz 1
      have xB0_10 := bB_10.c0
      have xB1_10 := bB_10.c1
      have xlB_10 := bB_10.lt
      have xfB0_10 := bB_10.fz 0
      have xfB1_10 := bB_10.fz 1
      have xZ0_10 := bZ_10.c0
      have xZ1_10 := bZ_10.c1
      have xlZ_10 := bZ_10.lt
      have xfZ0_10 := bZ_10.fz 0
      have xfZ1_10 := bZ_10.fz 1
      have xY0_10 := bY_10.c0
      have xY1_10 := bY_10.c1
      have xlY_10 := bY_10.lt
      have xfY0_10 := bY_10.fz 0
      have xfY1_10 := bY_10.fz 1
      go_wp2_with fail
      clear xA0_10 xA1_10 xlA_10 xfA0_10 xfA1_10 xB0_10 xB1_10 xlB_10 xfB0_10 xfB1_10 xZ0_10 xZ1_10 xlZ_10 xfZ0_10 xfZ1_10 xY0_10 xY1_10 xlY_10 xfY0_10 xfY1_10
      have hA_11 : WAt ((w7.setCell ⟨w4.heap.size, 0, none⟩ (.int .i64 K2)).setCell ⟨w4.heap.size, 1, none⟩ (.slice yya yyn yyc)) u va := hA_10.write bY_10
      have hB_11 : WAt ((w7.setCell ⟨w4.heap.size, 0, none⟩ (.int .i64 K2)).setCell ⟨w4.heap.size, 1, none⟩ (.slice yya yyn yyc)) v vb := hB_10.write bY_10
      have hz_11 : WAt ((w7.setCell ⟨w4.heap.size, 0, none⟩ (.int .i64 K2)).setCell ⟨w4.heap.size, 1, none⟩ (.slice yya yyn yyc)) (.slice za zn zc) w1s := hz_10.write bY_10
      have hy_11 : WAt ((w7.setCell ⟨w4.heap.size, 0, none⟩ (.int .i64 K2)).setCell ⟨w4.heap.size, 1, none⟩ (.slice yya yyn yyc)) (.slice ya yn yc) w1s := hy_10.write bY_10
      have hzz_11 : WAt ((w7.setCell ⟨w4.heap.size, 0, none⟩ (.int .i64 K2)).setCell ⟨w4.heap.size, 1, none⟩ (.slice yya yyn yyc)) (.slice zza zzn zzc) w2s := hzz_10.write bY_10
      have hyy_11 : WAt ((w7.setCell ⟨w4.heap.size, 0, none⟩ (.int .i64 K2)).setCell ⟨w4.heap.size, 1, none⟩ (.slice yya yyn yyc)) (.slice yya yyn yyc) w2s := hyy_10.write bY_10
      have bA_11 : BBox ((w7.setCell ⟨w4.heap.size, 0, none⟩ (.int .i64 K2)).setCell ⟨w4.heap.size, 1, none⟩ (.slice yya yyn yyc)) w.heap.size M u := (bA_10.setOther (by omega) 0 _).setOther (by omega) 1 _
      have bB_11 : BBox ((w7.setCell ⟨w4.heap.size, 0, none⟩ (.int .i64 K2)).setCell ⟨w4.heap.size, 1, none⟩ (.slice yya yyn yyc)) (w.heap.size + 1) N v := (bB_10.setOther (by omega) 0 _).setOther (by omega) 1 _
      have bZ_11 : BBox ((w7.setCell ⟨w4.heap.size, 0, none⟩ (.int .i64 K2)).setCell ⟨w4.heap.size, 1, none⟩ (.slice yya yyn yyc)) w3.heap.size K2 (.slice zza zzn zzc) := (bZ_10.setOther (by omega) 0 _).setOther (by omega) 1 _
      have bY_11 : BBox ((w7.setCell ⟨w4.heap.size, 0, none⟩ (.int .i64 K2)).setCell ⟨w4.heap.size, 1, none⟩ (.slice yya yyn yyc)) w4.heap.size K2 (.slice yya yyn yyc) := bY_10.write
      have D11 : Below w.heap.size w ((w7.setCell ⟨w4.heap.size, 0, none⟩ (.int .i64 K2)).setCell ⟨w4.heap.size, 1, none⟩ (.slice yya yyn yyc)) := (D10.setCell (by dsimp only; omega) _).setCell (by dsimp only; omega) _
      have gd_11 : Gd ((w7.setCell ⟨w4.heap.size, 0, none⟩ (.int .i64 K2)).setCell ⟨w4.heap.size, 1, none⟩ (.slice yya yyn yyc)) := gd0.later (D11)
      have xA0_11 := bA_11.c0
      have xA1_11 := bA_11.c1
      have xlA_11 := bA_11.lt
      have xfA0_11 := bA_11.fz 0
      have xfA1_11 := bA_11.fz 1
      have xB0_11 := bB_11.c0
      have xB1_11 := bB_11.c1
      have xlB_11 := bB_11.lt
      have xfB0_11 := bB_11.fz 0
      have xfB1_11 := bB_11.fz 1
      have xZ0_11 := bZ_11.c0
      have xZ1_11 := bZ_11.c1
      have xlZ_11 := bZ_11.lt
      have xfZ0_11 := bZ_11.fz 0
      have xfZ1_11 := bZ_11.fz 1
      have xY0_11 := bY_11.c0
      have xY1_11 := bY_11.c1
      have xlY_11 := bY_11.lt
      have xfY0_11 := bY_11.fz 0
      have xfY1_11 := bY_11.fz 1
      refine (Same_eq K2 _ _ w2s L2 _ hzz_11 hyy_11).mono ?_
      rintro e w8 ⟨rfl, B8⟩
      clear xA0_11 xA1_11 xlA_11 xfA0_11 xfA1_11 xB0_11 xB1_11 xlB_11 xfB0_11 xfB1_11 xZ0_11 xZ1_11 xlZ_11 xfZ0_11 xfZ1_11 xY0_11 xY1_11 xlY_11 xfY0_11 xfY1_11
      have D12 := D11.trans (B8.mono D11.size)
      have bA_12 := bA_11.later B8
      have bB_12 := bB_11.later B8
      have bZ_12 := bZ_11.later B8
      have bY_12 := bY_11.later B8
      have hA_12 := hA_11.later B8
      have hB_12 := hB_11.later B8
      have hz_12 := hz_11.later B8
      have hy_12 := hy_11.later B8
      have hzz_12 := hzz_11.later B8
      have hyy_12 := hyy_11.later B8
      have gd_12 := gd_11.later B8
      have xA0_12 := bA_12.c0
      have xA1_12 := bA_12.c1
      have xlA_12 := bA_12.lt
      have xfA0_12 := bA_12.fz 0
      have xfA1_12 := bA_12.fz 1
      have xB0_12 := bB_12.c0
      have xB1_12 := bB_12.c1
      have xlB_12 := bB_12.lt
      have xfB0_12 := bB_12.fz 0
      have xfB1_12 := bB_12.fz 1
      have xZ0_12 := bZ_12.c0
      have xZ1_12 := bZ_12.c1
      have xlZ_12 := bZ_12.lt
      have xfZ0_12 := bZ_12.fz 0
      have xfZ1_12 := bZ_12.fz 1
      have xY0_12 := bY_12.c0
      have xY1_12 := bY_12.c1
      have xlY_12 := bY_12.lt
      have xfY0_12 := bY_12.fz 0
      have xfY1_12 := bY_12.fz 1
      go_wp2_with fail
      refine (Less_is M N u v va vb fa fb _ hA_12 hB_12 _ _ _ H3.out).mono ?_
      rintro e w9 ⟨z, rfl, hz, B9⟩
      obtain ⟨zla, zln, zlc, rfl⟩ := hz.form3
      clear xA0_12 xA1_12 xlA_12 xfA0_12 xfA1_12 xB0_12 xB1_12 xlB_12 xfB0_12 xfB1_12 xZ0_12 xZ1_12 xlZ_12 xfZ0_12 xfZ1_12 xY0_12 xY1_12 xlY_12 xfY0_12 xfY1_12
      have D13 := D12.trans (B9.mono D12.size)
      have bA_13 := bA_12.later B9
      have bB_13 := bB_12.later B9
      have bZ_13 := bZ_12.later B9
      have bY_13 := bY_12.later B9
      have hA_13 := hA_12.later B9
      have hB_13 := hB_12.later B9
      have hz_13 := hz_12.later B9
      have hy_13 := hy_12.later B9
      have hzz_13 := hzz_12.later B9
      have hyy_13 := hyy_12.later B9
      have gd_13 := gd_12.later B9
      replace hz : WAt w9 (.slice zla zln zlc) w3s := hz
      have hzl_13 := hz
      clear hz
      have xA0_13 := bA_13.c0
      have xA1_13 := bA_13.c1
      have xlA_13 := bA_13.lt
      have xfA0_13 := bA_13.fz 0
      have xfA1_13 := bA_13.fz 1
      have xB0_13 := bB_13.c0
      have xB1_13 := bB_13.c1
      have xlB_13 := bB_13.lt
      have xfB0_13 := bB_13.fz 0
      have xfB1_13 := bB_13.fz 1
      have xZ0_13 := bZ_13.c0
      have xZ1_13 := bZ_13.c1
      have xlZ_13 := bZ_13.lt
      have xfZ0_13 := bZ_13.fz 0
      have xfZ1_13 := bZ_13.fz 1
      have xY0_13 := bY_13.c0
      have xY1_13 := bY_13.c1
      have xlY_13 := bY_13.lt
      have xfY0_13 := bY_13.fz 0
      have xfY1_13 := bY_13.fz 1
      go_wp2_with fail
      clear xA0_13 xA1_13 xlA_13 xfA0_13 xfA1_13 xB0_13 xB1_13 xlB_13 xfB0_13 xfB1_13 xZ0_13 xZ1_13 xlZ_13 xfZ0_13 xfZ1_13 xY0_13 xY1_13 xlY_13 xfY0_13 xfY1_13
      have hA_14 : WAt ((w9.setCell ⟨w3.heap.size, 0, none⟩ (.int .i64 K3)).setCell ⟨w3.heap.size, 1, none⟩ (.slice zla zln zlc)) u va := hA_13.write bZ_13
      have hB_14 : WAt ((w9.setCell ⟨w3.heap.size, 0, none⟩ (.int .i64 K3)).setCell ⟨w3.heap.size, 1, none⟩ (.slice zla zln zlc)) v vb := hB_13.write bZ_13
      have hz_14 : WAt ((w9.setCell ⟨w3.heap.size, 0, none⟩ (.int .i64 K3)).setCell ⟨w3.heap.size, 1, none⟩ (.slice zla zln zlc)) (.slice za zn zc) w1s := hz_13.write bZ_13
      have hy_14 : WAt ((w9.setCell ⟨w3.heap.size, 0, none⟩ (.int .i64 K3)).setCell ⟨w3.heap.size, 1, none⟩ (.slice zla zln zlc)) (.slice ya yn yc) w1s := hy_13.write bZ_13
      have hzz_14 : WAt ((w9.setCell ⟨w3.heap.size, 0, none⟩ (.int .i64 K3)).setCell ⟨w3.heap.size, 1, none⟩ (.slice zla zln zlc)) (.slice zza zzn zzc) w2s := hzz_13.write bZ_13
      have hyy_14 : WAt ((w9.setCell ⟨w3.heap.size, 0, none⟩ (.int .i64 K3)).setCell ⟨w3.heap.size, 1, none⟩ (.slice zla zln zlc)) (.slice yya yyn yyc) w2s := hyy_13.write bZ_13
      have hzl_14 : WAt ((w9.setCell ⟨w3.heap.size, 0, none⟩ (.int .i64 K3)).setCell ⟨w3.heap.size, 1, none⟩ (.slice zla zln zlc)) (.slice zla zln zlc) w3s := hzl_13.write bZ_13
      have bA_14 : BBox ((w9.setCell ⟨w3.heap.size, 0, none⟩ (.int .i64 K3)).setCell ⟨w3.heap.size, 1, none⟩ (.slice zla zln zlc)) w.heap.size M u := (bA_13.setOther (by omega) 0 _).setOther (by omega) 1 _
      have bB_14 : BBox ((w9.setCell ⟨w3.heap.size, 0, none⟩ (.int .i64 K3)).setCell ⟨w3.heap.size, 1, none⟩ (.slice zla zln zlc)) (w.heap.size + 1) N v := (bB_13.setOther (by omega) 0 _).setOther (by omega) 1 _
      have bZ_14 : BBox ((w9.setCell ⟨w3.heap.size, 0, none⟩ (.int .i64 K3)).setCell ⟨w3.heap.size, 1, none⟩ (.slice zla zln zlc)) w3.heap.size K3 (.slice zla zln zlc) := bZ_13.write
      have bY_14 : BBox ((w9.setCell ⟨w3.heap.size, 0, none⟩ (.int .i64 K3)).setCell ⟨w3.heap.size, 1, none⟩ (.slice zla zln zlc)) w4.heap.size K2 (.slice yya yyn yyc) := (bY_13.setOther (by omega) 0 _).setOther (by omega) 1 _
      have D14 : Below w.heap.size w ((w9.setCell ⟨w3.heap.size, 0, none⟩ (.int .i64 K3)).setCell ⟨w3.heap.size, 1, none⟩ (.slice zla zln zlc)) := (D13.setCell (by dsimp only; omega) _).setCell (by dsimp only; omega) _
      have gd_14 : Gd ((w9.setCell ⟨w3.heap.size, 0, none⟩ (.int .i64 K3)).setCell ⟨w3.heap.size, 1, none⟩ (.slice zla zln zlc)) := gd0.later (D14)
      have xA0_14 := bA_14.c0
      have xA1_14 := bA_14.c1
      have xlA_14 := bA_14.lt
      have xfA0_14 := bA_14.fz 0
      have xfA1_14 := bA_14.fz 1
      have xB0_14 := bB_14.c0
      have xB1_14 := bB_14.c1
      have xlB_14 := bB_14.lt
      have xfB0_14 := bB_14.fz 0
      have xfB1_14 := bB_14.fz 1
      have xZ0_14 := bZ_14.c0
      have xZ1_14 := bZ_14.c1
      have xlZ_14 := bZ_14.lt
      have xfZ0_14 := bZ_14.fz 0
      have xfZ1_14 := bZ_14.fz 1
      have xY0_14 := bY_14.c0
      have xY1_14 := bY_14.c1
      have xlY_14 := bY_14.lt
      have xfY0_14 := bY_14.fz 0
      have xfY1_14 := bY_14.fz 1
      refine (RefLess_is M N u v va vb fa fb _ _ _ H3.out _ hA_14 hB_14).mono ?_
      rintro e w10 ⟨z, rfl, hz, B10⟩
      obtain ⟨yla, yln, ylc, rfl⟩ := hz.form3
      clear xA0_14 xA1_14 xlA_14 xfA0_14 xfA1_14 xB0_14 xB1_14 xlB_14 xfB0_14 xfB1_14 xZ0_14 xZ1_14 xlZ_14 xfZ0_14 xfZ1_14 xY0_14 xY1_14 xlY_14 xfY0_14 xfY1_14
      have D15 := D14.trans (B10.mono D14.size)
      have bA_15 := bA_14.later B10
      have bB_15 := bB_14.later B10
      have bZ_15 := bZ_14.later B10
      have bY_15 := bY_14.later B10
      have hA_15 := hA_14.later B10
      have hB_15 := hB_14.later B10
      have hz_15 := hz_14.later B10
      have hy_15 := hy_14.later B10
      have hzz_15 := hzz_14.later B10
      have hyy_15 := hyy_14.later B10
      have hzl_15 := hzl_14.later B10
      have gd_15 := gd_14.later B10
      replace hz : WAt w10 (.slice yla yln ylc) w3s := hz
      have hyl_15 := hz
      clear hz
      have xA0_15 := bA_15.c0
      have xA1_15 := bA_15.c1
      have xlA_15 := bA_15.lt
      have xfA0_15 := bA_15.fz 0
      have xfA1_15 := bA_15.fz 1
      have xB0_15 := bB_15.c0
      have xB1_15 := bB_15.c1
      have xlB_15 := bB_15.lt
      have xfB0_15 := bB_15.fz 0
      have xfB1_15 := bB_15.fz 1
      have xZ0_15 := bZ_15.c0
      have xZ1_15 := bZ_15.c1
      have xlZ_15 := bZ_15.lt
      have xfZ0_15 := bZ_15.fz 0
      have xfZ1_15 := bZ_15.fz 1
      have xY0_15 := bY_15.c0
      have xY1_15 := bY_15.c1
      have xlY_15 := bY_15.lt
      have xfY0_15 := bY_15.fz 0
      have xfY1_15 := bY_15.fz 1
      go_wp2_with fail
      clear xA0_15 xA1_15 xlA_15 xfA0_15 xfA1_15 xB0_15 xB1_15 xlB_15 xfB0_15 xfB1_15 xZ0_15 xZ1_15 xlZ_15 xfZ0_15 xfZ1_15 xY0_15 xY1_15 xlY_15 xfY0_15 xfY1_15
      have hA_16 : WAt ((w10.setCell ⟨w4.heap.size, 0, none⟩ (.int .i64 K3)).setCell ⟨w4.heap.size, 1, none⟩ (.slice yla yln ylc)) u va := hA_15.write bY_15
      have hB_16 : WAt ((w10.setCell ⟨w4.heap.size, 0, none⟩ (.int .i64 K3)).setCell ⟨w4.heap.size, 1, none⟩ (.slice yla yln ylc)) v vb := hB_15.write bY_15
      have hz_16 : WAt ((w10.setCell ⟨w4.heap.size, 0, none⟩ (.int .i64 K3)).setCell ⟨w4.heap.size, 1, none⟩ (.slice yla yln ylc)) (.slice za zn zc) w1s := hz_15.write bY_15
      have hy_16 : WAt ((w10.setCell ⟨w4.heap.size, 0, none⟩ (.int .i64 K3)).setCell ⟨w4.heap.size, 1, none⟩ (.slice yla yln ylc)) (.slice ya yn yc) w1s := hy_15.write bY_15
      have hzz_16 : WAt ((w10.setCell ⟨w4.heap.size, 0, none⟩ (.int .i64 K3)).setCell ⟨w4.heap.size, 1, none⟩ (.slice yla yln ylc)) (.slice zza zzn zzc) w2s := hzz_15.write bY_15
      have hyy_16 : WAt ((w10.setCell ⟨w4.heap.size, 0, none⟩ (.int .i64 K3)).setCell ⟨w4.heap.size, 1, none⟩ (.slice yla yln ylc)) (.slice yya yyn yyc) w2s := hyy_15.write bY_15
      have hzl_16 : WAt ((w10.setCell ⟨w4.heap.size, 0, none⟩ (.int .i64 K3)).setCell ⟨w4.heap.size, 1, none⟩ (.slice yla yln ylc)) (.slice zla zln zlc) w3s := hzl_15.write bY_15
      have hyl_16 : WAt ((w10.setCell ⟨w4.heap.size, 0, none⟩ (.int .i64 K3)).setCell ⟨w4.heap.size, 1, none⟩ (.slice yla yln ylc)) (.slice yla yln ylc) w3s := hyl_15.write bY_15
      have bA_16 : BBox ((w10.setCell ⟨w4.heap.size, 0, none⟩ (.int .i64 K3)).setCell ⟨w4.heap.size, 1, none⟩ (.slice yla yln ylc)) w.heap.size M u := (bA_15.setOther (by omega) 0 _).setOther (by omega) 1 _
      have bB_16 : BBox ((w10.setCell ⟨w4.heap.size, 0, none⟩ (.int .i64 K3)).setCell ⟨w4.heap.size, 1, none⟩ (.slice yla yln ylc)) (w.heap.size + 1) N v := (bB_15.setOther (by omega) 0 _).setOther (by omega) 1 _
      have bZ_16 : BBox ((w10.setCell ⟨w4.heap.size, 0, none⟩ (.int .i64 K3)).setCell ⟨w4.heap.size, 1, none⟩ (.slice yla yln ylc)) w3.heap.size K3 (.slice zla zln zlc) := (bZ_15.setOther (by omega) 0 _).setOther (by omega) 1 _
      have bY_16 : BBox ((w10.setCell ⟨w4.heap.size, 0, none⟩ (.int .i64 K3)).setCell ⟨w4.heap.size, 1, none⟩ (.slice yla yln ylc)) w4.heap.size K3 (.slice yla yln ylc) := bY_15.write
      have D16 : Below w.heap.size w ((w10.setCell ⟨w4.heap.size, 0, none⟩ (.int .i64 K3)).setCell ⟨w4.heap.size, 1, none⟩ (.slice yla yln ylc)) := (D15.setCell (by dsimp only; omega) _).setCell (by dsimp only; omega) _
      have gd_16 : Gd ((w10.setCell ⟨w4.heap.size, 0, none⟩ (.int .i64 K3)).setCell ⟨w4.heap.size, 1, none⟩ (.slice yla yln ylc)) := gd0.later (D16)
      have xA0_16 := bA_16.c0
      have xA1_16 := bA_16.c1
      have xlA_16 := bA_16.lt
      have xfA0_16 := bA_16.fz 0
      have xfA1_16 := bA_16.fz 1
      have xB0_16 := bB_16.c0
      have xB1_16 := bB_16.c1
      have xlB_16 := bB_16.lt
      have xfB0_16 := bB_16.fz 0
      have xfB1_16 := bB_16.fz 1
      have xZ0_16 := bZ_16.c0
      have xZ1_16 := bZ_16.c1
      have xlZ_16 := bZ_16.lt
      have xfZ0_16 := bZ_16.fz 0
      have xfZ1_16 := bZ_16.fz 1
      have xY0_16 := bY_16.c0
      have xY1_16 := bY_16.c1
      have xlY_16 := bY_16.lt
      have xfY0_16 := bY_16.fz 0
      have xfY1_16 := bY_16.fz 1
      refine (Flip_is M u va fa _ _ _ H4.out _ hA_16).mono ?_
      rintro e w11 ⟨z, rfl, hz, B11⟩
      obtain ⟨zfa, zfn, zfc, rfl⟩ := hz.form3
      clear xA0_16 xA1_16 xlA_16 xfA0_16 xfA1_16 xB0_16 xB1_16 xlB_16 xfB0_16 xfB1_16 xZ0_16 xZ1_16 xlZ_16 xfZ0_16 xfZ1_16 xY0_16 xY1_16 xlY_16 xfY0_16 xfY1_16
      have D17 := D16.trans (B11.mono D16.size)
      have bA_17 := bA_16.later B11
      have bB_17 := bB_16.later B11
      have bZ_17 := bZ_16.later B11
      have bY_17 := bY_16.later B11
      have hA_17 := hA_16.later B11
      have hB_17 := hB_16.later B11
      have hz_17 := hz_16.later B11
      have hy_17 := hy_16.later B11
      have hzz_17 := hzz_16.later B11
      have hyy_17 := hyy_16.later B11
      have hzl_17 := hzl_16.later B11
      have hyl_17 := hyl_16.later B11
      have gd_17 := gd_16.later B11
      replace hz : WAt w11 (.slice zfa zfn zfc) w4s := hz
      have hzf_17 := hz
      clear hz
      have xA0_17 := bA_17.c0
      have xA1_17 := bA_17.c1
      have xlA_17 := bA_17.lt
      have xfA0_17 := bA_17.fz 0
      have xfA1_17 := bA_17.fz 1
      have xB0_17 := bB_17.c0
      have xB1_17 := bB_17.c1
      have xlB_17 := bB_17.lt
      have xfB0_17 := bB_17.fz 0
      have xfB1_17 := bB_17.fz 1
      have xZ0_17 := bZ_17.c0
      have xZ1_17 := bZ_17.c1
      have xlZ_17 := bZ_17.lt
      have xfZ0_17 := bZ_17.fz 0
      have xfZ1_17 := bZ_17.fz 1
      have xY0_17 := bY_17.c0
      have xY1_17 := bY_17.c1
      have xlY_17 := bY_17.lt
      have xfY0_17 := bY_17.fz 0
      have xfY1_17 := bY_17.fz 1
      go_wp2_with fail
      have oAU := bA_17.lt
      have oBU := bB_17.lt
      have oZU := bZ_17.lt
      have oYU := bY_17.lt
      have oDU := D17.size
      clear xA0_17 xA1_17 xlA_17 xfA0_17 xfA1_17 xB0_17 xB1_17 xlB_17 xfB0_17 xfB1_17 xZ0_17 xZ1_17 xlZ_17 xfZ0_17 xfZ1_17 xY0_17 xY1_17 xlY_17 xfY0_17 xfY1_17
      have A17 := (Below.refl w11.heap.size w11).alloc (Nat.le_refl _) (.cells #[.int .i64 K4, (.slice zfa zfn zfc)] 24)
      have D18 := D17.trans (A17.mono D17.size)
      have bA_18 := bA_17.later A17
      have bB_18 := bB_17.later A17
      have bZ_18 := bZ_17.later A17
      have bY_18 := bY_17.later A17
      have hA_18 := hA_17.later A17
      have hB_18 := hB_17.later A17
      have hz_18 := hz_17.later A17
      have hy_18 := hy_17.later A17
      have hzz_18 := hzz_17.later A17
      have hyy_18 := hyy_17.later A17
      have hzl_18 := hzl_17.later A17
      have hyl_18 := hyl_17.later A17
      have hzf_18 := hzf_17.later A17
      have gd_18 := gd_17.later A17
      have bU_18 := BBox.new w11 K4 (.slice zfa zfn zfc)
      have xA0_18 := bA_18.c0
      have xA1_18 := bA_18.c1
      have xlA_18 := bA_18.lt
      have xfA0_18 := bA_18.fz 0
      have xfA1_18 := bA_18.fz 1
      have xB0_18 := bB_18.c0
      have xB1_18 := bB_18.c1
      have xlB_18 := bB_18.lt
      have xfB0_18 := bB_18.fz 0
      have xfB1_18 := bB_18.fz 1
      have xZ0_18 := bZ_18.c0
      have xZ1_18 := bZ_18.c1
      have xlZ_18 := bZ_18.lt
      have xfZ0_18 := bZ_18.fz 0
      have xfZ1_18 := bZ_18.fz 1
      have xY0_18 := bY_18.c0
      have xY1_18 := bY_18.c1
      have xlY_18 := bY_18.lt
      have xfY0_18 := bY_18.fz 0
      have xfY1_18 := bY_18.fz 1
      have xU0_18 := bU_18.c0
      have xU1_18 := bU_18.c1
      have xlU_18 := bU_18.lt
      have xfU0_18 := bU_18.fz 0
      have xfU1_18 := bU_18.fz 1
      refine (RefFlip_is M u va fa _ _ _ H4.out _ hA_18).mono ?_
      rintro e w12 ⟨z, rfl, hz, B12⟩
      obtain ⟨yfa, yfn, yfc, rfl⟩ := hz.form3
      clear xA0_18 xA1_18 xlA_18 xfA0_18 xfA1_18 xB0_18 xB1_18 xlB_18 xfB0_18 xfB1_18 xZ0_18 xZ1_18 xlZ_18 xfZ0_18 xfZ1_18 xY0_18 xY1_18 xlY_18 xfY0_18 xfY1_18 xU0_18 xU1_18 xlU_18 xfU0_18 xfU1_18
      have D19 := D18.trans (B12.mono D18.size)
      have bA_19 := bA_18.later B12
      have bB_19 := bB_18.later B12
      have bZ_19 := bZ_18.later B12
      have bY_19 := bY_18.later B12
      have bU_19 := bU_18.later B12
      have hA_19 := hA_18.later B12
      have hB_19 := hB_18.later B12
      have hz_19 := hz_18.later B12
      have hy_19 := hy_18.later B12
      have hzz_19 := hzz_18.later B12
      have hyy_19 := hyy_18.later B12
      have hzl_19 := hzl_18.later B12
      have hyl_19 := hyl_18.later B12
      have hzf_19 := hzf_18.later B12
      have gd_19 := gd_18.later B12
      replace hz : WAt w12 (.slice yfa yfn yfc) w4s := hz
      have hyf_19 := hz
      clear hz
      have xA0_19 := bA_19.c0
      have xA1_19 := bA_19.c1
      have xlA_19 := bA_19.lt
      have xfA0_19 := bA_19.fz 0
      have xfA1_19 := bA_19.fz 1
      have xB0_19 := bB_19.c0
      have xB1_19 := bB_19.c1
      have xlB_19 := bB_19.lt
      have xfB0_19 := bB_19.fz 0
      have xfB1_19 := bB_19.fz 1
      have xZ0_19 := bZ_19.c0
      have xZ1_19 := bZ_19.c1
      have xlZ_19 := bZ_19.lt
      have xfZ0_19 := bZ_19.fz 0
      have xfZ1_19 := bZ_19.fz 1
      have xY0_19 := bY_19.c0
      have xY1_19 := bY_19.c1
      have xlY_19 := bY_19.lt
      have xfY0_19 := bY_19.fz 0
      have xfY1_19 := bY_19.fz 1
      have xU0_19 := bU_19.c0
      have xU1_19 := bU_19.c1
      have xlU_19 := bU_19.lt
      have xfU0_19 := bU_19.fz 0
      have xfU1_19 := bU_19.fz 1
      go_wp2_with fail
      have oAV := bA_19.lt
      have oBV := bB_19.lt
      have oZV := bZ_19.lt
      have oYV := bY_19.lt
      have oUV := bU_19.lt
      have oDV := D19.size
      clear xA0_19 xA1_19 xlA_19 xfA0_19 xfA1_19 xB0_19 xB1_19 xlB_19 xfB0_19 xfB1_19 xZ0_19 xZ1_19 xlZ_19 xfZ0_19 xfZ1_19 xY0_19 xY1_19 xlY_19 xfY0_19 xfY1_19 xU0_19 xU1_19 xlU_19 xfU0_19 xfU1_19
      have A19 := (Below.refl w12.heap.size w12).alloc (Nat.le_refl _) (.cells #[.int .i64 K4, (.slice yfa yfn yfc)] 24)
      have D20 := D19.trans (A19.mono D19.size)
      have bA_20 := bA_19.later A19
      have bB_20 := bB_19.later A19
      have bZ_20 := bZ_19.later A19
      have bY_20 := bY_19.later A19
      have bU_20 := bU_19.later A19
      have hA_20 := hA_19.later A19
      have hB_20 := hB_19.later A19
      have hz_20 := hz_19.later A19
      have hy_20 := hy_19.later A19
      have hzz_20 := hzz_19.later A19
      have hyy_20 := hyy_19.later A19
      have hzl_20 := hzl_19.later A19
      have hyl_20 := hyl_19.later A19
      have hzf_20 := hzf_19.later A19
      have hyf_20 := hyf_19.later A19
      have gd_20 := gd_19.later A19
      have bV_20 := BBox.new w12 K4 (.slice yfa yfn yfc)
      have xA0_20 := bA_20.c0
      have xA1_20 := bA_20.c1
      have xlA_20 := bA_20.lt
      have xfA0_20 := bA_20.fz 0
      have xfA1_20 := bA_20.fz 1
      have xB0_20 := bB_20.c0
      have xB1_20 := bB_20.c1
      have xlB_20 := bB_20.lt
      have xfB0_20 := bB_20.fz 0
      have xfB1_20 := bB_20.fz 1
      have xZ0_20 := bZ_20.c0
      have xZ1_20 := bZ_20.c1
      have xlZ_20 := bZ_20.lt
      have xfZ0_20 := bZ_20.fz 0
      have xfZ1_20 := bZ_20.fz 1
      have xY0_20 := bY_20.c0
      have xY1_20 := bY_20.c1
      have xlY_20 := bY_20.lt
      have xfY0_20 := bY_20.fz 0
      have xfY1_20 := bY_20.fz 1
      have xU0_20 := bU_20.c0
      have xU1_20 := bU_20.c1
      have xlU_20 := bU_20.lt
      have xfU0_20 := bU_20.fz 0
      have xfU1_20 := bU_20.fz 1
      have xV0_20 := bV_20.c0
      have xV1_20 := bV_20.c1
      have xlV_20 := bV_20.lt
      have xfV0_20 := bV_20.fz 0
      have xfV1_20 := bV_20.fz 1
      refine (Same_eq K3 _ _ w3s L3 _ hzl_20 hyl_20).mono ?_
      rintro e w13 ⟨rfl, B13⟩
      clear xA0_20 xA1_20 xlA_20 xfA0_20 xfA1_20 xB0_20 xB1_20 xlB_20 xfB0_20 xfB1_20 xZ0_20 xZ1_20 xlZ_20 xfZ0_20 xfZ1_20 xY0_20 xY1_20 xlY_20 xfY0_20 xfY1_20 xU0_20 xU1_20 xlU_20 xfU0_20 xfU1_20 xV0_20 xV1_20 xlV_20 xfV0_20 xfV1_20
      have D21 := D20.trans (B13.mono D20.size)
      have bA_21 := bA_20.later B13
      have bB_21 := bB_20.later B13
      have bZ_21 := bZ_20.later B13
      have bY_21 := bY_20.later B13
      have bU_21 := bU_20.later B13
      have bV_21 := bV_20.later B13
      have hA_21 := hA_20.later B13
      have hB_21 := hB_20.later B13
      have hz_21 := hz_20.later B13
      have hy_21 := hy_20.later B13
      have hzz_21 := hzz_20.later B13
      have hyy_21 := hyy_20.later B13
      have hzl_21 := hzl_20.later B13
      have hyl_21 := hyl_20.later B13
      have hzf_21 := hzf_20.later B13
      have hyf_21 := hyf_20.later B13
      have gd_21 := gd_20.later B13
      have xA0_21 := bA_21.c0
      have xA1_21 := bA_21.c1
      have xlA_21 := bA_21.lt
      have xfA0_21 := bA_21.fz 0
      have xfA1_21 := bA_21.fz 1
      have xB0_21 := bB_21.c0
      have xB1_21 := bB_21.c1
      have xlB_21 := bB_21.lt
      have xfB0_21 := bB_21.fz 0
      have xfB1_21 := bB_21.fz 1
      have xZ0_21 := bZ_21.c0
      have xZ1_21 := bZ_21.c1
      have xlZ_21 := bZ_21.lt
      have xfZ0_21 := bZ_21.fz 0
      have xfZ1_21 := bZ_21.fz 1
      have xY0_21 := bY_21.c0
      have xY1_21 := bY_21.c1
      have xlY_21 := bY_21.lt
      have xfY0_21 := bY_21.fz 0
      have xfY1_21 := bY_21.fz 1
      have xU0_21 := bU_21.c0
      have xU1_21 := bU_21.c1
      have xlU_21 := bU_21.lt
      have xfU0_21 := bU_21.fz 0
      have xfU1_21 := bU_21.fz 1
      have xV0_21 := bV_21.c0
      have xV1_21 := bV_21.c1
      have xlV_21 := bV_21.lt
      have xfV0_21 := bV_21.fz 0
      have xfV1_21 := bV_21.fz 1
      go_wp2_with fail
      refine (Same_eq K4 _ _ w4s L4 _ hzf_21 hyf_21).mono ?_
      rintro e w14 ⟨rfl, B14⟩
      clear xA0_21 xA1_21 xlA_21 xfA0_21 xfA1_21 xB0_21 xB1_21 xlB_21 xfB0_21 xfB1_21 xZ0_21 xZ1_21 xlZ_21 xfZ0_21 xfZ1_21 xY0_21 xY1_21 xlY_21 xfY0_21 xfY1_21 xU0_21 xU1_21 xlU_21 xfU0_21 xfU1_21 xV0_21 xV1_21 xlV_21 xfV0_21 xfV1_21
      have D22 := D21.trans (B14.mono D21.size)
      have bA_22 := bA_21.later B14
      have bB_22 := bB_21.later B14
      have bZ_22 := bZ_21.later B14
      have bY_22 := bY_21.later B14
      have bU_22 := bU_21.later B14
      have bV_22 := bV_21.later B14
      have hA_22 := hA_21.later B14
      have hB_22 := hB_21.later B14
      have hz_22 := hz_21.later B14
      have hy_22 := hy_21.later B14
      have hzz_22 := hzz_21.later B14
      have hyy_22 := hyy_21.later B14
      have hzl_22 := hzl_21.later B14
      have hyl_22 := hyl_21.later B14
      have hzf_22 := hzf_21.later B14
      have hyf_22 := hyf_21.later B14
      have gd_22 := gd_21.later B14
      have xA0_22 := bA_22.c0
      have xA1_22 := bA_22.c1
      have xlA_22 := bA_22.lt
      have xfA0_22 := bA_22.fz 0
      have xfA1_22 := bA_22.fz 1
      have xB0_22 := bB_22.c0
      have xB1_22 := bB_22.c1
      have xlB_22 := bB_22.lt
      have xfB0_22 := bB_22.fz 0
      have xfB1_22 := bB_22.fz 1
      have xZ0_22 := bZ_22.c0
      have xZ1_22 := bZ_22.c1
      have xlZ_22 := bZ_22.lt
      have xfZ0_22 := bZ_22.fz 0
      have xfZ1_22 := bZ_22.fz 1
      have xY0_22 := bY_22.c0
      have xY1_22 := bY_22.c1
      have xlY_22 := bY_22.lt
      have xfY0_22 := bY_22.fz 0
      have xfY1_22 := bY_22.fz 1
      have xU0_22 := bU_22.c0
      have xU1_22 := bU_22.c1
      have xlU_22 := bU_22.lt
      have xfU0_22 := bU_22.fz 0
      have xfU1_22 := bU_22.fz 1
      have xV0_22 := bV_22.c0
      have xV1_22 := bV_22.c1
      have xlV_22 := bV_22.lt
      have xfV0_22 := bV_22.fz 0
      have xfV1_22 := bV_22.fz 1
      go_wp2_with fail
      refine (awake_any _ gd_22).mono ?_
      rintro e w15 ⟨rfl, B15⟩
      clear xA0_22 xA1_22 xlA_22 xfA0_22 xfA1_22 xB0_22 xB1_22 xlB_22 xfB0_22 xfB1_22 xZ0_22 xZ1_22 xlZ_22 xfZ0_22 xfZ1_22 xY0_22 xY1_22 xlY_22 xfY0_22 xfY1_22 xU0_22 xU1_22 xlU_22 xfU0_22 xfU1_22 xV0_22 xV1_22 xlV_22 xfV0_22 xfV1_22
      have D23 := D22.trans (B15.mono D22.size)
      have bA_23 := bA_22.later B15
      have bB_23 := bB_22.later B15
      have bZ_23 := bZ_22.later B15
      have bY_23 := bY_22.later B15
      have bU_23 := bU_22.later B15
      have bV_23 := bV_22.later B15
      have hA_23 := hA_22.later B15
      have hB_23 := hB_22.later B15
      have hz_23 := hz_22.later B15
      have hy_23 := hy_22.later B15
      have hzz_23 := hzz_22.later B15
      have hyy_23 := hyy_22.later B15
      have hzl_23 := hzl_22.later B15
      have hyl_23 := hyl_22.later B15
      have hzf_23 := hzf_22.later B15
      have hyf_23 := hyf_22.later B15
      have gd_23 := gd_22.later B15
      have xA0_23 := bA_23.c0
      have xA1_23 := bA_23.c1
      have xlA_23 := bA_23.lt
      have xfA0_23 := bA_23.fz 0
      have xfA1_23 := bA_23.fz 1
      have xB0_23 := bB_23.c0
      have xB1_23 := bB_23.c1
      have xlB_23 := bB_23.lt
      have xfB0_23 := bB_23.fz 0
      have xfB1_23 := bB_23.fz 1
      have xZ0_23 := bZ_23.c0
      have xZ1_23 := bZ_23.c1
      have xlZ_23 := bZ_23.lt
      have xfZ0_23 := bZ_23.fz 0
      have xfZ1_23 := bZ_23.fz 1
      have xY0_23 := bY_23.c0
      have xY1_23 := bY_23.c1
      have xlY_23 := bY_23.lt
      have xfY0_23 := bY_23.fz 0
      have xfY1_23 := bY_23.fz 1
      have xU0_23 := bU_23.c0
      have xU1_23 := bU_23.c1
      have xlU_23 := bU_23.lt
      have xfU0_23 := bU_23.fz 0
      have xfU1_23 := bU_23.fz 1
      have xV0_23 := bV_23.c0
      have xV1_23 := bV_23.c1
      have xlV_23 := bV_23.lt
      have xfV0_23 := bV_23.fz 0
      have xfV1_23 := bV_23.fz 1
      go_wp2
      go_ret
      exact ⟨rfl, D23⟩
end Go.Proofs.YtpplleojdcgceaaDoor
