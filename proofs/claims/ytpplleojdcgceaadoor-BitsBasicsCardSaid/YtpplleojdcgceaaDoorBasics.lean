/- The law on the basics. -/
import Derived.Test.YtpplleojdcgceaaDoorLens
import Derived.Deep.RegionHeld3
namespace Go.Proofs.YtpplleojdcgceaaDoor
open Go.RowKit Go.Shelf
attribute [local go_sem] Oper.semAt_some

set_option maxRecDepth 100000 in
set_option maxHeartbeats 4000000 in
theorem law_basics (N : Int) (v : Value) (ws : List Nat) (hf : Fit64 ws) (a t : Int) (on : Bool) (i : Int) (w : World) (gd0 : Gd w) (h : WAt w v ws) :
    Calls Tryd.prog 3 #[bv N v, pv a t on, .int .i64 i] w fun e w' => e = .returned (.bool true) ∧ Below w.heap.size w w' := by
  obtain ⟨wA, hwA, hAB, bA, pA⟩ := two_boxes w N v a t on
  have hA := h.later hAB
  have hgA := gd0.later hAB
  have HW := Lib.hid hwA
  clear hwA
  cases hfar : decide (100 < ws.length) with
  | true =>
    have HF := Lib.hid hfar
    clear hfar
    go_enter Tryd.func3, Tryd.ntmps3
    go_wp2_with fail
    rw [HW.out]
    refine (far_is N v ws _ hA true HF.out).mono ?_
    rintro e w1 ⟨rfl, hB1⟩
    go_wp2_with fail
    refine (awake_any _ (hgA.later hB1)).mono ?_
    rintro e w2 ⟨rfl, hB2⟩
    go_wp2
    go_ret
    exact ⟨rfl, hAB.trans ((hB1.trans (hB2.mono hB1.size)).mono hAB.size)⟩
  | false =>
    have HF := Lib.hid hfar
    clear hfar
    obtain ⟨K1, w1s, c1, hn1⟩ : ∃ K ws c, newB a on = (K, ws, c) := ⟨_, _, _, rfl⟩
    obtain ⟨x1, y1, hg1⟩ : ∃ x y, getB N ws i = (x, y) := ⟨_, _, rfl⟩
    obtain ⟨cc, hck⟩ : ∃ c, checkB N ws = c := ⟨_, rfl⟩
    obtain ⟨K2, w2s, c2, hs1⟩ : ∃ K ws' c, setB N ws a t on = (K, ws', c) := ⟨_, _, _, rfl⟩
    obtain ⟨m1, m2, hc1⟩ : ∃ x y, countB N ws a t = (x, y) := ⟨_, _, rfl⟩
    have L1 : w1s.length ≤ 1000000 := newB_len hn1
    have L2 : w2s.length ≤ 1000000 := setB_len hs1
    have HN1 := Lib.hid hn1
    have HG1 := Lib.hid hg1
    have HCK := Lib.hid hck
    have HS1 := Lib.hid hs1
    have HC1 := Lib.hid hc1
    clear hn1 hg1 hck hs1 hc1
    go_enter Tryd.func3, Tryd.ntmps3
    go_wp2_with fail
    rw [HW.out]
    have xA0_0 := bA.c0
    have xA1_0 := bA.c1
    have xlA_0 := bA.lt
    have xfA0_0 := bA.fz 0
    have xfA1_0 := bA.fz 1
    obtain ⟨pa_0, pb_0, pc_0⟩ := part_cells pA (Below.refl _ _)
    have pl_0 := (Array.getElem?_eq_some_iff.1 pA).1
    refine (far_is N v ws _ hA false HF.out).mono ?_
    rintro e w1 ⟨rfl, B1⟩
    clear xA0_0 xA1_0 xlA_0 xfA0_0 xfA1_0 pa_0 pb_0 pc_0 pl_0
    have D1 := hAB.trans (B1.mono hAB.size)
    have bA_1 := bA.later B1
    have hA_1 := hA.later B1
    have p_1 := (B1.block _ (Array.getElem?_eq_some_iff.1 pA).1).trans pA
    have gd_1 := hgA.later B1
    have xA0_1 := bA_1.c0
    have xA1_1 := bA_1.c1
    have xlA_1 := bA_1.lt
    have xfA0_1 := bA_1.fz 0
    have xfA1_1 := bA_1.fz 1
    obtain ⟨pa_1, pb_1, pc_1⟩ := part_cells p_1 (Below.refl _ _)
    have pl_1 := (Array.getElem?_eq_some_iff.1 p_1).1
    go_wp2_with fail
    refine (New_is a on _ _ _ HN1.out _).mono ?_
    rintro e w2 ⟨z, rfl, hz, B2⟩
    obtain ⟨za, zn, zc, rfl⟩ := hz.form3
    clear xA0_1 xA1_1 xlA_1 xfA0_1 xfA1_1 pa_1 pb_1 pc_1 pl_1
    have D2 := D1.trans (B2.mono D1.size)
    have bA_2 := bA_1.later B2
    have hA_2 := hA_1.later B2
    have p_2 := (B2.block _ (Array.getElem?_eq_some_iff.1 p_1).1).trans p_1
    have gd_2 := gd_1.later B2
    replace hz : WAt w2 (.slice za zn zc) w1s := hz
    have hz_2 := hz
    clear hz
    have xA0_2 := bA_2.c0
    have xA1_2 := bA_2.c1
    have xlA_2 := bA_2.lt
    have xfA0_2 := bA_2.fz 0
    have xfA1_2 := bA_2.fz 1
    obtain ⟨pa_2, pb_2, pc_2⟩ := part_cells p_2 (Below.refl _ _)
    have pl_2 := (Array.getElem?_eq_some_iff.1 p_2).1
    go_wp2_with fail
    have oAZ := bA_2.lt
    have oPZ := (Array.getElem?_eq_some_iff.1 p_2).1
    have oDZ := D2.size
    clear xA0_2 xA1_2 xlA_2 xfA0_2 xfA1_2 pa_2 pb_2 pc_2 pl_2
    have A2 := (Below.refl w2.heap.size w2).alloc (Nat.le_refl _) (.cells #[.int .i64 K1, (.slice za zn zc)] 24)
    have D3 := D2.trans (A2.mono D2.size)
    have bA_3 := bA_2.later A2
    have hA_3 := hA_2.later A2
    have hz_3 := hz_2.later A2
    have p_3 := (A2.block _ (Array.getElem?_eq_some_iff.1 p_2).1).trans p_2
    have gd_3 := gd_2.later A2
    have bZ_3 := BBox.new w2 K1 (.slice za zn zc)
    have xA0_3 := bA_3.c0
    have xA1_3 := bA_3.c1
    have xlA_3 := bA_3.lt
    have xfA0_3 := bA_3.fz 0
    have xfA1_3 := bA_3.fz 1
    have xZ0_3 := bZ_3.c0
    have xZ1_3 := bZ_3.c1
    have xlZ_3 := bZ_3.lt
    have xfZ0_3 := bZ_3.fz 0
    have xfZ1_3 := bZ_3.fz 1
    obtain ⟨pa_3, pb_3, pc_3⟩ := part_cells p_3 (Below.refl _ _)
    have pl_3 := (Array.getElem?_eq_some_iff.1 p_3).1
    refine (RefNew_is a on _ _ _ HN1.out _).mono ?_
    rintro e w3 ⟨z, rfl, hz, B3⟩
    obtain ⟨ya, yn, yc, rfl⟩ := hz.form3
    clear xA0_3 xA1_3 xlA_3 xfA0_3 xfA1_3 xZ0_3 xZ1_3 xlZ_3 xfZ0_3 xfZ1_3 pa_3 pb_3 pc_3 pl_3
    have D4 := D3.trans (B3.mono D3.size)
    have bA_4 := bA_3.later B3
    have bZ_4 := bZ_3.later B3
    have hA_4 := hA_3.later B3
    have hz_4 := hz_3.later B3
    have p_4 := (B3.block _ (Array.getElem?_eq_some_iff.1 p_3).1).trans p_3
    have gd_4 := gd_3.later B3
    replace hz : WAt w3 (.slice ya yn yc) w1s := hz
    have hy_4 := hz
    clear hz
    have xA0_4 := bA_4.c0
    have xA1_4 := bA_4.c1
    have xlA_4 := bA_4.lt
    have xfA0_4 := bA_4.fz 0
    have xfA1_4 := bA_4.fz 1
    have xZ0_4 := bZ_4.c0
    have xZ1_4 := bZ_4.c1
    have xlZ_4 := bZ_4.lt
    have xfZ0_4 := bZ_4.fz 0
    have xfZ1_4 := bZ_4.fz 1
    obtain ⟨pa_4, pb_4, pc_4⟩ := part_cells p_4 (Below.refl _ _)
    have pl_4 := (Array.getElem?_eq_some_iff.1 p_4).1
    go_wp2_with fail
    have oAY := bA_4.lt
    have oZY := bZ_4.lt
    have oPY := (Array.getElem?_eq_some_iff.1 p_4).1
    have oDY := D4.size
    clear xA0_4 xA1_4 xlA_4 xfA0_4 xfA1_4 xZ0_4 xZ1_4 xlZ_4 xfZ0_4 xfZ1_4 pa_4 pb_4 pc_4 pl_4
    have A4 := (Below.refl w3.heap.size w3).alloc (Nat.le_refl _) (.cells #[.int .i64 K1, (.slice ya yn yc)] 24)
    have D5 := D4.trans (A4.mono D4.size)
    have bA_5 := bA_4.later A4
    have bZ_5 := bZ_4.later A4
    have hA_5 := hA_4.later A4
    have hz_5 := hz_4.later A4
    have hy_5 := hy_4.later A4
    have p_5 := (A4.block _ (Array.getElem?_eq_some_iff.1 p_4).1).trans p_4
    have gd_5 := gd_4.later A4
    have bY_5 := BBox.new w3 K1 (.slice ya yn yc)
    have xA0_5 := bA_5.c0
    have xA1_5 := bA_5.c1
    have xlA_5 := bA_5.lt
    have xfA0_5 := bA_5.fz 0
    have xfA1_5 := bA_5.fz 1
    have xZ0_5 := bZ_5.c0
    have xZ1_5 := bZ_5.c1
    have xlZ_5 := bZ_5.lt
    have xfZ0_5 := bZ_5.fz 0
    have xfZ1_5 := bZ_5.fz 1
    have xY0_5 := bY_5.c0
    have xY1_5 := bY_5.c1
    have xlY_5 := bY_5.lt
    have xfY0_5 := bY_5.fz 0
    have xfY1_5 := bY_5.fz 1
    obtain ⟨pa_5, pb_5, pc_5⟩ := part_cells p_5 (Below.refl _ _)
    have pl_5 := (Array.getElem?_eq_some_iff.1 p_5).1
    refine (Get_is N v ws hf _ hA_5 i x1 y1 HG1.out).mono ?_
    rintro e w4 ⟨rfl, B4⟩
    clear xA0_5 xA1_5 xlA_5 xfA0_5 xfA1_5 xZ0_5 xZ1_5 xlZ_5 xfZ0_5 xfZ1_5 xY0_5 xY1_5 xlY_5 xfY0_5 xfY1_5 pa_5 pb_5 pc_5 pl_5
    have D6 := D5.trans (B4.mono D5.size)
    have bA_6 := bA_5.later B4
    have bZ_6 := bZ_5.later B4
    have bY_6 := bY_5.later B4
    have hA_6 := hA_5.later B4
    have hz_6 := hz_5.later B4
    have hy_6 := hy_5.later B4
    have p_6 := (B4.block _ (Array.getElem?_eq_some_iff.1 p_5).1).trans p_5
    have gd_6 := gd_5.later B4
    have xA0_6 := bA_6.c0
    have xA1_6 := bA_6.c1
    have xlA_6 := bA_6.lt
    have xfA0_6 := bA_6.fz 0
    have xfA1_6 := bA_6.fz 1
    have xZ0_6 := bZ_6.c0
    have xZ1_6 := bZ_6.c1
    have xlZ_6 := bZ_6.lt
    have xfZ0_6 := bZ_6.fz 0
    have xfZ1_6 := bZ_6.fz 1
    have xY0_6 := bY_6.c0
    have xY1_6 := bY_6.c1
    have xlY_6 := bY_6.lt
    have xfY0_6 := bY_6.fz 0
    have xfY1_6 := bY_6.fz 1
    obtain ⟨pa_6, pb_6, pc_6⟩ := part_cells p_6 (Below.refl _ _)
    have pl_6 := (Array.getElem?_eq_some_iff.1 p_6).1
    go_wp2_with fail
    refine (RefGet_is N i v ws hf x1 y1 HG1.out _ hA_6).mono ?_
    rintro e w5 ⟨rfl, B5⟩
    clear xA0_6 xA1_6 xlA_6 xfA0_6 xfA1_6 xZ0_6 xZ1_6 xlZ_6 xfZ0_6 xfZ1_6 xY0_6 xY1_6 xlY_6 xfY0_6 xfY1_6 pa_6 pb_6 pc_6 pl_6
    have D7 := D6.trans (B5.mono D6.size)
    have bA_7 := bA_6.later B5
    have bZ_7 := bZ_6.later B5
    have bY_7 := bY_6.later B5
    have hA_7 := hA_6.later B5
    have hz_7 := hz_6.later B5
    have hy_7 := hy_6.later B5
    have p_7 := (B5.block _ (Array.getElem?_eq_some_iff.1 p_6).1).trans p_6
    have gd_7 := gd_6.later B5
    have xA0_7 := bA_7.c0
    have xA1_7 := bA_7.c1
    have xlA_7 := bA_7.lt
    have xfA0_7 := bA_7.fz 0
    have xfA1_7 := bA_7.fz 1
    have xZ0_7 := bZ_7.c0
    have xZ1_7 := bZ_7.c1
    have xlZ_7 := bZ_7.lt
    have xfZ0_7 := bZ_7.fz 0
    have xfZ1_7 := bZ_7.fz 1
    have xY0_7 := bY_7.c0
    have xY1_7 := bY_7.c1
    have xlY_7 := bY_7.lt
    have xfY0_7 := bY_7.fz 0
    have xfY1_7 := bY_7.fz 1
    obtain ⟨pa_7, pb_7, pc_7⟩ := part_cells p_7 (Below.refl _ _)
    have pl_7 := (Array.getElem?_eq_some_iff.1 p_7).1
    go_wp2_with fail
    have dA_7 : WAt (World.drew w5) v ws := hA_7
    have dz_7 : WAt (World.drew w5) (.slice za zn zc) w1s := hz_7
    have dy_7 : WAt (World.drew w5) (.slice ya yn yc) w1s := hy_7
    have dgd_7 : Gd (World.drew w5) := gd_7
    first | go_region_held3 (fun w' => w'.cell? ⟨w.heap.size, 0, none⟩ = some (.int .i64 N) ∧ w'.cell? ⟨w.heap.size, 1, none⟩ = some v ∧ w'.cell? ⟨w2.heap.size, 0, none⟩ = some (.int .i64 K1) ∧ w'.cell? ⟨w2.heap.size, 1, none⟩ = some (.slice za zn zc) ∧ w'.cell? ⟨w3.heap.size, 0, none⟩ = some (.int .i64 K1) ∧ w'.cell? ⟨w3.heap.size, 1, none⟩ = some (.slice ya yn yc)) (first | exact ⟨xA0_7, xA1_7, xZ0_7, xZ1_7, xY0_7, xY1_7⟩ | exact ⟨xA0_8, xA1_8, xZ0_8, xZ1_8, xY0_8, xY1_8⟩ | exact ⟨xA0_9, xA1_9, xZ0_9, xZ1_9, xY0_9, xY1_9⟩ | exact ⟨xA0_10, xA1_10, xZ0_10, xZ1_10, xY0_10, xY1_10⟩) (first | (go_at_call 19; ((with_reducible refine (Check_is N v ws cc HCK.out hf _ dA_7).mono ?_); rintro e w6 ⟨rfl, B6'⟩; have B6 : Below w5.heap.size w5 w6 := ⟨B6'.os, B6'.tape, B6'.output, B6'.size, B6'.block⟩; have D8 := D7.trans (B6.mono D7.size); have bA_8 := bA_7.later B6; have bZ_8 := bZ_7.later B6; have bY_8 := bY_7.later B6; have hA_8 := hA_7.later B6; have hz_8 := hz_7.later B6; have hy_8 := hy_7.later B6; have p_8 := (B6.block _ (Array.getElem?_eq_some_iff.1 p_7).1).trans p_7; have gd_8 := gd_7.later B6; have xA0_8 := bA_8.c0; have xA1_8 := bA_8.c1; have xlA_8 := bA_8.lt; have xfA0_8 := bA_8.fz 0; have xfA1_8 := bA_8.fz 1; have xZ0_8 := bZ_8.c0; have xZ1_8 := bZ_8.c1; have xlZ_8 := bZ_8.lt; have xfZ0_8 := bZ_8.fz 0; have xfZ1_8 := bZ_8.fz 1; have xY0_8 := bY_8.c0; have xY1_8 := bY_8.c1; have xlY_8 := bY_8.lt; have xfY0_8 := bY_8.fz 0; have xfY1_8 := bY_8.fz 1; obtain ⟨pa_8, pb_8, pc_8⟩ := part_cells p_8 (Below.refl _ _); have pl_8 := (Array.getElem?_eq_some_iff.1 p_8).1)) | (go_at_call 20; ((with_reducible refine (RefCheck_is N v ws hf _ hA_8 cc HCK.out).mono ?_); rintro e w7 ⟨rfl, B7'⟩; have B7 : Below w6.heap.size w6 w7 := ⟨B7'.os, B7'.tape, B7'.output, B7'.size, B7'.block⟩; have D9 := D8.trans (B7.mono D8.size); have bA_9 := bA_8.later B7; have bZ_9 := bZ_8.later B7; have bY_9 := bY_8.later B7; have hA_9 := hA_8.later B7; have hz_9 := hz_8.later B7; have hy_9 := hy_8.later B7; have p_9 := (B7.block _ (Array.getElem?_eq_some_iff.1 p_8).1).trans p_8; have gd_9 := gd_8.later B7; have xA0_9 := bA_9.c0; have xA1_9 := bA_9.c1; have xlA_9 := bA_9.lt; have xfA0_9 := bA_9.fz 0; have xfA1_9 := bA_9.fz 1; have xZ0_9 := bZ_9.c0; have xZ1_9 := bZ_9.c1; have xlZ_9 := bZ_9.lt; have xfZ0_9 := bZ_9.fz 0; have xfZ1_9 := bZ_9.fz 1; have xY0_9 := bY_9.c0; have xY1_9 := bY_9.c1; have xlY_9 := bY_9.lt; have xfY0_9 := bY_9.fz 0; have xfY1_9 := bY_9.fz 1; obtain ⟨pa_9, pb_9, pc_9⟩ := part_cells p_9 (Below.refl _ _); have pl_9 := (Array.getElem?_eq_some_iff.1 p_9).1)) | (go_at_call 21; ((with_reducible refine (Same_eq K1 _ _ w1s L1 _ hz_9 hy_9).mono ?_); rintro e w8 ⟨rfl, B8'⟩; have B8 : Below w7.heap.size w7 w8 := ⟨B8'.os, B8'.tape, B8'.output, B8'.size, B8'.block⟩; have D10 := D9.trans (B8.mono D9.size); have bA_10 := bA_9.later B8; have bZ_10 := bZ_9.later B8; have bY_10 := bY_9.later B8; have hA_10 := hA_9.later B8; have hz_10 := hz_9.later B8; have hy_10 := hy_9.later B8; have p_10 := (B8.block _ (Array.getElem?_eq_some_iff.1 p_9).1).trans p_9; have gd_10 := gd_9.later B8; have xA0_10 := bA_10.c0; have xA1_10 := bA_10.c1; have xlA_10 := bA_10.lt; have xfA0_10 := bA_10.fz 0; have xfA1_10 := bA_10.fz 1; have xZ0_10 := bZ_10.c0; have xZ1_10 := bZ_10.c1; have xlZ_10 := bZ_10.lt; have xfZ0_10 := bZ_10.fz 0; have xfZ1_10 := bZ_10.fz 1; have xY0_10 := bY_10.c0; have xY1_10 := bY_10.c1; have xlY_10 := bY_10.lt; have xfY0_10 := bY_10.fz 0; have xfY1_10 := bY_10.fz 1; obtain ⟨pa_10, pb_10, pc_10⟩ := part_cells p_10 (Below.refl _ _); have pl_10 := (Array.getElem?_eq_some_iff.1 p_10).1))) | fail
    go_wp2_with fail
    refine (Set_is N a t on v ws hf _ _ _ HS1.out _ hA_10).mono ?_
    rintro e w9 ⟨z, rfl, hz, B9⟩
    obtain ⟨sa, sn, sc, rfl⟩ := hz.form3
    clear xA0_10 xA1_10 xlA_10 xfA0_10 xfA1_10 xZ0_10 xZ1_10 xlZ_10 xfZ0_10 xfZ1_10 xY0_10 xY1_10 xlY_10 xfY0_10 xfY1_10 pa_10 pb_10 pc_10 pl_10
    have D11 := D10.trans (B9.mono D10.size)
    have bA_11 := bA_10.later B9
    have bZ_11 := bZ_10.later B9
    have bY_11 := bY_10.later B9
    have hA_11 := hA_10.later B9
    have hz_11 := hz_10.later B9
    have hy_11 := hy_10.later B9
    have p_11 := (B9.block _ (Array.getElem?_eq_some_iff.1 p_10).1).trans p_10
    have gd_11 := gd_10.later B9
    replace hz : WAt w9 (.slice sa sn sc) w2s := hz
    have hs_11 := hz
    clear hz
    have xA0_11 := bA_11.c0
    have xA1_11 := bA_11.c1
    have xlA_11 := bA_11.lt
    have xfA0_11 := bA_11.fz 0
    have xfA1_11 := bA_11.fz 1
    have xZ0_11 := bZ_11.c0
    have xZ1_11 := bZ_11.c1
    have xlZ_11 := bZ_11.lt
    have xfZ0_11 := bZ_11.fz 0
    have xfZ1_11 := bZ_11.fz 1
    have xY0_11 := bY_11.c0
    have xY1_11 := bY_11.c1
    have xlY_11 := bY_11.lt
    have xfY0_11 := bY_11.fz 0
    have xfY1_11 := bY_11.fz 1
    obtain ⟨pa_11, pb_11, pc_11⟩ := part_cells p_11 (Below.refl _ _)
    have pl_11 := (Array.getElem?_eq_some_iff.1 p_11).1
    go_wp2_with fail
    clear xA0_11 xA1_11 xlA_11 xfA0_11 xfA1_11 xZ0_11 xZ1_11 xlZ_11 xfZ0_11 xfZ1_11 xY0_11 xY1_11 xlY_11 xfY0_11 xfY1_11 pa_11 pb_11 pc_11 pl_11
    have hA_12 : WAt ((w9.setCell ⟨w2.heap.size, 0, none⟩ (.int .i64 K2)).setCell ⟨w2.heap.size, 1, none⟩ (.slice sa sn sc)) v ws := hA_11.write bZ_11
    have hz_12 : WAt ((w9.setCell ⟨w2.heap.size, 0, none⟩ (.int .i64 K2)).setCell ⟨w2.heap.size, 1, none⟩ (.slice sa sn sc)) (.slice za zn zc) w1s := hz_11.write bZ_11
    have hy_12 : WAt ((w9.setCell ⟨w2.heap.size, 0, none⟩ (.int .i64 K2)).setCell ⟨w2.heap.size, 1, none⟩ (.slice sa sn sc)) (.slice ya yn yc) w1s := hy_11.write bZ_11
    have hs_12 : WAt ((w9.setCell ⟨w2.heap.size, 0, none⟩ (.int .i64 K2)).setCell ⟨w2.heap.size, 1, none⟩ (.slice sa sn sc)) (.slice sa sn sc) w2s := hs_11.write bZ_11
    have bA_12 : BBox ((w9.setCell ⟨w2.heap.size, 0, none⟩ (.int .i64 K2)).setCell ⟨w2.heap.size, 1, none⟩ (.slice sa sn sc)) w.heap.size N v := (bA_11.setOther (by omega) 0 _).setOther (by omega) 1 _
    have bZ_12 : BBox ((w9.setCell ⟨w2.heap.size, 0, none⟩ (.int .i64 K2)).setCell ⟨w2.heap.size, 1, none⟩ (.slice sa sn sc)) w2.heap.size K2 (.slice sa sn sc) := bZ_11.write
    have bY_12 : BBox ((w9.setCell ⟨w2.heap.size, 0, none⟩ (.int .i64 K2)).setCell ⟨w2.heap.size, 1, none⟩ (.slice sa sn sc)) w3.heap.size K1 (.slice ya yn yc) := (bY_11.setOther (by omega) 0 _).setOther (by omega) 1 _
    have p_12 : ((w9.setCell ⟨w2.heap.size, 0, none⟩ (.int .i64 K2)).setCell ⟨w2.heap.size, 1, none⟩ (.slice sa sn sc)).heap[(w.heap.size + 1)]? = _ := ((Below.heap_setCell _ _ _ _ (by simp; omega)).trans (Below.heap_setCell _ _ _ _ (by simp; omega))).trans p_11
    have D12 : Below w.heap.size w ((w9.setCell ⟨w2.heap.size, 0, none⟩ (.int .i64 K2)).setCell ⟨w2.heap.size, 1, none⟩ (.slice sa sn sc)) := (D11.setCell (by dsimp only; omega) _).setCell (by dsimp only; omega) _
    have gd_12 : Gd ((w9.setCell ⟨w2.heap.size, 0, none⟩ (.int .i64 K2)).setCell ⟨w2.heap.size, 1, none⟩ (.slice sa sn sc)) := gd0.later (D12)
    have xA0_12 := bA_12.c0
    have xA1_12 := bA_12.c1
    have xlA_12 := bA_12.lt
    have xfA0_12 := bA_12.fz 0
    have xfA1_12 := bA_12.fz 1
    have xZ0_12 := bZ_12.c0
    have xZ1_12 := bZ_12.c1
    have xlZ_12 := bZ_12.lt
    have xfZ0_12 := bZ_12.fz 0
    have xfZ1_12 := bZ_12.fz 1
    have xY0_12 := bY_12.c0
    have xY1_12 := bY_12.c1
    have xlY_12 := bY_12.lt
    have xfY0_12 := bY_12.fz 0
    have xfY1_12 := bY_12.fz 1
    obtain ⟨pa_12, pb_12, pc_12⟩ := part_cells p_12 (Below.refl _ _)
    have pl_12 := (Array.getElem?_eq_some_iff.1 p_12).1
    refine (RefSet_is N a t on v ws hf _ _ _ HS1.out _ hA_12).mono ?_
    rintro e w10 ⟨z, rfl, hz, B10⟩
    obtain ⟨ra, rn, rc, rfl⟩ := hz.form3
    clear xA0_12 xA1_12 xlA_12 xfA0_12 xfA1_12 xZ0_12 xZ1_12 xlZ_12 xfZ0_12 xfZ1_12 xY0_12 xY1_12 xlY_12 xfY0_12 xfY1_12 pa_12 pb_12 pc_12 pl_12
    have D13 := D12.trans (B10.mono D12.size)
    have bA_13 := bA_12.later B10
    have bZ_13 := bZ_12.later B10
    have bY_13 := bY_12.later B10
    have hA_13 := hA_12.later B10
    have hz_13 := hz_12.later B10
    have hy_13 := hy_12.later B10
    have hs_13 := hs_12.later B10
    have p_13 := (B10.block _ (Array.getElem?_eq_some_iff.1 p_12).1).trans p_12
    have gd_13 := gd_12.later B10
    replace hz : WAt w10 (.slice ra rn rc) w2s := hz
    have hr_13 := hz
    clear hz
    have xA0_13 := bA_13.c0
    have xA1_13 := bA_13.c1
    have xlA_13 := bA_13.lt
    have xfA0_13 := bA_13.fz 0
    have xfA1_13 := bA_13.fz 1
    have xZ0_13 := bZ_13.c0
    have xZ1_13 := bZ_13.c1
    have xlZ_13 := bZ_13.lt
    have xfZ0_13 := bZ_13.fz 0
    have xfZ1_13 := bZ_13.fz 1
    have xY0_13 := bY_13.c0
    have xY1_13 := bY_13.c1
    have xlY_13 := bY_13.lt
    have xfY0_13 := bY_13.fz 0
    have xfY1_13 := bY_13.fz 1
    obtain ⟨pa_13, pb_13, pc_13⟩ := part_cells p_13 (Below.refl _ _)
    have pl_13 := (Array.getElem?_eq_some_iff.1 p_13).1
    go_wp2_with fail
    clear xA0_13 xA1_13 xlA_13 xfA0_13 xfA1_13 xZ0_13 xZ1_13 xlZ_13 xfZ0_13 xfZ1_13 xY0_13 xY1_13 xlY_13 xfY0_13 xfY1_13 pa_13 pb_13 pc_13 pl_13
    have hA_14 : WAt ((w10.setCell ⟨w3.heap.size, 0, none⟩ (.int .i64 K2)).setCell ⟨w3.heap.size, 1, none⟩ (.slice ra rn rc)) v ws := hA_13.write bY_13
    have hz_14 : WAt ((w10.setCell ⟨w3.heap.size, 0, none⟩ (.int .i64 K2)).setCell ⟨w3.heap.size, 1, none⟩ (.slice ra rn rc)) (.slice za zn zc) w1s := hz_13.write bY_13
    have hy_14 : WAt ((w10.setCell ⟨w3.heap.size, 0, none⟩ (.int .i64 K2)).setCell ⟨w3.heap.size, 1, none⟩ (.slice ra rn rc)) (.slice ya yn yc) w1s := hy_13.write bY_13
    have hs_14 : WAt ((w10.setCell ⟨w3.heap.size, 0, none⟩ (.int .i64 K2)).setCell ⟨w3.heap.size, 1, none⟩ (.slice ra rn rc)) (.slice sa sn sc) w2s := hs_13.write bY_13
    have hr_14 : WAt ((w10.setCell ⟨w3.heap.size, 0, none⟩ (.int .i64 K2)).setCell ⟨w3.heap.size, 1, none⟩ (.slice ra rn rc)) (.slice ra rn rc) w2s := hr_13.write bY_13
    have bA_14 : BBox ((w10.setCell ⟨w3.heap.size, 0, none⟩ (.int .i64 K2)).setCell ⟨w3.heap.size, 1, none⟩ (.slice ra rn rc)) w.heap.size N v := (bA_13.setOther (by omega) 0 _).setOther (by omega) 1 _
    have bZ_14 : BBox ((w10.setCell ⟨w3.heap.size, 0, none⟩ (.int .i64 K2)).setCell ⟨w3.heap.size, 1, none⟩ (.slice ra rn rc)) w2.heap.size K2 (.slice sa sn sc) := (bZ_13.setOther (by omega) 0 _).setOther (by omega) 1 _
    have bY_14 : BBox ((w10.setCell ⟨w3.heap.size, 0, none⟩ (.int .i64 K2)).setCell ⟨w3.heap.size, 1, none⟩ (.slice ra rn rc)) w3.heap.size K2 (.slice ra rn rc) := bY_13.write
    have p_14 : ((w10.setCell ⟨w3.heap.size, 0, none⟩ (.int .i64 K2)).setCell ⟨w3.heap.size, 1, none⟩ (.slice ra rn rc)).heap[(w.heap.size + 1)]? = _ := ((Below.heap_setCell _ _ _ _ (by simp; omega)).trans (Below.heap_setCell _ _ _ _ (by simp; omega))).trans p_13
    have D14 : Below w.heap.size w ((w10.setCell ⟨w3.heap.size, 0, none⟩ (.int .i64 K2)).setCell ⟨w3.heap.size, 1, none⟩ (.slice ra rn rc)) := (D13.setCell (by dsimp only; omega) _).setCell (by dsimp only; omega) _
    have gd_14 : Gd ((w10.setCell ⟨w3.heap.size, 0, none⟩ (.int .i64 K2)).setCell ⟨w3.heap.size, 1, none⟩ (.slice ra rn rc)) := gd0.later (D14)
    have xA0_14 := bA_14.c0
    have xA1_14 := bA_14.c1
    have xlA_14 := bA_14.lt
    have xfA0_14 := bA_14.fz 0
    have xfA1_14 := bA_14.fz 1
    have xZ0_14 := bZ_14.c0
    have xZ1_14 := bZ_14.c1
    have xlZ_14 := bZ_14.lt
    have xfZ0_14 := bZ_14.fz 0
    have xfZ1_14 := bZ_14.fz 1
    have xY0_14 := bY_14.c0
    have xY1_14 := bY_14.c1
    have xlY_14 := bY_14.lt
    have xfY0_14 := bY_14.fz 0
    have xfY1_14 := bY_14.fz 1
    obtain ⟨pa_14, pb_14, pc_14⟩ := part_cells p_14 (Below.refl _ _)
    have pl_14 := (Array.getElem?_eq_some_iff.1 p_14).1
    refine (Count_is N v ws hf _ hA_14 a t m1 m2 HC1.out).mono ?_
    rintro e w11 ⟨rfl, B11⟩
    clear xA0_14 xA1_14 xlA_14 xfA0_14 xfA1_14 xZ0_14 xZ1_14 xlZ_14 xfZ0_14 xfZ1_14 xY0_14 xY1_14 xlY_14 xfY0_14 xfY1_14 pa_14 pb_14 pc_14 pl_14
    have D15 := D14.trans (B11.mono D14.size)
    have bA_15 := bA_14.later B11
    have bZ_15 := bZ_14.later B11
    have bY_15 := bY_14.later B11
    have hA_15 := hA_14.later B11
    have hz_15 := hz_14.later B11
    have hy_15 := hy_14.later B11
    have hs_15 := hs_14.later B11
    have hr_15 := hr_14.later B11
    have p_15 := (B11.block _ (Array.getElem?_eq_some_iff.1 p_14).1).trans p_14
    have gd_15 := gd_14.later B11
    have xA0_15 := bA_15.c0
    have xA1_15 := bA_15.c1
    have xlA_15 := bA_15.lt
    have xfA0_15 := bA_15.fz 0
    have xfA1_15 := bA_15.fz 1
    have xZ0_15 := bZ_15.c0
    have xZ1_15 := bZ_15.c1
    have xlZ_15 := bZ_15.lt
    have xfZ0_15 := bZ_15.fz 0
    have xfZ1_15 := bZ_15.fz 1
    have xY0_15 := bY_15.c0
    have xY1_15 := bY_15.c1
    have xlY_15 := bY_15.lt
    have xfY0_15 := bY_15.fz 0
    have xfY1_15 := bY_15.fz 1
    obtain ⟨pa_15, pb_15, pc_15⟩ := part_cells p_15 (Below.refl _ _)
    have pl_15 := (Array.getElem?_eq_some_iff.1 p_15).1
    go_wp2_with fail
    refine (RefCount_is N a t v ws hf m1 m2 HC1.out _ hA_15).mono ?_
    rintro e w12 ⟨rfl, B12⟩
    clear xA0_15 xA1_15 xlA_15 xfA0_15 xfA1_15 xZ0_15 xZ1_15 xlZ_15 xfZ0_15 xfZ1_15 xY0_15 xY1_15 xlY_15 xfY0_15 xfY1_15 pa_15 pb_15 pc_15 pl_15
    have D16 := D15.trans (B12.mono D15.size)
    have bA_16 := bA_15.later B12
    have bZ_16 := bZ_15.later B12
    have bY_16 := bY_15.later B12
    have hA_16 := hA_15.later B12
    have hz_16 := hz_15.later B12
    have hy_16 := hy_15.later B12
    have hs_16 := hs_15.later B12
    have hr_16 := hr_15.later B12
    have p_16 := (B12.block _ (Array.getElem?_eq_some_iff.1 p_15).1).trans p_15
    have gd_16 := gd_15.later B12
    have xA0_16 := bA_16.c0
    have xA1_16 := bA_16.c1
    have xlA_16 := bA_16.lt
    have xfA0_16 := bA_16.fz 0
    have xfA1_16 := bA_16.fz 1
    have xZ0_16 := bZ_16.c0
    have xZ1_16 := bZ_16.c1
    have xlZ_16 := bZ_16.lt
    have xfZ0_16 := bZ_16.fz 0
    have xfZ1_16 := bZ_16.fz 1
    have xY0_16 := bY_16.c0
    have xY1_16 := bY_16.c1
    have xlY_16 := bY_16.lt
    have xfY0_16 := bY_16.fz 0
    have xfY1_16 := bY_16.fz 1
    obtain ⟨pa_16, pb_16, pc_16⟩ := part_cells p_16 (Below.refl _ _)
    have pl_16 := (Array.getElem?_eq_some_iff.1 p_16).1
    go_wp2_with fail
    refine (Same_eq K2 _ _ w2s L2 _ hs_16 hr_16).mono ?_
    rintro e w13 ⟨rfl, B13⟩
    clear xA0_16 xA1_16 xlA_16 xfA0_16 xfA1_16 xZ0_16 xZ1_16 xlZ_16 xfZ0_16 xfZ1_16 xY0_16 xY1_16 xlY_16 xfY0_16 xfY1_16 pa_16 pb_16 pc_16 pl_16
    have D17 := D16.trans (B13.mono D16.size)
    have bA_17 := bA_16.later B13
    have bZ_17 := bZ_16.later B13
    have bY_17 := bY_16.later B13
    have hA_17 := hA_16.later B13
    have hz_17 := hz_16.later B13
    have hy_17 := hy_16.later B13
    have hs_17 := hs_16.later B13
    have hr_17 := hr_16.later B13
    have p_17 := (B13.block _ (Array.getElem?_eq_some_iff.1 p_16).1).trans p_16
    have gd_17 := gd_16.later B13
    have xA0_17 := bA_17.c0
    have xA1_17 := bA_17.c1
    have xlA_17 := bA_17.lt
    have xfA0_17 := bA_17.fz 0
    have xfA1_17 := bA_17.fz 1
    have xZ0_17 := bZ_17.c0
    have xZ1_17 := bZ_17.c1
    have xlZ_17 := bZ_17.lt
    have xfZ0_17 := bZ_17.fz 0
    have xfZ1_17 := bZ_17.fz 1
    have xY0_17 := bY_17.c0
    have xY1_17 := bY_17.c1
    have xlY_17 := bY_17.lt
    have xfY0_17 := bY_17.fz 0
    have xfY1_17 := bY_17.fz 1
    obtain ⟨pa_17, pb_17, pc_17⟩ := part_cells p_17 (Below.refl _ _)
    have pl_17 := (Array.getElem?_eq_some_iff.1 p_17).1
    go_wp2_with fail
    refine (awake_any _ gd_17).mono ?_
    rintro e w14 ⟨rfl, B14⟩
    clear xA0_17 xA1_17 xlA_17 xfA0_17 xfA1_17 xZ0_17 xZ1_17 xlZ_17 xfZ0_17 xfZ1_17 xY0_17 xY1_17 xlY_17 xfY0_17 xfY1_17 pa_17 pb_17 pc_17 pl_17
    have D18 := D17.trans (B14.mono D17.size)
    have bA_18 := bA_17.later B14
    have bZ_18 := bZ_17.later B14
    have bY_18 := bY_17.later B14
    have hA_18 := hA_17.later B14
    have hz_18 := hz_17.later B14
    have hy_18 := hy_17.later B14
    have hs_18 := hs_17.later B14
    have hr_18 := hr_17.later B14
    have p_18 := (B14.block _ (Array.getElem?_eq_some_iff.1 p_17).1).trans p_17
    have gd_18 := gd_17.later B14
    have xA0_18 := bA_18.c0
    have xA1_18 := bA_18.c1
    have xlA_18 := bA_18.lt
    have xfA0_18 := bA_18.fz 0
    have xfA1_18 := bA_18.fz 1
    have xZ0_18 := bZ_18.c0
    have xZ1_18 := bZ_18.c1
    have xlZ_18 := bZ_18.lt
    have xfZ0_18 := bZ_18.fz 0
    have xfZ1_18 := bZ_18.fz 1
    have xY0_18 := bY_18.c0
    have xY1_18 := bY_18.c1
    have xlY_18 := bY_18.lt
    have xfY0_18 := bY_18.fz 0
    have xfY1_18 := bY_18.fz 1
    obtain ⟨pa_18, pb_18, pc_18⟩ := part_cells p_18 (Below.refl _ _)
    have pl_18 := (Array.getElem?_eq_some_iff.1 p_18).1
    go_wp2
    go_ret
    exact ⟨rfl, D18⟩
end Go.Proofs.YtpplleojdcgceaaDoor
