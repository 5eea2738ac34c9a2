/- The examples. -/
import Derived.Test.YtpplleojdcgceaaDoorLens
import Derived.Test.YtpplleojdcgceaaDoorJoinsL
import Derived.Test.YtpplleojdcgceaaDoorRefRuns
import Derived.Deep.RegionHeld3
namespace Go.Proofs.YtpplleojdcgceaaDoor
open Go.RowKit Go.Shelf
attribute [local go_sem] Oper.semAt_some

theorem fit31 : Fit64 [31] := by intro x hx; simp at hx; subst hx; decide
theorem kn1 : selectB 10 [531] 2 true = (4, 0) := by kernel_rfl
theorem kn2 : nextX 10 [531] 2 true = (4, 0) := by kernel_rfl
theorem kn3 : lastB 10 [531] 4 true = (1, 0) := by kernel_rfl
theorem kn4 : nextX 10 [531] 10 true = (0, 4) := by kernel_rfl
theorem kn5 : runsL [531] false 0 10 = [(2, 4), (5, 9)] := by kernel_rfl
theorem kn6 : fitB 10 [531] 2 0 = (2, 0) := by kernel_rfl
theorem kn7 : fitB 10 [531] 2 3 = (5, 0) := by kernel_rfl
theorem kn8 : fitB 10 [531] 5 0 = (0, 4) := by kernel_rfl
theorem kn9 : blockB 10 [531] 1 = (2, 0) := by kernel_rfl
theorem knA : opB (fun x y => x && !y) 10 [531] 10 [31] = (10, [512], 0) := by kernel_rfl
theorem knB : checkB ((10 : Nat) : Int) [531] = 0 := by kernel_rfl
theorem lit_words (w : World) (x : Nat) : WAt (w.alloc (.cells #[.int .u64 (x : Int)] 58)) (.slice (some ⟨w.heap.size, 0, none⟩) 1 1) [x] :=
  .inr ⟨w.heap.size, 0, 1, rfl, Nat.le_refl _, by decide, fun j hj => by
    have : j = 0 := by simpa using hj
    subst this
    rw [World.cell?_alloc_at _ _ _ _ rfl]; rfl⟩
theorem lit_runs (w : World) : (w.alloc (.cells #[.int .i64 2, .int .i64 4, .int .i64 5, .int .i64 9] 53)).ownsRow w.heap.size 53 2 (.slice (some ⟨w.heap.size, 0, none⟩) 2 2) [(2, 4), (5, 9)].length (rowR [(2, 4), (5, 9)]) :=
  World.ownsRow_lit (base := w.heap.size) (e := 53) (size := 2) w #[.int .i64 2, .int .i64 4, .int .i64 5, .int .i64 9] 2 (Nat.le_refl _) (by decide) rfl

set_option maxRecDepth 100000 in
set_option maxHeartbeats 8000000 in
theorem law_known (w : World) (gd0 : Gd w) : Calls Tryd.prog 12 #[] w fun e w' => e = .returned (.bool true) ∧ Below w.heap.size w w' := by
  have D0 := Below.refl w.heap.size w
  go_enter Tryd.func12, Tryd.ntmps12
  go_wp2_with fail
  refine (ten_any _).mono ?_
  rintro e w1 ⟨⟨v1, rfl, ht1⟩, B1⟩
  have D1 := D0.trans (B1.mono D0.size)
  have gd_1 := gd0.later B1
  go_wp2_with fail
  refine (Select_is 10 v1 [531] fit531 _ ht1 gd_1 2 4 0 true (by decide) kn1).mono ?_
  rintro e w2 ⟨rfl, B2⟩
  have D2 := D1.trans (B2.mono D1.size)
  have ht_2 := ht1.later B2
  have gd_2 := gd_1.later B2
  go_wp2_with fail
  refine (ten_any _).mono ?_
  rintro e w3 ⟨⟨v2, rfl, ht2⟩, B3⟩
  have D3 := D2.trans (B3.mono D2.size)
  have ht_3 := ht_2.later B3
  have gd_3 := gd_2.later B3
  go_wp2_with fail
  refine (NextX_is 10 v2 [531] fit531 _ ht2 gd_3 2 4 0 true kn2).mono ?_
  rintro e w4 ⟨rfl, B4⟩
  have D4 := D3.trans (B4.mono D3.size)
  have ht_4 := ht2.later B4
  have gd_4 := gd_3.later B4
  go_wp2_with fail
  refine (ten_any _).mono ?_
  rintro e w5 ⟨⟨v3, rfl, ht3⟩, B5⟩
  have D5 := D4.trans (B5.mono D4.size)
  have ht_5 := ht_4.later B5
  have gd_5 := gd_4.later B5
  go_wp2_with fail
  refine (Last_is 10 v3 [531] fit531 _ ht3 4 1 0 true kn3).mono ?_
  rintro e w6 ⟨rfl, B6⟩
  have D6 := D5.trans (B6.mono D5.size)
  have ht_6 := ht3.later B6
  have gd_6 := gd_5.later B6
  go_wp2_with fail
  refine (ten_any _).mono ?_
  rintro e w7 ⟨⟨v4, rfl, ht4⟩, B7⟩
  have D7 := D6.trans (B7.mono D6.size)
  have ht_7 := ht_6.later B7
  have gd_7 := gd_6.later B7
  go_wp2_with fail
  refine (NextX_is 10 v4 [531] fit531 _ ht4 gd_7 10 0 4 true kn4).mono ?_
  rintro e w8 ⟨rfl, B8⟩
  have D8 := D7.trans (B8.mono D7.size)
  have ht_8 := ht4.later B8
  have gd_8 := gd_7.later B8
  go_wp2_with fail
  refine (ten_any _).mono ?_
  rintro e w9 ⟨⟨v5, rfl, ht5⟩, B9⟩
  have D9 := D8.trans (B9.mono D8.size)
  have ht_9 := ht_8.later B9
  have gd_9 := gd_8.later B9
  go_wp2_with fail
  refine (Runs_ok 10 v5 false [531] fit531 _ gd_9 ht5 knB).mono ?_
  rintro e w10 ⟨l, rfl, hl, B10⟩
  have D10 := D9.trans (B10.mono D9.size)
  have ht_10 := ht5.later B10
  have gd_10 := gd_9.later B10
  rw [kn5] at hl
  go_wp2_with fail
  have A10 := (Below.refl w10.heap.size w10).alloc (Nat.le_refl _) (.cells #[.int .i64 2, .int .i64 4, .int .i64 5, .int .i64 9] 53)
  have D11 := D10.trans (A10.mono D10.size)
  have gd_11 := gd_10.later A10
  refine (SameRuns_eq _ _ l _ [(2, 4), (5, 9)] (by decide) _ (hl.alloc _) (lit_runs w10)).mono ?_
  rintro e w11 ⟨rfl, B11⟩
  have D12 := D11.trans (B11.mono D11.size)
  have gd_12 := gd_11.later B11
  go_wp2_with fail
  refine (ten_any _).mono ?_
  rintro e w12 ⟨⟨v6, rfl, ht6⟩, B12⟩
  have D13 := D12.trans (B12.mono D12.size)
  have gd_13 := gd_12.later B12
  go_wp2_with fail
  refine (Fit_is 10 v6 [531] fit531 _ ht6 gd_13 2 0 2 0 kn6).mono ?_
  rintro e w13 ⟨rfl, B13⟩
  have D14 := D13.trans (B13.mono D13.size)
  have ht_14 := ht6.later B13
  have gd_14 := gd_13.later B13
  go_wp2_with fail
  refine (ten_any _).mono ?_
  rintro e w14 ⟨⟨v7, rfl, ht7⟩, B14⟩
  have D15 := D14.trans (B14.mono D14.size)
  have ht_15 := ht_14.later B14
  have gd_15 := gd_14.later B14
  go_wp2_with fail
  refine (Fit_is 10 v7 [531] fit531 _ ht7 gd_15 2 3 5 0 kn7).mono ?_
  rintro e w15 ⟨rfl, B15⟩
  have D16 := D15.trans (B15.mono D15.size)
  have ht_16 := ht7.later B15
  have gd_16 := gd_15.later B15
  go_wp2_with fail
  refine (ten_any _).mono ?_
  rintro e w16 ⟨⟨v8, rfl, ht8⟩, B16⟩
  have D17 := D16.trans (B16.mono D16.size)
  have ht_17 := ht_16.later B16
  have gd_17 := gd_16.later B16
  go_wp2_with fail
  refine (Fit_is 10 v8 [531] fit531 _ ht8 gd_17 5 0 0 4 kn8).mono ?_
  rintro e w17 ⟨rfl, B17⟩
  have D18 := D17.trans (B17.mono D17.size)
  have ht_18 := ht8.later B17
  have gd_18 := gd_17.later B17
  go_wp2_with fail
  refine (ten_any _).mono ?_
  rintro e w18 ⟨⟨v9, rfl, ht9⟩, B18⟩
  have D19 := D18.trans (B18.mono D18.size)
  have ht_19 := ht_18.later B18
  have gd_19 := gd_18.later B18
  go_wp2_with fail
  refine (Block_is 10 v9 [531] fit531 _ ht9 1 2 0 kn9).mono ?_
  rintro e w19 ⟨rfl, B19⟩
  have D20 := D19.trans (B19.mono D19.size)
  have ht_20 := ht9.later B19
  have gd_20 := gd_19.later B19
  go_wp2_with fail
  refine (ten_any _).mono ?_
  rintro e w20 ⟨⟨v10, rfl, ht10⟩, B20⟩
  have D21 := D20.trans (B20.mono D20.size)
  have ht_21 := ht_20.later B20
  have gd_21 := gd_20.later B20
  go_wp2_with fail
  have A21 := (Below.refl w20.heap.size w20).alloc (Nat.le_refl _) (.cells #[.int .u64 31] 58)
  have D22 := D21.trans (A21.mono D21.size)
  have ht_22 := ht10.later A21
  have gd_22 := gd_21.later A21
  refine (Less_is 10 10 v10 _ [531] [31] fit531 fit31 _ ht_22 (lit_words w20 31) _ _ _ knA).mono ?_
  rintro e w21 ⟨z, rfl, hz, B21⟩
  obtain ⟨za, zn, zc, rfl⟩ := hz.form3
  have D23 := D22.trans (B21.mono D22.size)
  have ht_23 := ht_22.later B21
  have gd_23 := gd_22.later B21
  replace hz : WAt w21 (.slice za zn zc) [512] := hz
  have hz_23 := hz
  clear hz
  go_wp2_with fail
  have oDZ := D23.size
  have A23 := (Below.refl w21.heap.size w21).alloc (Nat.le_refl _) (.cells #[.int .i64 10, (.slice za zn zc)] 24)
  have D24 := D23.trans (A23.mono D23.size)
  have hz_24 := hz_23.later A23
  have gd_24 := gd_23.later A23
  have bZ_24 := BBox.new w21 10 (.slice za zn zc)
  have xZ0_24 := bZ_24.c0
  have xZ1_24 := bZ_24.c1
  have xlZ_24 := bZ_24.lt
  have xfZ0_24 := bZ_24.fz 0
  have xfZ1_24 := bZ_24.fz 1
  clear xZ0_24 xZ1_24 xlZ_24 xfZ0_24 xfZ1_24
  have A24 := (Below.refl (w21.alloc (.cells #[.int .i64 10, (.slice za zn zc)] 24)).heap.size (w21.alloc (.cells #[.int .i64 10, (.slice za zn zc)] 24))).alloc (Nat.le_refl _) (.cells #[.int .u64 512] 58)
  have D25 := D24.trans (A24.mono D24.size)
  have bZ_25 := bZ_24.later A24
  have hz_25 := hz_24.later A24
  have gd_25 := gd_24.later A24
  have xZ0_25 := bZ_25.c0
  have xZ1_25 := bZ_25.c1
  have xlZ_25 := bZ_25.lt
  have xfZ0_25 := bZ_25.fz 0
  have xfZ1_25 := bZ_25.fz 1
  have hlit := lit_words (w21.alloc (.cells #[.int .i64 10, (.slice za zn zc)] 24)) 512
  rw [World.size_alloc] at hlit
  have hlit2 : WAt ((w21.alloc (.cells #[.int .i64 10, (.slice za zn zc)] 24)).alloc (.cells #[.int .u64 512] 58)) (.slice (some ⟨w21.heap.size + 1, 0, none⟩) 1 1) [512] := hlit
  clear hlit
  refine (Same_eq 10 _ _ [512] (by decide) _ hz_25 hlit2).mono ?_
  rintro e w22 ⟨rfl, B22⟩
  clear xZ0_25 xZ1_25 xlZ_25 xfZ0_25 xfZ1_25
  have D26 := D25.trans (B22.mono D25.size)
  have bZ_26 := bZ_25.later B22
  have hz_26 := hz_25.later B22
  have gd_26 := gd_25.later B22
  have xZ0_26 := bZ_26.c0
  have xZ1_26 := bZ_26.c1
  have xlZ_26 := bZ_26.lt
  have xfZ0_26 := bZ_26.fz 0
  have xfZ1_26 := bZ_26.fz 1
  go_wp2_with fail
  refine (awake_any _ gd_26).mono ?_
  rintro e w23 ⟨rfl, B23⟩
  clear xZ0_26 xZ1_26 xlZ_26 xfZ0_26 xfZ1_26
  have D27 := D26.trans (B23.mono D26.size)
  have bZ_27 := bZ_26.later B23
  have hz_27 := hz_26.later B23
  have gd_27 := gd_26.later B23
  have xZ0_27 := bZ_27.c0
  have xZ1_27 := bZ_27.c1
  have xlZ_27 := bZ_27.lt
  have xfZ0_27 := bZ_27.fz 0
  have xfZ1_27 := bZ_27.fz 1
  go_wp2
  go_ret
  exact ⟨rfl, D27⟩
end Go.Proofs.YtpplleojdcgceaaDoor
