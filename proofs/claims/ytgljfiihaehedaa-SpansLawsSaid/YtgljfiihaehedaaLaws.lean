/- The law SpansLaws. -/
import Derived.Test.YtgljfiihaehedaaAwk
namespace Go.Proofs.Ytgljfiihaehedaa
open Go.RowKit
attribute [local go_sem] Oper.semAt_some

set_option maxRecDepth 100000 in
set_option maxHeartbeats 4000000 in
theorem laws_big (u v : Value) (la lb : List SpI) (pg : Nat) (w : World) (h1 : SAt w u la) (h2 : SAt w v lb) (hg : 600 < la.length ∨ 600 < lb.length) :
    Calls Try.prog 8 #[u, v, .int .u16 pg] w fun e w' => e = .returned (.bool true) ∧ Below w.heap.size w w' := by
  have l1 := len64 h1
  have l2 := len64 h2
  obtain ⟨ua, uc, rfl⟩ := h1.form
  obtain ⟨va, vc, rfl⟩ := h2.form
  obtain ⟨n, hn⟩ : ∃ n, la.length = n := ⟨_, rfl⟩
  obtain ⟨m, hm⟩ : ∃ m, lb.length = m := ⟨_, rfl⟩
  rw [hn] at hg l1 ⊢
  rw [hm] at hg l2 ⊢
  clear hn hm h1 h2
  by_cases hn6 : 600 < n
  · have d1 : decide ((600 : Int) < (n : Int)) = true := by simp; omega
    go_enter Try.func8, Try.ntmps8
    go_wp2_with fail
    refine (awake_is _).mono ?_
    rintro e w1 ⟨rfl, B1⟩
    go_wp2_with fail
    go_ret
    exact ⟨rfl, B1⟩
  · have d1 : decide ((600 : Int) < (n : Int)) = false := by simp; omega
    have d2 : decide ((600 : Int) < (m : Int)) = true := by simp; omega
    go_enter Try.func8, Try.ntmps8
    go_wp2_with fail
    refine (awake_is _).mono ?_
    rintro e w1 ⟨rfl, B1⟩
    go_wp2_with fail
    go_ret
    exact ⟨rfl, B1⟩

set_option maxRecDepth 100000 in
set_option maxHeartbeats 4000000 in
theorem laws_bad (u v : Value) (la lb : List SpI) (fa : Fit la) (fb : Fit lb) (pg : Nat) (w : World) (h1 : SAt w u la) (h2 : SAt w v lb) (hg1 : la.length ≤ 600) (hg2 : lb.length ≤ 600) (c : Int) (hc : bothB la lb = c) (h0 : c ≠ 0) :
    Calls Try.prog 8 #[u, v, .int .u16 pg] w fun e w' => e = .returned (.bool true) ∧ Below w.heap.size w w' := by
  obtain ⟨ua, uc, rfl⟩ := h1.form
  obtain ⟨va, vc, rfl⟩ := h2.form
  have d1 : decide ((600 : Int) < (la.length : Int)) = false := by simp; omega
  have d2 : decide ((600 : Int) < (lb.length : Int)) = false := by simp; omega
  have hq : (c != 0) = true := by simp [h0]
  go_enter Try.func8, Try.ntmps8
  have HC := Lib.hid hc
  have hA0 : Below w.heap.size w (w.alloc (.cells #[.int .i64 0, .int .i64 1024] 31)) := (Below.refl _ _).alloc (Nat.le_refl _) _
  have k1 := h1.later hA0
  have k2 := h2.later hA0
  clear h1 h2 hc
  go_wp2_with fail
  refine (Union_bad la lb fa fb c HC.out h0 _ _ _ k1 k2).mono ?_
  rintro e w1 ⟨u1, rfl, r1, B1⟩
  have D1 := hA0.trans (B1.mono hA0.size)
  replace k1 := k1.later B1
  replace k2 := k2.later B1
  obtain ⟨ra1, rc1, rfl⟩ := r1.form
  clear r1
  rw [show (toI ([] : List Sp)).length = 0 from rfl]
  go_wp2_with fail
  refine (Meet_bad la lb fa fb c HC.out h0 _ _ _ k1 k2).mono ?_
  rintro e w2 ⟨u2, rfl, r2, B2⟩
  have D2 := D1.trans (B2.mono D1.size)
  replace k1 := k1.later B2
  replace k2 := k2.later B2
  obtain ⟨ra2, rc2, rfl⟩ := r2.form
  clear r2
  rw [show (toI ([] : List Sp)).length = 0 from rfl]
  go_wp2_with fail
  refine (Minus_bad la lb fa fb c HC.out h0 _ _ _ k1 k2).mono ?_
  rintro e w3 ⟨u3, rfl, r3, B3⟩
  have D3 := D2.trans (B3.mono D2.size)
  replace k1 := k1.later B3
  replace k2 := k2.later B3
  obtain ⟨ra3, rc3, rfl⟩ := r3.form
  clear r3
  rw [show (toI ([] : List Sp)).length = 0 from rfl]
  go_wp2_with fail
  refine (awake_is _).mono ?_
  rintro e w4 ⟨rfl, B4⟩
  have D4 := D3.trans (B4.mono D3.size)
  replace k1 := k1.later B4
  replace k2 := k2.later B4
  go_wp2_with fail
  go_ret
  exact ⟨rfl, D4⟩
set_option maxRecDepth 100000 in
set_option maxHeartbeats 8000000 in
theorem laws_ok (u v : Value) (La Lb : List Sp) (sa : SetL 0 La) (sb : SetL 0 Lb) (pg : Nat) (hpg : pg < 65536) (w : World) (h1 : SAt w u (toI La)) (h2 : SAt w v (toI Lb)) (hg1 : (toI La).length ≤ 600) (hg2 : (toI Lb).length ≤ 600) :
    Calls Try.prog 8 #[u, v, .int .u16 pg] w fun e w' => e = .returned (.bool true) ∧ Below w.heap.size w w' := by
  obtain ⟨ua, uc, rfl⟩ := h1.form
  obtain ⟨va, vc, rfl⟩ := h2.form
  have d1 : decide ((600 : Int) < ((toI La).length : Int)) = false := by simp; omega
  have d2 : decide ((600 : Int) < ((toI Lb).length : Int)) = false := by simp; omega
  obtain ⟨P, hP⟩ : ∃ P, pg % 1024 = P := ⟨_, rfl⟩
  have hP1 : 1 ≤ 1 ∧ P + 1 ≤ 1024 := ⟨Nat.le_refl _, by omega⟩
  have hP2 : P < 1024 := by omega
  have hP3 : (pg : Int) % 1024 = (P : Int) := by omega
  have hP4 : Int.tmod (pg : Int) 1024 = (P : Int) := by rw [Int.tmod_eq_emod_of_nonneg (by omega)]; exact hP3
  obtain ⟨WX, hWX⟩ : ∃ x, w.alloc (.cells #[.int .i64 0, .int .i64 1024] 31) = x := ⟨_, rfl⟩
  have hA0 : Below w.heap.size w WX := by rw [← hWX]; exact (Below.refl _ _).alloc (Nat.le_refl _) _
  have bx : XBox WX w.heap.size (((0 : Nat) : Int), ((1024 : Nat) : Int)) := by rw [← hWX]; exact XBox.new w (((0 : Nat) : Int), ((1024 : Nat) : Int))
  have HW := Lib.hid hWX
  have k1 := h1.later hA0
  have k2 := h2.later hA0
  clear h1 h2 hP hWX
  obtain ⟨a, ha⟩ : ∃ a, inS La P = a := ⟨_, rfl⟩
  obtain ⟨b, hb⟩ : ∃ b, inS Lb P = b := ⟨_, rfl⟩
  have HA := Lib.hid ha
  have HB := Lib.hid hb
  clear ha hb
  go_enter Try.func8, Try.ntmps8
  go_wp2_with fail
  try rw [HW.out]
  refine (Union_ok La Lb sa sb _ _ _ k1 k2).mono ?_
  rintro e w1 ⟨U, sU, pU, u1, rfl, k3, B1⟩
  have D1 := hA0.trans (B1.mono hA0.size)
  replace k1 := k1.later B1
  replace k2 := k2.later B1
  replace bx := bx.later B1
  obtain ⟨xU, cU, rfl⟩ := k3.form
  have HU := Lib.hid pU
  clear pU
  have qbx0 := bx.c0
  have qbx1 := bx.c1
  have qbxl := bx.lt
  try simp only at qbx0 qbx1
  go_wp2_with fail
  refine (Meet_ok La Lb sa sb _ _ _ k1 k2).mono ?_
  rintro e w2 ⟨M, sM, pM, u2, rfl, k4, B2⟩
  clear qbx0 qbx1 qbxl
  have D2 := D1.trans (B2.mono D1.size)
  replace k1 := k1.later B2
  replace k2 := k2.later B2
  replace k3 := k3.later B2
  replace bx := bx.later B2
  obtain ⟨xM, cM, rfl⟩ := k4.form
  have HM := Lib.hid pM
  clear pM
  have qbx0 := bx.c0
  have qbx1 := bx.c1
  have qbxl := bx.lt
  try simp only at qbx0 qbx1
  go_wp2_with fail
  refine (Minus_ok La Lb sa sb _ _ _ k1 k2).mono ?_
  rintro e w3 ⟨D, sD, pD, u3, rfl, k5, B3⟩
  clear qbx0 qbx1 qbxl
  have D3 := D2.trans (B3.mono D2.size)
  replace k1 := k1.later B3
  replace k2 := k2.later B3
  replace k3 := k3.later B3
  replace k4 := k4.later B3
  replace bx := bx.later B3
  obtain ⟨xD, cD, rfl⟩ := k5.form
  have HD := Lib.hid pD
  clear pD
  have qbx0 := bx.c0
  have qbx1 := bx.c1
  have qbxl := bx.lt
  try simp only at qbx0 qbx1
  go_wp2_with fail
  refine (Not_ok La sa 0 1024 (by decide) _ _ k1).mono ?_
  rintro e w4 ⟨X, sX, pX, u4, rfl, k6, B4⟩
  clear qbx0 qbx1 qbxl
  have D4 := D3.trans (B4.mono D3.size)
  replace k1 := k1.later B4
  replace k2 := k2.later B4
  replace k3 := k3.later B4
  replace k4 := k4.later B4
  replace k5 := k5.later B4
  replace bx := bx.later B4
  obtain ⟨xX, cX, rfl⟩ := k6.form
  have HX := Lib.hid pX
  clear pX
  have qbx0 := bx.c0
  have qbx1 := bx.c1
  have qbxl := bx.lt
  try simp only at qbx0 qbx1
  go_wp2_with fail
  refine (Not_ok Lb sb 0 1024 (by decide) _ _ k2).mono ?_
  rintro e w5 ⟨Y, sY, pY, u5, rfl, k7, B5⟩
  clear qbx0 qbx1 qbxl
  have D5 := D4.trans (B5.mono D4.size)
  replace k1 := k1.later B5
  replace k2 := k2.later B5
  replace k3 := k3.later B5
  replace k4 := k4.later B5
  replace k5 := k5.later B5
  replace k6 := k6.later B5
  replace bx := bx.later B5
  obtain ⟨xY, cY, rfl⟩ := k7.form
  have HY := Lib.hid pY
  clear pY
  have qbx0 := bx.c0
  have qbx1 := bx.c1
  have qbxl := bx.lt
  try simp only at qbx0 qbx1
  go_wp2_with fail
  refine (Not_ok U sU 0 1024 (by decide) _ _ k3).mono ?_
  rintro e w6 ⟨Z, sZ, pZ, u6, rfl, k8, B6⟩
  clear qbx0 qbx1 qbxl
  have D6 := D5.trans (B6.mono D5.size)
  replace k1 := k1.later B6
  replace k2 := k2.later B6
  replace k3 := k3.later B6
  replace k4 := k4.later B6
  replace k5 := k5.later B6
  replace k6 := k6.later B6
  replace k7 := k7.later B6
  replace bx := bx.later B6
  obtain ⟨xZ, cZ, rfl⟩ := k8.form
  have HZ := Lib.hid pZ
  clear pZ
  have qbx0 := bx.c0
  have qbx1 := bx.c1
  have qbxl := bx.lt
  try simp only at qbx0 qbx1
  go_wp2_with fail
  refine (Check_is _ (toI U) (fit_nat U sU.val) (by have := set_len sU; rw [toI_len]; omega) 0 (chkS_set sU) _ k3).mono ?_
  rintro e w7 ⟨rfl, B7⟩
  clear qbx0 qbx1 qbxl
  have D7 := D6.trans (B7.mono D6.size)
  replace k1 := k1.later B7
  replace k2 := k2.later B7
  replace k3 := k3.later B7
  replace k4 := k4.later B7
  replace k5 := k5.later B7
  replace k6 := k6.later B7
  replace k7 := k7.later B7
  replace k8 := k8.later B7
  replace bx := bx.later B7
  have qbx0 := bx.c0
  have qbx1 := bx.c1
  have qbxl := bx.lt
  try simp only at qbx0 qbx1
  go_wp2_with fail
  refine (Check_is _ (toI M) (fit_nat M sM.val) (by have := set_len sM; rw [toI_len]; omega) 0 (chkS_set sM) _ k4).mono ?_
  rintro e w8 ⟨rfl, B8⟩
  clear qbx0 qbx1 qbxl
  have D8 := D7.trans (B8.mono D7.size)
  replace k1 := k1.later B8
  replace k2 := k2.later B8
  replace k3 := k3.later B8
  replace k4 := k4.later B8
  replace k5 := k5.later B8
  replace k6 := k6.later B8
  replace k7 := k7.later B8
  replace k8 := k8.later B8
  replace bx := bx.later B8
  have qbx0 := bx.c0
  have qbx1 := bx.c1
  have qbxl := bx.lt
  try simp only at qbx0 qbx1
  go_wp2_with fail
  refine (Check_is _ (toI D) (fit_nat D sD.val) (by have := set_len sD; rw [toI_len]; omega) 0 (chkS_set sD) _ k5).mono ?_
  rintro e w9 ⟨rfl, B9⟩
  clear qbx0 qbx1 qbxl
  have D9 := D8.trans (B9.mono D8.size)
  replace k1 := k1.later B9
  replace k2 := k2.later B9
  replace k3 := k3.later B9
  replace k4 := k4.later B9
  replace k5 := k5.later B9
  replace k6 := k6.later B9
  replace k7 := k7.later B9
  replace k8 := k8.later B9
  replace bx := bx.later B9
  have qbx0 := bx.c0
  have qbx1 := bx.c1
  have qbxl := bx.lt
  try simp only at qbx0 qbx1
  go_wp2_with fail
  refine (Check_is _ (toI Z) (fit_nat Z sZ.val) (by have := set_len sZ; rw [toI_len]; omega) 0 (chkS_set sZ) _ k8).mono ?_
  rintro e w10 ⟨rfl, B10⟩
  clear qbx0 qbx1 qbxl
  have D10 := D9.trans (B10.mono D9.size)
  replace k1 := k1.later B10
  replace k2 := k2.later B10
  replace k3 := k3.later B10
  replace k4 := k4.later B10
  replace k5 := k5.later B10
  replace k6 := k6.later B10
  replace k7 := k7.later B10
  replace k8 := k8.later B10
  replace bx := bx.later B10
  have qbx0 := bx.c0
  have qbx1 := bx.c1
  have qbxl := bx.lt
  try simp only at qbx0 qbx1
  go_wp2_with fail
  clear qbx0 qbx1 qbxl
  obtain ⟨WP, hWP⟩ : ∃ x, w10.alloc (.cells #[.int .i64 (P : Int), .int .i64 1] 31) = x := ⟨_, rfl⟩
  have BP : Below w10.heap.size w10 WP := by rw [← hWP]; exact (Below.refl _ _).alloc (Nat.le_refl _) _
  have bp : XBox WP w10.heap.size ((P : Int), ((1 : Nat) : Int)) := by rw [← hWP]; exact XBox.new w10 ((P : Int), ((1 : Nat) : Int))
  rw [hWP]
  clear hWP bx
  have DP := D10.trans (BP.mono D10.size)
  replace k1 := k1.later BP
  replace k2 := k2.later BP
  replace k3 := k3.later BP
  replace k4 := k4.later BP
  replace k5 := k5.later BP
  replace k6 := k6.later BP
  replace k7 := k7.later BP
  replace k8 := k8.later BP
  obtain ⟨K, hK⟩ : ∃ K, w10.heap.size = K := ⟨_, rfl⟩
  rw [hK] at bp
  rw [hK]
  clear hK
  have EU : inS U P = (a || b) := by rw [HU.out, HA.out, HB.out]
  have EM : inS M P = (a && b) := by rw [HM.out P hP2, HA.out, HB.out]
  have ED : inS D P = (a && !b) := by rw [HD.out P hP2, HA.out, HB.out]
  have EZ : inS Z P = !(a || b) := by rw [HZ.out, EU]; simp [hP2]
  have FU := Lib.hid EU
  have FM := Lib.hid EM
  have FD := Lib.hid ED
  have FZ := Lib.hid EZ
  clear EU EM ED EZ
  cases a <;> cases b
  all_goals
    have qbp0 := bp.c0
    have qbp1 := bp.c1
    have qbpl := bp.lt
    try simp only at qbp0 qbp1
    go_wp2_with fail
    refine (Has_ok La sa P 1 hP1 _ _ k1).mono ?_
    rintro e w11 ⟨rfl, B11⟩
    clear qbp0 qbp1 qbpl
    have D11 := DP.trans (B11.mono DP.size)
    replace k1 := k1.later B11
    replace k2 := k2.later B11
    replace k3 := k3.later B11
    replace k4 := k4.later B11
    replace k5 := k5.later B11
    replace k6 := k6.later B11
    replace k7 := k7.later B11
    replace k8 := k8.later B11
    replace bp := bp.later B11
    rw [any_has, HA.out]
    have qbp0 := bp.c0
    have qbp1 := bp.c1
    have qbpl := bp.lt
    try simp only at qbp0 qbp1
    go_wp2_with fail
    refine (Has_ok Lb sb P 1 hP1 _ _ k2).mono ?_
    rintro e w12 ⟨rfl, B12⟩
    clear qbp0 qbp1 qbpl
    have D12 := D11.trans (B12.mono D11.size)
    replace k1 := k1.later B12
    replace k2 := k2.later B12
    replace k3 := k3.later B12
    replace k4 := k4.later B12
    replace k5 := k5.later B12
    replace k6 := k6.later B12
    replace k7 := k7.later B12
    replace k8 := k8.later B12
    replace bp := bp.later B12
    rw [any_has, HB.out]
    have qbp0 := bp.c0
    have qbp1 := bp.c1
    have qbpl := bp.lt
    try simp only at qbp0 qbp1
    go_wp2_with fail
    refine (Has_ok U sU P 1 hP1 _ _ k3).mono ?_
    rintro e w13 ⟨rfl, B13⟩
    clear qbp0 qbp1 qbpl
    have D13 := D12.trans (B13.mono D12.size)
    replace k1 := k1.later B13
    replace k2 := k2.later B13
    replace k3 := k3.later B13
    replace k4 := k4.later B13
    replace k5 := k5.later B13
    replace k6 := k6.later B13
    replace k7 := k7.later B13
    replace k8 := k8.later B13
    replace bp := bp.later B13
    rw [any_has, FU.out]
    have qbp0 := bp.c0
    have qbp1 := bp.c1
    have qbpl := bp.lt
    try simp only at qbp0 qbp1
    go_wp2_with fail
    refine (Has_ok M sM P 1 hP1 _ _ k4).mono ?_
    rintro e w14 ⟨rfl, B14⟩
    clear qbp0 qbp1 qbpl
    have D14 := D13.trans (B14.mono D13.size)
    replace k1 := k1.later B14
    replace k2 := k2.later B14
    replace k3 := k3.later B14
    replace k4 := k4.later B14
    replace k5 := k5.later B14
    replace k6 := k6.later B14
    replace k7 := k7.later B14
    replace k8 := k8.later B14
    replace bp := bp.later B14
    rw [any_has, FM.out]
    have qbp0 := bp.c0
    have qbp1 := bp.c1
    have qbpl := bp.lt
    try simp only at qbp0 qbp1
    go_wp2_with fail
    refine (Has_ok D sD P 1 hP1 _ _ k5).mono ?_
    rintro e w15 ⟨rfl, B15⟩
    clear qbp0 qbp1 qbpl
    have D15 := D14.trans (B15.mono D14.size)
    replace k1 := k1.later B15
    replace k2 := k2.later B15
    replace k3 := k3.later B15
    replace k4 := k4.later B15
    replace k5 := k5.later B15
    replace k6 := k6.later B15
    replace k7 := k7.later B15
    replace k8 := k8.later B15
    replace bp := bp.later B15
    rw [any_has, FD.out]
    have qbp0 := bp.c0
    have qbp1 := bp.c1
    have qbpl := bp.lt
    try simp only at qbp0 qbp1
    go_wp2_with fail
    refine (Has_ok Z sZ P 1 hP1 _ _ k8).mono ?_
    rintro e w16 ⟨rfl, B16⟩
    clear qbp0 qbp1 qbpl
    have D16 := D15.trans (B16.mono D15.size)
    replace k1 := k1.later B16
    replace k2 := k2.later B16
    replace k3 := k3.later B16
    replace k4 := k4.later B16
    replace k5 := k5.later B16
    replace k6 := k6.later B16
    replace k7 := k7.later B16
    replace k8 := k8.later B16
    replace bp := bp.later B16
    rw [any_has, FZ.out]
    clear bp
    go_wp2_with fail
    refine (Meet_ok La Y sa sY _ _ _ k1 k7).mono ?_
    rintro e w17 ⟨V, sV, pV, u17, rfl, k9, B17⟩
    have D17 := D16.trans (B17.mono D16.size)
    replace k1 := k1.later B17
    replace k2 := k2.later B17
    replace k3 := k3.later B17
    replace k4 := k4.later B17
    replace k5 := k5.later B17
    replace k6 := k6.later B17
    replace k7 := k7.later B17
    replace k8 := k8.later B17
    obtain ⟨xV, cV, rfl⟩ := k9.form
    have HV := Lib.hid pV
    clear pV
    go_wp2_with fail
    refine (Meet_ok X Y sX sY _ _ _ k6 k7).mono ?_
    rintro e w18 ⟨T, sT, pT, u18, rfl, k10, B18⟩
    have D18 := D17.trans (B18.mono D17.size)
    replace k1 := k1.later B18
    replace k2 := k2.later B18
    replace k3 := k3.later B18
    replace k4 := k4.later B18
    replace k5 := k5.later B18
    replace k6 := k6.later B18
    replace k7 := k7.later B18
    replace k8 := k8.later B18
    replace k9 := k9.later B18
    obtain ⟨xT, cT, rfl⟩ := k10.form
    have HT := Lib.hid pT
    clear pT
    go_wp2_with fail
    refine (Union_ok La M sa sM _ _ _ k1 k4).mono ?_
    rintro e w19 ⟨Q, sQ, pQ, u19, rfl, k11, B19⟩
    have D19 := D18.trans (B19.mono D18.size)
    replace k1 := k1.later B19
    replace k2 := k2.later B19
    replace k3 := k3.later B19
    replace k4 := k4.later B19
    replace k5 := k5.later B19
    replace k6 := k6.later B19
    replace k7 := k7.later B19
    replace k8 := k8.later B19
    replace k9 := k9.later B19
    replace k10 := k10.later B19
    obtain ⟨xQ, cQ, rfl⟩ := k11.form
    have HQ := Lib.hid pQ
    clear pQ
    go_wp2_with fail
    refine (Meet_ok La U sa sU _ _ _ k1 k3).mono ?_
    rintro e w20 ⟨O, sO, pO, u20, rfl, k12, B20⟩
    have D20 := D19.trans (B20.mono D19.size)
    replace k1 := k1.later B20
    replace k2 := k2.later B20
    replace k3 := k3.later B20
    replace k4 := k4.later B20
    replace k5 := k5.later B20
    replace k6 := k6.later B20
    replace k7 := k7.later B20
    replace k8 := k8.later B20
    replace k9 := k9.later B20
    replace k10 := k10.later B20
    replace k11 := k11.later B20
    obtain ⟨xO, cO, rfl⟩ := k12.form
    have HO := Lib.hid pO
    clear pO
    have eV : V = D := set_eq sV sD fun p hp => by rw [HV.out p hp, HD.out p hp, HY.out]; simp [hp]
    have eT : T = Z := set_eq sT sZ fun p hp => by rw [HT.out p hp, HZ.out, HX.out, HY.out, HU.out]; simp [hp]
    have eQ : Q = La := set_eq sQ sa fun p hp => by rw [HQ.out p, HM.out p hp]; cases inS La p <;> simp
    have eO : O = La := set_eq sO sa fun p hp => by rw [HO.out p hp, HU.out]; cases inS La p <;> simp
    rw [eV] at k9
    rw [eT] at k10
    rw [eQ] at k11
    rw [eO] at k12
    rw [eV, eT, eQ, eO]
    clear eV eT eQ eO HU HM HD HX HY HZ HV HT HQ HO FU FM FD FZ HA HB sV sT sQ sO
    go_wp2_with fail
    refine (Same_eq D (by have := set_len sD; omega) _ _ _ k9 k5).mono ?_
    rintro e w21 ⟨rfl, B21⟩
    have D21 := D20.trans (B21.mono D20.size)
    replace k1 := k1.later B21
    replace k2 := k2.later B21
    replace k3 := k3.later B21
    replace k4 := k4.later B21
    replace k5 := k5.later B21
    replace k6 := k6.later B21
    replace k7 := k7.later B21
    replace k8 := k8.later B21
    replace k9 := k9.later B21
    replace k10 := k10.later B21
    replace k11 := k11.later B21
    replace k12 := k12.later B21
    go_wp2_with fail
    refine (Same_eq Z (by have := set_len sZ; omega) _ _ _ k10 k8).mono ?_
    rintro e w22 ⟨rfl, B22⟩
    have D22 := D21.trans (B22.mono D21.size)
    replace k1 := k1.later B22
    replace k2 := k2.later B22
    replace k3 := k3.later B22
    replace k4 := k4.later B22
    replace k5 := k5.later B22
    replace k6 := k6.later B22
    replace k7 := k7.later B22
    replace k8 := k8.later B22
    replace k9 := k9.later B22
    replace k10 := k10.later B22
    replace k11 := k11.later B22
    replace k12 := k12.later B22
    go_wp2_with fail
    refine (Same_eq La (by have := set_len sa; omega) _ _ _ k11 k1).mono ?_
    rintro e w23 ⟨rfl, B23⟩
    have D23 := D22.trans (B23.mono D22.size)
    replace k1 := k1.later B23
    replace k2 := k2.later B23
    replace k3 := k3.later B23
    replace k4 := k4.later B23
    replace k5 := k5.later B23
    replace k6 := k6.later B23
    replace k7 := k7.later B23
    replace k8 := k8.later B23
    replace k9 := k9.later B23
    replace k10 := k10.later B23
    replace k11 := k11.later B23
    replace k12 := k12.later B23
    go_wp2_with fail
    refine (Same_eq La (by have := set_len sa; omega) _ _ _ k12 k1).mono ?_
    rintro e w24 ⟨rfl, B24⟩
    have D24 := D23.trans (B24.mono D23.size)
    replace k1 := k1.later B24
    replace k2 := k2.later B24
    replace k3 := k3.later B24
    replace k4 := k4.later B24
    replace k5 := k5.later B24
    replace k6 := k6.later B24
    replace k7 := k7.later B24
    replace k8 := k8.later B24
    replace k9 := k9.later B24
    replace k10 := k10.later B24
    replace k11 := k11.later B24
    replace k12 := k12.later B24
    go_wp2_with fail
    refine (awake_is _).mono ?_
    rintro e w25 ⟨rfl, B25⟩
    have D25 := D24.trans (B25.mono D24.size)
    replace k1 := k1.later B25
    replace k2 := k2.later B25
    replace k3 := k3.later B25
    replace k4 := k4.later B25
    replace k5 := k5.later B25
    replace k6 := k6.later B25
    replace k7 := k7.later B25
    replace k8 := k8.later B25
    replace k9 := k9.later B25
    replace k10 := k10.later B25
    replace k11 := k11.later B25
    replace k12 := k12.later B25
    go_wp2_with fail
    go_ret
    exact ⟨rfl, D25⟩
end Go.Proofs.Ytgljfiihaehedaa
