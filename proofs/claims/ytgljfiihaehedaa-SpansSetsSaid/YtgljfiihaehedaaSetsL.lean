/- The laws SpansOf and SpansSets. -/
import Derived.Test.YtgljfiihaehedaaTwo
namespace Go.Proofs.Ytgljfiihaehedaa
open Go.RowKit
attribute [local go_sem] Oper.semAt_some

set_option maxRecDepth 100000 in
set_option maxHeartbeats 4000000 in
theorem law_of (u : Value) (l : List SpI) (fl : Fit l) (w : World) (h : SAt w u l) :
    Calls Try.prog 3 #[u] w fun e w' => e = .returned (.bool true) ∧ Below w.heap.size w w' := by
  have h64 := len64 h
  obtain ⟨M, c, hM2, hc0, hO, hR⟩ := two_Of l fl h64
  have HO := Lib.hid hO
  have HR := Lib.hid hR
  have D0 : Below w.heap.size w w := Below.refl _ _
  obtain ⟨ua, uc, rfl⟩ := h.form
  obtain ⟨k, hk⟩ : ∃ k, chkS l = k := ⟨_, rfl⟩
  have HK := Lib.hid hk
  clear hO hR hk
  cases hg : decide (2100 < l.length)
  · have HG := Lib.hid hg
    clear hg
    go_enter Try.func3, Try.ntmps3
    go_wp2_with fail
    refine (long_is l false HG.out _ _ h).mono ?_
    rintro e w1 ⟨rfl, B1⟩
    have D1 := D0.trans (B1.mono D0.size)
    replace h := h.later B1
    go_wp2_with fail
    refine (HO.out _ _ h).mono ?_
    rintro e w2 ⟨x1, rfl, r1, B2⟩
    have D2 := D1.trans (B2.mono D1.size)
    replace h := h.later B2
    obtain ⟨a1, c1, rfl⟩ := r1.form
    go_wp2_with fail
    refine (HR.out _ _ h).mono ?_
    rintro e w3 ⟨x2, rfl, r2, B3⟩
    have D3 := D2.trans (B3.mono D2.size)
    replace h := h.later B3
    replace r1 := r1.later B3
    obtain ⟨a2, c2, rfl⟩ := r2.form
    go_wp2_with fail
    refine (Check_is _ l fl h64 k HK.out _ h).mono ?_
    rintro e w4 ⟨rfl, B4⟩
    have D4 := D3.trans (B4.mono D3.size)
    replace h := h.later B4
    replace r1 := r1.later B4
    replace r2 := r2.later B4
    go_wp2_with fail
    refine (RCheck_is _ l fl h64 k HK.out _ h).mono ?_
    rintro e w5 ⟨rfl, B5⟩
    have D5 := D4.trans (B5.mono D4.size)
    replace h := h.later B5
    replace r1 := r1.later B5
    replace r2 := r2.later B5
    go_wp2_with fail
    refine (Same_eq M (by omega) _ _ _ r1 r2).mono ?_
    rintro e w6 ⟨rfl, B6⟩
    have D6 := D5.trans (B6.mono D5.size)
    replace h := h.later B6
    replace r1 := r1.later B6
    replace r2 := r2.later B6
    by_cases h0 : c = 0
    · have sM := hc0 h0
      subst h0
      go_wp2_with fail
      refine (Check_is _ (toI M) (fit_nat M sM.val) (by rw [toI_len]; omega) 0 (chkS_set sM) _ r1).mono ?_
      rintro e w7 ⟨rfl, B7⟩
      have D7 := D6.trans (B7.mono D6.size)
      replace h := h.later B7
      replace r1 := r1.later B7
      replace r2 := r2.later B7
      go_wp2_with fail
      refine (awake_is _).mono ?_
      rintro e w8 ⟨rfl, B8⟩
      have D8 := D7.trans (B8.mono D7.size)
      replace h := h.later B8
      replace r1 := r1.later B8
      replace r2 := r2.later B8
      go_wp2_with fail
      go_ret
      exact ⟨rfl, D8⟩
    · have hq : (c != 0) = true := by simp [h0]
      go_wp2_with fail
      refine (awake_is _).mono ?_
      rintro e w7 ⟨rfl, B7⟩
      have D7 := D6.trans (B7.mono D6.size)
      replace h := h.later B7
      replace r1 := r1.later B7
      replace r2 := r2.later B7
      go_wp2_with fail
      go_ret
      exact ⟨rfl, D7⟩
  · have HG := Lib.hid hg
    clear hg
    go_enter Try.func3, Try.ntmps3
    go_wp2_with fail
    refine (long_is l true HG.out _ _ h).mono ?_
    rintro e w1 ⟨rfl, B1⟩
    have D1 := D0.trans (B1.mono D0.size)
    replace h := h.later B1
    go_wp2_with fail
    refine (awake_is _).mono ?_
    rintro e w2 ⟨rfl, B2⟩
    have D2 := D1.trans (B2.mono D1.size)
    replace h := h.later B2
    go_wp2_with fail
    go_ret
    exact ⟨rfl, D2⟩

set_option maxRecDepth 100000 in
set_option maxHeartbeats 4000000 in
theorem law_sets (u v : Value) (la lb : List SpI) (fa : Fit la) (fb : Fit lb) (x : SpI) (fx : I64 x.1) (w : World) (h1 : SAt w u la) (h2 : SAt w v lb) :
    Calls Try.prog 4 #[u, v, sv x] w fun e w' => e = .returned (.bool true) ∧ Below w.heap.size w w' := by
  obtain ⟨M1, c1, hn1, hO1, hR1⟩ := two_Union la lb fa fb
  obtain ⟨M2, c2, hn2, hO2, hR2⟩ := two_Meet la lb fa fb
  obtain ⟨M3, c3, hn3, hO3, hR3⟩ := two_Minus la lb fa fb
  obtain ⟨M4, c4, hn4, hO4, hR4⟩ := two_Not la fa x fx
  obtain ⟨p, q⟩ := x
  have O1 := Lib.hid hO1
  have R1 := Lib.hid hR1
  have O2 := Lib.hid hO2
  have R2 := Lib.hid hR2
  have O3 := Lib.hid hO3
  have R3 := Lib.hid hR3
  have O4 := Lib.hid hO4
  have R4 := Lib.hid hR4
  obtain ⟨WX, hWX⟩ : ∃ y, w.alloc (.cells #[.int .i64 p, .int .i64 q] 31) = y := ⟨_, rfl⟩
  have D0 : Below w.heap.size w WX := by rw [← hWX]; exact (Below.refl _ _).alloc (Nat.le_refl _) _
  have bx : XBox WX w.heap.size (p, q) := by rw [← hWX]; exact XBox.new w (p, q)
  have HW := Lib.hid hWX
  replace h1 := h1.later D0
  replace h2 := h2.later D0
  obtain ⟨ua, uc, rfl⟩ := h1.form
  obtain ⟨va, vc, rfl⟩ := h2.form
  clear hO1 hR1 hO2 hR2 hO3 hR3 hO4 hR4 hWX
  cases hg : decide (2100 < la.length)
  · have HG := Lib.hid hg
    clear hg
    cases hg2 : decide (2100 < lb.length)
    · have HG2 := Lib.hid hg2
      clear hg2
      go_enter Try.func4, Try.ntmps4
      have qbx0 := bx.c0
      have qbx1 := bx.c1
      have qbxl := bx.lt
      try simp only at qbx0 qbx1
      go_wp2_with fail
      try rw [HW.out]
      refine (long_is la false HG.out _ _ h1).mono ?_
      rintro e w1 ⟨rfl, B1⟩
      clear qbx0 qbx1 qbxl
      have D1 := D0.trans (B1.mono D0.size)
      replace h1 := h1.later B1
      replace h2 := h2.later B1
      replace bx := bx.later B1
      have qbx0 := bx.c0
      have qbx1 := bx.c1
      have qbxl := bx.lt
      try simp only at qbx0 qbx1
      go_wp2_with fail
      refine (long_is lb false HG2.out _ _ h2).mono ?_
      rintro e w2 ⟨rfl, B2⟩
      clear qbx0 qbx1 qbxl
      have D2 := D1.trans (B2.mono D1.size)
      replace h1 := h1.later B2
      replace h2 := h2.later B2
      replace bx := bx.later B2
      have qbx0 := bx.c0
      have qbx1 := bx.c1
      have qbxl := bx.lt
      try simp only at qbx0 qbx1
      go_wp2_with fail
      refine (O1.out _ _ _ h1 h2).mono ?_
      rintro e w3 ⟨x3, rfl, r3, B3⟩
      clear qbx0 qbx1 qbxl
      have D3 := D2.trans (B3.mono D2.size)
      replace h1 := h1.later B3
      replace h2 := h2.later B3
      replace bx := bx.later B3
      obtain ⟨a3, e3, rfl⟩ := r3.form
      have qbx0 := bx.c0
      have qbx1 := bx.c1
      have qbxl := bx.lt
      try simp only at qbx0 qbx1
      go_wp2_with fail
      refine (R1.out _ _ _ h1 h2).mono ?_
      rintro e w4 ⟨x4, rfl, r4, B4⟩
      clear qbx0 qbx1 qbxl
      have D4 := D3.trans (B4.mono D3.size)
      replace h1 := h1.later B4
      replace h2 := h2.later B4
      replace r3 := r3.later B4
      replace bx := bx.later B4
      obtain ⟨a4, e4, rfl⟩ := r4.form
      have qbx0 := bx.c0
      have qbx1 := bx.c1
      have qbxl := bx.lt
      try simp only at qbx0 qbx1
      go_wp2_with fail
      refine (Same_eq M1 (by omega) _ _ _ r3 r4).mono ?_
      rintro e w5 ⟨rfl, B5⟩
      clear qbx0 qbx1 qbxl
      have D5 := D4.trans (B5.mono D4.size)
      replace h1 := h1.later B5
      replace h2 := h2.later B5
      replace r3 := r3.later B5
      replace r4 := r4.later B5
      replace bx := bx.later B5
      clear r3 r4
      have qbx0 := bx.c0
      have qbx1 := bx.c1
      have qbxl := bx.lt
      try simp only at qbx0 qbx1
      go_wp2_with fail
      refine (O2.out _ _ _ h1 h2).mono ?_
      rintro e w6 ⟨x6, rfl, r6, B6⟩
      clear qbx0 qbx1 qbxl
      have D6 := D5.trans (B6.mono D5.size)
      replace h1 := h1.later B6
      replace h2 := h2.later B6
      replace bx := bx.later B6
      obtain ⟨a6, e6, rfl⟩ := r6.form
      have qbx0 := bx.c0
      have qbx1 := bx.c1
      have qbxl := bx.lt
      try simp only at qbx0 qbx1
      go_wp2_with fail
      refine (R2.out _ _ _ h1 h2).mono ?_
      rintro e w7 ⟨x7, rfl, r7, B7⟩
      clear qbx0 qbx1 qbxl
      have D7 := D6.trans (B7.mono D6.size)
      replace h1 := h1.later B7
      replace h2 := h2.later B7
      replace r6 := r6.later B7
      replace bx := bx.later B7
      obtain ⟨a7, e7, rfl⟩ := r7.form
      have qbx0 := bx.c0
      have qbx1 := bx.c1
      have qbxl := bx.lt
      try simp only at qbx0 qbx1
      go_wp2_with fail
      refine (Same_eq M2 (by omega) _ _ _ r6 r7).mono ?_
      rintro e w8 ⟨rfl, B8⟩
      clear qbx0 qbx1 qbxl
      have D8 := D7.trans (B8.mono D7.size)
      replace h1 := h1.later B8
      replace h2 := h2.later B8
      replace r6 := r6.later B8
      replace r7 := r7.later B8
      replace bx := bx.later B8
      clear r6 r7
      have qbx0 := bx.c0
      have qbx1 := bx.c1
      have qbxl := bx.lt
      try simp only at qbx0 qbx1
      go_wp2_with fail
      refine (O3.out _ _ _ h1 h2).mono ?_
      rintro e w9 ⟨x9, rfl, r9, B9⟩
      clear qbx0 qbx1 qbxl
      have D9 := D8.trans (B9.mono D8.size)
      replace h1 := h1.later B9
      replace h2 := h2.later B9
      replace bx := bx.later B9
      obtain ⟨a9, e9, rfl⟩ := r9.form
      have qbx0 := bx.c0
      have qbx1 := bx.c1
      have qbxl := bx.lt
      try simp only at qbx0 qbx1
      go_wp2_with fail
      refine (R3.out _ _ _ h1 h2).mono ?_
      rintro e w10 ⟨x10, rfl, r10, B10⟩
      clear qbx0 qbx1 qbxl
      have D10 := D9.trans (B10.mono D9.size)
      replace h1 := h1.later B10
      replace h2 := h2.later B10
      replace r9 := r9.later B10
      replace bx := bx.later B10
      obtain ⟨a10, e10, rfl⟩ := r10.form
      have qbx0 := bx.c0
      have qbx1 := bx.c1
      have qbxl := bx.lt
      try simp only at qbx0 qbx1
      go_wp2_with fail
      refine (O4.out _ _ h1).mono ?_
      rintro e w11 ⟨x11, rfl, r11, B11⟩
      clear qbx0 qbx1 qbxl
      have D11 := D10.trans (B11.mono D10.size)
      replace h1 := h1.later B11
      replace h2 := h2.later B11
      replace r9 := r9.later B11
      replace r10 := r10.later B11
      replace bx := bx.later B11
      obtain ⟨a11, e11, rfl⟩ := r11.form
      have qbx0 := bx.c0
      have qbx1 := bx.c1
      have qbxl := bx.lt
      try simp only at qbx0 qbx1
      go_wp2_with fail
      refine (R4.out _ _ h1).mono ?_
      rintro e w12 ⟨x12, rfl, r12, B12⟩
      clear qbx0 qbx1 qbxl
      have D12 := D11.trans (B12.mono D11.size)
      replace h1 := h1.later B12
      replace h2 := h2.later B12
      replace r9 := r9.later B12
      replace r10 := r10.later B12
      replace r11 := r11.later B12
      replace bx := bx.later B12
      obtain ⟨a12, e12, rfl⟩ := r12.form
      have qbx0 := bx.c0
      have qbx1 := bx.c1
      have qbxl := bx.lt
      try simp only at qbx0 qbx1
      go_wp2_with fail
      refine (Same_eq M3 (by omega) _ _ _ r9 r10).mono ?_
      rintro e w13 ⟨rfl, B13⟩
      clear qbx0 qbx1 qbxl
      have D13 := D12.trans (B13.mono D12.size)
      replace h1 := h1.later B13
      replace h2 := h2.later B13
      replace r9 := r9.later B13
      replace r10 := r10.later B13
      replace r11 := r11.later B13
      replace r12 := r12.later B13
      replace bx := bx.later B13
      have qbx0 := bx.c0
      have qbx1 := bx.c1
      have qbxl := bx.lt
      try simp only at qbx0 qbx1
      go_wp2_with fail
      refine (Same_eq M4 (by omega) _ _ _ r11 r12).mono ?_
      rintro e w14 ⟨rfl, B14⟩
      clear qbx0 qbx1 qbxl
      have D14 := D13.trans (B14.mono D13.size)
      replace h1 := h1.later B14
      replace h2 := h2.later B14
      replace r9 := r9.later B14
      replace r10 := r10.later B14
      replace r11 := r11.later B14
      replace r12 := r12.later B14
      replace bx := bx.later B14
      have qbx0 := bx.c0
      have qbx1 := bx.c1
      have qbxl := bx.lt
      try simp only at qbx0 qbx1
      go_wp2_with fail
      refine (awake_is _).mono ?_
      rintro e w15 ⟨rfl, B15⟩
      clear qbx0 qbx1 qbxl
      have D15 := D14.trans (B15.mono D14.size)
      replace h1 := h1.later B15
      replace h2 := h2.later B15
      replace r9 := r9.later B15
      replace r10 := r10.later B15
      replace r11 := r11.later B15
      replace r12 := r12.later B15
      replace bx := bx.later B15
      have qbx0 := bx.c0
      have qbx1 := bx.c1
      have qbxl := bx.lt
      try simp only at qbx0 qbx1
      go_wp2_with fail
      go_ret
      exact ⟨rfl, D15⟩
    · have HG2 := Lib.hid hg2
      clear hg2
      go_enter Try.func4, Try.ntmps4
      have qbx0 := bx.c0
      have qbx1 := bx.c1
      have qbxl := bx.lt
      try simp only at qbx0 qbx1
      go_wp2_with fail
      try rw [HW.out]
      refine (long_is la false HG.out _ _ h1).mono ?_
      rintro e w1 ⟨rfl, B1⟩
      clear qbx0 qbx1 qbxl
      have D1 := D0.trans (B1.mono D0.size)
      replace h1 := h1.later B1
      replace h2 := h2.later B1
      replace bx := bx.later B1
      have qbx0 := bx.c0
      have qbx1 := bx.c1
      have qbxl := bx.lt
      try simp only at qbx0 qbx1
      go_wp2_with fail
      refine (long_is lb true HG2.out _ _ h2).mono ?_
      rintro e w2 ⟨rfl, B2⟩
      clear qbx0 qbx1 qbxl
      have D2 := D1.trans (B2.mono D1.size)
      replace h1 := h1.later B2
      replace h2 := h2.later B2
      replace bx := bx.later B2
      have qbx0 := bx.c0
      have qbx1 := bx.c1
      have qbxl := bx.lt
      try simp only at qbx0 qbx1
      go_wp2_with fail
      refine (awake_is _).mono ?_
      rintro e w3 ⟨rfl, B3⟩
      clear qbx0 qbx1 qbxl
      have D3 := D2.trans (B3.mono D2.size)
      replace h1 := h1.later B3
      replace h2 := h2.later B3
      replace bx := bx.later B3
      have qbx0 := bx.c0
      have qbx1 := bx.c1
      have qbxl := bx.lt
      try simp only at qbx0 qbx1
      go_wp2_with fail
      go_ret
      exact ⟨rfl, D3⟩
  · have HG := Lib.hid hg
    clear hg
    go_enter Try.func4, Try.ntmps4
    have qbx0 := bx.c0
    have qbx1 := bx.c1
    have qbxl := bx.lt
    try simp only at qbx0 qbx1
    go_wp2_with fail
    try rw [HW.out]
    refine (long_is la true HG.out _ _ h1).mono ?_
    rintro e w1 ⟨rfl, B1⟩
    clear qbx0 qbx1 qbxl
    have D1 := D0.trans (B1.mono D0.size)
    replace h1 := h1.later B1
    replace h2 := h2.later B1
    replace bx := bx.later B1
    have qbx0 := bx.c0
    have qbx1 := bx.c1
    have qbxl := bx.lt
    try simp only at qbx0 qbx1
    go_wp2_with fail
    refine (awake_is _).mono ?_
    rintro e w2 ⟨rfl, B2⟩
    clear qbx0 qbx1 qbxl
    have D2 := D1.trans (B2.mono D1.size)
    replace h1 := h1.later B2
    replace h2 := h2.later B2
    replace bx := bx.later B2
    have qbx0 := bx.c0
    have qbx1 := bx.c1
    have qbxl := bx.lt
    try simp only at qbx0 qbx1
    go_wp2_with fail
    go_ret
    exact ⟨rfl, D2⟩
end Go.Proofs.Ytgljfiihaehedaa
