/- The other way's count, Has, Meets, Count. -/
import Derived.Test.YtgljfiihaehedaaRComb
import Derived.Test.YtgljfiihaehedaaAskM
namespace Go.Proofs.Ytgljfiihaehedaa
open Go.RowKit
attribute [local go_sem] Oper.semAt_some

set_option maxRecDepth 100000 in
set_option maxHeartbeats 4000000 in
theorem rcount_is (L : List Sp) (hL : ValL L) (hl : L.length ≤ 5000) (p q : Nat) (hpq : p + q ≤ 1024) (v : Value) (w : World) (h : SAt w v (toI L)) :
    Calls Try.prog 61 #[v, .agg #[.int .i64 p, .int .i64 q]] w fun e w' => e = .returned (.int .i64 (cntF (inS L) p q : Nat)) ∧ Below w.heap.size w w' := by
  obtain ⟨WX, hWX⟩ : ∃ y, w.alloc (.cells #[.int .i64 (p : Int), .int .i64 (q : Int)] 31) = y := ⟨_, rfl⟩
  have D0 : Below w.heap.size w WX := by rw [← hWX]; exact (Below.refl _ _).alloc (Nat.le_refl _) _
  have bx : XBox WX w.heap.size ((p : Int), (q : Int)) := by rw [← hWX]; exact XBox.new w ((p : Int), (q : Int))
  have HW := Lib.hid hWX
  have h1 := h.later D0
  have hpq1 : (p : Int) + (q : Int) ≤ 1024 := by omega
  clear hWX h
  go_enter Try.func61, Try.ntmps61
  go_wp2_with fail
  try rw [HW.out]
  refine (Marks_is L hL hl _ _ h1).mono ?_
  rintro e w1 ⟨rfl, B1⟩
  have D1 := D0.trans (B1.mono D0.size)
  have b1 := bx.later B1
  have x0 := b1.c0
  have x1 := b1.c1
  have xl := b1.lt
  simp only at x0 x1
  obtain ⟨WA, hWA⟩ : ∃ y, w1.alloc (.cells Try.zeroCells69 69) = y := ⟨_, rfl⟩
  have DA : Below w1.heap.size w1 WA := by rw [← hWA]; exact (Below.refl _ _).alloc (Nat.le_refl _) _
  have aA : ABox WA w1.heap.size (fun _ => false) := by rw [← hWA]; unfold ABox; rw [← zero_mkA]; exact World.alloc_heap_new w1 _
  have bA := b1.later DA
  have aR := aA.row (inS L)
  have bR : XBox (WA.setRow w1.heap.size (mkA (inS L))) w.heap.size ((p : Int), (q : Int)) := (setRow_other WA _ _ _ (by omega)).trans bA
  have D2 := D1.trans (DA.mono D1.size)
  have DR := below_row D2 (g := w1.heap.size) D1.size (mkA (inS L))
  obtain ⟨WR, hWR⟩ : ∃ y, WA.setRow w1.heap.size (mkA (inS L)) = y := ⟨_, rfl⟩
  rw [hWR] at aR bR DR
  have z0 := bR.c0
  have z1 := bR.c1
  have zl := bR.lt
  simp only at z0 z1
  go_wp2_with (refine wpList_store_row rfl 69 _ _ rfl w1.heap.size (mkA (inS L)) rfl rfl 69 _ (by first | exact aA | (rw [hWA]; exact aA)) (by rw [mkA_size]; kernel_rfl) (by rw [mkA_size, mkA_size]) (mkA_one _) ?_)
  obtain ⟨S, hS⟩ : ∃ S, w1.heap.size = S := ⟨_, rfl⟩
  rw [hS] at aR ⊢
  clear hWA hWR x0 x1 xl b1 bA aA D1 D2 DA B1 bx h1 D0 z0 z1 zl
  go_loopw [6, 7] (fun s i wr => ∃ k : Nat, k ≤ q ∧ i = .int .i64 ((p + k : Nat) : Int) ∧ s = .int .i64 (cntF (inS L) p k : Nat) ∧ ABox wr S (inS L) ∧ XBox wr w.heap.size ((p : Int), (q : Int)) ∧ Below w.heap.size w wr) (fun _ i _ => p + q - (intOf i).toNat)
  case atStart => exact ⟨0, Nat.zero_le _, rfl, rfl, aR, bR, DR⟩
  case round =>
    clear aR bR DR hS
    obtain ⟨k, hk, rfl, rfl, aR, bR, hB⟩ := hrel
    have x0 := bR.c0
    have x1 := bR.c1
    have xl := bR.lt
    simp only at x0 x1
    obtain ⟨y, hy⟩ : ∃ y, p + k = y := ⟨_, rfl⟩
    have HY := Lib.hid hy
    have hsu := cntF_succ (inS L) p k
    have hle := cntF_le (inS L) p k
    obtain ⟨m, hm⟩ : ∃ m, cntF (inS L) p k = m := ⟨_, rfl⟩
    have HM := Lib.hid hm
    rw [hm, hy] at hsu
    rw [hm] at hle ⊢
    rw [hy]
    have HSU := Lib.hid hsu
    have hy2 : y ≤ 1024 := by omega
    by_cases hlt : k < q
    · have hyq : (y : Int) < (p : Int) + (q : Int) := by omega
      have hyd : decide ((y : Int) < (p : Int) + (q : Int)) = true := by simpa using hyq
      have hy3 : y < 1024 := by omega
      have hy4 : (y : Int) < 1024 := by omega
      have hal := arr_len
      have cA := aR.cell y hy3
      have al := aR.lt
      have hm4 : (m : Int) + 1 ≤ 1025 := by omega
      clear hm hsu hy
      cases hf : inS L y
      all_goals
        rw [hf] at cA
        have HF := Lib.hid hf
        clear hf
        go_wp2_with fail
        try (go_quiet (fail); go_wp2_with fail)
        go_roundw
        case rel => exact ⟨k + 1, by omega, by rw [← Nat.add_assoc, HY.out]; go_num, by rw [HSU.out, HF.out]; go_num, aR, bR, hB⟩
        case measure => simp [intOf]; omega
    · have hyq : ¬ (y : Int) < (p : Int) + (q : Int) := by omega
      have hyd : decide ((y : Int) < (p : Int) + (q : Int)) = false := by simpa using hyq
      have hkq : k = q := by omega
      clear hm hsu hy
      go_wp2_with fail
      try (go_quiet (fail); go_wp2_with fail)
      go_ret
      exact ⟨by rw [← hkq, HM.out]; rfl, hB⟩

set_option maxRecDepth 100000 in
set_option maxHeartbeats 1000000 in
theorem RHas_bad (l : List SpI) (p q : Int) (fl : Fit l) (fp : I64 p) (c : Int) (hc : withB l (p, q) = c) (h0 : c ≠ 0) (u : Value) (w : World) (h : SAt w u l) :
    Calls Try.prog 27 #[u, .agg #[.int .i64 p, .int .i64 q]] w fun e w' => e = .returned (.tuple #[.bool false, .int .i64 c]) ∧ Below w.heap.size w w' := by
  obtain ⟨wA, hwA⟩ : ∃ x, w.alloc (.cells #[.int .i64 p, .int .i64 q] 31) = x := ⟨_, rfl⟩
  have hAB : Below w.heap.size w wA := by rw [← hwA]; exact (Below.refl _ _).alloc (Nat.le_refl _) _
  have bA : XBox wA w.heap.size (p, q) := by rw [← hwA]; exact XBox.new w (p, q)
  have HW := Lib.hid hwA
  have hA := h.later hAB
  have HC := Lib.hid hc
  have hq : (c != 0) = true := by simp [h0]
  have x0 := bA.c0
  have x1 := bA.c1
  simp only at x0 x1
  clear hc h0 hwA
  go_enter Try.func27, Try.ntmps27
  go_wp2_with fail
  try rw [HW.out]
  refine (asked_is u l p q fl fp c HC.out _ hA).mono ?_
  rintro e w1 ⟨rfl, B1⟩
  go_wp2
  go_ret2
  exact ⟨rfl, hAB.trans (B1.mono hAB.size)⟩

set_option maxRecDepth 100000 in
set_option maxHeartbeats 1000000 in
theorem RHas_ok (L : List Sp) (hL : SetL 0 L) (p q : Nat) (hpq : 1 ≤ q ∧ p + q ≤ 1024) (v : Value) (w : World) (h : SAt w v (toI L)) :
    Calls Try.prog 27 #[v, .agg #[.int .i64 p, .int .i64 q]] w fun e w' => e = .returned (.tuple #[.bool (L.any (hasOne p q)), .int .i64 0]) ∧ Below w.heap.size w w' := by
  obtain ⟨wA, hwA⟩ : ∃ x, w.alloc (.cells #[.int .i64 (p : Int), .int .i64 (q : Int)] 31) = x := ⟨_, rfl⟩
  have hAB : Below w.heap.size w wA := by rw [← hwA]; exact (Below.refl _ _).alloc (Nat.le_refl _) _
  have bA : XBox wA w.heap.size ((p : Int), (q : Int)) := by rw [← hwA]; exact XBox.new w ((p : Int), (q : Int))
  have HW := Lib.hid hwA
  have hA := h.later hAB
  have hw0 : withB (toI L) ((p : Int), (q : Int)) = 0 := by unfold withB; rw [chkS_set hL, vld_of hpq.1 hpq.2]; rfl
  have H0 := Lib.hid hw0
  have hfp : I64 (p : Int) := by unfold I64; omega
  have HF := Lib.hid (fit_nat L hL.val)
  have hn := set_len hL
  rw [has_cnt L hL p q hpq.1]
  obtain ⟨m, hm⟩ : ∃ m, cntF (inS L) p q = m := ⟨_, rfl⟩
  have hml := cntF_le (inS L) p q
  rw [hm] at hml ⊢
  have HM := Lib.hid hm
  have h2 := hpq.2
  clear hwA hw0 hm
  go_enter Try.func27, Try.ntmps27
  go_wp2_with fail
  try rw [HW.out]
  refine (asked_is v (toI L) p q HF.out hfp 0 H0.out _ hA).mono ?_
  rintro e w1 ⟨rfl, B1⟩
  have b1 := bA.later B1
  have x0 := b1.c0
  have x1 := b1.c1
  have xl := b1.lt
  simp only at x0 x1
  have h1 := hA.later B1
  have hb : decide ((m : Int) = (q : Int)) = decide (m = q) := by rw [Bool.eq_iff_iff]; simp; omega
  have hb2 : ((m : Int) == (q : Int)) = decide (m = q) := by rw [Bool.eq_iff_iff]; simp; omega
  go_wp2_with fail
  first | go_region_with ((go_at_call 61; refine (rcount_is L hL.val (by omega) p q h2 _ _ (show SAt (World.drew w1) v (toI L) from h1)).mono ?_; rintro e w2 ⟨rfl, B2'⟩; have B2 : Below w1.heap.size w1 w2 := ⟨B2'.os, B2'.tape, B2'.output, B2'.size, B2'.block⟩; have b2 := b1.later B2; have y1 := b2.c1; have yl := b2.lt; simp only at y1; rw [HM.out])) | fail
  all_goals
    go_wp2
    go_ret2
    exact ⟨rfl, hAB.trans ((B1.trans (B2.mono B1.size)).mono hAB.size)⟩

set_option maxRecDepth 100000 in
set_option maxHeartbeats 1000000 in
theorem RMeets_bad (l : List SpI) (p q : Int) (fl : Fit l) (fp : I64 p) (c : Int) (hc : withB l (p, q) = c) (h0 : c ≠ 0) (u : Value) (w : World) (h : SAt w u l) :
    Calls Try.prog 29 #[u, .agg #[.int .i64 p, .int .i64 q]] w fun e w' => e = .returned (.tuple #[.bool false, .int .i64 c]) ∧ Below w.heap.size w w' := by
  obtain ⟨wA, hwA⟩ : ∃ x, w.alloc (.cells #[.int .i64 p, .int .i64 q] 31) = x := ⟨_, rfl⟩
  have hAB : Below w.heap.size w wA := by rw [← hwA]; exact (Below.refl _ _).alloc (Nat.le_refl _) _
  have bA : XBox wA w.heap.size (p, q) := by rw [← hwA]; exact XBox.new w (p, q)
  have HW := Lib.hid hwA
  have hA := h.later hAB
  have HC := Lib.hid hc
  have hq : (c != 0) = true := by simp [h0]
  have x0 := bA.c0
  have x1 := bA.c1
  simp only at x0 x1
  clear hc h0 hwA
  go_enter Try.func29, Try.ntmps29
  go_wp2_with fail
  try rw [HW.out]
  refine (asked_is u l p q fl fp c HC.out _ hA).mono ?_
  rintro e w1 ⟨rfl, B1⟩
  go_wp2
  go_ret2
  exact ⟨rfl, hAB.trans (B1.mono hAB.size)⟩

set_option maxRecDepth 100000 in
set_option maxHeartbeats 1000000 in
theorem RMeets_ok (L : List Sp) (hL : SetL 0 L) (p q : Nat) (hpq : 1 ≤ q ∧ p + q ≤ 1024) (v : Value) (w : World) (h : SAt w v (toI L)) :
    Calls Try.prog 29 #[v, .agg #[.int .i64 p, .int .i64 q]] w fun e w' => e = .returned (.tuple #[.bool (L.any (meetsOne p q)), .int .i64 0]) ∧ Below w.heap.size w w' := by
  obtain ⟨wA, hwA⟩ : ∃ x, w.alloc (.cells #[.int .i64 (p : Int), .int .i64 (q : Int)] 31) = x := ⟨_, rfl⟩
  have hAB : Below w.heap.size w wA := by rw [← hwA]; exact (Below.refl _ _).alloc (Nat.le_refl _) _
  have bA : XBox wA w.heap.size ((p : Int), (q : Int)) := by rw [← hwA]; exact XBox.new w ((p : Int), (q : Int))
  have HW := Lib.hid hwA
  have hA := h.later hAB
  have hw0 : withB (toI L) ((p : Int), (q : Int)) = 0 := by unfold withB; rw [chkS_set hL, vld_of hpq.1 hpq.2]; rfl
  have H0 := Lib.hid hw0
  have hfp : I64 (p : Int) := by unfold I64; omega
  have HF := Lib.hid (fit_nat L hL.val)
  have hn := set_len hL
  rw [meets_cnt L hL p q hpq.1]
  obtain ⟨m, hm⟩ : ∃ m, cntF (inS L) p q = m := ⟨_, rfl⟩
  have hml := cntF_le (inS L) p q
  rw [hm] at hml ⊢
  have HM := Lib.hid hm
  have h2 := hpq.2
  clear hwA hw0 hm
  go_enter Try.func29, Try.ntmps29
  go_wp2_with fail
  try rw [HW.out]
  refine (asked_is v (toI L) p q HF.out hfp 0 H0.out _ hA).mono ?_
  rintro e w1 ⟨rfl, B1⟩
  have b1 := bA.later B1
  have x0 := b1.c0
  have x1 := b1.c1
  have xl := b1.lt
  simp only at x0 x1
  have h1 := hA.later B1
  have hb : decide ((0 : Int) < (m : Int)) = decide (0 < m) := by rw [Bool.eq_iff_iff]; simp
  go_wp2_with fail
  refine (rcount_is L hL.val (by omega) p q h2 _ _ h1).mono ?_
  rintro e w2 ⟨rfl, B2⟩
  rw [HM.out]
  go_wp2
  go_ret2
  have f1 : Ending.returned (.tuple #[.bool (decide ((0 : Int) < (m : Int))), .int .i64 0]) = .returned (.tuple #[.bool (decide (0 < m)), .int .i64 0]) := by rw [hb]
  first | exact ⟨f1, hAB.trans ((B1.trans (B2.mono B1.size)).mono hAB.size)⟩ | exact ⟨rfl, hAB.trans ((B1.trans (B2.mono B1.size)).mono hAB.size)⟩

set_option maxRecDepth 100000 in
set_option maxHeartbeats 1000000 in
theorem RCount_bad (l : List SpI) (fl : Fit l) (c : Int) (hc : chkS l = c) (h0 : c ≠ 0) (v : Value) (w : World) (h : SAt w v l) :
    Calls Try.prog 31 #[v] w fun e w' => e = .returned (.tuple #[.int .i64 0, .int .i64 c]) ∧ Below w.heap.size w w' := by
  have HC := Lib.hid hc
  have h64 := len64 h
  have hq : (c != 0) = true := by simp [h0]
  clear hc h0
  go_enter Try.func31, Try.ntmps31
  go_wp2_with fail
  refine (RCheck_is _ l fl h64 c HC.out _ h).mono ?_
  rintro e w1 ⟨rfl, B1⟩
  go_wp2
  go_ret2
  exact ⟨rfl, B1⟩
set_option maxRecDepth 100000 in
set_option maxHeartbeats 1000000 in
theorem RCount_ok (L : List Sp) (hL : SetL 0 L) (v : Value) (w : World) (h : SAt w v (toI L)) :
    Calls Try.prog 31 #[v] w fun e w' => e = .returned (.tuple #[.int .i64 (cntL L : Nat), .int .i64 0]) ∧ Below w.heap.size w w' := by
  have hn := set_len hL
  have HC := Lib.hid (chkS_set hL)
  have HF := Lib.hid (fit_nat L hL.val)
  have hcc := Lib.hid (count_cnt hL)
  have hr := fun w h => rcount_is L hL.val (by omega) 0 1024 (by decide) v w h
  rw [show ((0 : Nat) : Int) = 0 from rfl, show ((1024 : Nat) : Int) = 1024 from rfl] at hr
  have HR := Lib.hid hr
  clear hr
  go_enter Try.func31, Try.ntmps31
  go_wp2_with fail
  refine (RCheck_is _ (toI L) HF.out (by rw [toI_len]; omega) 0 HC.out _ h).mono ?_
  rintro e w1 ⟨rfl, B1⟩
  have h1 := h.later B1
  go_wp2_with fail
  refine (HR.out _ h1).mono ?_
  rintro e w2 ⟨rfl, B2⟩
  rw [hcc.out]
  go_wp2
  go_ret2
  exact ⟨rfl, B1.trans (B2.mono B1.size)⟩
end Go.Proofs.Ytgljfiihaehedaa
