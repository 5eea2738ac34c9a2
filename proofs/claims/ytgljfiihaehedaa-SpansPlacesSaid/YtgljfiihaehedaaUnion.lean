/- Union, Meet, Minus. -/
import Derived.Test.YtgljfiihaehedaaOf1
namespace Go.Proofs.Ytgljfiihaehedaa
open Go.RowKit
attribute [local go_sem] Oper.semAt_some

theorem set_len {L : List Sp} (h : SetL 0 L) : L.length ≤ 2000 := by have := h.len (by omega); omega
theorem both_ok {L R : List Sp} (hL : SetL 0 L) (hR : SetL 0 R) : bothB (toI L) (toI R) = 0 := by unfold bothB; rw [chkS_set hL, chkS_set hR]; rfl

set_option maxRecDepth 100000 in
set_option maxHeartbeats 1000000 in
theorem Union_ok (L R : List Sp) (hL : SetL 0 L) (hR : SetL 0 R) (u v : Value) (w : World) (h : SAt w u (toI L)) (h2 : SAt w v (toI R)) :
    Calls Try.prog 18 #[u, v] w fun e w' => ∃ M, SetL 0 M ∧ (∀ p, inS M p = (inS L p || inS R p)) ∧ RetS w M 0 e w' := by
  have HC := Lib.hid (both_ok hL hR)
  have HF := Lib.hid (fit_nat L hL.val)
  have HG := Lib.hid (fit_nat R hR.val)
  obtain ⟨ua, uc, rfl⟩ := h.form
  obtain ⟨va, vc, rfl⟩ := h2.form
  go_enter Try.func18, Try.ntmps18
  go_wp2_with fail
  refine (checkBoth_is _ _ _ _ HF.out HG.out 0 HC.out _ h h2).mono ?_
  rintro e w1 ⟨rfl, B1⟩
  have h1 := h.later B1
  have h3 := h2.later B1
  go_wp2_with fail
  refine (join_two L R hL.val hR.val (set_len hL) (set_len hR) _ _ _ _ h1 h3).mono ?_
  rintro e w2 ⟨u, M, rfl, hu, hM, hp, hB⟩
  obtain ⟨ua, uc, rfl⟩ := hu.form
  have HU := Lib.hid hu
  have HP := Lib.hid hp
  clear hu hp
  go_wp2
  go_ret2
  exact ⟨M, hM, HP.out, _, rfl, HU.out, B1.trans (hB.mono B1.size)⟩

set_option maxRecDepth 100000 in
set_option maxHeartbeats 1000000 in
theorem Minus_ok (L R : List Sp) (hL : SetL 0 L) (hR : SetL 0 R) (u v : Value) (w : World) (h : SAt w u (toI L)) (h2 : SAt w v (toI R)) :
    Calls Try.prog 22 #[u, v] w fun e w' => ∃ M, SetL 0 M ∧ (∀ p, p < 1024 → inS M p = (inS L p && !inS R p)) ∧ RetS w M 0 e w' := by
  have HC := Lib.hid (both_ok hL hR)
  have HF := Lib.hid (fit_nat L hL.val)
  have HG := Lib.hid (fit_nat R hR.val)
  obtain ⟨ua, uc, rfl⟩ := h.form
  obtain ⟨va, vc, rfl⟩ := h2.form
  go_enter Try.func22, Try.ntmps22
  go_wp2_with fail
  refine (checkBoth_is _ _ _ _ HF.out HG.out 0 HC.out _ h h2).mono ?_
  rintro e w1 ⟨rfl, B1⟩
  have h1 := h.later B1
  have h3 := h2.later B1
  go_wp2_with fail
  refine (others_is L hL _ _ h1).mono ?_
  rintro e w2 ⟨u, M, rfl, hu, hM, hp, hB⟩
  obtain ⟨xa, xc, rfl⟩ := hu.form
  have HP := Lib.hid hp
  have h4 := h3.later hB
  clear hp
  go_wp2_with fail
  refine (join_two M R hM.val hR.val (set_len hM) (set_len hR) _ _ _ _ hu h4).mono ?_
  rintro e w3 ⟨u, N, rfl, hu3, hN, hp3, hB3⟩
  obtain ⟨ya, yc, rfl⟩ := hu3.form
  have HQ := Lib.hid hp3
  clear hp3
  go_wp2_with fail
  refine (others_is N hN _ _ hu3).mono ?_
  rintro e w4 ⟨u, K, rfl, hu4, hK, hp4, hB4⟩
  obtain ⟨za, zc, rfl⟩ := hu4.form
  have HU := Lib.hid hu4
  have HR := Lib.hid hp4
  clear hu4 hp4
  go_wp2
  go_ret2
  refine ⟨K, hK, fun p hp => ?_, _, rfl, HU.out, ?_⟩
  · rw [HR.out p hp, HQ.out p, HP.out p hp]; cases inS L p <;> cases inS R p <;> rfl
  · have b1 := B1.trans (hB.mono B1.size)
    have b2 := b1.trans (hB3.mono b1.size)
    exact b2.trans (hB4.mono b2.size)

set_option maxRecDepth 100000 in
set_option maxHeartbeats 1000000 in
theorem Meet_ok (L R : List Sp) (hL : SetL 0 L) (hR : SetL 0 R) (u v : Value) (w : World) (h : SAt w u (toI L)) (h2 : SAt w v (toI R)) :
    Calls Try.prog 20 #[u, v] w fun e w' => ∃ M, SetL 0 M ∧ (∀ p, p < 1024 → inS M p = (inS L p && inS R p)) ∧ RetS w M 0 e w' := by
  have HC := Lib.hid (both_ok hL hR)
  have HF := Lib.hid (fit_nat L hL.val)
  have HG := Lib.hid (fit_nat R hR.val)
  obtain ⟨ua, uc, rfl⟩ := h.form
  obtain ⟨va, vc, rfl⟩ := h2.form
  go_enter Try.func20, Try.ntmps20
  go_wp2_with fail
  refine (checkBoth_is _ _ _ _ HF.out HG.out 0 HC.out _ h h2).mono ?_
  rintro e w1 ⟨rfl, B1⟩
  have h1 := h.later B1
  have h3 := h2.later B1
  go_wp2_with fail
  refine (others_is L hL _ _ h1).mono ?_
  rintro e w2 ⟨u, M, rfl, hu, hM, hp, hB⟩
  obtain ⟨xa, xc, rfl⟩ := hu.form
  have HP := Lib.hid hp
  have h4 := h3.later hB
  clear hp
  go_wp2_with fail
  refine (others_is R hR _ _ h4).mono ?_
  rintro e w5 ⟨u, S, rfl, hu5, hS, hp5, hB5⟩
  obtain ⟨va, vc, rfl⟩ := hu5.form
  have HT := Lib.hid hp5
  have hu' := hu.later hB5
  clear hp5
  go_wp2_with fail
  refine (join_two M S hM.val hS.val (set_len hM) (set_len hS) _ _ _ _ hu' hu5).mono ?_
  rintro e w3 ⟨u, N, rfl, hu3, hN, hp3, hB3⟩
  obtain ⟨ya, yc, rfl⟩ := hu3.form
  have HQ := Lib.hid hp3
  clear hp3
  go_wp2_with fail
  refine (others_is N hN _ _ hu3).mono ?_
  rintro e w4 ⟨u, K, rfl, hu4, hK, hp4, hB4⟩
  obtain ⟨za, zc, rfl⟩ := hu4.form
  have HU := Lib.hid hu4
  have HR := Lib.hid hp4
  clear hu4 hp4
  go_wp2
  go_ret2
  refine ⟨K, hK, fun p hp => ?_, _, rfl, HU.out, ?_⟩
  · rw [HR.out p hp, HQ.out p, HP.out p hp, HT.out p hp]; cases inS L p <;> cases inS R p <;> rfl
  · have b1 := B1.trans (hB.mono B1.size)
    have b5 := b1.trans (hB5.mono b1.size)
    have b2 := b5.trans (hB3.mono b5.size)
    exact b2.trans (hB4.mono b2.size)

set_option maxRecDepth 100000 in
set_option maxHeartbeats 1000000 in
theorem Union_bad (l m : List SpI) (fl : Fit l) (fm : Fit m) (c : Int) (hc : bothB l m = c) (h0 : c ≠ 0) (u v : Value) (w : World) (h : SAt w u l) (h2 : SAt w v m) :
    Calls Try.prog 18 #[u, v] w fun e w' => RetS w [] c e w' := by
  have HC := Lib.hid hc
  have hq : (c != 0) = true := by simp [h0]
  clear hc h0
  go_enter Try.func18, Try.ntmps18
  go_wp2_with fail
  refine (checkBoth_is _ _ _ _ fl fm c HC.out _ h h2).mono ?_
  rintro e w1 ⟨rfl, B1⟩
  go_wp2
  go_ret2
  exact ⟨_, rfl, nil_at _, B1⟩

set_option maxRecDepth 100000 in
set_option maxHeartbeats 1000000 in
theorem Meet_bad (l m : List SpI) (fl : Fit l) (fm : Fit m) (c : Int) (hc : bothB l m = c) (h0 : c ≠ 0) (u v : Value) (w : World) (h : SAt w u l) (h2 : SAt w v m) :
    Calls Try.prog 20 #[u, v] w fun e w' => RetS w [] c e w' := by
  have HC := Lib.hid hc
  have hq : (c != 0) = true := by simp [h0]
  clear hc h0
  go_enter Try.func20, Try.ntmps20
  go_wp2_with fail
  refine (checkBoth_is _ _ _ _ fl fm c HC.out _ h h2).mono ?_
  rintro e w1 ⟨rfl, B1⟩
  go_wp2
  go_ret2
  exact ⟨_, rfl, nil_at _, B1⟩

set_option maxRecDepth 100000 in
set_option maxHeartbeats 1000000 in
theorem Minus_bad (l m : List SpI) (fl : Fit l) (fm : Fit m) (c : Int) (hc : bothB l m = c) (h0 : c ≠ 0) (u v : Value) (w : World) (h : SAt w u l) (h2 : SAt w v m) :
    Calls Try.prog 22 #[u, v] w fun e w' => RetS w [] c e w' := by
  have HC := Lib.hid hc
  have hq : (c != 0) = true := by simp [h0]
  clear hc h0
  go_enter Try.func22, Try.ntmps22
  go_wp2_with fail
  refine (checkBoth_is _ _ _ _ fl fm c HC.out _ h h2).mono ?_
  rintro e w1 ⟨rfl, B1⟩
  go_wp2
  go_ret2
  exact ⟨_, rfl, nil_at _, B1⟩

set_option maxRecDepth 100000 in
set_option maxHeartbeats 1000000 in
theorem Not_bad (l : List SpI) (p q : Int) (fl : Fit l) (fp : I64 p) (c : Int) (hc : withB l (p, q) = c) (h0 : c ≠ 0) (u : Value) (w : World) (h : SAt w u l) :
    Calls Try.prog 24 #[u, .agg #[.int .i64 p, .int .i64 q]] w fun e w' => RetS w [] c e w' := by
  obtain ⟨wA, hwA⟩ : ∃ x, w.alloc (.cells #[.int .i64 p, .int .i64 q] 31) = x := ⟨_, rfl⟩
  have hAB : Below w.heap.size w wA := by rw [← hwA]; exact (Below.refl _ _).alloc (Nat.le_refl _) _
  have bA : XBox wA w.heap.size (p, q) := by rw [← hwA]; exact XBox.new w (p, q)
  have HW := Lib.hid hwA
  have hA := h.later hAB
  have HC := Lib.hid hc
  have hq : (c != 0) = true := by simp [h0]
  have x0 := bA.c0
  have x1 := bA.c1
  simp only at x0 x1
  clear hc h0 hwA
  go_enter Try.func24, Try.ntmps24
  go_wp2_with fail
  rw [HW.out]
  refine (checkWith_is u l p q fl fp c HC.out _ hA).mono ?_
  rintro e w1 ⟨rfl, B1⟩
  go_wp2
  go_ret2
  exact ⟨_, rfl, nil_at _, hAB.trans (B1.mono hAB.size)⟩
end Go.Proofs.Ytgljfiihaehedaa
