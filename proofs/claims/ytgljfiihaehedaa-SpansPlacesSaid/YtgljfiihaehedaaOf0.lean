/- others: all pages that are not in a set. -/
import Derived.Test.YtgljfiihaehedaaGaps
namespace Go.Proofs.Ytgljfiihaehedaa
open Go.RowKit
attribute [local go_sem] Oper.semAt_some

/-- Spans and an error are returned. -/
def RetS (w : World) (L : List Sp) (c : Int) (e : Ending) (w' : World) : Prop := ∃ u, e = .returned (.tuple #[u, .int .i64 c]) ∧ SAt w' u (toI L) ∧ Below w.heap.size w w'
theorem all_val : (1 : Nat) ≤ 1024 ∧ 0 + 1024 ≤ 1024 := by decide
set_option maxRecDepth 100000 in
theorem others_is (L : List Sp) (hL : SetL 0 L) (v : Value) (w : World) (h : SAt w v (toI L)) :
    Calls Try.prog 55 #[v] w fun e w' => ∃ u M, e = .returned u ∧ SAt w' u (toI M) ∧ SetL 0 M ∧ (∀ x, x < 1024 → inS M x = !inS L x) ∧ Below w.heap.size w w' := by
  have hg := gaps_is L hL 0 1024 all_val v w h
  rw [show ((0 : Nat) : Int) = 0 from rfl, show ((1024 : Nat) : Int) = 1024 from rfl] at hg
  have HG := Lib.hid hg
  obtain ⟨va, vc, rfl⟩ := h.form
  clear hg
  go_enter Try.func55, Try.ntmps55
  go_wp2_with fail
  refine HG.out.mono ?_
  rintro e w1 ⟨u, M, rfl, hu, hM, hp, hB⟩
  obtain ⟨ua, uc, rfl⟩ := SOwn.form hu
  have HU := Lib.hid (SOwn.at hu)
  have HP := Lib.hid hp
  clear hu hp
  go_wp2
  go_ret
  exact ⟨_, M, rfl, HU.out, hM, fun x hx => by rw [HP.out]; simp [hx], hB⟩

set_option maxRecDepth 100000 in
set_option maxHeartbeats 1000000 in
theorem Not_ok (L : List Sp) (hL : SetL 0 L) (p q : Nat) (hpq : 1 ≤ q ∧ p + q ≤ 1024) (v : Value) (w : World) (h : SAt w v (toI L)) :
    Calls Try.prog 24 #[v, .agg #[.int .i64 p, .int .i64 q]] w fun e w' => ∃ M, SetL 0 M ∧ (∀ x, inS M x = (decide (p ≤ x) && decide (x < p + q) && !inS L x)) ∧ RetS w M 0 e w' := by
  obtain ⟨wA, hwA⟩ : ∃ x, w.alloc (.cells #[.int .i64 (p : Int), .int .i64 (q : Int)] 31) = x := ⟨_, rfl⟩
  have hAB : Below w.heap.size w wA := by rw [← hwA]; exact (Below.refl _ _).alloc (Nat.le_refl _) _
  have bA : XBox wA w.heap.size ((p : Int), (q : Int)) := by rw [← hwA]; exact XBox.new w ((p : Int), (q : Int))
  have HW := Lib.hid hwA
  have hA := h.later hAB
  have hw0 : withB (toI L) ((p : Int), (q : Int)) = 0 := by unfold withB; rw [chkS_set hL, vld_of hpq.1 hpq.2]; rfl
  have H0 := Lib.hid hw0
  have hfp : I64 (p : Int) := by unfold I64; omega
  have HF := Lib.hid (fit_nat L hL.val)
  clear hwA hw0
  go_enter Try.func24, Try.ntmps24
  go_wp2_with fail
  rw [HW.out]
  refine (checkWith_is v (toI L) p q HF.out hfp 0 H0.out _ hA).mono ?_
  rintro e w1 ⟨rfl, B1⟩
  have x0 := (bA.later B1).c0
  have x1 := (bA.later B1).c1
  simp only at x0 x1
  go_wp2_with fail
  refine (gaps_is L hL p q hpq v _ (hA.later B1)).mono ?_
  rintro e w2 ⟨u, M, rfl, hu, hM, hp, hB⟩
  obtain ⟨ua, uc, rfl⟩ := SOwn.form hu
  have HU := Lib.hid (SOwn.at hu)
  have HP := Lib.hid hp
  clear hu hp
  go_wp2
  go_ret2
  exact ⟨M, hM, HP.out, _, rfl, HU.out, hAB.trans ((B1.trans (hB.mono B1.size)).mono hAB.size)⟩
end Go.Proofs.Ytgljfiihaehedaa
