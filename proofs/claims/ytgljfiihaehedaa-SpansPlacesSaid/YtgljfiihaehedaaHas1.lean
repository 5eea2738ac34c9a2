/- Has and Meets: the predicates. -/
import Derived.Test.YtgljfiihaehedaaUnion
namespace Go.Proofs.Ytgljfiihaehedaa
open Go.RowKit
attribute [local go_sem] Oper.semAt_some

def hasOne (p q : Nat) (y : Sp) : Bool := decide (y.1 ≤ p) && decide (p + q ≤ y.1 + y.2)
def meetsOne (p q : Nat) (y : Sp) : Bool := decide (y.1 < p + q) && decide (p < y.1 + y.2)

set_option maxRecDepth 100000 in
set_option maxHeartbeats 1000000 in
theorem has1_is (p q : Nat) (hpq : p + q ≤ 1024) (a b : Nat) (hab : a + b ≤ 1024) (k : Nat) (w : World) (hx : XBox w k ((p : Int), (q : Int))) :
    Calls Try.prog 60 #[.agg #[.int .i64 a, .int .i64 b], .pointer (some ⟨k, 0, none⟩)] w fun e w' => e = .returned (.bool (hasOne p q (a, b))) ∧ Below w.heap.size w w' := by
  obtain ⟨wA, hwA⟩ : ∃ x, w.alloc (.cells #[.int .i64 (a : Int), .int .i64 (b : Int)] 31) = x := ⟨_, rfl⟩
  have hAB : Below w.heap.size w wA := by rw [← hwA]; exact (Below.refl _ _).alloc (Nat.le_refl _) _
  have bY : XBox wA w.heap.size ((a : Int), (b : Int)) := by rw [← hwA]; exact XBox.new w ((a : Int), (b : Int))
  have bX : XBox wA k ((p : Int), (q : Int)) := hx.later hAB
  have HW := Lib.hid hwA
  have HEX : Hid (∀ w, Calls Try.prog 52 #[.agg #[.int .i64 (p : Int), .int .i64 (q : Int)]] w fun e w' => e = .returned (.int .i64 ((p : Int) + (q : Int))) ∧ Below w.heap.size w w') := fun w => end_is ((p : Int), (q : Int)) p q rfl hpq w
  have HEY : Hid (∀ w, Calls Try.prog 52 #[.agg #[.int .i64 (a : Int), .int .i64 (b : Int)]] w fun e w' => e = .returned (.int .i64 ((a : Int) + (b : Int))) ∧ Below w.heap.size w w') := fun w => end_is ((a : Int), (b : Int)) a b rfl hab w
  have x0 := bX.c0
  have x1 := bX.c1
  have y0 := bY.c0
  have y1 := bY.c1
  have xl := bX.lt
  have yl := bY.lt
  simp only at x0 x1 y0 y1
  have n1 : (p : Int) + (q : Int) ≤ 1024 := by omega
  have n2 : (a : Int) + (b : Int) ≤ 1024 := by omega
  by_cases h1 : a ≤ p
  · by_cases h2 : p + q ≤ a + b
    all_goals
      have i1 : (a : Int) ≤ (p : Int) := by omega
      have d1 : decide ((a : Int) ≤ (p : Int)) = true := by simpa using i1
      have d1n : decide (a ≤ p) = true := by simpa using h1
      obtain ⟨r, hr⟩ : ∃ r, decide (p + q ≤ a + b) = r := ⟨_, rfl⟩
      have d2 : decide ((p : Int) + (q : Int) ≤ (a : Int) + (b : Int)) = r := by rw [← hr]; apply decide_eq_decide.2; omega
      have HR := Lib.hid hr
      have H1 := Lib.hid h1
      clear hwA hr h1 h2
      go_enter Try.func60, Try.ntmps60
      go_wp2_with fail
      rw [HW.out]
      first | go_region_held3 (fun w' => (w'.cell? ⟨k, 0, none⟩ = some (.int .i64 (p : Int)) ∧ w'.cell? ⟨k, 1, none⟩ = some (.int .i64 (q : Int))) ∧ (w'.cell? ⟨w.heap.size, 0, none⟩ = some (.int .i64 (a : Int)) ∧ w'.cell? ⟨w.heap.size, 1, none⟩ = some (.int .i64 (b : Int)))) (first | exact ⟨⟨x0, x1⟩, y0, y1⟩ | exact ⟨⟨u0, u1⟩, v0, v1⟩ | exact ⟨⟨s0, s1⟩, t0, t1⟩) (first | (go_at_call 52; ((with_reducible refine (HEX.out _).mono ?_); rintro e w1 ⟨rfl, B1'⟩; have B1 : Below wA.heap.size wA w1 := ⟨B1'.os, B1'.tape, B1'.output, B1'.size, B1'.block⟩; have D1 := hAB.trans (B1.mono hAB.size); have bX1 := bX.later B1; have bY1 := bY.later B1; have u0 := bX1.c0; have u1 := bX1.c1; have v0 := bY1.c0; have v1 := bY1.c1; simp only at u0 u1 v0 v1)) | (go_at_call 52; ((with_reducible refine (HEY.out _).mono ?_); rintro e w2 ⟨rfl, B2'⟩; have B2 : Below w1.heap.size w1 w2 := ⟨B2'.os, B2'.tape, B2'.output, B2'.size, B2'.block⟩; have D2 := D1.trans (B2.mono D1.size); have bX2 := bX1.later B2; have bY2 := bY1.later B2; have s0 := bX2.c0; have s1 := bX2.c1; have t0 := bY2.c0; have t1 := bY2.c1; simp only at s0 s1 t0 t1))) | fail
      all_goals
        go_wp2
        go_ret
        exact ⟨ret_bool (by unfold hasOne; simp only; rw [HR.out]; simp [H1.out]), D2⟩
  · have i1 : ¬ ((a : Int) ≤ (p : Int)) := by omega
    have d1 : decide ((a : Int) ≤ (p : Int)) = false := by simpa using i1
    have d1n : decide (a ≤ p) = false := by simpa using h1
    have H1 := Lib.hid h1
    clear hwA h1
    go_enter Try.func60, Try.ntmps60
    go_wp2_with fail
    rw [HW.out]
    go_quiet (fail)
    all_goals
      go_wp2
      go_ret
      exact ⟨ret_bool (by unfold hasOne; simp [H1.out]), below_drewN hAB _⟩

set_option maxRecDepth 100000 in
set_option maxHeartbeats 1000000 in
theorem meets1_is (p q : Nat) (hpq : p + q ≤ 1024) (a b : Nat) (hab : a + b ≤ 1024) (k : Nat) (w : World) (hx : XBox w k ((p : Int), (q : Int))) :
    Calls Try.prog 62 #[.agg #[.int .i64 a, .int .i64 b], .pointer (some ⟨k, 0, none⟩)] w fun e w' => e = .returned (.bool (meetsOne p q (a, b))) ∧ Below w.heap.size w w' := by
  obtain ⟨wA, hwA⟩ : ∃ x, w.alloc (.cells #[.int .i64 (a : Int), .int .i64 (b : Int)] 31) = x := ⟨_, rfl⟩
  have hAB : Below w.heap.size w wA := by rw [← hwA]; exact (Below.refl _ _).alloc (Nat.le_refl _) _
  have bY : XBox wA w.heap.size ((a : Int), (b : Int)) := by rw [← hwA]; exact XBox.new w ((a : Int), (b : Int))
  have bX : XBox wA k ((p : Int), (q : Int)) := hx.later hAB
  have HW := Lib.hid hwA
  have HEX : Hid (∀ w, Calls Try.prog 52 #[.agg #[.int .i64 (p : Int), .int .i64 (q : Int)]] w fun e w' => e = .returned (.int .i64 ((p : Int) + (q : Int))) ∧ Below w.heap.size w w') := fun w => end_is ((p : Int), (q : Int)) p q rfl hpq w
  have HEY : Hid (∀ w, Calls Try.prog 52 #[.agg #[.int .i64 (a : Int), .int .i64 (b : Int)]] w fun e w' => e = .returned (.int .i64 ((a : Int) + (b : Int))) ∧ Below w.heap.size w w') := fun w => end_is ((a : Int), (b : Int)) a b rfl hab w
  have x0 := bX.c0
  have x1 := bX.c1
  have y0 := bY.c0
  have y1 := bY.c1
  have xl := bX.lt
  have yl := bY.lt
  simp only at x0 x1 y0 y1
  have n1 : (p : Int) + (q : Int) ≤ 1024 := by omega
  have n2 : (a : Int) + (b : Int) ≤ 1024 := by omega
  by_cases h1 : a < p + q
  · obtain ⟨r, hr⟩ : ∃ r, decide (p < a + b) = r := ⟨_, rfl⟩
    have i1 : (a : Int) < (p : Int) + (q : Int) := by omega
    have d1 : decide ((a : Int) < (p : Int) + (q : Int)) = true := by simpa using i1
    have d2 : decide ((p : Int) < (a : Int) + (b : Int)) = r := by rw [← hr]; apply decide_eq_decide.2; omega
    have HR := Lib.hid hr
    have H1 := Lib.hid h1
    clear hwA hr h1
    go_enter Try.func62, Try.ntmps62
    go_wp2_with fail
    rw [HW.out]
    first | go_region_held3 (fun w' => (w'.cell? ⟨k, 0, none⟩ = some (.int .i64 (p : Int)) ∧ w'.cell? ⟨k, 1, none⟩ = some (.int .i64 (q : Int))) ∧ (w'.cell? ⟨w.heap.size, 0, none⟩ = some (.int .i64 (a : Int)) ∧ w'.cell? ⟨w.heap.size, 1, none⟩ = some (.int .i64 (b : Int)))) (first | exact ⟨⟨x0, x1⟩, y0, y1⟩ | exact ⟨⟨u0, u1⟩, v0, v1⟩ | exact ⟨⟨s0, s1⟩, t0, t1⟩) (first | (go_at_call 52; ((with_reducible refine (HEX.out _).mono ?_); rintro e w1 ⟨rfl, B1'⟩; have B1 : Below wA.heap.size wA w1 := ⟨B1'.os, B1'.tape, B1'.output, B1'.size, B1'.block⟩; have D1 := hAB.trans (B1.mono hAB.size); have bX1 := bX.later B1; have bY1 := bY.later B1; have u0 := bX1.c0; have u1 := bX1.c1; have v0 := bY1.c0; have v1 := bY1.c1; simp only at u0 u1 v0 v1)) | (go_at_call 52; ((with_reducible refine (HEY.out _).mono ?_); rintro e w2 ⟨rfl, B2'⟩; have B2 : Below w1.heap.size w1 w2 := ⟨B2'.os, B2'.tape, B2'.output, B2'.size, B2'.block⟩; have D2 := D1.trans (B2.mono D1.size); have bX2 := bX1.later B2; have bY2 := bY1.later B2; have s0 := bX2.c0; have s1 := bX2.c1; have t0 := bY2.c0; have t1 := bY2.c1; simp only at s0 s1 t0 t1))) | fail
    all_goals
      go_wp2
      go_ret
      exact ⟨ret_bool (by unfold meetsOne; simp only; rw [HR.out]; simp [H1.out]), D2⟩
  · have i1 : ¬ ((a : Int) < (p : Int) + (q : Int)) := by omega
    have d1 : decide ((a : Int) < (p : Int) + (q : Int)) = false := by simpa using i1
    have H1 := Lib.hid h1
    clear hwA h1
    go_enter Try.func62, Try.ntmps62
    go_wp2_with fail
    rw [HW.out]
    first | go_region_with ((go_at_call 52; ((with_reducible refine (HEX.out _).mono ?_); rintro e w1 ⟨rfl, B1'⟩; have B1 : Below wA.heap.size wA w1 := ⟨B1'.os, B1'.tape, B1'.output, B1'.size, B1'.block⟩; have D1 := hAB.trans (B1.mono hAB.size); have bX1 := bX.later B1; have bY1 := bY.later B1; have u0 := bX1.c0; have u1 := bX1.c1; have v0 := bY1.c0; have v1 := bY1.c1; simp only at u0 u1 v0 v1))) | fail
    all_goals
      go_wp2
      go_ret
      exact ⟨ret_bool (by unfold meetsOne; simp [H1.out]), D1⟩
end Go.Proofs.Ytgljfiihaehedaa
