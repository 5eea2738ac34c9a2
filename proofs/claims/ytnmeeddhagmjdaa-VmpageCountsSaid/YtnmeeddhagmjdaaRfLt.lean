/- What is left of a rule. -/
import Derived.Test.YtnmeeddhagmjdaaRfC
namespace Go.Proofs.Ytnmeeddhagmjdaa
open Go.RowKit
attribute [local go_sem] Oper.semAt_some

/-- What later answers. -/
def ltV (o : Option Ru) : Value := .tuple #[rv (match o with | some r => r.toI | none => ⟨0, 0, 0, 0⟩), .bool o.isSome]

set_option maxRecDepth 100000 in
set_option maxHeartbeats 2000000 in
theorem later_is (r : Ru) (h : r.ok) (n : Nat) (hn : n ≤ 1000000) (w : World) :
    Calls Try.prog 108 #[rv r.toI, .int .i64 (n : Int)] w fun e w' => e = .returned (ltV (later r n)) ∧ Below w.heap.size w w' := by
  have hB2 : ∀ o o' : Obj, Below w.heap.size w ((w.alloc o).alloc o') := fun o o' => ((Below.refl _ _).alloc (Nat.le_refl _) _).alloc (by simp) _
  have hk := h.k; have hf1 := h.f1; have hf2 := h.f2; have he2 := h.e2; have ht2 := h.t2; have het := h.et
  clear h
  obtain ⟨k, f, e, t⟩ := r
  simp only at hk hf1 hf2 he2 ht2 het
  unfold later Ru.toI
  simp only
  by_cases h1 : n < f
  · have h1' : (n : Int) < (f : Int) := by omega
    rw [if_pos h1]
    unfold ltV Ru.toI
    simp only
    go_enter Try.func108, Try.ntmps108
    go_wp2_with fail
    refine bodyPost_ret (v := .tuple #[.agg #[.int .i64 (k : Int), .int .i64 (f : Int), .int .i64 (e : Int), .int .i64 (t : Int)], .bool true]) (by simp [results, Try.results108, go_sem]) rfl ⟨rfl, hB2 _ _⟩
  rw [if_neg h1]
  have h1' : ¬ (n : Int) < (f : Int) := by omega
  by_cases he : e = 0
  · subst he
    have ht := het rfl
    subst ht
    simp only [Nat.div_zero, Nat.add_zero]
    rw [if_pos (by omega)]
    unfold ltV
    simp only
    go_enter Try.func108, Try.ntmps108
    go_wp2_with fail
    refine bodyPost_ret (v := .tuple #[.agg #[.int .i64 0, .int .i64 0, .int .i64 0, .int .i64 0], .bool false]) (by simp [results, Try.results108, go_sem]) rfl ⟨rfl, hB2 _ _⟩
  have he1 : (0 : Int) < (e : Int) := by omega
  have he0 : (e : Int) ≠ 0 := by omega
  obtain ⟨q, hq⟩ : ∃ q, (n - f) / e = q := ⟨_, rfl⟩
  rw [hq]
  have hqn : q ≤ n - f := by rw [← hq]; exact Nat.div_le_self _ _
  have hq1 : ((n : Int) - (f : Int)) / (e : Int) = (q : Int) := by rw [← hq, show (n : Int) - (f : Int) = ((n - f : Nat) : Int) by omega]; rfl
  have hq2 : Int.tdiv ((n : Int) - (f : Int)) (e : Int) = (q : Int) := by rw [Int.tdiv_eq_ediv_of_nonneg (by omega)]; exact hq1
  have hpl : (1 + q) * e ≤ 13000000 := Nat.le_trans (Nat.mul_le_mul_left _ he2) (by omega)
  obtain ⟨p, hp⟩ : ∃ p, (1 + q) * e = p := ⟨_, rfl⟩
  rw [hp] at hpl ⊢
  have hp1 : (1 + (q : Int)) * (e : Int) = (p : Int) := by rw [← hp]; simp
  have HQ := Lib.hid hq
  have HP := Lib.hid hp
  clear hq hp het
  by_cases ht : t = 0
  · subst ht
    rw [if_neg (by omega)]
    unfold ltV Ru.toI
    simp only
    go_enter Try.func108, Try.ntmps108
    go_wp2_with fail
    refine bodyPost_ret (v := .tuple #[.agg #[.int .i64 (k : Int), .int .i64 ((f : Int) + (p : Int)), .int .i64 (e : Int), .int .i64 0], .bool true]) (by simp [results, Try.results108, go_sem]) rfl ⟨rfl, hB2 _ _⟩
  have ht1 : (0 : Int) < (t : Int) := by omega
  by_cases h2 : t ≤ 1 + q
  · have h2' : (t : Int) ≤ 1 + (q : Int) := by omega
    rw [if_pos ⟨ht, h2⟩]
    unfold ltV
    simp only
    go_enter Try.func108, Try.ntmps108
    go_wp2_with fail
    refine bodyPost_ret (v := .tuple #[.agg #[.int .i64 0, .int .i64 0, .int .i64 0, .int .i64 0], .bool false]) (by simp [results, Try.results108, go_sem]) rfl ⟨rfl, hB2 _ _⟩
  · have h2' : ¬ (t : Int) ≤ 1 + (q : Int) := by omega
    rw [if_neg (by omega)]
    unfold ltV Ru.toI
    simp only
    rw [show ((t - (1 + q) : Nat) : Int) = (t : Int) - (1 + (q : Int)) by omega]
    go_enter Try.func108, Try.ntmps108
    go_wp2_with fail
    refine bodyPost_ret (v := .tuple #[.agg #[.int .i64 (k : Int), .int .i64 ((f : Int) + (p : Int)), .int .i64 (e : Int), .int .i64 ((t : Int) - (1 + (q : Int)))], .bool true]) (by simp [results, Try.results108, go_sem]) rfl ⟨rfl, hB2 _ _⟩
end Go.Proofs.Ytnmeeddhagmjdaa
