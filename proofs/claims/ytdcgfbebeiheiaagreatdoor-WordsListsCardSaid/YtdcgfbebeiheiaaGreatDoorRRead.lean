/- The other way to lists: one item. -/
import Derived.Test.YtdcgfbebeiheiaaGreatDoorRLess
namespace Go.Proofs.YtdcgfbebeiheiaaGreatDoor
open Go.RowKit

/-- What the other way reads of an item: first, last, times. -/
def RD (l n m t : List UInt8) (ok : Bool) : Prop :=
  (∃ a b, l = a ++ 45 :: b ∧ 45 ∉ a ∧ 120 ∉ a ∧ n = a ∧ m = b ∧ t = [49] ∧ ok = (natB a && natB b && beforeB a b)) ∨
  (∃ a b, l = a ++ 120 :: b ∧ 45 ∉ a ∧ 120 ∉ a ∧ n = b ∧ m = b ∧ t = a ∧ ok = (natB a && natB b && beforeB [49] a)) ∨
  (45 ∉ l ∧ 120 ∉ l ∧ n = l ∧ m = l ∧ t = [49] ∧ ok = natB l)

theorem one_nat : natB [49] = true ∧ clampB [49] = 1 := by
  have h := nat_text 1 (by decide) (by decide)
  have e : Lib.itoa 1 = [49] := by simp [Lib.itoa, Lib.decDigits]
  rw [e] at h
  exact h
theorem two_le {a : List UInt8} (ha : natB a = true) : beforeB [49] a = decide (2 ≤ clampB a) := by
  have h1 := one_nat
  cases hb : beforeB [49] a
  · symm; apply decide_eq_false
    intro h2
    rw [before_of_lt h1.1 ha (by omega)] at hb
    exact absurd hb (by decide)
  · symm; apply decide_eq_true
    by_cases h9 : clampB a ≤ 9999
    · have := lt_of_before h1.1 ha h9 hb; omega
    · omega

theorem RD.ok {l n m t : List UInt8} {ok : Bool} (h : RD l n m t ok) : ok = okL l := by
  rcases h with ⟨a, b, rfl, h1, h2, _, _, _, rfl⟩ | ⟨a, b, rfl, h1, h2, _, _, _, rfl⟩ | ⟨h1, h2, _, _, _, rfl⟩
  · unfold okL
    by_cases hx : 120 ∈ b
    · obtain ⟨c, d, rfl, hc⟩ := List.eq_append_cons_of_mem hx
      have e : a ++ 45 :: (c ++ 120 :: d) = (a ++ 45 :: c) ++ 120 :: d := by simp
      rw [e, pi_x _ _ (by simp; exact ⟨h2, hc⟩)]
      have n1 : natB (c ++ 120 :: d) = false := by
        cases hn : natB (c ++ 120 :: d)
        · rfl
        · exact absurd (by simp) (dig_no hn).2.2.2
      have n2 : natB (a ++ 45 :: c) = false := by
        cases hn : natB (a ++ 45 :: c)
        · rfl
        · exact absurd (by simp) (dig_no hn).2.2.1
      rw [n1, n2]; simp
    · rw [pi_d a b h1 (by simp; exact ⟨h2, hx⟩)]
  · unfold okL
    rw [pi_x a b h2]
    cases ha : natB a
    · rfl
    · rw [two_le ha]
  · unfold okL
    rw [pi_n l h1 h2]

/-- The bounds and the numbers of a good item. -/
theorem RD.good {l n m t : List UInt8} (h : RD l n m t true) :
    natB n = true ∧ natB m = true ∧ natB t = true ∧ (itL l).1 = clampB n ∧ bigI (itL l) = decide (9999 < clampB m) ∧ 1 ≤ clampB t ∧ clampB n ≤ clampB m ∧
      ((clampB t = 1 ∧ (itL l).2.1 = clampB m - clampB n + 1 ∧ ((itL l).2.2 = 1 ∨ clampB m = clampB n)) ∨ (clampB m = clampB n ∧ (itL l).2.1 = clampB t ∧ (itL l).2.2 = 0)) := by
  have hok := h.ok.symm
  obtain ⟨o1, o2⟩ := one_nat
  rcases h with ⟨a, b, e0, h1, h2, e1, e2, e3, hh⟩ | ⟨a, b, e0, h1, h2, e1, e2, e3, hh⟩ | ⟨h1, h2, e1, e2, e3, hh⟩
  · have hh := hh.symm
    simp only [Bool.and_eq_true] at hh
    rw [e0, e1, e2, e3]
    have hx : 120 ∉ a ++ 45 :: b := by
      have := (dig_no hh.1.2).2.2.2
      simp; exact ⟨h2, this⟩
    have hm := clampB_mono hh.1.1 hh.1.2 hh.2
    unfold bigI lastI itL
    rw [pi_d a b h1 hx]
    refine ⟨hh.1.1, hh.1.2, o1, rfl, ?_, by omega, hm, .inl ⟨o2, rfl, .inl rfl⟩⟩
    congr 1
    apply propext
    simp only
    omega
  · have hh := hh.symm
    simp only [Bool.and_eq_true] at hh
    rw [e0, e1, e2, e3]
    have h2a := hh.2
    rw [two_le hh.1.1, decide_eq_true_eq] at h2a
    unfold bigI lastI itL
    rw [pi_x a b h2]
    refine ⟨hh.1.2, hh.1.2, hh.1.1, rfl, ?_, by omega, Int.le_refl _, .inr ⟨rfl, rfl, rfl⟩⟩
    congr 1
    apply propext
    simp only
    omega
  · rw [e1, e2, e3]
    unfold bigI lastI itL
    rw [pi_n l h1 h2]
    refine ⟨hh.symm, hh.symm, o1, rfl, ?_, by omega, Int.le_refl _, .inl ⟨o2, by simp only; omega, .inr rfl⟩⟩
    congr 1
    apply propext
    simp only
    omega
end Go.Proofs.YtdcgfbebeiheiaaGreatDoor
