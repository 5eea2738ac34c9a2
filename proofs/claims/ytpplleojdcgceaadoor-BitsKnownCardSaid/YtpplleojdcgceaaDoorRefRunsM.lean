/- The other way's runs, one bit after the other. -/
import Derived.Test.YtpplleojdcgceaaDoorSearchM
namespace Go.Proofs.YtpplleojdcgceaaDoor

/-- One bit more. -/
def addR (l : List (Nat × Nat)) (i : Nat) : List (Nat × Nat) :=
  match l.getLast? with
  | some r => if r.2 = i then l.dropLast ++ [(r.1, i + 1)] else l ++ [(i, i + 1)]
  | none => [(i, i + 1)]
def refR (ws : List Nat) (on : Bool) : Nat → List (Nat × Nat)
  | 0 => []
  | i + 1 => if btW ws i = on then addR (refR ws on i) i else refR ws on i
/-- The runs of the bits from s on, below n. -/
structure IsRuns (ws : List Nat) (on : Bool) (s n : Nat) (l : List (Nat × Nat)) : Prop where
  each : ∀ r ∈ l, s ≤ r.1 ∧ r.1 < r.2 ∧ r.2 ≤ n ∧ (∀ i, r.1 ≤ i → i < r.2 → btW ws i = on) ∧ (r.2 = n ∨ btW ws r.2 ≠ on)
  asc : l.Pairwise (fun a b => a.2 < b.1)
  cover : ∀ x, s ≤ x → x < n → btW ws x = on → ∃ r ∈ l, r.1 ≤ x ∧ x < r.2
theorem IsRuns.tail {ws : List Nat} {on : Bool} {s n : Nat} {r : Nat × Nat} {l : List (Nat × Nat)} (h : IsRuns ws on s n (r :: l)) : IsRuns ws on r.2 n l := by
  have hr := h.each r List.mem_cons_self
  have hp := List.pairwise_cons.1 h.asc
  refine ⟨fun x hx => ?_, hp.2, fun x h1 h2 h3 => ?_⟩
  · have h1 := h.each x (List.mem_cons_of_mem _ hx)
    have h2 := hp.1 x hx
    exact ⟨by omega, h1.2⟩
  · obtain ⟨y, hy, h4, h5⟩ := h.cover x (by omega) h2 h3
    rcases List.mem_cons.1 hy with rfl | hy
    · omega
    · exact ⟨y, hy, h4, h5⟩
theorem IsRuns.head_le {ws : List Nat} {on : Bool} {s n : Nat} {r q : Nat × Nat} {l m : List (Nat × Nat)} (h : IsRuns ws on s n (r :: l)) (k : IsRuns ws on s n (q :: m)) : r.1 ≤ q.1 := by
  have hq := k.each q List.mem_cons_self
  obtain ⟨y, hy, h1, h2⟩ := h.cover q.1 hq.1 (by omega) (hq.2.2.2.1 q.1 (Nat.le_refl _) hq.2.1)
  rcases List.mem_cons.1 hy with rfl | hy
  · exact h1
  · have := (List.pairwise_cons.1 h.asc).1 y hy
    have := (h.each r List.mem_cons_self).2.1
    omega
theorem IsRuns.head_end {ws : List Nat} {on : Bool} {s n : Nat} {r q : Nat × Nat} {l m : List (Nat × Nat)} (h : IsRuns ws on s n (r :: l)) (k : IsRuns ws on s n (q :: m)) (he : r.1 = q.1) : r.2 ≤ q.2 := by
  have hr := h.each r List.mem_cons_self
  have hq := k.each q List.mem_cons_self
  rcases Nat.lt_or_ge q.2 r.2 with h1 | h1
  · rcases hq.2.2.2.2 with h2 | h2
    · omega
    · exact absurd (hr.2.2.2.1 q.2 (by omega) h1) h2
  · exact h1
theorem IsRuns.unique {ws : List Nat} {on : Bool} {n : Nat} : ∀ (l m : List (Nat × Nat)) (s : Nat), IsRuns ws on s n l → IsRuns ws on s n m → l = m
  | [], [], _, _, _ => rfl
  | [], q :: m, s, h, k => by
    have hq := k.each q List.mem_cons_self
    obtain ⟨y, hy, _⟩ := h.cover q.1 hq.1 (by omega) (hq.2.2.2.1 q.1 (Nat.le_refl _) hq.2.1)
    cases hy
  | r :: l, [], s, h, k => by
    have hq := h.each r List.mem_cons_self
    obtain ⟨y, hy, _⟩ := k.cover r.1 hq.1 (by omega) (hq.2.2.2.1 r.1 (Nat.le_refl _) hq.2.1)
    cases hy
  | r :: l, q :: m, s, h, k => by
    have h1 : r.1 = q.1 := Nat.le_antisymm (h.head_le k) (k.head_le h)
    have h2 : r.2 = q.2 := Nat.le_antisymm (h.head_end k h1) (k.head_end h h1.symm)
    have h3 : r = q := Prod.ext h1 h2
    subst h3
    rw [IsRuns.unique l m r.2 h.tail k.tail]
theorem addR_is {ws : List Nat} {on : Bool} {i : Nat} {l : List (Nat × Nat)} (h : IsRuns ws on 0 i l) (hb : btW ws i = on) : IsRuns ws on 0 (i + 1) (addR l i) := by
  unfold addR
  cases hl : l.getLast? with
  | none =>
    have he : l = [] := List.getLast?_eq_none_iff.1 hl
    subst he
    refine ⟨fun r hr => ?_, List.pairwise_singleton _ _, fun x _ h2 h3 => ?_⟩
    · obtain rfl : r = (i, i + 1) := by simpa using hr
      exact ⟨Nat.zero_le _, Nat.lt_succ_self _, Nat.le_refl _, fun j h1 h2 => by rw [show j = i from by simp only at h1 h2; omega]; exact hb, .inl rfl⟩
    · by_cases hx : x < i
      · obtain ⟨y, hy, _⟩ := h.cover x (Nat.zero_le _) hx h3
        cases hy
      · exact ⟨_, List.mem_singleton.2 rfl, by simp only; omega, by simp only; omega⟩
  | some r =>
    obtain ⟨pre, rfl⟩ : ∃ pre, l = pre ++ [r] := by
      obtain ⟨ys, hys⟩ := List.getLast?_eq_some_iff.1 hl
      exact ⟨ys, hys⟩
    have hr := h.each r (by simp)
    have hp := List.pairwise_append.1 h.asc
    have hpre : ∀ q ∈ pre, q.2 < r.1 := fun q hq => hp.2.2 q hq r (List.mem_singleton.2 rfl)
    simp only
    by_cases he : r.2 = i
    · rw [if_pos he, List.dropLast_concat]
      refine ⟨fun q hq => ?_, List.pairwise_append.2 ⟨hp.1, List.pairwise_singleton _ _, fun q hq x hx => ?_⟩, fun x _ h2 h3 => ?_⟩
      · rcases List.mem_append.1 hq with hq | hq
        · have h1 := h.each q (List.mem_append_left _ hq)
          have h2 := hpre q hq
          refine ⟨h1.1, h1.2.1, by omega, h1.2.2.2.1, .inr ?_⟩
          rcases h1.2.2.2.2 with h3 | h3
          · omega
          · exact h3
        · obtain rfl : q = (r.1, i + 1) := by simpa using hq
          refine ⟨Nat.zero_le _, by simp only; omega, Nat.le_refl _, fun j h1 h2 => ?_, .inl rfl⟩
          simp only at h1 h2
          by_cases hj : j < i
          · exact hr.2.2.2.1 j h1 (by omega)
          · rw [show j = i by omega]; exact hb
      · obtain rfl : x = (r.1, i + 1) := by simpa using hx
        exact hpre q hq
      · by_cases hx : x < i
        · obtain ⟨y, hy, h4, h5⟩ := h.cover x (Nat.zero_le _) hx h3
          rcases List.mem_append.1 hy with hy | hy
          · exact ⟨y, List.mem_append_left _ hy, h4, h5⟩
          · obtain rfl : y = r := by simpa using hy
            exact ⟨(y.1, i + 1), by simp, h4, by simp only; omega⟩
        · exact ⟨(r.1, i + 1), by simp, by simp only; omega, by simp only; omega⟩
    · rw [if_neg he]
      have hri : r.2 < i := by omega
      refine ⟨fun q hq => ?_, List.pairwise_append.2 ⟨h.asc, List.pairwise_singleton _ _, fun q hq x hx => ?_⟩, fun x _ h2 h3 => ?_⟩
      · rcases List.mem_append.1 hq with hq | hq
        · have h1 := h.each q hq
          refine ⟨h1.1, h1.2.1, by omega, h1.2.2.2.1, .inr ?_⟩
          rcases h1.2.2.2.2 with h3 | h3
          · exfalso
            rcases List.mem_append.1 hq with hq2 | hq2
            · have := hpre q hq2; omega
            · obtain rfl : q = r := by simpa using hq2
              omega
          · exact h3
        · obtain rfl : q = (i, i + 1) := by simpa using hq
          exact ⟨Nat.zero_le _, Nat.lt_succ_self _, Nat.le_refl _, fun j h1 h2 => by rw [show j = i from by simp only at h1 h2; omega]; exact hb, .inl rfl⟩
      · obtain rfl : x = (i, i + 1) := by simpa using hx
        rcases List.mem_append.1 hq with hq2 | hq2
        · have := hpre q hq2; simp only; omega
        · obtain rfl : q = r := by simpa using hq2
          exact hri
      · by_cases hx : x < i
        · obtain ⟨y, hy, h4⟩ := h.cover x (Nat.zero_le _) hx h3
          exact ⟨y, List.mem_append_left _ hy, h4⟩
        · exact ⟨(i, i + 1), by simp, by simp only; omega, by simp only; omega⟩
theorem skip_is {ws : List Nat} {on : Bool} {i : Nat} {l : List (Nat × Nat)} (h : IsRuns ws on 0 i l) (hb : btW ws i ≠ on) : IsRuns ws on 0 (i + 1) l := by
  refine ⟨fun q hq => ?_, h.asc, fun x _ h2 h3 => ?_⟩
  · have h1 := h.each q hq
    refine ⟨h1.1, h1.2.1, by omega, h1.2.2.2.1, .inr ?_⟩
    rcases h1.2.2.2.2 with h3 | h3
    · rw [h3]; exact hb
    · exact h3
  · by_cases hx : x < i
    · exact h.cover x (Nat.zero_le _) hx h3
    · exact absurd (show btW ws i = on by rw [← show x = i by omega]; exact h3) hb
theorem refR_is (ws : List Nat) (on : Bool) : ∀ i, IsRuns ws on 0 i (refR ws on i)
  | 0 => ⟨fun r hr => (by cases hr), List.Pairwise.nil, fun x _ h => by omega⟩
  | i + 1 => by
    unfold refR
    by_cases hb : btW ws i = on
    · rw [if_pos hb]; exact addR_is (refR_is ws on i) hb
    · rw [if_neg hb]; exact skip_is (refR_is ws on i) hb
theorem refR_runs (ws : List Nat) (on : Bool) (n : Nat) : refR ws on n = runsL ws on 0 n := by
  obtain ⟨i1, i2, i3⟩ := runsL_all ws on n
  exact IsRuns.unique _ _ 0 (refR_is ws on n) ⟨fun r hr => ⟨Nat.zero_le _, i1 r hr⟩, i2, fun x _ h1 h2 => i3 x h1 h2⟩
theorem refR_len (ws : List Nat) (on : Bool) : ∀ i, (refR ws on i).length ≤ i
  | 0 => Nat.le_refl _
  | i + 1 => by
    have := refR_len ws on i
    unfold refR
    split
    · unfold addR
      cases hl : (refR ws on i).getLast? with
      | none => simp
      | some r =>
        have hne : refR ws on i ≠ [] := by intro e; rw [e] at hl; cases hl
        have h0 : 0 < (refR ws on i).length := List.length_pos_iff.2 hne
        simp only
        split <;> simp <;> omega
    · omega
end Go.Proofs.YtpplleojdcgceaaDoor
