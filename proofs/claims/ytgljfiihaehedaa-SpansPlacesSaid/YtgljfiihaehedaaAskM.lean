/- Counting pages: the plain mathematics of Has, Meets and Count. -/
import Derived.Test.YtgljfiihaehedaaHas
import Derived.Test.YtgljfiihaehedaaCount
namespace Go.Proofs.Ytgljfiihaehedaa

/-- How many of k pages from p on are marked. -/
def cntF (f : Nat → Bool) (p k : Nat) : Nat := (List.range k).countP fun y => f (p + y)
theorem cntF_zero (f : Nat → Bool) (p : Nat) : cntF f p 0 = 0 := rfl
theorem cntF_succ (f : Nat → Bool) (p k : Nat) : cntF f p (k + 1) = cntF f p k + if f (p + k) = true then 1 else 0 := by
  unfold cntF; rw [List.range_succ, List.countP_append, List.countP_singleton]
theorem cntF_le (f : Nat → Bool) (p k : Nat) : cntF f p k ≤ k := by
  unfold cntF; have := List.countP_le_length (p := fun y => f (p + y)) (l := List.range k); simpa using this
theorem cntF_all (f : Nat → Bool) (p : Nat) : ∀ k, cntF f p k = k ↔ ∀ y, y < k → f (p + y) = true
  | 0 => by simp [cntF_zero]
  | k + 1 => by
    have h1 := cntF_all f p k
    have h2 := cntF_le f p k
    rw [cntF_succ]
    constructor
    · intro h y hy
      by_cases hf : f (p + k) = true
      · rw [if_pos hf] at h
        by_cases he : y = k
        · subst he; exact hf
        · exact h1.1 (by omega) y (by omega)
      · rw [if_neg hf] at h; omega
    · intro h
      rw [if_pos (h k (by omega)), h1.2 fun y hy => h y (by omega)]
theorem cntF_pos (f : Nat → Bool) (p : Nat) : ∀ k, 0 < cntF f p k ↔ ∃ y, y < k ∧ f (p + y) = true
  | 0 => by simp [cntF_zero]
  | k + 1 => by
    have h1 := cntF_pos f p k
    rw [cntF_succ]
    constructor
    · intro h
      by_cases hf : f (p + k) = true
      · exact ⟨k, by omega, hf⟩
      · rw [if_neg hf] at h
        obtain ⟨y, hy, h3⟩ := h1.1 (by omega)
        exact ⟨y, by omega, h3⟩
    · rintro ⟨y, hy, h3⟩
      by_cases he : y = k
      · subst he; rw [if_pos h3]; omega
      · have := h1.2 ⟨y, by omega, h3⟩
        omega
theorem set_sep : ∀ {L : List Sp} {a : Nat}, SetL a L → ∀ x ∈ L, ∀ y ∈ L, x = y ∨ x.1 + x.2 < y.1 ∨ y.1 + y.2 < x.1
  | [], _, _, x, hx, _, _ => by cases hx
  | z :: L, a, h, x, hx, y, hy => by
    obtain ⟨h1, h2, h3, h4⟩ := h
    rcases List.mem_cons.1 hx with e1 | hx2
    · rcases List.mem_cons.1 hy with e2 | hy2
      · exact .inl (e1.trans e2.symm)
      · have := (h4.lo y hy2).1; subst e1; exact .inr (.inl (by omega))
    · rcases List.mem_cons.1 hy with e2 | hy2
      · have := (h4.lo x hx2).1; subst e2; exact .inr (.inr (by omega))
      · exact set_sep h4 x hx2 y hy2
theorem has_cnt (L : List Sp) (hL : SetL 0 L) (p q : Nat) (hq : 1 ≤ q) : L.any (hasOne p q) = decide (cntF (inS L) p q = q) := by
  rw [Bool.eq_iff_iff, decide_eq_true_iff, cntF_all, List.any_eq_true]
  constructor
  · rintro ⟨x, hx, h1⟩ y hy
    unfold hasOne at h1
    simp at h1
    exact (inS_iff L _).2 ⟨x, hx, by omega, by omega⟩
  · intro h
    obtain ⟨x, hx, h1, h2⟩ := (inS_iff L _).1 (h 0 (by omega))
    refine ⟨x, hx, ?_⟩
    unfold hasOne
    simp
    refine ⟨by omega, ?_⟩
    rcases Nat.lt_or_ge (x.1 + x.2) (p + q) with h3 | h3
    · exfalso
      have h4 := h (x.1 + x.2 - p) (by omega)
      obtain ⟨z, hz, h5, h6⟩ := (inS_iff L _).1 h4
      rcases set_sep hL x hx z hz with rfl | h7 | h7 <;> omega
    · exact h3
theorem meets_cnt (L : List Sp) (hL : SetL 0 L) (p q : Nat) (hq : 1 ≤ q) : L.any (meetsOne p q) = decide (0 < cntF (inS L) p q) := by
  rw [Bool.eq_iff_iff, decide_eq_true_iff, cntF_pos, List.any_eq_true]
  constructor
  · rintro ⟨x, hx, h1⟩
    unfold meetsOne at h1
    simp at h1
    have := hL.val x hx
    refine ⟨max x.1 p - p, by omega, (inS_iff L _).2 ⟨x, hx, by omega, by omega⟩⟩
  · rintro ⟨y, hy, h1⟩
    obtain ⟨x, hx, h2, h3⟩ := (inS_iff L _).1 h1
    refine ⟨x, hx, ?_⟩
    unfold meetsOne
    simp
    omega
theorem cntF_span (a b : Nat) : ∀ k, cntF (fun y => decide (a ≤ y) && decide (y < b)) 0 k = min k b - a
  | 0 => by simp [cntF_zero]
  | k + 1 => by
    rw [cntF_succ, cntF_span a b k]
    simp only [Nat.zero_add, Bool.and_eq_true, decide_eq_true_eq]
    split <;> omega
theorem cntF_or (f g : Nat → Bool) (p : Nat) : ∀ k, (∀ y, y < k → ¬ (f (p + y) = true ∧ g (p + y) = true)) → cntF (fun y => f y || g y) p k = cntF f p k + cntF g p k
  | 0, _ => by simp [cntF_zero]
  | k + 1, h => by
    rw [cntF_succ, cntF_succ, cntF_succ, cntF_or f g p k fun y hy => h y (by omega)]
    have := h k (by omega)
    cases hf : f (p + k) <;> cases hg : g (p + k) <;> simp_all
    all_goals omega
theorem cntF_congr {f g : Nat → Bool} (p : Nat) : ∀ k, (∀ y, y < k → f (p + y) = g (p + y)) → cntF f p k = cntF g p k
  | 0, _ => rfl
  | k + 1, h => by rw [cntF_succ, cntF_succ, cntF_congr p k fun y hy => h y (by omega), h k (by omega)]
theorem count_cnt : ∀ {L : List Sp} {a : Nat}, SetL a L → cntF (inS L) 0 1024 = cntL L
  | [], _, _ => by
    have : cntF (inS []) 0 1024 = cntF (fun y => decide (0 ≤ y) && decide (y < 0)) 0 1024 := cntF_congr 0 1024 fun y _ => by simp [inS]
    rw [this, cntF_span]; rfl
  | x :: L, a, h => by
    obtain ⟨h1, h2, h3, h4⟩ := h
    have h5 := count_cnt h4
    have h6 : cntF (inS (x :: L)) 0 1024 = cntF (fun y => (decide (x.1 ≤ y) && decide (y < x.1 + x.2)) || inS L y) 0 1024 := cntF_congr 0 1024 fun y _ => by rw [inS_cons]
    rw [h6, cntF_or (fun y => decide (x.1 ≤ y) && decide (y < x.1 + x.2)) (inS L) 0 1024 (fun y _ hy => by
      have h7 := hy.1
      simp at h7
      have h8 := h4.out (p := 0 + y) (by omega)
      rw [h8] at hy; simp at hy), cntF_span, h5]
    unfold cntL
    simp
    omega
end Go.Proofs.Ytgljfiihaehedaa
