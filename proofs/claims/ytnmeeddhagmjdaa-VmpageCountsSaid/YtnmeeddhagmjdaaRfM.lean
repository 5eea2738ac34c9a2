/- Plans of rules: which calls they refuse. -/
namespace Go.Proofs.Ytnmeeddhagmjdaa

/-- A valid rule. -/
structure Ru where
  k : Nat
  f : Nat
  e : Nat
  t : Nat
  deriving DecidableEq
structure Ru.ok (r : Ru) : Prop where
  k : r.k < 7
  f1 : 1 ≤ r.f
  f2 : r.f ≤ 10000
  e2 : r.e ≤ 12
  t2 : r.t ≤ 1000
  et : r.e = 0 → r.t = 1
/-- Does the rule refuse the n-th call of its kind? -/
def Ru.ref (r : Ru) (n : Nat) : Bool := decide (r.f ≤ n) && decide (r.f + (n - r.f) / r.e * r.e = n) && (decide (r.t = 0) || decide ((n - r.f) / r.e < r.t))
theorem Ru.ref_iff (r : Ru) (n : Nat) (h : r.ok) : r.ref n = true ↔ ∃ i, n = r.f + i * r.e ∧ (r.t = 0 ∨ i < r.t) := by
  unfold Ru.ref
  simp only [Bool.and_eq_true, Bool.or_eq_true, decide_eq_true_eq]
  constructor
  · rintro ⟨⟨h1, h2⟩, h3⟩
    exact ⟨(n - r.f) / r.e, h2.symm, h3⟩
  · rintro ⟨i, rfl, h3⟩
    rw [Nat.add_sub_cancel_left]
    by_cases he : r.e = 0
    · rw [he]
      have := h.et he
      refine ⟨⟨by omega, by simp⟩, .inr (by simp; omega)⟩
    · rw [Nat.mul_div_cancel i (by omega)]
      exact ⟨⟨by omega, rfl⟩, h3⟩
/-- Does the plan refuse it? -/
def refP (l : List Ru) (k n : Nat) : Bool := l.any fun r => decide (r.k = k) && r.ref n
def OkL (l : List Ru) : Prop := l.length ≤ 50 ∧ ∀ r ∈ l, r.ok
theorem OkL.get {l : List Ru} (h : OkL l) {j : Nat} {r : Ru} (hj : l[j]? = some r) : r.ok := h.2 r (List.mem_of_getElem? hj)

/-- What is left of a rule after the n-th call. -/
def later (r : Ru) (n : Nat) : Option Ru :=
  if n < r.f then some r else
  if r.t ≠ 0 ∧ r.t ≤ 1 + (n - r.f) / r.e then none else
  some ⟨r.k, r.f + (1 + (n - r.f) / r.e) * r.e, r.e, r.t - (1 + (n - r.f) / r.e)⟩
theorem later_none {r : Ru} (h : r.ok) {n : Nat} (hn : later r n = none) (m : Nat) (hm : n < m) : r.ref m = false := by
  rw [Bool.eq_false_iff]
  intro h1
  obtain ⟨i, rfl, h3⟩ := (r.ref_iff m h).1 h1
  unfold later at hn
  split at hn
  · cases hn
  · split at hn
    · rename_i h4 h5
      have h6 : i < r.t := by omega
      have he : r.e = 0 ∨ 0 < r.e := by omega
      rcases he with he | he
      · rw [he] at hm; omega
      · have h7 : i ≤ (n - r.f) / r.e := by omega
        have h8 := Nat.mul_le_mul_right r.e h7
        have h9 := Nat.div_mul_le_self (n - r.f) r.e
        omega
    · cases hn
theorem later_some {r r' : Ru} (h : r.ok) {n : Nat} (hn : later r n = some r') : r'.k = r.k ∧ r'.e = r.e ∧ n < r'.f ∧ (r'.e = 0 → r'.t = 1) ∧ (r'.t ≤ 1000) ∧ (r'.f ≤ 10000 ∨ r'.f ≤ n + 12) ∧ (∀ m, n < m → (r.ref m = true ↔ ∃ i, m = r'.f + i * r'.e ∧ (r'.t = 0 ∨ i < r'.t))) := by
  unfold later at hn
  split at hn
  · cases hn
    rename_i h1
    exact ⟨rfl, rfl, h1, h.et, h.t2, .inl h.f2, fun m _ => r.ref_iff m h⟩
  · split at hn
    · cases hn
    · rename_i h1 h2
      cases hn
      have he : 0 < r.e := by
        rcases Nat.eq_zero_or_pos r.e with he | he
        · have := h.et he; rw [he] at h2; simp at h2; omega
        · exact he
      have h9 := Nat.div_mul_le_self (n - r.f) r.e
      have h10 := Nat.lt_div_mul_add (a := n - r.f) he
      have h11 := h.e2
      have ht := h.t2
      obtain ⟨q, hq⟩ : ∃ q, (n - r.f) / r.e = q := ⟨_, rfl⟩
      rw [hq] at h9 h10 h2 ⊢
      have hx : (1 + q) * r.e = r.e + q * r.e := by rw [Nat.add_mul, Nat.one_mul]
      refine ⟨rfl, rfl, ?_, ?_, ?_, ?_, fun m hm => ?_⟩
      · show n < r.f + (1 + q) * r.e; omega
      · show r.e = 0 → _; omega
      · show r.t - (1 + q) ≤ 1000; omega
      · right; show r.f + (1 + q) * r.e ≤ n + 12; omega
      · rw [r.ref_iff m h]
        constructor
        · rintro ⟨i, rfl, h3⟩
          have hi : q < i := by
            rcases Nat.lt_or_ge q i with h5 | h5
            · exact h5
            · have := Nat.mul_le_mul_right r.e h5; omega
          refine ⟨i - (1 + q), ?_, by show r.t - (1 + q) = 0 ∨ i - (1 + q) < r.t - (1 + q); omega⟩
          show r.f + i * r.e = r.f + (1 + q) * r.e + (i - (1 + q)) * r.e
          rw [Nat.add_assoc, ← Nat.add_mul]
          congr 2; omega
        · rintro ⟨i, rfl, h3⟩
          have h3' : r.t - (1 + q) = 0 ∨ i < r.t - (1 + q) := h3
          refine ⟨(1 + q) + i, ?_, by omega⟩
          show r.f + (1 + q) * r.e + i * r.e = _
          rw [Nat.add_assoc, ← Nat.add_mul]
theorem later_first {r r' : Ru} (h : r.ok) {n : Nat} (hn : later r n = some r') : r.ref r'.f = true ∧ ∀ m, n < m → r.ref m = true → r'.f ≤ m := by
  obtain ⟨_, he, h1, h2, _, _, h3⟩ := later_some h hn
  refine ⟨(h3 _ h1).2 ⟨0, by omega, by omega⟩, fun m hm hr => ?_⟩
  obtain ⟨i, rfl, _⟩ := (h3 m hm).1 hr
  exact Nat.le_add_right _ _

/-- The first call after the n-th one that the plan refuses, one rule after the other. -/
def aftS (k n : Nat) (acc : Option Nat) (r : Ru) : Option Nat :=
  if r.k = k then match later r n with
    | some r' => match acc with
      | none => some r'.f
      | some x => if r'.f < x then some r'.f else some x
    | none => acc
  else acc
def aft (l : List Ru) (k n : Nat) : Option Nat := l.foldl (aftS k n) none
theorem aft_snoc (l : List Ru) (r : Ru) (k n : Nat) : aft (l ++ [r]) k n = aftS k n (aft l k n) r := by unfold aft; rw [List.foldl_append]; rfl
theorem aft_take (l : List Ru) (k n j : Nat) (r : Ru) (h : l[j]? = some r) : aft (l.take (j + 1)) k n = aftS k n (aft (l.take j) k n) r := by
  rw [List.take_add_one, h]; exact aft_snoc _ _ _ _
def AftI (l : List Ru) (k n : Nat) : Option Nat → Prop
  | none => ∀ m, n < m → refP l k m = false
  | some x => n < x ∧ refP l k x = true ∧ ∀ m, n < m → m < x → refP l k m = false
theorem refP_snoc (l : List Ru) (r : Ru) (k n : Nat) : refP (l ++ [r]) k n = (refP l k n || (decide (r.k = k) && r.ref n)) := by unfold refP; simp
theorem aft_inv (k n : Nat) : ∀ (l : List Ru), (∀ r ∈ l, r.ok) → AftI l k n (aft l k n) := by
  intro l
  rw [← List.reverse_reverse l]
  generalize l.reverse = s
  induction s with
  | nil => intro _ m _; rfl
  | cons r s ih =>
    intro hok
    rw [List.reverse_cons] at hok ⊢
    have hr : r.ok := hok r (by simp)
    have ih := ih (fun x hx => hok x (by simp at hx ⊢; exact .inl hx))
    rw [aft_snoc]
    generalize aft s.reverse k n = acc at ih ⊢
    generalize s.reverse = l at ih ⊢
    unfold aftS
    by_cases hk : r.k = k
    · rw [if_pos hk]
      cases hl : later r n with
      | none =>
        have h0 := later_none hr hl
        cases acc with
        | none => intro m hm; rw [refP_snoc, ih m hm, h0 m hm]; simp
        | some x => exact ⟨ih.1, by rw [refP_snoc, ih.2.1]; rfl, fun m h1 h2 => by rw [refP_snoc, ih.2.2 m h1 h2, h0 m h1]; simp⟩
      | some r' =>
        obtain ⟨h1, h2⟩ := later_first hr hl
        have h3 := (later_some hr hl).2.2.1
        have hlo : ∀ m, n < m → m < r'.f → r.ref m = false := fun m hm hm2 => by
          rw [Bool.eq_false_iff]; intro h4; have := h2 m hm h4; omega
        cases acc with
        | none => exact ⟨h3, by rw [refP_snoc, h1]; simp [hk], fun m hm hm2 => by rw [refP_snoc, ih m hm, hlo m hm hm2]; simp⟩
        | some x =>
          obtain ⟨i1, i2, i3⟩ := ih
          simp only
          by_cases hx : r'.f < x
          · rw [if_pos hx]
            exact ⟨h3, by rw [refP_snoc, h1]; simp [hk], fun m hm hm2 => by rw [refP_snoc, i3 m hm (by omega), hlo m hm hm2]; simp⟩
          · rw [if_neg hx]
            exact ⟨i1, by rw [refP_snoc, i2]; rfl, fun m hm hm2 => by rw [refP_snoc, i3 m hm hm2, hlo m hm (by omega)]; simp⟩
    · rw [if_neg hk]
      cases acc with
      | none => intro m hm; rw [refP_snoc, ih m hm]; simp [hk]
      | some x => exact ⟨ih.1, by rw [refP_snoc, ih.2.1]; rfl, fun m h1 h2 => by rw [refP_snoc, ih.2.2 m h1 h2]; simp [hk]⟩
theorem aft_ref {l : List Ru} (h : ∀ r ∈ l, r.ok) (k n : Nat) (hn : 1 ≤ n) : decide (aft l k (n - 1) = some n) = refP l k n := by
  have hi := aft_inv k (n - 1) l h
  cases ha : aft l k (n - 1) with
  | none => rw [ha] at hi; rw [hi n (by omega)]; simp
  | some x =>
    rw [ha] at hi
    obtain ⟨h1, h2, h3⟩ := hi
    by_cases hx : x = n
    · subst hx; rw [h2]; simp
    · have : refP l k n = false := by
        rcases Nat.lt_or_ge n x with h4 | h4
        · exact h3 n (by omega) h4
        · exfalso; omega
      rw [this]; simp [hx]
theorem aft_bound {l : List Ru} (h : ∀ r ∈ l, r.ok) (k n x : Nat) (ha : aft l k n = some x) : x ≤ 10000 ∨ x ≤ n + 12 := by
  have hi := aft_inv k n l h
  rw [ha] at hi
  obtain ⟨h1, h2, h3⟩ := hi
  unfold refP at h2
  obtain ⟨r, hr, h4⟩ := List.any_eq_true.1 h2
  simp at h4
  have hok := h r hr
  cases hl : later r n with
  | none => rw [later_none hok hl x h1] at h4; exact absurd h4.2 (by decide)
  | some r' =>
    obtain ⟨h5, h6⟩ := later_first hok hl
    have h7 := later_some hok hl
    rcases Nat.lt_or_ge r'.f x with h8 | h8
    · have h9 := h3 r'.f h7.2.2.1 h8
      have : refP l k r'.f = true := List.any_eq_true.2 ⟨r, hr, by simp [h4.1, h5]⟩
      rw [this] at h9; cases h9
    · have := h7.2.2.2.2.2.1; omega

/-- The calls of a rule, from the i-th on, up to the call most. -/
def clF (r : Ru) (most : Nat) : Nat → Nat → List Nat
  | 0, _ => []
  | fuel + 1, i => if r.t ≠ 0 ∧ r.t ≤ i then [] else if most < r.f + i * r.e then [] else (r.f + i * r.e) :: clF r most fuel (i + 1)
def clL (r : Ru) (most : Nat) : List Nat := clF r most (most + 2) 0
theorem clF_mem {r : Ru} {most : Nat} : ∀ {fuel i m : Nat}, m ∈ clF r most fuel i → ∃ j, i ≤ j ∧ m = r.f + j * r.e ∧ (r.t = 0 ∨ j < r.t) ∧ m ≤ most
  | 0, i, m, h => by cases h
  | fuel + 1, i, m, h => by
    rw [clF] at h
    split at h
    · cases h
    · split at h
      · cases h
      · rcases List.mem_cons.1 h with rfl | h
        · exact ⟨i, Nat.le_refl _, rfl, by omega, by omega⟩
        · obtain ⟨j, h1, h2⟩ := clF_mem h
          exact ⟨j, by omega, h2⟩
theorem clF_has {r : Ru} {most : Nat} (he : 0 < r.e) : ∀ (fuel i j : Nat), i ≤ j → (r.t = 0 ∨ j < r.t) → r.f + j * r.e ≤ most → j - i < fuel → r.f + j * r.e ∈ clF r most fuel i
  | 0, i, j, _, _, _, h => by omega
  | fuel + 1, i, j, h1, h2, h3, h4 => by
    have h5 := Nat.mul_le_mul_right r.e h1
    rw [clF, if_neg (by omega), if_neg (by omega)]
    by_cases hij : i = j
    · subst hij; exact List.mem_cons_self
    · exact List.mem_cons_of_mem _ (clF_has he fuel (i + 1) j (by omega) h2 h3 (by omega))
theorem clF_len (r : Ru) (most : Nat) : ∀ fuel i, (clF r most fuel i).length ≤ fuel
  | 0, _ => Nat.le_refl _
  | fuel + 1, i => by
    rw [clF]
    split
    · simp
    · split
      · simp
      · have := clF_len r most fuel (i + 1); simp; omega
theorem clF_pair {r : Ru} (he : 0 < r.e) (most : Nat) : ∀ fuel i, (clF r most fuel i).Pairwise (· < ·)
  | 0, _ => List.Pairwise.nil
  | fuel + 1, i => by
    rw [clF]
    split
    · exact List.Pairwise.nil
    · split
      · exact List.Pairwise.nil
      · refine List.Pairwise.cons (fun m hm => ?_) (clF_pair he most fuel (i + 1))
        obtain ⟨j, h1, rfl, _⟩ := clF_mem hm
        have := Nat.mul_lt_mul_of_pos_right (show i < j by omega) he
        omega
theorem count_pair : ∀ {l : List Nat}, l.Pairwise (· < ·) → ∀ m, l.count m = if m ∈ l then 1 else 0
  | [], _, m => rfl
  | x :: l, h, m => by
    obtain ⟨h1, h2⟩ := List.pairwise_cons.1 h
    rw [List.count_cons, count_pair h2 m]
    by_cases hx : x = m
    · subst hx
      have : x ∉ l := fun hm => absurd (h1 x hm) (Nat.lt_irrefl _)
      simp [this]
    · have : (x == m) = false := by simpa using hx
      rw [this]
      by_cases hm : m ∈ l
      · rw [if_pos hm, if_pos (List.mem_cons_of_mem _ hm)]; rfl
      · have h5 : ¬ m ∈ x :: l := fun h6 => by
          rcases List.mem_cons.1 h6 with h7 | h7
          · exact hx h7.symm
          · exact hm h7
        rw [if_neg hm, if_neg h5]; rfl
theorem clL_count {r : Ru} (h : r.ok) (most m : Nat) (hm : m ≤ most) : (clL r most).count m = if r.ref m then 1 else 0 := by
  rcases Nat.eq_zero_or_pos r.e with he | he
  · have ht := h.et he
    have h1 : r.ref m = decide (r.f = m) := by
      rw [Bool.eq_iff_iff, r.ref_iff m h, he, ht]
      constructor
      · rintro ⟨i, rfl, _⟩; simp
      · intro h2; simp at h2; exact ⟨0, by omega, by omega⟩
    unfold clL
    rw [clF, if_neg (by omega), he]
    by_cases h2 : most < r.f + 0 * 0
    · rw [if_pos h2, h1]
      have : r.f ≠ m := by omega
      simp [this]
    · rw [if_neg h2, clF, if_pos (by omega), h1]
      by_cases h3 : r.f = m
      · simp [h3]
      · simp [h3]
  · unfold clL
    rw [count_pair (clF_pair he most _ _)]
    have : m ∈ clF r most (most + 2) 0 ↔ r.ref m = true := by
      rw [r.ref_iff m h]
      constructor
      · intro h1
        obtain ⟨j, _, h2, h3, _⟩ := clF_mem h1
        exact ⟨j, h2, h3⟩
      · rintro ⟨j, rfl, h3⟩
        refine clF_has he _ _ j (Nat.zero_le _) h3 hm ?_
        have : j * 1 ≤ j * r.e := Nat.mul_le_mul_left _ he
        omega
    simp only [this]

/-- How many rules refuse the n-th call of a kind. -/
def cnt (l : List Ru) (k n : Nat) : Nat := (l.filter fun r => decide (r.k = k) && r.ref n).length
theorem cnt_le (l : List Ru) (k n : Nat) : cnt l k n ≤ l.length := List.length_filter_le _ _
theorem cnt_pos (l : List Ru) (k n : Nat) : decide (0 < cnt l k n) = refP l k n := by
  unfold cnt refP
  rw [Bool.eq_iff_iff, decide_eq_true_eq, List.length_pos_iff_exists_mem, List.any_eq_true]
  simp only [List.mem_filter]
theorem cnt_take (l : List Ru) (k n j : Nat) (r : Ru) (h : l[j]? = some r) : cnt (l.take (j + 1)) k n = cnt (l.take j) k n + if r.k = k ∧ r.ref n = true then 1 else 0 := by
  rw [List.take_add_one, h]
  unfold cnt
  rw [Option.toList_some, List.filter_append, List.length_append]
  by_cases h2 : r.k = k ∧ r.ref n = true
  · simp [h2.1, h2.2]
  · rw [if_neg h2]
    have : (decide (r.k = k) && r.ref n) = false := by
      rw [Bool.eq_false_iff]; intro h3; simp at h3; exact h2 h3
    simp [this]
/-- How many of the calls from 0 to n - 1 are refused. -/
def hitB (l : List Ru) (k : Nat) : Nat → Nat
  | 0 => 0
  | n + 1 => hitB l k n + if refP l k n then 1 else 0
theorem hitB_le (l : List Ru) (k : Nat) : ∀ n, hitB l k n ≤ n
  | 0 => Nat.le_refl _
  | n + 1 => by have := hitB_le l k n; unfold hitB; split <;> omega
/-- How many of the first n calls are refused. -/
def hitN (l : List Ru) (k n : Nat) : Nat := hitB l k (n + 1)
theorem ref_zero {r : Ru} (h : r.ok) : r.ref 0 = false := by
  have := h.f1
  unfold Ru.ref
  simp; omega
theorem refP_zero {l : List Ru} (h : ∀ r ∈ l, r.ok) (k : Nat) : refP l k 0 = false := by
  unfold refP
  rw [List.any_eq_false]
  intro r hr
  simp [ref_zero (h r hr)]
theorem hitN_zero {l : List Ru} (h : ∀ r ∈ l, r.ok) (k : Nat) : hitN l k 0 = 0 := by unfold hitN hitB hitB; rw [refP_zero h]; rfl
theorem hitN_succ (l : List Ru) (k n : Nat) : hitN l k (n + 1) = hitN l k n + if refP l k (n + 1) then 1 else 0 := rfl
theorem hitN_le (l : List Ru) (k n : Nat) (h : ∀ r ∈ l, r.ok) : hitN l k n ≤ n := by
  induction n with
  | zero => rw [hitN_zero h]; exact Nat.le_refl _
  | succ n ih => rw [hitN_succ]; split <;> omega
end Go.Proofs.Ytnmeeddhagmjdaa
