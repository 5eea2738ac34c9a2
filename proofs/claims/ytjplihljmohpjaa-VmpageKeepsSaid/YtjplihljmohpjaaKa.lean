/- The rules and how they lie. -/
import Derived.WalkKit
import Derived.WalkSpells
import Derived.WalkLawsBesides
import Derived.Lib.Hide
import Derived.RangeFuncBox
import Derived.Deep.QuietTactic
import Derived.BigQuiet
import Derived.Outline
import Derived.Laws.OwnMore
import Derived.OwnWalk
import Derived.RangeFuncLeaves
import Derived.RangeFuncFrom
import Derived.RangeFuncWrites
import Derived.RangeFuncNested
import Derived.RangeFuncCalls
import Derived.Shelf.RegionOpen
import Derived.Sort.LoopGhostIn
import Derived.Shelf.Abstract
import Derived.OwnWalkIn
import Derived.TacticsInMore
import Derived.LoopNIn
import Derived.Sort.QuietIn
import Derived.Test.YtjplihljmohpjaaProg
/- Plans of rules: which calls they refuse. -/
namespace Go.Proofs.Ytjplihljmohpjaa

/-- A valid rule. -/
structure Ru where
  k : Nat
  f : Nat
  e : Nat
  t : Nat
  deriving DecidableEq
structure Ru.ok (r : Ru) : Prop where
  k : r.k < 7
  f1 : 1 ≤ r.f
  f2 : r.f ≤ 10000
  e2 : r.e ≤ 12
  t2 : r.t ≤ 1000
  et : r.e = 0 → r.t = 1
/-- Does the rule refuse the n-th call of its kind? -/
def Ru.ref (r : Ru) (n : Nat) : Bool := decide (r.f ≤ n) && decide (r.f + (n - r.f) / r.e * r.e = n) && (decide (r.t = 0) || decide ((n - r.f) / r.e < r.t))
theorem Ru.ref_iff (r : Ru) (n : Nat) (h : r.ok) : r.ref n = true ↔ ∃ i, n = r.f + i * r.e ∧ (r.t = 0 ∨ i < r.t) := by
  unfold Ru.ref
  simp only [Bool.and_eq_true, Bool.or_eq_true, decide_eq_true_eq]
  constructor
  · rintro ⟨⟨h1, h2⟩, h3⟩
    exact ⟨(n - r.f) / r.e, h2.symm, h3⟩
  · rintro ⟨i, rfl, h3⟩
    rw [Nat.add_sub_cancel_left]
    by_cases he : r.e = 0
    · rw [he]
      have := h.et he
      refine ⟨⟨by omega, by simp⟩, .inr (by simp; omega)⟩
    · rw [Nat.mul_div_cancel i (by omega)]
      exact ⟨⟨by omega, rfl⟩, h3⟩
/-- Does the plan refuse it? -/
def refP (l : List Ru) (k n : Nat) : Bool := l.any fun r => decide (r.k = k) && r.ref n
def OkL (l : List Ru) : Prop := l.length ≤ 50 ∧ ∀ r ∈ l, r.ok
theorem OkL.get {l : List Ru} (h : OkL l) {j : Nat} {r : Ru} (hj : l[j]? = some r) : r.ok := h.2 r (List.mem_of_getElem? hj)

/-- What is left of a rule after the n-th call. -/
def later (r : Ru) (n : Nat) : Option Ru :=
  if n < r.f then some r else
  if r.t ≠ 0 ∧ r.t ≤ 1 + (n - r.f) / r.e then none else
  some ⟨r.k, r.f + (1 + (n - r.f) / r.e) * r.e, r.e, r.t - (1 + (n - r.f) / r.e)⟩
theorem later_none {r : Ru} (h : r.ok) {n : Nat} (hn : later r n = none) (m : Nat) (hm : n < m) : r.ref m = false := by
  rw [Bool.eq_false_iff]
  intro h1
  obtain ⟨i, rfl, h3⟩ := (r.ref_iff m h).1 h1
  unfold later at hn
  split at hn
  · cases hn
  · split at hn
    · rename_i h4 h5
      have h6 : i < r.t := by omega
      have he : r.e = 0 ∨ 0 < r.e := by omega
      rcases he with he | he
      · rw [he] at hm; omega
      · have h7 : i ≤ (n - r.f) / r.e := by omega
        have h8 := Nat.mul_le_mul_right r.e h7
        have h9 := Nat.div_mul_le_self (n - r.f) r.e
        omega
    · cases hn
theorem later_some {r r' : Ru} (h : r.ok) {n : Nat} (hn : later r n = some r') : r'.k = r.k ∧ r'.e = r.e ∧ n < r'.f ∧ (r'.e = 0 → r'.t = 1) ∧ (r'.t ≤ 1000) ∧ (r'.f ≤ 10000 ∨ r'.f ≤ n + 12) ∧ (∀ m, n < m → (r.ref m = true ↔ ∃ i, m = r'.f + i * r'.e ∧ (r'.t = 0 ∨ i < r'.t))) := by
  unfold later at hn
  split at hn
  · cases hn
    rename_i h1
    exact ⟨rfl, rfl, h1, h.et, h.t2, .inl h.f2, fun m _ => r.ref_iff m h⟩
  · split at hn
    · cases hn
    · rename_i h1 h2
      cases hn
      have he : 0 < r.e := by
        rcases Nat.eq_zero_or_pos r.e with he | he
        · have := h.et he; rw [he] at h2; simp at h2; omega
        · exact he
      have h9 := Nat.div_mul_le_self (n - r.f) r.e
      have h10 := Nat.lt_div_mul_add (a := n - r.f) he
      have h11 := h.e2
      have ht := h.t2
      obtain ⟨q, hq⟩ : ∃ q, (n - r.f) / r.e = q := ⟨_, rfl⟩
      rw [hq] at h9 h10 h2 ⊢
      have hx : (1 + q) * r.e = r.e + q * r.e := by rw [Nat.add_mul, Nat.one_mul]
      refine ⟨rfl, rfl, ?_, ?_, ?_, ?_, fun m hm => ?_⟩
      · show n < r.f + (1 + q) * r.e; omega
      · show r.e = 0 → _; omega
      · show r.t - (1 + q) ≤ 1000; omega
      · right; show r.f + (1 + q) * r.e ≤ n + 12; omega
      · rw [r.ref_iff m h]
        constructor
        · rintro ⟨i, rfl, h3⟩
          have hi : q < i := by
            rcases Nat.lt_or_ge q i with h5 | h5
            · exact h5
            · have := Nat.mul_le_mul_right r.e h5; omega
          refine ⟨i - (1 + q), ?_, by show r.t - (1 + q) = 0 ∨ i - (1 + q) < r.t - (1 + q); omega⟩
          show r.f + i * r.e = r.f + (1 + q) * r.e + (i - (1 + q)) * r.e
          rw [Nat.add_assoc, ← Nat.add_mul]
          congr 2; omega
        · rintro ⟨i, rfl, h3⟩
          have h3' : r.t - (1 + q) = 0 ∨ i < r.t - (1 + q) := h3
          refine ⟨(1 + q) + i, ?_, by omega⟩
          show r.f + (1 + q) * r.e + i * r.e = _
          rw [Nat.add_assoc, ← Nat.add_mul]
theorem later_first {r r' : Ru} (h : r.ok) {n : Nat} (hn : later r n = some r') : r.ref r'.f = true ∧ ∀ m, n < m → r.ref m = true → r'.f ≤ m := by
  obtain ⟨_, he, h1, h2, _, _, h3⟩ := later_some h hn
  refine ⟨(h3 _ h1).2 ⟨0, by omega, by omega⟩, fun m hm hr => ?_⟩
  obtain ⟨i, rfl, _⟩ := (h3 m hm).1 hr
  exact Nat.le_add_right _ _

/-- The first call after the n-th one that the plan refuses, one rule after the other. -/
def aftS (k n : Nat) (acc : Option Nat) (r : Ru) : Option Nat :=
  if r.k = k then match later r n with
    | some r' => match acc with
      | none => some r'.f
      | some x => if r'.f < x then some r'.f else some x
    | none => acc
  else acc
def aft (l : List Ru) (k n : Nat) : Option Nat := l.foldl (aftS k n) none
theorem aft_snoc (l : List Ru) (r : Ru) (k n : Nat) : aft (l ++ [r]) k n = aftS k n (aft l k n) r := by unfold aft; rw [List.foldl_append]; rfl
theorem aft_take (l : List Ru) (k n j : Nat) (r : Ru) (h : l[j]? = some r) : aft (l.take (j + 1)) k n = aftS k n (aft (l.take j) k n) r := by
  rw [List.take_add_one, h]; exact aft_snoc _ _ _ _
def AftI (l : List Ru) (k n : Nat) : Option Nat → Prop
  | none => ∀ m, n < m → refP l k m = false
  | some x => n < x ∧ refP l k x = true ∧ ∀ m, n < m → m < x → refP l k m = false
theorem refP_snoc (l : List Ru) (r : Ru) (k n : Nat) : refP (l ++ [r]) k n = (refP l k n || (decide (r.k = k) && r.ref n)) := by unfold refP; simp
theorem aft_inv (k n : Nat) : ∀ (l : List Ru), (∀ r ∈ l, r.ok) → AftI l k n (aft l k n) := by
  intro l
  rw [← List.reverse_reverse l]
  generalize l.reverse = s
  induction s with
  | nil => intro _ m _; rfl
  | cons r s ih =>
    intro hok
    rw [List.reverse_cons] at hok ⊢
    have hr : r.ok := hok r (by simp)
    have ih := ih (fun x hx => hok x (by simp at hx ⊢; exact .inl hx))
    rw [aft_snoc]
    generalize aft s.reverse k n = acc at ih ⊢
    generalize s.reverse = l at ih ⊢
    unfold aftS
    by_cases hk : r.k = k
    · rw [if_pos hk]
      cases hl : later r n with
      | none =>
        have h0 := later_none hr hl
        cases acc with
        | none => intro m hm; rw [refP_snoc, ih m hm, h0 m hm]; simp
        | some x => exact ⟨ih.1, by rw [refP_snoc, ih.2.1]; rfl, fun m h1 h2 => by rw [refP_snoc, ih.2.2 m h1 h2, h0 m h1]; simp⟩
      | some r' =>
        obtain ⟨h1, h2⟩ := later_first hr hl
        have h3 := (later_some hr hl).2.2.1
        have hlo : ∀ m, n < m → m < r'.f → r.ref m = false := fun m hm hm2 => by
          rw [Bool.eq_false_iff]; intro h4; have := h2 m hm h4; omega
        cases acc with
        | none => exact ⟨h3, by rw [refP_snoc, h1]; simp [hk], fun m hm hm2 => by rw [refP_snoc, ih m hm, hlo m hm hm2]; simp⟩
        | some x =>
          obtain ⟨i1, i2, i3⟩ := ih
          simp only
          by_cases hx : r'.f < x
          · rw [if_pos hx]
            exact ⟨h3, by rw [refP_snoc, h1]; simp [hk], fun m hm hm2 => by rw [refP_snoc, i3 m hm (by omega), hlo m hm hm2]; simp⟩
          · rw [if_neg hx]
            exact ⟨i1, by rw [refP_snoc, i2]; rfl, fun m hm hm2 => by rw [refP_snoc, i3 m hm hm2, hlo m hm (by omega)]; simp⟩
    · rw [if_neg hk]
      cases acc with
      | none => intro m hm; rw [refP_snoc, ih m hm]; simp [hk]
      | some x => exact ⟨ih.1, by rw [refP_snoc, ih.2.1]; rfl, fun m h1 h2 => by rw [refP_snoc, ih.2.2 m h1 h2]; simp [hk]⟩
theorem aft_ref {l : List Ru} (h : ∀ r ∈ l, r.ok) (k n : Nat) (hn : 1 ≤ n) : decide (aft l k (n - 1) = some n) = refP l k n := by
  have hi := aft_inv k (n - 1) l h
  cases ha : aft l k (n - 1) with
  | none => rw [ha] at hi; rw [hi n (by omega)]; simp
  | some x =>
    rw [ha] at hi
    obtain ⟨h1, h2, h3⟩ := hi
    by_cases hx : x = n
    · subst hx; rw [h2]; simp
    · have : refP l k n = false := by
        rcases Nat.lt_or_ge n x with h4 | h4
        · exact h3 n (by omega) h4
        · exfalso; omega
      rw [this]; simp [hx]
theorem aft_bound {l : List Ru} (h : ∀ r ∈ l, r.ok) (k n x : Nat) (ha : aft l k n = some x) : x ≤ 10000 ∨ x ≤ n + 12 := by
  have hi := aft_inv k n l h
  rw [ha] at hi
  obtain ⟨h1, h2, h3⟩ := hi
  unfold refP at h2
  obtain ⟨r, hr, h4⟩ := List.any_eq_true.1 h2
  simp at h4
  have hok := h r hr
  cases hl : later r n with
  | none => rw [later_none hok hl x h1] at h4; exact absurd h4.2 (by decide)
  | some r' =>
    obtain ⟨h5, h6⟩ := later_first hok hl
    have h7 := later_some hok hl
    rcases Nat.lt_or_ge r'.f x with h8 | h8
    · have h9 := h3 r'.f h7.2.2.1 h8
      have : refP l k r'.f = true := List.any_eq_true.2 ⟨r, hr, by simp [h4.1, h5]⟩
      rw [this] at h9; cases h9
    · have := h7.2.2.2.2.2.1; omega

/-- The calls of a rule, from the i-th on, up to the call most. -/
def clF (r : Ru) (most : Nat) : Nat → Nat → List Nat
  | 0, _ => []
  | fuel + 1, i => if r.t ≠ 0 ∧ r.t ≤ i then [] else if most < r.f + i * r.e then [] else (r.f + i * r.e) :: clF r most fuel (i + 1)
def clL (r : Ru) (most : Nat) : List Nat := clF r most (most + 2) 0
theorem clF_mem {r : Ru} {most : Nat} : ∀ {fuel i m : Nat}, m ∈ clF r most fuel i → ∃ j, i ≤ j ∧ m = r.f + j * r.e ∧ (r.t = 0 ∨ j < r.t) ∧ m ≤ most
  | 0, i, m, h => by cases h
  | fuel + 1, i, m, h => by
    rw [clF] at h
    split at h
    · cases h
    · split at h
      · cases h
      · rcases List.mem_cons.1 h with rfl | h
        · exact ⟨i, Nat.le_refl _, rfl, by omega, by omega⟩
        · obtain ⟨j, h1, h2⟩ := clF_mem h
          exact ⟨j, by omega, h2⟩
theorem clF_has {r : Ru} {most : Nat} (he : 0 < r.e) : ∀ (fuel i j : Nat), i ≤ j → (r.t = 0 ∨ j < r.t) → r.f + j * r.e ≤ most → j - i < fuel → r.f + j * r.e ∈ clF r most fuel i
  | 0, i, j, _, _, _, h => by omega
  | fuel + 1, i, j, h1, h2, h3, h4 => by
    have h5 := Nat.mul_le_mul_right r.e h1
    rw [clF, if_neg (by omega), if_neg (by omega)]
    by_cases hij : i = j
    · subst hij; exact List.mem_cons_self
    · exact List.mem_cons_of_mem _ (clF_has he fuel (i + 1) j (by omega) h2 h3 (by omega))
theorem clF_len (r : Ru) (most : Nat) : ∀ fuel i, (clF r most fuel i).length ≤ fuel
  | 0, _ => Nat.le_refl _
  | fuel + 1, i => by
    rw [clF]
    split
    · simp
    · split
      · simp
      · have := clF_len r most fuel (i + 1); simp; omega
theorem clF_pair {r : Ru} (he : 0 < r.e) (most : Nat) : ∀ fuel i, (clF r most fuel i).Pairwise (· < ·)
  | 0, _ => List.Pairwise.nil
  | fuel + 1, i => by
    rw [clF]
    split
    · exact List.Pairwise.nil
    · split
      · exact List.Pairwise.nil
      · refine List.Pairwise.cons (fun m hm => ?_) (clF_pair he most fuel (i + 1))
        obtain ⟨j, h1, rfl, _⟩ := clF_mem hm
        have := Nat.mul_lt_mul_of_pos_right (show i < j by omega) he
        omega
theorem count_pair : ∀ {l : List Nat}, l.Pairwise (· < ·) → ∀ m, l.count m = if m ∈ l then 1 else 0
  | [], _, m => rfl
  | x :: l, h, m => by
    obtain ⟨h1, h2⟩ := List.pairwise_cons.1 h
    rw [List.count_cons, count_pair h2 m]
    by_cases hx : x = m
    · subst hx
      have : x ∉ l := fun hm => absurd (h1 x hm) (Nat.lt_irrefl _)
      simp [this]
    · have : (x == m) = false := by simpa using hx
      rw [this]
      by_cases hm : m ∈ l
      · rw [if_pos hm, if_pos (List.mem_cons_of_mem _ hm)]; rfl
      · have h5 : ¬ m ∈ x :: l := fun h6 => by
          rcases List.mem_cons.1 h6 with h7 | h7
          · exact hx h7.symm
          · exact hm h7
        rw [if_neg hm, if_neg h5]; rfl
theorem clL_count {r : Ru} (h : r.ok) (most m : Nat) (hm : m ≤ most) : (clL r most).count m = if r.ref m then 1 else 0 := by
  rcases Nat.eq_zero_or_pos r.e with he | he
  · have ht := h.et he
    have h1 : r.ref m = decide (r.f = m) := by
      rw [Bool.eq_iff_iff, r.ref_iff m h, he, ht]
      constructor
      · rintro ⟨i, rfl, _⟩; simp
      · intro h2; simp at h2; exact ⟨0, by omega, by omega⟩
    unfold clL
    rw [clF, if_neg (by omega), he]
    by_cases h2 : most < r.f + 0 * 0
    · rw [if_pos h2, h1]
      have : r.f ≠ m := by omega
      simp [this]
    · rw [if_neg h2, clF, if_pos (by omega), h1]
      by_cases h3 : r.f = m
      · simp [h3]
      · simp [h3]
  · unfold clL
    rw [count_pair (clF_pair he most _ _)]
    have : m ∈ clF r most (most + 2) 0 ↔ r.ref m = true := by
      rw [r.ref_iff m h]
      constructor
      · intro h1
        obtain ⟨j, _, h2, h3, _⟩ := clF_mem h1
        exact ⟨j, h2, h3⟩
      · rintro ⟨j, rfl, h3⟩
        refine clF_has he _ _ j (Nat.zero_le _) h3 hm ?_
        have : j * 1 ≤ j * r.e := Nat.mul_le_mul_left _ he
        omega
    simp only [this]

/-- How many rules refuse the n-th call of a kind. -/
def cnt (l : List Ru) (k n : Nat) : Nat := (l.filter fun r => decide (r.k = k) && r.ref n).length
theorem cnt_le (l : List Ru) (k n : Nat) : cnt l k n ≤ l.length := List.length_filter_le _ _
theorem cnt_pos (l : List Ru) (k n : Nat) : decide (0 < cnt l k n) = refP l k n := by
  unfold cnt refP
  rw [Bool.eq_iff_iff, decide_eq_true_eq, List.length_pos_iff_exists_mem, List.any_eq_true]
  simp only [List.mem_filter]
theorem cnt_take (l : List Ru) (k n j : Nat) (r : Ru) (h : l[j]? = some r) : cnt (l.take (j + 1)) k n = cnt (l.take j) k n + if r.k = k ∧ r.ref n = true then 1 else 0 := by
  rw [List.take_add_one, h]
  unfold cnt
  rw [Option.toList_some, List.filter_append, List.length_append]
  by_cases h2 : r.k = k ∧ r.ref n = true
  · simp [h2.1, h2.2]
  · rw [if_neg h2]
    have : (decide (r.k = k) && r.ref n) = false := by
      rw [Bool.eq_false_iff]; intro h3; simp at h3; exact h2 h3
    simp [this]
/-- How many of the calls from 0 to n - 1 are refused. -/
def hitB (l : List Ru) (k : Nat) : Nat → Nat
  | 0 => 0
  | n + 1 => hitB l k n + if refP l k n then 1 else 0
theorem hitB_le (l : List Ru) (k : Nat) : ∀ n, hitB l k n ≤ n
  | 0 => Nat.le_refl _
  | n + 1 => by have := hitB_le l k n; unfold hitB; split <;> omega
/-- How many of the first n calls are refused. -/
def hitN (l : List Ru) (k n : Nat) : Nat := hitB l k (n + 1)
theorem ref_zero {r : Ru} (h : r.ok) : r.ref 0 = false := by
  have := h.f1
  unfold Ru.ref
  simp; omega
theorem refP_zero {l : List Ru} (h : ∀ r ∈ l, r.ok) (k : Nat) : refP l k 0 = false := by
  unfold refP
  rw [List.any_eq_false]
  intro r hr
  simp [ref_zero (h r hr)]
theorem hitN_zero {l : List Ru} (h : ∀ r ∈ l, r.ok) (k : Nat) : hitN l k 0 = 0 := by unfold hitN hitB hitB; rw [refP_zero h]; rfl
theorem hitN_succ (l : List Ru) (k n : Nat) : hitN l k (n + 1) = hitN l k n + if refP l k (n + 1) then 1 else 0 := rfl
theorem hitN_le (l : List Ru) (k n : Nat) (h : ∀ r ∈ l, r.ok) : hitN l k n ≤ n := by
  induction n with
  | zero => rw [hitN_zero h]; exact Nat.le_refl _
  | succ n ih => rw [hitN_succ]; split <;> omega
end Go.Proofs.Ytjplihljmohpjaa

/- Rules in memory. -/
namespace Go.Proofs.Ytjplihljmohpjaa
open Go.RowKit

theorem bcell {W w1 : World} (hb : Below W.heap.size W w1) : (∀ b o, b < W.heap.size → w1.cell? ⟨b, o, none⟩ = W.cell? ⟨b, o, none⟩) ∧ (∀ b o, b < W.heap.size → w1.frozen? ⟨b, o, none⟩ = W.frozen? ⟨b, o, none⟩) :=
  ⟨fun b o h => hb.cell (p := ⟨b, o, none⟩) h, fun b o h => hb.frozen (p := ⟨b, o, none⟩) h⟩
theorem ret_int {k : IntKind} {a b : Int} (h : a = b) : Ending.returned (.int k a) = .returned (.int k b) := by rw [h]
theorem ret_bool {a b : Bool} (h : a = b) : Ending.returned (.bool a) = .returned (.bool b) := by rw [h]
theorem below_drewN {B : Nat} {w w' : World} (h : Below B w w') (n : Nat) : Below B w (w'.drewN n) := h.trans ⟨rfl, rfl, rfl, Nat.le_refl _, fun _ _ => rfl⟩
theorem grown_of_below {w w' : World} (h : Below w.heap.size w w') : w.grownBy w' none := ⟨h.os, h.tape, h.output, h.size, fun k hk _ => h.block k hk⟩

/-- A rule as it is handed over: any four numbers. -/
structure RlI where
  k : Int
  f : Int
  e : Int
  t : Int
def Ru.toI (r : Ru) : RlI := ⟨r.k, r.f, r.e, r.t⟩
def toI (l : List Ru) : List RlI := l.map Ru.toI
theorem toI_len (l : List Ru) : (toI l).length = l.length := by unfold toI; simp
theorem toI_some {l : List Ru} {j : Nat} {r : Ru} (h : l[j]? = some r) : (toI l)[j]? = some r.toI := by unfold toI; rw [List.getElem?_map, h]; rfl
abbrev rv (x : RlI) : Value := .agg #[.int .i64 x.k, .int .i64 x.f, .int .i64 x.e, .int .i64 x.t]
/-- A slice value that reads as a list of rules. -/
def RAt (W : World) (v : Value) (l : List RlI) : Prop :=
  ((∃ a, v = .slice a 0 0) ∧ l = []) ∨ ∃ b off cap, v = .slice (some ⟨b, off, none⟩) l.length cap ∧ l.length ≤ cap ∧ cap ≤ maxLen ∧ ∀ (j : Nat) (x : RlI), l[j]? = some x →
    W.cell? ⟨b, off + j * 4, none⟩ = some (.int .i64 x.k) ∧ W.cell? ⟨b, off + j * 4 + 1, none⟩ = some (.int .i64 x.f) ∧ W.cell? ⟨b, off + j * 4 + 2, none⟩ = some (.int .i64 x.e) ∧ W.cell? ⟨b, off + j * 4 + 3, none⟩ = some (.int .i64 x.t)
theorem RAt.form {W : World} {v : Value} {l : List RlI} (h : RAt W v l) : ∃ a cap, v = .slice a l.length cap := by
  rcases h with ⟨⟨_, rfl⟩, rfl⟩ | ⟨b, off, cap, rfl, _⟩
  · exact ⟨_, _, rfl⟩
  · exact ⟨_, _, rfl⟩
theorem RAt.len {W : World} {v : Value} {l : List RlI} (h : RAt W v l) : l.length ≤ 9223372036854775807 := by
  rcases h with ⟨_, rfl⟩ | ⟨b, off, cap, _, h1, h2, _⟩
  · simp
  · unfold maxLen at h2; omega
theorem RAt.at {W : World} {a : Option Addr} {n cap : Nat} {l : List RlI} (h : RAt W (.slice a n cap) l) (k : Nat) (x : RlI) (hx : l[k]? = some x) : ∃ b off, a = some ⟨b, off, none⟩ ∧ b < W.heap.size ∧
    W.cell? ⟨b, off + k * 4, none⟩ = some (.int .i64 x.k) ∧ W.cell? ⟨b, off + k * 4 + 1, none⟩ = some (.int .i64 x.f) ∧ W.cell? ⟨b, off + k * 4 + 2, none⟩ = some (.int .i64 x.e) ∧ W.cell? ⟨b, off + k * 4 + 3, none⟩ = some (.int .i64 x.t) := by
  rcases h with ⟨_, rfl⟩ | ⟨b, off, cap', hv, _, _, hc⟩
  · simp at hx
  · cases hv; exact ⟨b, off, rfl, World.block_lt_of_cell? _ _ (hc k x hx).1, hc k x hx⟩
theorem RAt.later {w w' : World} {v : Value} {l : List RlI} (h : RAt w v l) (hb : Below w.heap.size w w') : RAt w' v l := by
  rcases h with h | ⟨b, off, cap, rfl, h1, h2, hc⟩
  · exact .inl h
  · exact .inr ⟨b, off, cap, rfl, h1, h2, fun j x hx => ⟨cell_later hb (hc j x hx).1, cell_later hb (hc j x hx).2.1, cell_later hb (hc j x hx).2.2.1, cell_later hb (hc j x hx).2.2.2⟩⟩
theorem RAt.of_heap {w w' : World} {v : Value} {l : List RlI} (h : RAt w v l) (hh : w'.heap = w.heap) : RAt w' v l := by
  rcases h with h | ⟨b, off, cap, rfl, h1, h2, hc⟩
  · exact .inl h
  · refine .inr ⟨b, off, cap, rfl, h1, h2, fun j x hx => ?_⟩
    have := hc j x hx
    simp only [World.cell?, hh] at this ⊢
    exact this
theorem nil_at (W : World) : RAt W (.slice none 0 0) [] := .inl ⟨⟨_, rfl⟩, rfl⟩
/-- The block of a slice that has cells. -/
def obk : Value → Option Nat
  | .slice (some a) _ (_ + 1) => some a.block
  | _ => none
theorem obk_own {v : Value} {b : Nat} (h : obk v = some b) : v.ownBlock = some b := by
  unfold obk at h; split at h
  · exact h
  · cases h
/-- The box of a rule. -/
def RBox (W : World) (k : Nat) (x : RlI) : Prop := W.heap[k]? = some (.cells #[.int .i64 x.k, .int .i64 x.f, .int .i64 x.e, .int .i64 x.t] 134 (0, 0))
theorem RBox.new (W : World) (x : RlI) : RBox (W.alloc (.cells #[.int .i64 x.k, .int .i64 x.f, .int .i64 x.e, .int .i64 x.t] 134)) W.heap.size x := World.alloc_heap_new W _
theorem RBox.lt {W : World} {k : Nat} {x : RlI} (h : RBox W k x) : k < W.heap.size := (Array.getElem?_eq_some_iff.1 h).1
theorem RBox.alloc {W : World} {k : Nat} {x : RlI} (h : RBox W k x) (o : Obj) : RBox (W.alloc o) k x := (Below.heap_alloc W o k h.lt).trans h
theorem RBox.later {W V : World} {k : Nat} {x : RlI} (h : RBox W k x) (hb : Below W.heap.size W V) : RBox V k x := (hb.block k h.lt).trans h
theorem RBox.c0 {W : World} {k : Nat} {x : RlI} (h : RBox W k x) : W.cell? ⟨k, 0, none⟩ = some (.int .i64 x.k) := by unfold RBox at h; simp [World.cell?, h]
theorem RBox.c1 {W : World} {k : Nat} {x : RlI} (h : RBox W k x) : W.cell? ⟨k, 1, none⟩ = some (.int .i64 x.f) := by unfold RBox at h; simp [World.cell?, h]
theorem RBox.c2 {W : World} {k : Nat} {x : RlI} (h : RBox W k x) : W.cell? ⟨k, 2, none⟩ = some (.int .i64 x.e) := by unfold RBox at h; simp [World.cell?, h]
theorem RBox.c3 {W : World} {k : Nat} {x : RlI} (h : RBox W k x) : W.cell? ⟨k, 3, none⟩ = some (.int .i64 x.t) := by unfold RBox at h; simp [World.cell?, h]
/-- A row of rules of the call's own. -/
def rowU (l : List RlI) : List Value := l.flatMap fun x => [.int .i64 x.k, .int .i64 x.f, .int .i64 x.e, .int .i64 x.t]
theorem rowU_snoc (l : List RlI) (x : RlI) : rowU (l ++ [x]) = rowU l ++ [.int .i64 x.k, .int .i64 x.f, .int .i64 x.e, .int .i64 x.t] := by unfold rowU; rw [List.flatMap_append, List.flatMap_singleton]
theorem rowU_len (l : List RlI) : (rowU l).length = 4 * l.length := by
  induction l with
  | nil => rfl
  | cons x l ih => show (rowU l).length + 1 + 1 + 1 + 1 = _; rw [ih, List.length_cons]; omega
theorem rowU_at : ∀ (l : List RlI) (k : Nat) (x : RlI), l[k]? = some x → (rowU l)[4 * k]? = some (.int .i64 x.k) ∧ (rowU l)[4 * k + 1]? = some (.int .i64 x.f) ∧ (rowU l)[4 * k + 2]? = some (.int .i64 x.e) ∧ (rowU l)[4 * k + 3]? = some (.int .i64 x.t)
  | [], _, _, h => by simp at h
  | y :: l, 0, x, h => by simp at h; subst h; exact ⟨rfl, rfl, rfl, rfl⟩
  | y :: l, k + 1, x, h => by
    have h2 := rowU_at l k x (by simpa using h)
    have e : rowU (y :: l) = .int .i64 y.k :: .int .i64 y.f :: .int .i64 y.e :: .int .i64 y.t :: rowU l := rfl
    rw [e, show 4 * (k + 1) = 4 * k + 1 + 1 + 1 + 1 by omega]
    simpa using h2
abbrev UOwn (W : World) (B : Nat) (v : Value) (l : List RlI) : Prop := W.ownsRow B 134 4 v l.length (rowU l)
theorem UOwn.at {W : World} {B : Nat} {v : Value} {l : List RlI} (h : UOwn W B v l) : RAt W v l := by
  obtain ⟨hl, ⟨hv, h0⟩ | ⟨g, cap, cur, hv, _, hg, h1, h2, h3, ht⟩⟩ := h
  · exact .inl ⟨⟨_, hv⟩, List.eq_nil_of_length_eq_zero h0⟩
  · refine .inr ⟨g, 0, cap, hv, h1, h2, fun j x hx => ?_⟩
    obtain ⟨r1, r2, r3, r4⟩ := rowU_at l j x hx
    have hj : j < l.length := (List.getElem?_eq_some_iff.1 hx).1
    rw [← ht, List.getElem?_take, if_pos (by omega)] at r1 r2 r3 r4
    rw [show 0 + j * 4 = 4 * j by omega]
    simp only [World.cell?, hg]
    exact ⟨by simpa using r1, by simpa using r2, by simpa using r3, by simpa using r4⟩

def I64 (x : Int) : Prop := -9223372036854775808 ≤ x ∧ x ≤ 9223372036854775807
def Fit (l : List RlI) : Prop := ∀ x ∈ l, I64 x.k ∧ I64 x.f ∧ I64 x.e ∧ I64 x.t
/-- What is wrong with a rule. -/
def chkR (x : RlI) : Int := if x.k < 0 ∨ 6 < x.k then 2 else if x.f < 1 ∨ 10000 < x.f ∨ x.e < 0 ∨ 12 < x.e ∨ x.t < 0 ∨ 1000 < x.t then 7 else if x.e = 0 ∧ x.t ≠ 1 then 6 else 0
theorem chkR_ok {x : RlI} (h : chkR x = 0) : ∃ r : Ru, x = r.toI ∧ r.ok := by
  unfold chkR at h
  split at h
  · cases h
  · split at h
    · cases h
    · split at h
      · cases h
      · obtain ⟨k, f, e, t⟩ := x
        simp only at *
        refine ⟨⟨k.toNat, f.toNat, e.toNat, t.toNat⟩, ?_, ⟨?_, ?_, ?_, ?_, ?_, ?_⟩⟩
        · unfold Ru.toI; simp only; congr <;> omega
        all_goals simp only; omega
theorem chkR_of {r : Ru} (h : r.ok) : chkR r.toI = 0 := by
  have h1 := h.k; have h2 := h.f1; have h3 := h.f2; have h4 := h.e2; have h5 := h.t2; have h6 := h.et
  unfold chkR Ru.toI
  simp only
  rw [if_neg (by omega), if_neg (by omega), if_neg (by omega)]
def chkF : List RlI → Nat → Nat × Int
  | [], _ => (0, 0)
  | x :: r, i => if chkR x = 0 then chkF r (i + 1) else (i, chkR x)
/-- What Check answers. -/
def chkP (l : List RlI) : Nat × Int := if 50 < l.length then (0, 3) else chkF l 0
theorem chkF_ok : ∀ {l : List RlI} {i : Nat}, (chkF l i).2 = 0 → ∃ L, l = toI L ∧ ∀ r ∈ L, r.ok
  | [], _, _ => ⟨[], rfl, fun r hr => by cases hr⟩
  | x :: l, i, h => by
    rw [chkF] at h
    by_cases hx : chkR x = 0
    · rw [if_pos hx] at h
      obtain ⟨r, rfl, hr⟩ := chkR_ok hx
      obtain ⟨L, rfl, hL⟩ := chkF_ok h
      refine ⟨r :: L, rfl, fun y hy => ?_⟩
      rcases List.mem_cons.1 hy with rfl | hy
      · exact hr
      · exact hL y hy
    · rw [if_neg hx] at h; exact absurd h hx
theorem chkF_of : ∀ {L : List Ru} (i : Nat), (∀ r ∈ L, r.ok) → chkF (toI L) i = (0, 0)
  | [], _, _ => rfl
  | r :: L, i, h => by
    show (if chkR r.toI = 0 then chkF (toI L) (i + 1) else _) = _
    rw [if_pos (chkR_of (h r (by simp)))]
    exact chkF_of (i + 1) fun x hx => h x (by simp [hx])
theorem chkP_ok {l : List RlI} (h : (chkP l).2 = 0) : ∃ L, l = toI L ∧ OkL L := by
  unfold chkP at h
  split at h
  · cases h
  · rename_i h1
    obtain ⟨L, rfl, hL⟩ := chkF_ok h
    rw [toI_len] at h1
    exact ⟨L, rfl, by omega, hL⟩
theorem chkP_of {L : List Ru} (h : OkL L) : chkP (toI L) = (0, 0) := by
  unfold chkP
  rw [if_neg (by rw [toI_len]; have := h.1; omega), chkF_of 0 h.2]
theorem chkF_ne : ∀ (l : List RlI) (i : Nat), (chkF l i).2 = 0 → (chkF l i).1 = 0
  | [], _, _ => rfl
  | x :: l, i, h => by
    rw [chkF] at h ⊢
    split at h
    · rename_i hx; rw [if_pos hx]; exact chkF_ne l _ h
    · rename_i hx; exact absurd h hx
theorem chkF_cut : ∀ (l : List RlI) (i k : Nat) (x : RlI), l[k]? = some x → (∀ j y, j < k → l[j]? = some y → chkR y = 0) → chkR x ≠ 0 → chkF l i = (i + k, chkR x)
  | [], _, _, _, h, _, _ => by simp at h
  | y :: l, i, 0, x, h, _, h2 => by
    simp at h; subst h
    rw [chkF, if_neg h2]; rfl
  | y :: l, i, k + 1, x, h, h1, h2 => by
    rw [chkF, if_pos (h1 0 y (by omega) rfl), chkF_cut l (i + 1) k x (by simpa using h) (fun j z hj hz => h1 (j + 1) z (by omega) (by simpa using hz)) h2]
    congr 1; omega
theorem chkF_all : ∀ (l : List RlI) (i : Nat), (∀ (j : Nat) (y : RlI), l[j]? = some y → chkR y = 0) → chkF l i = (0, 0)
  | [], _, _ => rfl
  | x :: l, i, h => by rw [chkF, if_pos (h 0 x rfl)]; exact chkF_all l (i + 1) fun j y hy => h (j + 1) y (by simpa using hy)
end Go.Proofs.Ytjplihljmohpjaa

/- A region that draws its order, whose operations read and whose callees leave what lay there as it lay: walked once, in the order of the text. -/
namespace Go.Proofs.Ytjplihljmohpjaa
open Go.RowKit

/-- A world behind w, in which what lay in w lies as it lay. -/
structure Beh (w : World) where
  W : World
  h : Below w.heap.size w W
instance (w : World) : Nonempty (Beh w) := ⟨⟨w, Below.refl _ _⟩⟩
theorem Beh.cell {w : World} {p : Addr} {v : Value} (h : w.cell? p = some v) (x : Beh w) : x.W.cell? p = some v := cell_later x.h h
theorem region_beh {P : Program} {id : Nat} {Q : Exit → Act → World → Prop} {a : Act} {w : World} {l : List Oper} (hm : P.follows .mixedOrders = true) (hB : Region.lexB .any l.toArray = true)
    (h : wpQuiet P l.toArray (fun w' => ∃ x : Beh w, w' = x.W) (fun a' => ∀ w', (∃ x : Beh w, w' = x.W) → Q .normal a' w') l a) : (Code.region id l.toArray true).wp P Q a w :=
  wp_region_quiet (C := fun w' => ∃ x : Beh w, w' = x.W) hm hB ⟨⟨{ w with drawn := w.drawn + 1 }, ⟨rfl, rfl, rfl, Nat.le_refl _, fun _ _ => rfl⟩⟩, rfl⟩ h
end Go.Proofs.Ytjplihljmohpjaa

/- A loop over a range function that may itself hold a loop over a range function: what its elements are, and what each round owes, said from the world of its call on. -/
namespace Go.Proofs.Ytjplihljmohpjaa
open Go.RowKit

/-- An iterator: called in W (at or behind w), it yields elements; each round keeps Kp and what is no cells from W on. -/
def SeqG {α : Type} (F : Fence) (n : Nat) (P : Program) (g : Nat) (lb : Array Value) (encs : α → Array Value) (Kp : Nat → World → World → Prop) (S Sp : List α → Prop) (N : Nat) (w : World) : Prop :=
  ∀ (l : Nat) (J Jx : List α → World → Prop) (W : World), Below w.heap.size w W → OwnFrom W.heap.size J → OwnFrom W.heap.size Jx →
    (∀ pre x W1, J pre W1 → pre.length < N → YieldAt F (n - 1) P l (encs x) W1 fun e W' =>
      (e = .returned (.bool true) ∧ J (pre ++ [x]) W' ∧ Kp W.heap.size W1 W' ∧ KeepsFrom W.heap.size W1 W') ∨ (e = .returned (.bool false) ∧ Jx (pre ++ [x]) W' ∧ KeepsFrom W.heap.size W1 W')) →
    J [] W → CallsIn F n P g (#[.func (.yield l) #[] #[]] ++ lb) W fun e W' => (∃ v, e = .returned v) ∧ ((∃ xs, S xs ∧ J xs W') ∨ (∃ pre, Sp pre ∧ Jx pre W'))

theorem ownFrom_up {β : Type} {B B' : Nat} {I : β → World → Prop} (h : OwnFrom B I) (hB : B ≤ B') : OwnFrom B' I :=
  fun s W W' row hs hg hr => h s W W' row hs hg (fun r e => ⟨Nat.le_trans hB (hr r e).1, (hr r e).2⟩)
theorem ownFrom_block {β : Type} {B k : Nat} (o : Obj) (hk : k < B) : OwnFrom B (fun (_ : β) W => W.heap[k]? = some o) :=
  fun _ W W' row hs hg hr => (hg.block k (Array.getElem?_eq_some_iff.1 hs).1 (fun e => by have := (hr k e.symm).1; omega)).trans hs

variable {F : Fence} {n : Nat} {P : Program}

theorem range_g {α : Type} {g : Operand} {ps : Array Tmp} {assign body : Code} {Q : Exit → Act → World → Prop} {a : Act} {w : World}
    (hro : F.round = none) (h1 : 1 ≤ n) {gf : Nat} {lb : Array Value} (hg : a.eval g = .func (.func gf) #[] lb) (hFg : F.fn gf) (eg : ∀ args w, (callFunc gf args).run P w = .ok (.enter gf args) w)
    {encs : α → Array Value} {Kp : Nat → World → World → Prop} {S Sp : List α → Prop} {N : Nat} (hseq : SeqG F (n - 1) P gf lb encs Kp S Sp N w)
    (hKt : ∀ {b : Nat} {A B C : World}, Kp b A B → Kp b B C → Kp b A C) (hKb : ∀ (b : Nat) (W : World) (k : Nat) (o o' : Obj), W.heap[k]? = some o → o.isCells = false → o.isWalk = false → Kp b W (W.putObj k o'))
    (hps : ∀ x, (encs x).size = ps.size)
    (I : List α → World → Prop) (Ix : Code → List α → World → Prop) (hI : OwnFrom w.heap.size I) (hIx : ∀ c, OwnFrom w.heap.size (Ix c))
    (h0 : I [] w) (a₁ : α → Act)
    (hassign : ∀ (l : Nat) (x : α) (W : World) (K : Act → World → Prop), K (a₁ x) W → assign.wpIn (F.inRound l) (n - 1 - 1) P (Exit.then K (fun _ _ _ => False)) { tmps := (ps.zip (encs x)).foldl (fun t (p, v) => t.setIfInBounds p v) a.tmps, defers := [] } W)
    (hbody : ∀ (l : Nat) (pre : List α) (x : α) (W : World), I pre W → pre.length < N → body.wpIn (F.inRound l) (n - 1 - 1) P (ownPostG w.heap.size (Kp (w.heap.size + 2)) I Ix (pre ++ [x]) W) (a₁ x) W)
    (hdone : ∀ (D : Nat) (xs : List α) (W : World), w.heap.size ≤ D → S xs → I xs W → W.heap[D]? = some (.deferred (some [])) → Q .normal { a with defers := { target := .collected D, args := #[] } :: a.defers } W)
    (hstop : ∀ (D : Nat) (c : Code) (pre : List α) (W : World), w.heap.size ≤ D → Sp pre → Ix c pre W → W.heap[D]? = some (.deferred (some [])) → c.wpIn F n P Q { a with defers := { target := .collected D, args := #[] } :: a.defers } W) :
    (Code.rangeFunc g ps assign body).wpIn F n P Q a w := by
  refine wpIn_rangeFunc fun fn hfn => ?_
  rw [hro]
  obtain ⟨D, hD⟩ : ∃ D, w.heap.size = D := ⟨_, rfl⟩
  obtain ⟨lp, hlp⟩ : ∃ lp : LoopState → Option Code → Loop, lp = fun st pe => { state := st, pending := pe, fn, tmps := a.tmps, params := ps, assign, body, defers := w.heap.size } := ⟨_, rfl⟩
  obtain ⟨V, hV⟩ : ∃ V, (w.alloc (.deferred (some []))).alloc (.loop (lp .ready none)) = V := ⟨_, rfl⟩
  have vz : V.heap.size = D + 2 := by rw [← hV, ← hD]; simp
  have v1 : V.heap[D + 1]? = some (.loop (lp .ready none)) := by
    rw [← hV, ← hD]; simpa using World.alloc_heap_new (w.alloc (.deferred (some []))) (.loop (lp .ready none))
  have v2 : V.heap[D]? = some (.deferred (some [])) := by
    rw [← hV, ← hD]; exact (Below.heap_alloc _ _ _ (by simp)).trans (World.alloc_heap_new w _)
  have vI : I [] V := by rw [← hV]; exact hI.alloc _ (hI.alloc _ h0)
  have vB : Below w.heap.size w V := by rw [← hV]; exact ((Below.refl _ w).alloc (Nat.le_refl _) _).alloc (by simp) _
  refine ⟨D + 1, [{ target := .collected D, args := #[] }], V, { target := .fn (.func gf) lb, args := #[.func (.yield (D + 1)) #[] #[]] }, V, gf, #[.func (.yield (D + 1)) #[] #[]] ++ lb, V, ?_, ?_, ?_, ?_, fun _ => h1, ?_⟩
  · rw [← hV, hlp, ← hD]; exact run_enterLoop_outer _ _ _ _ _
  · simp only [resolve, hg]; simp [go_sem]
  · intro f' hf'; simp [Target.leads] at hf'; subst hf'; exact hFg
  · simp [invoke, go_sem, eg]
  have turn : ∀ (W3 : World) (jump : Option Code), (W3.heap[D + 1]? = some (.loop { lp .ready none with state := .busy })) → W3.heap[D]? = some (.deferred (some [])) →
      (Instr.endRound (D + 1) jump).run P W3 = .ok (.bool jump.isNone) (W3.putObj (D + 1) (.loop (lp (if jump.isNone then .ready else .done) jump))) ∧
      (W3.putObj (D + 1) (.loop (lp (if jump.isNone then .ready else .done) jump))).heap[D + 1]? = some (.loop (lp (if jump.isNone then .ready else .done) jump)) ∧
      (W3.putObj (D + 1) (.loop (lp (if jump.isNone then .ready else .done) jump))).heap[D]? = some (.deferred (some [])) := fun W3 jump e1 e2 => by
    have := run_endRound (P := P) jump e1
    rw [hlp] at this ⊢
    exact ⟨this, World.putObj_heap_same (Array.getElem?_eq_some_iff.1 e1).1, (World.putObj_heap_other (by omega)).trans e2⟩
  have far : ∀ (A : World) (o : Obj), KeepsFrom V.heap.size A (A.putObj (D + 1) o) := fun A o => KeepsFrom.of_grownBy (grownBy_putObj' A (D + 1) o) (fun j e => by cases e; omega)
  have hup : w.heap.size ≤ V.heap.size := by omega
  refine (hseq (D + 1) (fun pre W => I pre W ∧ W.heap[D + 1]? = some (.loop (lp .ready none)) ∧ W.heap[D]? = some (.deferred (some [])))
    (fun pre W => ∃ c, Ix c pre W ∧ W.heap[D + 1]? = some (.loop (lp .done (some c))) ∧ W.heap[D]? = some (.deferred (some []))) V vB
    (OwnFrom.and (ownFrom_up hI hup) (OwnFrom.and (ownFrom_block _ (by omega)) (ownFrom_block _ (by omega))))
    (fun s A B row ⟨c, h1, h2, h3⟩ hg hr => ⟨c, ownFrom_up (hIx c) hup s A B row h1 hg hr, ownFrom_block (β := List α) _ (by omega) s A B row h2 hg hr, ownFrom_block (β := List α) _ (by omega) s A B row h3 hg hr⟩) ?_ ⟨vI, v1, v2⟩).mono ?_
  · rintro pre x W ⟨hi, e1, e2⟩ hlen
    have hlt := (Array.getElem?_eq_some_iff.1 e1).1
    have hy := run_yield (P := P) (args := encs x) e1 (by rw [hlp]; exact hps x)
    rw [hlp] at hy
    refine ⟨fn, _, assign, body, hy, roundIn_of_wpIn hfn (hassign _ x W _ ⟨_, run_beginRound e1 (by rw [hlp]), ?_⟩)⟩
    have f1 : (W.putObj (D + 1) (.loop { lp .ready none with state := .busy })).heap[D + 1]? = some (.loop { lp .ready none with state := .busy }) := World.putObj_heap_same hlt
    have f2 : (W.putObj (D + 1) (.loop { lp .ready none with state := .busy })).heap[D]? = some (.deferred (some [])) := (World.putObj_heap_other (by omega)).trans e2
    refine wpIn_mono (hbody _ pre x _ (hI.putObj _ hi (by omega) e1 rfl) hlen) ?_
    have far2 : ∀ (W3 : World) (o o' : Obj), KeepsFrom w.heap.size (W.putObj (D + 1) o) W3 → KeepsFrom V.heap.size W (W3.putObj (D + 1) o') := fun W3 o o' hk =>
      ((far W o).trans ⟨hk.size, fun k q hk1 hk2 hk3 => hk.same k q (by omega) hk2 hk3⟩).trans (far W3 o')
    rintro e a3 W3 hp
    cases e with
    | normal =>
      obtain ⟨hk, hkp, hi3⟩ := hp
      obtain ⟨t1, t2, t3⟩ := turn W3 none (hk.same _ _ (by omega) f1 rfl) (hk.same _ _ (by omega) f2 rfl)
      refine ⟨_, _, t1, .inl ⟨rfl, ⟨hI.putObj _ hi3 (by omega) (hk.same _ _ (by omega) f1 rfl) rfl, t2, t3⟩, ?_, far2 _ _ _ hk⟩⟩
      rw [show V.heap.size = w.heap.size + 2 by omega]
      exact hKt (hKt (hKb _ _ _ _ _ e1 rfl rfl) hkp) (hKb _ _ _ _ _ (hk.same _ _ (by omega) f1 rfl) rfl rfl)
    | ret =>
      obtain ⟨hk, hi3⟩ := hp
      obtain ⟨t1, t2, t3⟩ := turn W3 (some .ret) (hk.same _ _ (by omega) f1 rfl) (hk.same _ _ (by omega) f2 rfl)
      exact ⟨_, _, t1, .inr ⟨rfl, ⟨.ret, (hIx _).putObj _ hi3 (by omega) (hk.same _ _ (by omega) f1 rfl) rfl, t2, t3⟩, far2 _ _ _ hk⟩⟩
    | exit id =>
      obtain ⟨hk, hi3⟩ := hp
      obtain ⟨t1, t2, t3⟩ := turn W3 (some (.exit id)) (hk.same _ _ (by omega) f1 rfl) (hk.same _ _ (by omega) f2 rfl)
      exact ⟨_, _, t1, .inr ⟨rfl, ⟨.exit id, (hIx _).putObj _ hi3 (by omega) (hk.same _ _ (by omega) f1 rfl) rfl, t2, t3⟩, far2 _ _ _ hk⟩⟩
    | goto t =>
      obtain ⟨hk, hi3⟩ := hp
      obtain ⟨t1, t2, t3⟩ := turn W3 (some (.goto t)) (hk.same _ _ (by omega) f1 rfl) (hk.same _ _ (by omega) f2 rfl)
      exact ⟨_, _, t1, .inr ⟨rfl, ⟨.goto t, (hIx _).putObj _ hi3 (by omega) (hk.same _ _ (by omega) f1 rfl) rfl, t2, t3⟩, far2 _ _ _ hk⟩⟩
    | panic ch => exact hp.elim
    | outgrown => exact hp.elim
  · rintro e W2 ⟨⟨v, rfl⟩, (⟨xs, hS, hi, e1, e2⟩ | ⟨pre, hSp, c, hi, e1, e2⟩)⟩
    · have hend := run_endLoop (P := P) e1 (by rw [hlp]; simp)
      rw [hlp] at hend
      exact ⟨none, _, hend, hdone D xs _ (by omega) hS (hI.putObj _ hi (by omega) e1 rfl) ((World.putObj_heap_other (by omega)).trans e2)⟩
    · have hend := run_endLoop (P := P) e1 (by rw [hlp]; simp)
      rw [hlp] at hend
      exact ⟨some c, _, hend, hstop D c pre _ (by omega) hSp ((hIx c).putObj _ hi (by omega) e1 rfl) ((World.putObj_heap_other (by omega)).trans e2)⟩
end Go.Proofs.Ytjplihljmohpjaa

/- A loop over a range function whose loop variable lies in memory: what the assignment leaves is said by Ax. -/
namespace Go.Proofs.Ytjplihljmohpjaa
open Go.RowKit
variable {F : Fence} {n : Nat} {P : Program}

theorem range_w {α : Type} {g : Operand} {ps : Array Tmp} {assign body : Code} {Q : Exit → Act → World → Prop} {a : Act} {w : World}
    (hro : F.round = none) (h1 : 1 ≤ n) {gf : Nat} {lb : Array Value} (hg : a.eval g = .func (.func gf) #[] lb) (hFg : F.fn gf) (eg : ∀ args w, (callFunc gf args).run P w = .ok (.enter gf args) w)
    {encs : α → Array Value} {Kp : Nat → World → World → Prop} {S Sp : List α → Prop} {N : Nat} (hseq : SeqG F (n - 1) P gf lb encs Kp S Sp N w)
    (hKt : ∀ {b : Nat} {A B C : World}, Kp b A B → Kp b B C → Kp b A C) (hKb : ∀ (b : Nat) (W : World) (k : Nat) (o o' : Obj), W.heap[k]? = some o → o.isCells = false → o.isWalk = false → Kp b W (W.putObj k o'))
    (hps : ∀ x, (encs x).size = ps.size)
    (I : List α → World → Prop) (Ix : Code → List α → World → Prop) (hI : OwnFrom w.heap.size I) (hIx : ∀ c, OwnFrom w.heap.size (Ix c))
    (h0 : I [] w) (Ax : α → Act → World → Prop) (hAx : ∀ x a', OwnFrom w.heap.size (fun (_ : Unit) W => Ax x a' W))
    (hassign : ∀ (l : Nat) (pre : List α) (x : α) (W : World) (K : Act → World → Prop), I pre W → (∀ a' W', KeepsFrom w.heap.size W W' → Kp (w.heap.size + 2) W W' → I pre W' → Ax x a' W' → K a' W') →
      assign.wpIn (F.inRound l) (n - 1 - 1) P (Exit.then K (fun _ _ _ => False)) { tmps := (ps.zip (encs x)).foldl (fun t (p, v) => t.setIfInBounds p v) a.tmps, defers := [] } W)
    (hbody : ∀ (l : Nat) (pre : List α) (x : α) (a' : Act) (W : World), I pre W → Ax x a' W → pre.length < N → body.wpIn (F.inRound l) (n - 1 - 1) P (ownPostG w.heap.size (Kp (w.heap.size + 2)) I Ix (pre ++ [x]) W) a' W)
    (hdone : ∀ (D : Nat) (xs : List α) (W : World), w.heap.size ≤ D → S xs → I xs W → W.heap[D]? = some (.deferred (some [])) → Q .normal { a with defers := { target := .collected D, args := #[] } :: a.defers } W)
    (hstop : ∀ (D : Nat) (c : Code) (pre : List α) (W : World), w.heap.size ≤ D → Sp pre → Ix c pre W → W.heap[D]? = some (.deferred (some [])) → c.wpIn F n P Q { a with defers := { target := .collected D, args := #[] } :: a.defers } W) :
    (Code.rangeFunc g ps assign body).wpIn F n P Q a w := by
  refine wpIn_rangeFunc fun fn hfn => ?_
  rw [hro]
  obtain ⟨D, hD⟩ : ∃ D, w.heap.size = D := ⟨_, rfl⟩
  obtain ⟨lp, hlp⟩ : ∃ lp : LoopState → Option Code → Loop, lp = fun st pe => { state := st, pending := pe, fn, tmps := a.tmps, params := ps, assign, body, defers := w.heap.size } := ⟨_, rfl⟩
  obtain ⟨V, hV⟩ : ∃ V, (w.alloc (.deferred (some []))).alloc (.loop (lp .ready none)) = V := ⟨_, rfl⟩
  have vz : V.heap.size = D + 2 := by rw [← hV, ← hD]; simp
  have v1 : V.heap[D + 1]? = some (.loop (lp .ready none)) := by
    rw [← hV, ← hD]; simpa using World.alloc_heap_new (w.alloc (.deferred (some []))) (.loop (lp .ready none))
  have v2 : V.heap[D]? = some (.deferred (some [])) := by
    rw [← hV, ← hD]; exact (Below.heap_alloc _ _ _ (by simp)).trans (World.alloc_heap_new w _)
  have vI : I [] V := by rw [← hV]; exact hI.alloc _ (hI.alloc _ h0)
  have vB : Below w.heap.size w V := by rw [← hV]; exact ((Below.refl _ w).alloc (Nat.le_refl _) _).alloc (by simp) _
  refine ⟨D + 1, [{ target := .collected D, args := #[] }], V, { target := .fn (.func gf) lb, args := #[.func (.yield (D + 1)) #[] #[]] }, V, gf, #[.func (.yield (D + 1)) #[] #[]] ++ lb, V, ?_, ?_, ?_, ?_, fun _ => h1, ?_⟩
  · rw [← hV, hlp, ← hD]; exact run_enterLoop_outer _ _ _ _ _
  · simp only [resolve, hg]; simp [go_sem]
  · intro f' hf'; simp [Target.leads] at hf'; subst hf'; exact hFg
  · simp [invoke, go_sem, eg]
  have turn : ∀ (W3 : World) (jump : Option Code), (W3.heap[D + 1]? = some (.loop { lp .ready none with state := .busy })) → W3.heap[D]? = some (.deferred (some [])) →
      (Instr.endRound (D + 1) jump).run P W3 = .ok (.bool jump.isNone) (W3.putObj (D + 1) (.loop (lp (if jump.isNone then .ready else .done) jump))) ∧
      (W3.putObj (D + 1) (.loop (lp (if jump.isNone then .ready else .done) jump))).heap[D + 1]? = some (.loop (lp (if jump.isNone then .ready else .done) jump)) ∧
      (W3.putObj (D + 1) (.loop (lp (if jump.isNone then .ready else .done) jump))).heap[D]? = some (.deferred (some [])) := fun W3 jump e1 e2 => by
    have := run_endRound (P := P) jump e1
    rw [hlp] at this ⊢
    exact ⟨this, World.putObj_heap_same (Array.getElem?_eq_some_iff.1 e1).1, (World.putObj_heap_other (by omega)).trans e2⟩
  have far : ∀ (A : World) (o : Obj), KeepsFrom V.heap.size A (A.putObj (D + 1) o) := fun A o => KeepsFrom.of_grownBy (grownBy_putObj' A (D + 1) o) (fun j e => by cases e; omega)
  have hup : w.heap.size ≤ V.heap.size := by omega
  refine (hseq (D + 1) (fun pre W => I pre W ∧ W.heap[D + 1]? = some (.loop (lp .ready none)) ∧ W.heap[D]? = some (.deferred (some [])))
    (fun pre W => ∃ c, Ix c pre W ∧ W.heap[D + 1]? = some (.loop (lp .done (some c))) ∧ W.heap[D]? = some (.deferred (some []))) V vB
    (OwnFrom.and (ownFrom_up hI hup) (OwnFrom.and (ownFrom_block _ (by omega)) (ownFrom_block _ (by omega))))
    (fun s A B row ⟨c, h1, h2, h3⟩ hg hr => ⟨c, ownFrom_up (hIx c) hup s A B row h1 hg hr, ownFrom_block (β := List α) _ (by omega) s A B row h2 hg hr, ownFrom_block (β := List α) _ (by omega) s A B row h3 hg hr⟩) ?_ ⟨vI, v1, v2⟩).mono ?_
  · rintro pre x W ⟨hi, e1, e2⟩ hlen
    have hy := run_yield (P := P) (args := encs x) e1 (by rw [hlp]; exact hps x)
    rw [hlp] at hy
    refine ⟨fn, _, assign, body, hy, roundIn_of_wpIn hfn (hassign _ pre x W _ hi (fun a' W' hkA hkpA hiA hax => ?_))⟩
    have e1' : W'.heap[D + 1]? = some (.loop (lp .ready none)) := hkA.same _ _ (by omega) e1 rfl
    have e2' : W'.heap[D]? = some (.deferred (some [])) := hkA.same _ _ (by omega) e2 rfl
    have hlt' := (Array.getElem?_eq_some_iff.1 e1').1
    refine ⟨_, run_beginRound e1' (by rw [hlp]), ?_⟩
    have f1 : (W'.putObj (D + 1) (.loop { lp .ready none with state := .busy })).heap[D + 1]? = some (.loop { lp .ready none with state := .busy }) := World.putObj_heap_same hlt'
    have f2 : (W'.putObj (D + 1) (.loop { lp .ready none with state := .busy })).heap[D]? = some (.deferred (some [])) := (World.putObj_heap_other (by omega)).trans e2'
    refine wpIn_mono (hbody _ pre x _ _ (hI.putObj _ hiA (by omega) e1' rfl) ((hAx x a').putObj (s := ()) _ hax (by omega) e1' rfl) hlen) ?_
    have hkV : KeepsFrom V.heap.size W W' := ⟨hkA.size, fun k q hk1 hk2 hk3 => hkA.same k q (by omega) hk2 hk3⟩
    have far2 : ∀ (W3 : World) (o o' : Obj), KeepsFrom w.heap.size (W'.putObj (D + 1) o) W3 → KeepsFrom V.heap.size W (W3.putObj (D + 1) o') := fun W3 o o' hk =>
      ((hkV.trans (far W' o)).trans ⟨hk.size, fun k q hk1 hk2 hk3 => hk.same k q (by omega) hk2 hk3⟩).trans (far W3 o')
    rintro e a3 W3 hp
    cases e with
    | normal =>
      obtain ⟨hk, hkp, hi3⟩ := hp
      obtain ⟨t1, t2, t3⟩ := turn W3 none (hk.same _ _ (by omega) f1 rfl) (hk.same _ _ (by omega) f2 rfl)
      refine ⟨_, _, t1, .inl ⟨rfl, ⟨hI.putObj _ hi3 (by omega) (hk.same _ _ (by omega) f1 rfl) rfl, t2, t3⟩, ?_, far2 _ _ _ hk⟩⟩
      rw [show V.heap.size = w.heap.size + 2 by omega]
      exact hKt (hKt (hKt hkpA (hKb _ _ _ _ _ e1' rfl rfl)) hkp) (hKb _ _ _ _ _ (hk.same _ _ (by omega) f1 rfl) rfl rfl)
    | ret =>
      obtain ⟨hk, hi3⟩ := hp
      obtain ⟨t1, t2, t3⟩ := turn W3 (some .ret) (hk.same _ _ (by omega) f1 rfl) (hk.same _ _ (by omega) f2 rfl)
      exact ⟨_, _, t1, .inr ⟨rfl, ⟨.ret, (hIx _).putObj _ hi3 (by omega) (hk.same _ _ (by omega) f1 rfl) rfl, t2, t3⟩, far2 _ _ _ hk⟩⟩
    | exit id =>
      obtain ⟨hk, hi3⟩ := hp
      obtain ⟨t1, t2, t3⟩ := turn W3 (some (.exit id)) (hk.same _ _ (by omega) f1 rfl) (hk.same _ _ (by omega) f2 rfl)
      exact ⟨_, _, t1, .inr ⟨rfl, ⟨.exit id, (hIx _).putObj _ hi3 (by omega) (hk.same _ _ (by omega) f1 rfl) rfl, t2, t3⟩, far2 _ _ _ hk⟩⟩
    | goto t =>
      obtain ⟨hk, hi3⟩ := hp
      obtain ⟨t1, t2, t3⟩ := turn W3 (some (.goto t)) (hk.same _ _ (by omega) f1 rfl) (hk.same _ _ (by omega) f2 rfl)
      exact ⟨_, _, t1, .inr ⟨rfl, ⟨.goto t, (hIx _).putObj _ hi3 (by omega) (hk.same _ _ (by omega) f1 rfl) rfl, t2, t3⟩, far2 _ _ _ hk⟩⟩
    | panic ch => exact hp.elim
    | outgrown => exact hp.elim
  · rintro e W2 ⟨⟨v, rfl⟩, (⟨xs, hS, hi, e1, e2⟩ | ⟨pre, hSp, c, hi, e1, e2⟩)⟩
    · have hend := run_endLoop (P := P) e1 (by rw [hlp]; simp)
      rw [hlp] at hend
      exact ⟨none, _, hend, hdone D xs _ (by omega) hS (hI.putObj _ hi (by omega) e1 rfl) ((World.putObj_heap_other (by omega)).trans e2)⟩
    · have hend := run_endLoop (P := P) e1 (by rw [hlp]; simp)
      rw [hlp] at hend
      exact ⟨some c, _, hend, hstop D c pre _ (by omega) hSp ((hIx c).putObj _ hi (by omega) e1 rfl) ((World.putObj_heap_other (by omega)).trans e2)⟩
end Go.Proofs.Ytjplihljmohpjaa

/- What a loop over a range function must keep of the world. -/
namespace Go.Proofs.Ytjplihljmohpjaa
open Go.RowKit Go.Shelf

theorem wide_fn (f : FuncId) : Fence.wide.fn f := by simp [Fence.wide]
theorem round_in {m m' l0 : Nat} {P : Program} {l : Nat} {f : FuncId} {tmps : Array Value} {assign body : Code} {w : World} {R : Ending → World → Prop}
    (h : RoundIn Fence.wide m P l f tmps assign body w R) : RoundIn (Fence.wide.inRound l0) m' P l f tmps assign body w R := ⟨h.1, fun c cs _ => h.2 c cs (room_wide _)⟩
theorem keepsFrom_up {B B' : Nat} {A C : World} (h : KeepsFrom B A C) (hB : B ≤ B') : KeepsFrom B' A C := ⟨h.size, fun k o h1 => h.same k o (Nat.le_trans hB h1)⟩
/-- The cells' blocks that p names lie as they lay. -/
def KC (p : Nat → Prop) (A C : World) : Prop := ∀ k o, p k → A.heap[k]? = some o → o.isCells = true → C.heap[k]? = some o
theorem KC.trans {p : Nat → Prop} {A B C : World} (h : KC p A B) (k : KC p B C) : KC p A C := fun i o hp h1 h2 => k i o hp (h i o hp h1 h2) h2
theorem KC.refl (p : Nat → Prop) (A : World) : KC p A A := fun _ _ _ h _ => h
theorem KC.putObj {p : Nat → Prop} (W : World) (k : Nat) (o o' : Obj) (h : W.heap[k]? = some o) (hc : o.isCells = false) : KC p W (W.putObj k o') := fun i q _ h1 h2 => by
  by_cases e : i = k
  · subst e; rw [h] at h1; cases h1; rw [hc] at h2; cases h2
  · exact (World.putObj_heap_other (by omega)).trans h1
theorem KC.of_below {p : Nat → Prop} {A B : World} (h : Below A.heap.size A B) : KC p A B := fun i _ _ h1 _ => (h.block i (Array.getElem?_eq_some_iff.1 h1).1).trans h1
theorem KC.mono {p q : Nat → Prop} {A B : World} (h : KC p A B) (hq : ∀ k, q k → p k) : KC q A B := fun i o hp => h i o (hq i hp)
theorem KC.setCell {p : Nat → Prop} (W : World) (a : Addr) (u : Value) (hk : ¬ p a.block) : KC p W (W.setCell a u) := fun i _ hp h1 _ => (Below.heap_setCell _ _ _ _ (by intro e; exact hk (by rw [← show i = a.block from e]; exact hp))).trans h1
theorem own_KC {β : Type} (B : Nat) (p : Nat → Prop) (W0 : World) : OwnFrom B (fun (_ : β) V => KC p W0 V) := fun _ A C row hs hg hr k o hp h1 h2 => by
  have h3 := hs k o hp h1 h2
  refine (hg.block k (Array.getElem?_eq_some_iff.1 h3).1 (fun e => ?_)).trans h3
  obtain ⟨_, o', h4, h5⟩ := hr k e.symm
  rw [h3] at h4; cases h4; rw [h2] at h5; cases h5
theorem own_cells {β : Type} (B k : Nat) (o : Obj) (hc : o.isCells = true) : OwnFrom B (fun (_ : β) W => W.heap[k]? = some o) := fun _ A C row hs hg hr =>
  (hg.block k (Array.getElem?_eq_some_iff.1 hs).1 (fun e => by
    obtain ⟨_, o', h1, h2⟩ := hr k e.symm
    rw [hs] at h1; cases h1; rw [hc] at h2; cases h2)).trans hs
def markOf (D : Nat) : Deferred := { target := .collected D, args := #[] }
/-- The blocks for the rounds' deferred calls are taken up, one by one, at the function's return. -/
theorem leaves_marks {F : Fence} {n : Nat} {P : Program} {fn : Func} {tmps : Array Value} {R : Ending → World → Prop} (n0 : Nat) : ∀ (Ds : List Nat) (W : World), Ds.Nodup →
    (∀ D ∈ Ds, n0 ≤ D ∧ W.heap[D]? = some (.deferred (some []))) → (∀ W', (∀ k, k ∉ Ds → W'.heap[k]? = W.heap[k]?) → Below n0 W W' → LeavesInM F n P fn tmps R [] .returning W') → LeavesInM F n P fn tmps R (Ds.map markOf) .returning W
  | [], W, _, _, h => h W (fun _ _ => rfl) (Below.refl _ _)
  | D :: Ds, W, hnd, hD, h => by
    have hD0 := hD D List.mem_cons_self
    have hnd' := List.nodup_cons.1 hnd
    refine ⟨by simp, .inl ⟨D, _, rfl, run_takeDeferred hD0.2, ?_⟩⟩
    refine leaves_marks n0 Ds _ hnd'.2 (fun D' hD' => ?_) (fun W' hk hb => h W' (fun k hk' => ?_) ?_)
    · have := hD D' (List.mem_cons_of_mem _ hD')
      exact ⟨this.1, (World.putObj_heap_other (by intro e; subst e; exact hnd'.1 hD')).trans this.2⟩
    · rw [hk k (fun h => hk' (List.mem_cons_of_mem _ h)), World.putObj_heap_other (by intro e; subst e; exact hk' List.mem_cons_self)]
    · exact ((Below.refl n0 W).grown (grownBy_putObj' W D _) (Nat.le_trans hD0.1 (Nat.le_of_lt (Array.getElem?_eq_some_iff.1 hD0.2).1)) (fun k e => by cases e; exact hD0.1)).trans hb
end Go.Proofs.Ytjplihljmohpjaa
