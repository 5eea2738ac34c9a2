/- The digits of a number and the number of its digits: each undoes the other. -/
import Derived.Test.YtdcgfbebeiheiaaGreatDoorNums
import Derived.Lib.ItoaLen
namespace Go.Proofs.YtdcgfbebeiheiaaGreatDoor
open Go.RowKit

theorem natV_snoc (l : List UInt8) (c : UInt8) : natV (l ++ [c]) = natV l * 10 + (c.toNat - 48) := by unfold natV; rw [List.foldl_append]; rfl

theorem dgB_nat (c : UInt8) (h : dgB c = true) : 48 ≤ c.toNat ∧ c.toNat ≤ 57 := by
  unfold dgB isDigB at h; simp at h; omega

theorem byte_of (c : UInt8) (h : 48 ≤ c.toNat) : UInt8.ofNat (48 + (c.toNat - 48)) = c := by
  rw [show 48 + (c.toNat - 48) = c.toNat by omega]; simp

theorem natB_iff (l : List UInt8) : natB l = true ↔ l ≠ [] ∧ (l.headD 0 = 48 → l = [48]) ∧ l.all dgB = true := by
  unfold natB
  have e : (((l.headD 0).toNat : Int) = 48) ↔ l.headD 0 = 48 := by
    constructor
    · intro h; exact UInt8.toNat_inj.1 (by have : ((48 : UInt8).toNat : Int) = 48 := rfl; omega)
    · intro h; rw [h]; rfl
  simp only [Bool.and_eq_true, Bool.not_eq_true', Bool.and_eq_false_iff, decide_eq_false_iff_not, Bool.not_eq_false', beq_iff_eq, List.isEmpty_eq_false_iff, e]
  constructor
  · rintro ⟨⟨h1, h2⟩, h3⟩
    exact ⟨h1, fun h => h2.elim (fun x => absurd h x) id, h3⟩
  · rintro ⟨h1, h2, h3⟩
    refine ⟨⟨h1, ?_⟩, h3⟩
    by_cases h : l.headD 0 = 48
    · exact .inr (h2 h)
    · exact .inl h

theorem natV_pos : ∀ (n : Nat) (l : List UInt8), l.length ≤ n → l ≠ [] → l.headD 0 ≠ 48 → l.all dgB = true → 1 ≤ natV l := by
  intro n l _ hne hh hall
  cases l with
  | nil => exact absurd rfl hne
  | cons c r =>
    rw [natV_def, valF_cons]
    have hc : dgB c = true := by rw [List.all_cons, Bool.and_eq_true] at hall; exact hall.1
    have hb := dgB_nat c hc
    have hc2 : c ≠ 48 := hh
    have : c.toNat ≠ 48 := fun e => hc2 (UInt8.toNat_inj.1 e)
    have := valF_ge r (0 * 10 + (c.toNat - 48))
    omega

/-- The digits of the number that a natural's digits say. -/
theorem digs_natV : ∀ (n : Nat) (l : List UInt8), l.length ≤ n → natB l = true → Lib.decDigits (natV l) = l := by
  intro n
  induction n with
  | zero =>
    intro l hl h
    have := (natB_iff l).1 h
    exact absurd (List.length_eq_zero_iff.1 (by omega)) this.1
  | succ n ih =>
    intro l hl h
    obtain ⟨h1, h2, h3⟩ := (natB_iff l).1 h
    obtain ⟨r, c, rfl⟩ : ∃ r c, l = r ++ [c] := ⟨l.dropLast, l.getLast h1, (List.dropLast_concat_getLast h1).symm⟩
    rw [List.all_append, Bool.and_eq_true] at h3
    have hc : dgB c = true := by simpa using h3.2
    have hb := dgB_nat c hc
    rw [natV_snoc]
    by_cases hr : r = []
    · subst hr
      have e : natV [] * 10 + (c.toNat - 48) = c.toNat - 48 := by unfold natV; simp
      rw [e, Lib.decDigits_one (by omega), byte_of c hb.1]; rfl
    · have hhd : (r ++ [c]).headD 0 = r.headD 0 := by cases r with | nil => exact absurd rfl hr | cons a b => rfl
      have hr0 : r.headD 0 ≠ 48 := by
        intro e
        have := h2 (hhd.trans e)
        have hlen := congrArg List.length this
        simp at hlen
        exact hr hlen
      have hn : natB r = true := (natB_iff r).2 ⟨hr, fun e => absurd e hr0, h3.1⟩
      have hp := natV_pos r.length r (Nat.le_refl _) hr hr0 h3.1
      have hlt : ¬ (natV r * 10 + (c.toNat - 48)) < 10 := by omega
      rw [Lib.decDigits, dif_neg hlt, show (natV r * 10 + (c.toNat - 48)) / 10 = natV r by omega, show (natV r * 10 + (c.toNat - 48)) % 10 = c.toNat - 48 by omega, byte_of c hb.1]
      simp only [List.length_append, List.length_cons, List.length_nil] at hl
      rw [ih r (by omega) hn]

theorem ofNat_nat {u : Nat} (h : u < 10) : (UInt8.ofNat (48 + u)).toNat = 48 + u := by
  rw [UInt8.toNat_ofNat']; omega

theorem natV_digs : ∀ (n u : Nat), u ≤ n → natV (Lib.decDigits u) = u ∧ natB (Lib.decDigits u) = true := by
  intro n
  induction n with
  | zero =>
    intro u hu
    obtain rfl : u = 0 := by omega
    rw [Lib.decDigits_one (by decide)]
    exact ⟨rfl, rfl⟩
  | succ n ih =>
    intro u hu
    by_cases h10 : u < 10
    · rw [Lib.decDigits_one h10]
      have e := ofNat_nat h10
      refine ⟨?_, ?_⟩
      · rw [natV_def, valF_cons, e]; unfold valF; simp
      · rw [natB_iff]
        refine ⟨by simp, fun h => by rw [show UInt8.ofNat (48 + u) = 48 from h], ?_⟩
        simp only [List.all_cons, List.all_nil, Bool.and_true]
        unfold dgB isDigB
        rw [e]; simp; omega
    · obtain ⟨i1, i2⟩ := ih (u / 10) (by omega)
      have e := ofNat_nat (Nat.mod_lt u (by decide : 0 < 10))
      rw [Lib.decDigits, dif_neg h10]
      refine ⟨?_, ?_⟩
      · rw [natV_snoc, i1, e]; omega
      · obtain ⟨j1, j2, j3⟩ := (natB_iff _).1 i2
        rw [natB_iff]
        refine ⟨by simp, fun h => ?_, ?_⟩
        · exfalso
          have hhd : (Lib.decDigits (u / 10) ++ [UInt8.ofNat (48 + u % 10)]).headD 0 = (Lib.decDigits (u / 10)).headD 0 := by
            cases hx : Lib.decDigits (u / 10) with
            | nil => exact absurd hx j1
            | cons a b => rfl
          rw [hhd] at h
          have := j2 h
          rw [this] at i1
          have e0 : natV [48] = 0 := rfl
          omega
        · rw [List.all_append, j3]
          simp only [List.all_cons, List.all_nil, Bool.and_true, Bool.true_and]
          unfold dgB isDigB
          rw [e]; simp; omega

theorem nDigits_le : ∀ (k u : Nat), u < 10 ^ (k + 1) → Lib.nDigits u ≤ k + 1
  | 0, u, h => by rw [Lib.nDigits_small (by simpa using h)]; exact Nat.le_refl _
  | k + 1, u, h => by
    by_cases h10 : u < 10
    · rw [Lib.nDigits_small h10]; omega
    · rw [Lib.nDigits_big h10]
      have := nDigits_le k (u / 10) (by rw [Nat.pow_succ] at h; omega)
      omega

theorem natV_big (l : List UInt8) (h : natB l = true) (hl : 20 ≤ l.length) : 10 ^ 19 ≤ natV l := by
  rcases Nat.lt_or_ge (natV l) (10 ^ 19) with hx | hx
  · have h1 := nDigits_le 18 _ hx
    have h2 := congrArg List.length (digs_natV _ l (Nat.le_refl _) h)
    rw [Lib.decDigits_length] at h2
    omega
  · exact hx

theorem decB_cases (l : List UInt8) (h : decB l = true) : (∃ r, l = 45 :: r ∧ natB r = true ∧ 1 ≤ natV r ∧ numV l = -(natV r : Int)) ∨ (Lib.hasPrefix l [45] = false ∧ natB l = true ∧ numV l = (natV l : Int)) := by
  unfold decB at h
  by_cases hp : Lib.hasPrefix l [45] = true
  · rw [if_pos hp] at h
    cases l with
    | nil => simp [Lib.hasPrefix] at hp
    | cons c r =>
      have hc : c = 45 := by simp [Lib.hasPrefix, List.isPrefixOf] at hp; exact hp.symm
      have e : Lib.trimPrefix (c :: r) [45] = r := by unfold Lib.trimPrefix; rw [if_pos hp]; rfl
      rw [e, Bool.and_eq_true] at h
      left
      refine ⟨r, by rw [hc], h.1, ?_, by unfold numV; rw [if_pos hp, e]⟩
      have hne : ¬ r = [48] := by simpa using h.2
      obtain ⟨j1, j2, j3⟩ := (natB_iff r).1 h.1
      exact natV_pos r.length r (Nat.le_refl _) j1 (fun e => hne (j2 e)) j3
  · rw [if_neg hp] at h
    right
    exact ⟨by simpa using hp, h, by unfold numV; rw [if_neg hp]⟩

/-- The digits of the number that a text says are the text. -/
theorem itoa_numV (l : List UInt8) (h : decB l = true) : Lib.itoa (numV l) = l := by
  rcases decB_cases l h with ⟨r, rfl, h1, h2, h3⟩ | ⟨_, h1, h3⟩
  · rw [h3]
    unfold Lib.itoa
    rw [if_pos (by omega), show (-(natV r : Int)).natAbs = natV r by omega, digs_natV _ r (Nat.le_refl _) h1]
  · rw [h3]
    unfold Lib.itoa
    rw [if_neg (by omega), show ((natV l : Int)).toNat = natV l by omega, digs_natV _ l (Nat.le_refl _) h1]

theorem numV_big (l : List UInt8) (h : decB l = true) (hl : 20 < l.length) : numV l < -9223372036854775808 ∨ 9223372036854775807 < numV l := by
  rcases decB_cases l h with ⟨r, rfl, h1, h2, h3⟩ | ⟨_, h1, h3⟩
  · have := natV_big r h1 (by simp at hl; omega)
    left; rw [h3]; omega
  · have := natV_big l h1 (by omega)
    right; rw [h3]; omega

theorem head_digs (u : Nat) : Lib.hasPrefix (Lib.decDigits u) [45] = false := by
  have h := (natV_digs u u (Nat.le_refl _)).2
  obtain ⟨j1, _, j3⟩ := (natB_iff _).1 h
  cases hx : Lib.decDigits u with
  | nil => exact absurd hx j1
  | cons a b =>
    rw [hx, List.all_cons, Bool.and_eq_true] at j3
    have := dgB_nat a j3.1
    cases hb : Lib.hasPrefix (a :: b) [45] with
    | false => rfl
    | true =>
      simp [Lib.hasPrefix, List.isPrefixOf] at hb
      rw [← hb] at this
      exact absurd this.1 (by decide)

/-- The number that a number's digits say. -/
theorem numV_itoa (n : Int) : numV (Lib.itoa n) = n ∧ decB (Lib.itoa n) = true := by
  unfold Lib.itoa
  by_cases h : n < 0
  · rw [if_pos h]
    obtain ⟨i1, i2⟩ := natV_digs n.natAbs n.natAbs (Nat.le_refl _)
    have hp : Lib.hasPrefix (45 :: Lib.decDigits n.natAbs) [45] = true := by simp [Lib.hasPrefix, List.isPrefixOf]
    have e : Lib.trimPrefix (45 :: Lib.decDigits n.natAbs) [45] = Lib.decDigits n.natAbs := by unfold Lib.trimPrefix; rw [if_pos hp]; rfl
    refine ⟨by unfold numV; rw [if_pos hp, e, i1]; omega, ?_⟩
    unfold decB
    rw [if_pos hp, e, i2, Bool.true_and]
    have : ¬ Lib.decDigits n.natAbs = [48] := by
      intro hx
      rw [hx] at i1
      have e0 : natV [48] = 0 := rfl
      omega
    simpa using this
  · rw [if_neg h]
    obtain ⟨i1, i2⟩ := natV_digs n.toNat n.toNat (Nat.le_refl _)
    have hp := head_digs n.toNat
    refine ⟨by unfold numV; rw [if_neg (by rw [hp]; decide), i1]; omega, ?_⟩
    unfold decB
    rw [if_neg (by rw [hp]; decide), i2]
end Go.Proofs.YtdcgfbebeiheiaaGreatDoor
