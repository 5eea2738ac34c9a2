/- The reference: groups; what is good stays good. -/
import Derived.Test.YtnmeeddhagmjdaaVmT
namespace Go.Proofs.Ytnmeeddhagmjdaa
open Go.RowKit Go.Shelf
attribute [local go_sem] Oper.semAt_some
variable {W V : World} {R : Nat} {kd : Nat → Int} {hg : Nat → Bool} {bt : Nat → Nat → Int} {st : Array Value}

theorem posE_congr {c1 c2 : Pg → Int} {f : Pages} : ∀ {l : List Nat}, (∀ j ∈ l, c1 (f j) = c2 (f j)) → posE c1 f l = posE c2 f l
  | [], _ => rfl
  | j :: l, h => by
    rw [posE, posE, h j (by simp), posE_congr fun i hi => h i (by simp [hi])]
theorem posE_const {c : Pg → Int} {f : Pages} {x : Int} (hx : x ≠ 0) {j : Nat} {l : List Nat} (h : c (f j) = x) : posE c f (j :: l) = x := by rw [posE, h, if_pos hx]
theorem posE_zero {c : Pg → Int} {f : Pages} : ∀ {l : List Nat}, (∀ j ∈ l, c (f j) = 0) → posE c f l = 0
  | [], _ => rfl
  | j :: _, h => by rw [posE, h j (by simp), if_neg (by simp)]; exact posE_zero fun i hi => h i (by simp [hi])
theorem kndB_all {kd : Nat → Int} {x : Int} {a : Nat} : ∀ {n : Nat}, (∀ i, a ≤ i → i < a + n → kd i = x) → kndB kd x a n = true
  | 0, _ => rfl
  | n + 1, h => by rw [kndB, kndB_all fun i h1 h2 => h i h1 (by omega), h (a + n) (by omega) (by omega)]; simp
theorem kndB_of {kd : Nat → Int} {x : Int} {a : Nat} : ∀ {n : Nat}, kndB kd x a n = true → ∀ i, a ≤ i → i < a + n → kd i = x
  | 0, _, i, h1, h2 => by omega
  | n + 1, h, i, h1, h2 => by
    rw [kndB, Bool.and_eq_true] at h
    by_cases e : i = a + n
    · subst e; simpa using h.2
    · exact kndB_of h.1 i h1 (by omega)
theorem nohB_true {hg : Nat → Bool} {a : Nat} : ∀ {n : Nat}, (∀ i, a ≤ i → i < a + n → hg (i / 16) = false) → nohB hg a n = true
  | 0, _ => rfl
  | n + 1, h => by rw [nohB, nohB_true fun i h1 h2 => h i h1 (by omega), h (a + n) (by omega) (by omega)]; rfl
theorem grp_in {f : Pages} (hf : Good f) {g i : Nat} (hg : g < 64) (h1 : 16 * g ≤ i) (h2 : i < 16 * g + 16) : (f i).hu = hgF f g := by
  rw [hf.grp i (by omega), show i / 16 = g by omega]
theorem rng16 (a : Nat) : ∃ l, List.range' a 16 = a :: l ∧ ∀ j ∈ List.range' a 16, a ≤ j ∧ j < a + 16 := ⟨List.range' (a + 1) 15, rfl, fun _ hj => mem_rng.1 hj⟩
theorem posJ {f : Pages} (hf : Good f) {g : Nat} (hg : g < 64) : posE chkJ f (List.range' (16 * g) 16) = if kndB (kdF f) 2 (16 * g) 16 = false then 9 else if hgF f g = true then 8 else 0 := by
  cases hh : hgF f g
  · have e : posE chkJ f (List.range' (16 * g) 16) = posE (chkT 2) f (List.range' (16 * g) 16) := posE_congr fun j hj => by
      have hj := mem_rng.1 hj
      have hu := (grp_in hf hg hj.1 hj.2).trans hh
      unfold chkJ chkT
      rw [hu]
      by_cases h : (f j).kd = 2 <;> simp [h]
    rw [e, posT hf 2 _ _ (by omega), nohB_true fun i h1 h2 => by rw [show i / 16 = g by omega]; exact hh]
    cases kndB (kdF f) 2 (16 * g) 16 <;> simp
  · have hk : kndB (kdF f) 2 (16 * g) 16 = true := kndB_all fun i h1 h2 => hf.com i (by omega) ((grp_in hf hg h1 h2).trans hh)
    obtain ⟨l, hl, _⟩ := rng16 (16 * g)
    rw [hk, hl, posE_const (x := 8) (by decide)]
    · rfl
    · unfold chkJ
      rw [if_neg (by rw [hf.com (16 * g) (by omega) ((grp_in hf hg (Nat.le_refl _) (by omega)).trans hh)]; simp), if_pos ((grp_in hf hg (Nat.le_refl _) (by omega)).trans hh)]
theorem posS {f : Pages} (hf : Good f) {g : Nat} (hg : g < 64) : posE chkS f (List.range' (16 * g) 16) = if hgF f g = true then 0 else 9 := by
  cases hh : hgF f g
  · obtain ⟨l, hl, _⟩ := rng16 (16 * g)
    rw [hl, posE_const (x := 9) (by decide)]
    · rfl
    · unfold chkS; rw [(grp_in hf hg (Nat.le_refl _) (by omega)).trans hh]; rfl
  · rw [posE_zero fun j hj => by
      have hj := mem_rng.1 hj
      unfold chkS; rw [(grp_in hf hg hj.1 hj.2).trans hh]; rfl]
    rfl
/-- What is good stays good. -/
theorem good_free : Good (fun _ => freeP) := ⟨fun _ _ => rfl, fun _ _ h => (by cases h), fun _ _ _ _ _ => rfl, fun _ _ => ⟨(by decide), (by decide)⟩⟩
theorem good_turn {f : Pages} (hf : Good f) (L : List Ru) (m : Nat → Nat) (c : Nat) (x y : Int) (hy : 0 ≤ y ∧ y ≤ 3) (a n : Int) : Good (opP (cTurn c x y) f L m a n).2.1 := by
  unfold opP
  split
  · rename_i hab
    obtain ⟨A, N, rfl, rfl, _, hAN⟩ := areB_nat hab
    rw [Int.toNat_natCast, Int.toNat_natCast]
    unfold doA
    split
    · exact hf
    · rename_i hp
      split
      · exact hf
      · rw [posT hf x A N hAN] at hp
        have hkn : (kndB (kdF f) x A N && nohB (hgF f) A N) = true := by
          cases h : (kndB (kdF f) x A N && nohB (hgF f) A N)
          · rw [h] at hp; simp at hp
          · rfl
        rw [Bool.and_eq_true] at hkn
        have hu : ∀ j, j < 1024 → (chgF (chgT y) f (List.range' A N) j).hu = (f j).hu := fun j hj => by
          rw [chg_at]
          split
          · rename_i hin
            rw [hf.grp j hj]
            exact (nohB_all hkn.2 j hin.1 hin.2).symm
          · rfl
        refine ⟨fun j hj => by rw [hu j hj, hu _ (by omega)]; exact hf.grp j hj, fun j hj h => ?_, fun j hj h k hk => ?_, fun j hj => ?_⟩
        · rw [hu j hj] at h
          show (chgF (chgT y) f (List.range' A N) j).kd = 2
          rw [chg_at]
          split
          · rename_i hin
            rw [hf.grp j hj] at h
            have h8 := nohB_all hkn.2 j hin.1 hin.2
            rw [show hgF f (j / 16) = true from h] at h8
            cases h8
          · exact hf.com j hj h
        · show (chgF (chgT y) f (List.range' A N) j).by' k = 0
          have h2 : (chgF (chgT y) f (List.range' A N) j).kd ≠ 2 := h
          rw [chg_at] at h2 ⊢
          split
          · rfl
          · rename_i hin
            rw [if_neg hin] at h2
            exact hf.zer j hj h2 k hk
        · show 0 ≤ (chgF (chgT y) f (List.range' A N) j).kd ∧ (chgF (chgT y) f (List.range' A N) j).kd ≤ 3
          rw [chg_at]
          split
          · exact hy
          · exact hf.knd j hj
  · exact hf
theorem good_hu {f : Pages} (hf : Good f) {g : Nat} (b : Bool) (hk : b = true → ∀ i, 16 * g ≤ i → i < 16 * g + 16 → (f i).kd = 2) : Good (chgF (fun p => { p with hu := b }) f (List.range' (16 * g) 16)) := by
  refine ⟨fun j hj => ?_, fun j hj h => ?_, fun j hj h k hkk => ?_, fun j hj => ?_⟩
  · rw [chg_at, chg_at]
    by_cases h : 16 * g ≤ j ∧ j < 16 * g + 16
    · rw [if_pos h, if_pos (by omega)]
    · rw [if_neg h, if_neg (by omega)]; exact hf.grp j hj
  · rw [chg_at] at h ⊢
    split at h
    · rename_i hin
      rw [if_pos hin]; exact hk h j hin.1 hin.2
    · rename_i hin
      rw [if_neg hin]; exact hf.com j hj h
  · rw [chg_at] at h ⊢
    split at h
    · rename_i hin
      rw [if_pos hin]; exact hf.zer j hj h k hkk
    · rename_i hin
      rw [if_neg hin]; exact hf.zer j hj h k hkk
  · rw [chg_at]; split <;> exact hf.knd j hj
theorem grp_nat {a : Int} (h : grpB a = true) : ∃ g : Nat, a = ((16 * g : Nat) : Int) ∧ g < 64 := by
  obtain ⟨x, rfl, h1, h2⟩ := grpB_nat h
  exact ⟨x / 16, by omega, by omega⟩
theorem good_join {f : Pages} (hf : Good f) (L : List Ru) (m : Nat → Nat) (a : Int) : Good (opG cJoin f L m a).2.1 := by
  unfold opG
  split
  · rename_i hab
    obtain ⟨g, rfl, hg⟩ := grp_nat hab
    rw [Int.toNat_natCast]
    unfold doA
    split
    · exact hf
    · rename_i hp
      split
      · exact hf
      · rw [posJ hf hg] at hp
        refine good_hu hf true fun _ i h1 h2 => ?_
        have hk : kndB (kdF f) 2 (16 * g) 16 = true := by
          cases h : kndB (kdF f) 2 (16 * g) 16
          · rw [h] at hp; simp at hp
          · rfl
        exact kndB_of hk i h1 h2
  · exact hf
theorem good_split {f : Pages} (hf : Good f) (L : List Ru) (m : Nat → Nat) (a : Int) : Good (opG cSplit f L m a).2.1 := by
  unfold opG
  split
  · rename_i hab
    obtain ⟨g, rfl, _⟩ := grp_nat hab
    rw [Int.toNat_natCast]
    unfold doA
    split
    · exact hf
    · split
      · exact hf
      · exact good_hu hf false fun h => by cases h
  · exact hf
end Go.Proofs.Ytnmeeddhagmjdaa
