/- The law on bytes. -/
import Derived.Deep.Quiet
import Derived.Test.YtjplihljmohpjaaMVmBt
import Derived.Test.YtjplihljmohpjaaKj
import Derived.Test.YtjplihljmohpjaaMVmAh
namespace Go.Proofs.Ytjplihljmohpjaa
open Go.RowKit Go.Shelf
attribute [local go_sem] Oper.semAt_some

theorem Two.keep {W V : World} {B n : Nat} {f : Pages} {a : Nat} {u q : Value} {r : Nat → Prop} (h : Two W B n f a u q) (hk : Keep r W V) (hr : ∀ b, r b → b < B) : Two V B n f a u q := by
  have key : ∀ {e : TypeId} {v : Value} {xs : List Value}, W.ownsRow B e 1 v n xs → V.ownsRow B e 1 v n xs := fun {e v xs} hx => by
    obtain ⟨h1, ⟨e1, e2⟩ | ⟨g, cap', cur, hv, hB, hg, h3⟩⟩ := hx
    · exact ⟨h1, .inl ⟨e1, e2⟩⟩
    · exact ⟨h1, .inr ⟨g, cap', cur, hv, hB, (hk.block g (Array.getElem?_eq_some_iff.1 hg).1 (fun hh => by have := hr g hh; omega)).trans hg, h3⟩⟩
  exact ⟨key h.r, key h.s, h.ne⟩
theorem Two.cells {W : World} {B n : Nat} {f : Pages} {a : Nat} {u q : Value} (h : Two W B n f a u q) (hn : 0 < n) : ∃ g cap g' cap', u = .slice (some ⟨g, 0, none⟩) n cap ∧ q = .slice (some ⟨g', 0, none⟩) n cap' ∧ (∀ k, k < n → W.cell? ⟨g, k, none⟩ = some (.int .u8 (rdB f a k))) ∧ ∀ k, k < n → W.cell? ⟨g', k, none⟩ = some (.bool (rdQ f a k)) := by
  obtain ⟨a1, c1, rfl⟩ := own_shape h.r
  obtain ⟨a2, c2, rfl⟩ := own_shape h.s
  obtain ⟨g, rfl, _⟩ := own_at h.r 0 hn _ (rdL_at f a n 0 hn)
  obtain ⟨g', rfl, _⟩ := own_at h.s 0 hn _ (ftL_at f a n 0 hn)
  refine ⟨g, c1, g', c2, rfl, rfl, fun k hk => ?_, fun k hk => ?_⟩
  · obtain ⟨x, hx, hc⟩ := own_at h.r k hk _ (rdL_at f a n k hk)
    cases hx; exact hc
  · obtain ⟨x, hx, hc⟩ := own_at h.s k hk _ (ftL_at f a n k hk)
    cases hx; exact hc
/-- What a byte that was written leaves. -/
theorem rd_wr (f : Pages) (t b : Int) (a k : Nat) (hk : a + k < 65536) :
    rdQ (wrF f t b) a k = rdQ f a k ∧ (((a + k : Nat) : Int) = t → (rdE f t).2 = 0 → rdB (wrF f t b) a k = b) ∧ (¬ (((a + k : Nat) : Int) = t ∧ (rdE f t).2 = 0) → rdB (wrF f t b) a k = rdB f a k) ∧ (((a + k : Nat) : Int) = t → rdQ f a k = ((rdE f t).2 != 0)) := by
  obtain ⟨j, hj⟩ : ∃ j, a + k = j := ⟨_, rfl⟩
  unfold rdQ rdB
  rw [hj] at hk ⊢
  have hjj : ¬ ((j : Int) < 0 ∨ 65536 ≤ (j : Int)) := by omega
  by_cases h0 : t < 0 ∨ 65536 ≤ t
  · have e : wrF f t b = f := by unfold wrF; rw [if_pos h0]
    have e2 : (rdE f t).2 = 7 := by unfold rdE; rw [if_pos h0]
    rw [e, e2]
    exact ⟨rfl, fun _ h => by omega, fun _ => rfl, fun h => by subst h; exact absurd h0 hjj⟩
  · by_cases h2 : (f (t.toNat / 64)).kd = 2
    · have e : wrF f t b = updP f (t.toNat / 64) { f (t.toNat / 64) with by' := fun k => if k = t.toNat % 64 then b else (f (t.toNat / 64)).by' k } := by unfold wrF; rw [if_neg h0, if_pos h2]
      have e2 : (rdE f t).2 = 0 := by unfold rdE; rw [if_neg h0, if_pos h2]
      have e3 : rdE (wrF f t b) (j : Int) = if j / 64 = t.toNat / 64 ∧ j % 64 = t.toNat % 64 then (b, 0) else rdE f (j : Int) := by
        rw [e]
        unfold rdE
        rw [if_neg hjj, if_neg hjj, Int.toNat_natCast]
        by_cases h3 : j / 64 = t.toNat / 64
        · rw [h3, upd_at]
          simp only [h2]
          by_cases h4 : j % 64 = t.toNat % 64
          · simp [h4]
          · simp [h4]
        · have : updP f (t.toNat / 64) { f (t.toNat / 64) with by' := fun k => if k = t.toNat % 64 then b else (f (t.toNat / 64)).by' k } (j / 64) = f (j / 64) := by unfold updP; rw [if_neg h3]
          rw [this, if_neg (show ¬ (j / 64 = t.toNat / 64 ∧ j % 64 = t.toNat % 64) from fun h => h3 h.1)]
      rw [e3, e2]
      by_cases h5 : j / 64 = t.toNat / 64 ∧ j % 64 = t.toNat % 64
      · have ht : (j : Int) = t := by omega
        rw [if_pos h5, ← ht]
        rw [← ht] at e2
        refine ⟨?_, fun _ _ => rfl, fun h => absurd ⟨rfl, rfl⟩ h, fun _ => by rw [e2]⟩
        rw [e2]
      · rw [if_neg h5]
        exact ⟨rfl, fun h => by omega, fun _ => rfl, fun h => by omega⟩
    · have e : wrF f t b = f := by unfold wrF; rw [if_neg h0, if_neg h2]
      rw [e]
      refine ⟨rfl, fun h h3 => ?_, fun _ => rfl, fun h => by rw [h]⟩
      exfalso
      unfold rdE at h3
      rw [if_neg h0, if_neg h2] at h3
      simp at h3
theorem wr_kd (f : Pages) (t b : Int) (j : Nat) : (wrF f t b j).kd = (f j).kd ∧ (wrF f t b j).hu = (f j).hu := by
  unfold wrF
  split
  · exact ⟨rfl, rfl⟩
  · split
    · unfold updP
      split
      · rename_i h; subst h; exact ⟨rfl, rfl⟩
      · exact ⟨rfl, rfl⟩
    · exact ⟨rfl, rfl⟩
end Go.Proofs.Ytjplihljmohpjaa
