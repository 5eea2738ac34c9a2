/- Pieces: none crosses a multiple of the size, neighbours are parted by one or by a gap. -/
import Derived.Test.YtgljfiihaehedaaCons2
import Derived.Test.YtgljfiihaehedaaCount
import Derived.Test.YtgljfiihaehedaaPg
namespace Go.Proofs.Ytgljfiihaehedaa

theorem pcS_one : ∀ (n e a : Nat), e - a = n → (pcS 1 e a).length = n
  | 0, e, a, h => by rw [pcS_end (by omega)]; rfl
  | n + 1, e, a, h => by
    have ht : pcTo 1 e a = a + 1 := by unfold pcTo; rw [Nat.mod_one]; omega
    rw [pcS_step (Nat.le_refl _) (by omega), ht, List.length_cons, pcS_one n e (a + 1) (by omega)]
theorem pgL_len (L : List Sp) : (pgL L).length = cntL L := by
  unfold pgL
  rw [List.length_map]
  induction L with
  | nil => rfl
  | cons x L ih =>
    have e : cntL (x :: L) = x.2 + cntL L := by unfold cntL; simp
    rw [pcL_cons, List.length_append, ih, pcS_one x.2 _ _ (by omega), e]
/-- A piece lies between two multiples of the size. -/
def oneP (z : Nat) (x : Sp) : Prop := x.1 / z = (x.1 + x.2 - 1) / z ∧ 1 ≤ x.2
def adjP (z : Nat) (y x : Sp) : Prop := y.1 + y.2 ≤ x.1 ∧ (y.1 + y.2 = x.1 → x.1 % z = 0)
def adjL (z : Nat) : List Sp → Prop
  | [] => True
  | [_] => True
  | x :: y :: r => adjP z x y ∧ adjL z (y :: r)
theorem adjL_cons {z : Nat} {x : Sp} : ∀ {r : List Sp}, (∀ y, r.head? = some y → adjP z x y) → adjL z r → adjL z (x :: r)
  | [], _, _ => trivial
  | y :: _, h, hr => ⟨h y rfl, hr⟩
theorem adjL_app {z : Nat} : ∀ {A B : List Sp}, adjL z A → adjL z B → (∀ y x, A.getLast? = some y → B.head? = some x → adjP z y x) → adjL z (A ++ B)
  | [], _, _, hB, _ => hB
  | [a], B, _, hB, h => adjL_cons (fun y hy => h a y rfl hy) hB
  | a :: b :: r, B, hA, hB, h => ⟨hA.1, adjL_app (A := b :: r) hA.2 hB fun y x hy hx => h y x (by rw [List.getLast?_cons_cons]; exact hy) hx⟩
theorem adjL_at {z : Nat} : ∀ {l : List Sp} {i : Nat} {y x : Sp}, adjL z l → l[i]? = some y → l[i + 1]? = some x → adjP z y x
  | [], _, _, _, _, h, _ => by simp at h
  | [_], i, _, _, _, _, h => by simp at h
  | a :: b :: r, 0, y, x, hl, h1, h2 => by simp at h1 h2; subst h1; subst h2; exact hl.1
  | a :: b :: r, i + 1, y, x, hl, h1, h2 => adjL_at (l := b :: r) (i := i) hl.2 (by simpa using h1) (by simpa using h2)
theorem pcS_good (z e : Nat) (hz : 1 ≤ z) : ∀ (n a : Nat), e - a = n → a < e → (∀ x ∈ pcS z e a, oneP z x) ∧ adjL z (pcS z e a) ∧ (∀ x, (pcS z e a).head? = some x → x.1 = a) ∧ (∀ y, (pcS z e a).getLast? = some y → y.1 + y.2 = e) := by
  intro n
  induction n using Nat.strongRecOn with
  | ind n ih =>
    intro a hn h
    have h1 := pcTo_gt hz h
    have h2 := pcTo_le z e a
    have hone : oneP z (a, pcTo z e a - a) := by
      refine ⟨?_, by simp only; omega⟩
      simp only
      rw [show a + (pcTo z e a - a) - 1 = pcTo z e a - 1 by omega]
      have h3 : pcTo z e a ≤ a - a % z + z := Nat.min_le_right _ _
      have h4 := Nat.div_add_mod a z
      have h5 := Nat.mod_lt a (show z > 0 by omega)
      symm
      apply Nat.div_eq_of_lt_le
      · rw [Nat.mul_comm]; omega
      · rw [Nat.succ_mul, Nat.mul_comm]; omega
    rw [pcS_step hz h]
    by_cases ht : pcTo z e a < e
    · obtain ⟨g1, g2, g3, g4⟩ := ih (e - pcTo z e a) (by omega) _ rfl ht
      refine ⟨fun x hx => ?_, adjL_cons (fun y hy => ?_) g2, fun x hx => by simp at hx; subst hx; rfl, fun y hy => ?_⟩
      · rcases List.mem_cons.1 hx with rfl | hx
        · exact hone
        · exact g1 x hx
      · have h3 := g3 y hy
        refine ⟨by simp only; omega, fun _ => ?_⟩
        rw [h3]
        have h4 : pcTo z e a = a - a % z + z := by unfold pcTo at ht ⊢; omega
        rw [h4]
        have h5 := Nat.div_add_mod a z
        rw [show a - a % z + z = z * (a / z) + z by omega, ← Nat.mul_succ]
        exact Nat.mul_mod_right _ _
      · cases hq : pcS z e (pcTo z e a) with
        | nil => rw [pcS_step hz ht] at hq; cases hq
        | cons b r =>
          rw [hq, List.getLast?_cons_cons] at hy
          exact g4 y (by rw [hq]; exact hy)
    · rw [pcS_end (by omega)]
      refine ⟨fun x hx => by simp at hx; subst hx; exact hone, trivial, fun x hx => by simp at hx; subst hx; rfl, fun y hy => by simp at hy; subst hy; simp only; omega⟩
theorem pcL_good (z : Nat) (hz : 1 ≤ z) : ∀ (L : List Sp) (a : Nat), SetL a L → (∀ x ∈ pcL z L, oneP z x) ∧ adjL z (pcL z L) ∧ (∀ x, (pcL z L).head? = some x → a ≤ x.1)
  | [], _, _ => ⟨fun x hx => by simp [pcL] at hx, trivial, fun x hx => by simp [pcL] at hx⟩
  | s :: L, a, h => by
    obtain ⟨h1, h2, h3, h4⟩ := h
    obtain ⟨g1, g2, g3⟩ := pcL_good z hz L _ h4
    obtain ⟨k1, k2, k3, k4⟩ := pcS_good z (s.1 + s.2) hz _ s.1 rfl (by omega)
    rw [pcL_cons]
    refine ⟨fun x hx => ?_, adjL_app k2 g2 fun y x hy hx => ?_, fun x hx => ?_⟩
    · rcases List.mem_append.1 hx with hx | hx
      · exact k1 x hx
      · exact g1 x hx
    · have e1 := k4 y hy
      have e2 := g3 x hx
      exact ⟨by omega, fun e => by omega⟩
    · cases hq : pcS z (s.1 + s.2) s.1 with
      | nil => rw [pcS_step hz (by omega)] at hq; cases hq
      | cons b r =>
        rw [hq] at hx
        have := k3 x (by rw [hq]; simpa using hx)
        omega
theorem pcL_val (z : Nat) (hz : 1 ≤ z) (L : List Sp) (hL : ValL L) : ValL (pcL z L) := fun x hx => by
  unfold pcL at hx
  obtain ⟨s, hs, hx⟩ := List.mem_flatMap.1 hx
  exact pcS_val z (s.1 + s.2) hz (hL s hs).2 _ s.1 rfl x hx
end Go.Proofs.Ytgljfiihaehedaa
