/- Pieces as lists. -/
import Derived.Test.YtgljfiihaehedaaSpM
namespace Go.Proofs.Ytgljfiihaehedaa

/-- Where the piece that begins at a page ends. -/
def pcTo (z e a : Nat) : Nat := min e (a - a % z + z)
theorem pcTo_gt {z e a : Nat} (hz : 1 ≤ z) (h : a < e) : a < pcTo z e a := by
  unfold pcTo
  have := Nat.mod_lt a (show z > 0 by omega)
  have := Nat.mod_le a z
  omega
theorem pcTo_le (z e a : Nat) : pcTo z e a ≤ e := Nat.min_le_left _ _
/-- The pieces from a page on, of at most so many. -/
def pcF (z e : Nat) : Nat → Nat → List Sp
  | 0, _ => []
  | f + 1, a => if a < e then (a, pcTo z e a - a) :: pcF z e f (pcTo z e a) else []
theorem pcF_more (z e : Nat) (hz : 1 ≤ z) : ∀ (f g a : Nat), e - a ≤ f → e - a ≤ g → pcF z e f a = pcF z e g a
  | 0, 0, _, _, _ => rfl
  | 0, g + 1, a, h, _ => by show [] = if a < e then _ else _; rw [if_neg (by omega)]
  | f + 1, 0, a, _, h => by show (if a < e then _ else _) = []; rw [if_neg (by omega)]
  | f + 1, g + 1, a, h1, h2 => by
    show (if a < e then _ else _) = if a < e then _ else _
    by_cases h : a < e
    · have := pcTo_gt hz h
      rw [if_pos h, if_pos h, pcF_more z e hz f g _ (by omega) (by omega)]
    · rw [if_neg h, if_neg h]
/-- The pieces from a page up to e. -/
def pcS (z e a : Nat) : List Sp := pcF z e (e - a) a
theorem pcS_end {z e a : Nat} (h : e ≤ a) : pcS z e a = [] := by unfold pcS; rw [show e - a = 0 by omega]; rfl
theorem pcS_step {z e a : Nat} (hz : 1 ≤ z) (h : a < e) : pcS z e a = (a, pcTo z e a - a) :: pcS z e (pcTo z e a) := by
  have := pcTo_gt hz h
  unfold pcS
  obtain ⟨f, hf⟩ : ∃ f, e - a = f + 1 := ⟨e - a - 1, by omega⟩
  rw [hf]
  show (if a < e then _ else _) = _
  rw [if_pos h, pcF_more z e hz f (e - pcTo z e a) _ (by omega) (Nat.le_refl _)]
theorem pcS_len : ∀ (z e n a : Nat), 1 ≤ z → e - a = n → (pcS z e a).length ≤ n := by
  intro z e n
  induction n using Nat.strongRecOn with
  | ind n ih =>
    intro a hz hn
    by_cases h : a < e
    · have h1 := pcTo_gt hz h
      rw [pcS_step hz h, List.length_cons]
      have := ih (e - pcTo z e a) (by omega) _ hz rfl
      omega
    · rw [pcS_end (by omega)]; simp
/-- The pieces have just the pages from the first one on, up to e. -/
theorem pcS_pages (z e : Nat) (hz : 1 ≤ z) (p : Nat) : ∀ (n a : Nat), e - a = n → inS (pcS z e a) p = (decide (a ≤ p) && decide (p < e)) := by
  intro n
  induction n using Nat.strongRecOn with
  | ind n ih =>
    intro a hn
    by_cases h : a < e
    · have h1 := pcTo_gt hz h
      have h2 := pcTo_le z e a
      rw [pcS_step hz h, inS_cons, ih (e - pcTo z e a) (by omega) _ rfl, Bool.eq_iff_iff]
      simp
      omega
    · rw [pcS_end (by omega), inS_nil, Bool.eq_iff_iff]; simp; omega
/-- What Pieces goes through. -/
def pcL (z : Nat) (L : List Sp) : List Sp := L.flatMap fun x => pcS z (x.1 + x.2) x.1
theorem pcL_pages (z : Nat) (hz : 1 ≤ z) (L : List Sp) (p : Nat) : inS (pcL z L) p = inS L p := by
  induction L with
  | nil => rfl
  | cons x L ih =>
    have : pcL z (x :: L) = pcS z (x.1 + x.2) x.1 ++ pcL z L := by unfold pcL; rw [List.flatMap_cons]
    rw [this, inS_append, ih, inS_cons, pcS_pages z _ hz p _ _ rfl]
theorem pcL_take (z : Nat) (L : List Sp) (k : Nat) (x : Sp) (h : L[k]? = some x) : pcL z (L.take (k + 1)) = pcL z (L.take k) ++ pcS z (x.1 + x.2) x.1 := by
  unfold pcL; rw [List.take_add_one, h]; simp [List.flatMap_append]
theorem pcS_val (z e : Nat) (hz : 1 ≤ z) (he : e ≤ 1024) : ∀ (n a : Nat), e - a = n → ValL (pcS z e a) := by
  intro n
  induction n using Nat.strongRecOn with
  | ind n ih =>
    intro a hn
    by_cases h : a < e
    · have h1 := pcTo_gt hz h
      have h2 := pcTo_le z e a
      rw [pcS_step hz h]
      intro x hx
      rcases List.mem_cons.1 hx with rfl | hx
      · simp only; omega
      · exact ih (e - pcTo z e a) (by omega) _ rfl x hx
    · rw [pcS_end (by omega)]; intro x hx; cases hx
end Go.Proofs.Ytgljfiihaehedaa
