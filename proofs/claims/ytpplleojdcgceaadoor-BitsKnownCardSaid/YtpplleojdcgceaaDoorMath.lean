/- Bitmaps: the plain mathematics: bits of words, pieces of words, counting and finding. -/
import Derived.Lib.BitFns
import Derived.Lib.TrailingZeros
import Derived.Laws.BitsAllLaws
namespace Go.Proofs.YtpplleojdcgceaaDoor

/-- The bit i of a list of words. -/
def btW (ws : List Nat) (i : Nat) : Bool := (ws[i / 64]?.getD 0).testBit (i % 64)
/-- The bits from a on, below t, that are set (clear), ascending. -/
def hits (ws : List Nat) (on : Bool) (a t : Nat) : List Nat := (List.range' a (t - a)).filter fun i => btW ws i == on
/-- The set bits of a word with its number. -/
def posW (y : Nat × Nat) : List Nat := ((List.range 64).filter fun j => y.2.testBit j).map (64 * y.1 + ·)
def mk (lo hi : Nat) : Nat := (2 ^ (hi - lo) - 1) * 2 ^ lo
def fnd (x : Nat) (on : Bool) (m : Nat) : Nat := if on then x &&& m else m &&& (18446744073709551615 - x)

theorem mk_bit (lo hi j : Nat) (h : lo ≤ hi) : (mk lo hi).testBit j = decide (lo ≤ j ∧ j < hi) := by
  unfold mk
  rw [Nat.testBit_mul_two_pow, Nat.testBit_two_pow_sub_one]
  by_cases h1 : lo ≤ j
  · by_cases h2 : j < hi
    · simp [h1, h2]; omega
    · simp [h1, h2]; omega
  · simp [h1]
theorem mk_lt (lo hi : Nat) (h : lo ≤ hi) (h2 : hi ≤ 64) : mk lo hi < 2 ^ 64 := by
  apply Nat.lt_pow_two_of_testBit
  intro i hi'
  rw [mk_bit _ _ _ h]
  simp; omega
theorem not_bit (x : Nat) (h : x < 2 ^ 64) (j : Nat) : (18446744073709551615 - x).testBit j = (decide (j < 64) && !x.testBit j) := by
  have e : 18446744073709551615 - x = 2 ^ 64 - (x + 1) := by omega
  rw [e, Nat.testBit_two_pow_sub_succ h]
theorem fnd_bit (x : Nat) (on : Bool) (m : Nat) (hx : x < 2 ^ 64) (hm : m < 2 ^ 64) (j : Nat) : (fnd x on m).testBit j = (m.testBit j && (x.testBit j == on)) := by
  unfold fnd
  cases on
  · simp only [Bool.false_eq_true, if_false, Nat.testBit_and, not_bit x hx]
    by_cases hj : j < 64
    · simp [hj]
    · have : m.testBit j = false := Nat.testBit_lt_two_pow (Nat.lt_of_lt_of_le hm (Nat.pow_le_pow_right (by decide) (by omega)))
      simp [this]
  · simp only [if_true, Nat.testBit_and]
    cases x.testBit j <;> cases m.testBit j <;> rfl
theorem fnd_lt (x : Nat) (on : Bool) (m : Nat) (hm : m < 2 ^ 64) : fnd x on m < 2 ^ 64 := by
  unfold fnd
  split
  · exact Nat.lt_of_le_of_lt Nat.and_le_right hm
  · exact Nat.lt_of_le_of_lt Nat.and_le_left hm

theorem filt_rng (p : Nat → Bool) (lo hi : Nat) (h : lo ≤ hi) (h2 : hi ≤ 64) :
    (List.range 64).filter (fun j => decide (lo ≤ j ∧ j < hi) && p j) = (List.range' lo (hi - lo)).filter p := by
  have e : List.range 64 = List.range' 0 lo ++ (List.range' lo (hi - lo) ++ List.range' hi (64 - hi)) := by
    rw [List.range_eq_range']
    have e1 : List.range' lo (hi - lo) ++ List.range' hi (64 - hi) = List.range' lo (64 - lo) := by
      have := @List.range'_append_1 lo (hi - lo) (64 - hi)
      rw [show lo + (hi - lo) = hi by omega, show hi - lo + (64 - hi) = 64 - lo by omega] at this
      exact this
    have e2 : List.range' 0 lo ++ List.range' lo (64 - lo) = List.range' 0 64 := by
      have := @List.range'_append_1 0 lo (64 - lo)
      rw [show 0 + lo = lo by omega, show lo + (64 - lo) = 64 by omega] at this
      exact this
    rw [e1, e2]
  rw [e, List.filter_append, List.filter_append]
  have f1 : (List.range' 0 lo).filter (fun j => decide (lo ≤ j ∧ j < hi) && p j) = [] := by
    rw [List.filter_eq_nil_iff]; intro a ha; rw [List.mem_range'_1] at ha; simp; omega
  have f3 : (List.range' hi (64 - hi)).filter (fun j => decide (lo ≤ j ∧ j < hi) && p j) = [] := by
    rw [List.filter_eq_nil_iff]; intro a ha; rw [List.mem_range'_1] at ha; simp; omega
  have f2 : (List.range' lo (hi - lo)).filter (fun j => decide (lo ≤ j ∧ j < hi) && p j) = (List.range' lo (hi - lo)).filter p := by
    apply List.filter_congr
    intro a ha; rw [List.mem_range'_1] at ha
    have : decide (lo ≤ a ∧ a < hi) = true := decide_eq_true (by omega)
    rw [this, Bool.true_and]
  rw [f1, f2, f3, List.nil_append, List.append_nil]

theorem posW_fnd (ws : List Nat) (hws : ∀ x ∈ ws, x < 2 ^ 64) (on : Bool) (w lo hi : Nat) (h : lo ≤ hi) (h2 : hi ≤ 64) :
    posW (w, fnd (ws[w]?.getD 0) on (mk lo hi)) = (List.range' (64 * w + lo) (hi - lo)).filter fun i => btW ws i == on := by
  have hx : ws[w]?.getD 0 < 2 ^ 64 := by
    by_cases hw : w < ws.length
    · rw [List.getElem?_eq_getElem hw]; exact hws _ (List.getElem_mem hw)
    · rw [List.getElem?_eq_none (by omega)]; decide
  unfold posW
  have e : (List.range' (64 * w + lo) (hi - lo)) = (List.range' lo (hi - lo)).map (64 * w + ·) := by
    rw [List.map_add_range']
  rw [e, List.filter_map]
  congr 1
  rw [← filt_rng _ lo hi h h2]
  apply List.filter_congr
  intro j hj
  rw [List.mem_range] at hj
  rw [fnd_bit _ _ _ hx (mk_lt lo hi h h2), mk_bit _ _ _ h]
  show _ = (decide _ && (btW ws (64 * w + j) == on))
  unfold btW
  rw [show (64 * w + j) / 64 = w by omega, show (64 * w + j) % 64 = j by omega]

/-- The pieces of words from a on, below t: word, first bit, end. -/
def segs : Nat → Nat → Nat → List (Nat × Nat × Nat)
  | 0, _, _ => []
  | f + 1, a, t => if a < t then (a / 64, a % 64, min t ((a / 64 + 1) * 64) - 64 * (a / 64)) :: segs f (min t ((a / 64 + 1) * 64)) t else []
theorem hits_nil (ws : List Nat) (on : Bool) (a t : Nat) (h : t ≤ a) : hits ws on a t = [] := by
  unfold hits; rw [show t - a = 0 by omega]; rfl
theorem hits_split (ws : List Nat) (on : Bool) (a e t : Nat) (h1 : a ≤ e) (h2 : e ≤ t) : hits ws on a t = hits ws on a e ++ hits ws on e t := by
  unfold hits
  rw [← List.filter_append]
  congr 1
  have := @List.range'_append_1 a (e - a) (t - e)
  rw [show a + (e - a) = e by omega, show e - a + (t - e) = t - a by omega] at this
  exact this.symm
theorem segs_hits (ws : List Nat) (hws : ∀ x ∈ ws, x < 2 ^ 64) (on : Bool) : ∀ (f a t : Nat), t ≤ a ∨ t ≤ 64 * (a / 64 + f) →
    (segs f a t).flatMap (fun s => posW (s.1, fnd (ws[s.1]?.getD 0) on (mk s.2.1 s.2.2))) = hits ws on a t
  | 0, a, t, h => by rw [hits_nil _ _ _ _ (by omega)]; rfl
  | f + 1, a, t, h => by
    unfold segs
    by_cases hlt : a < t
    · rw [if_pos hlt, List.flatMap_cons]
      have he1 : a ≤ min t ((a / 64 + 1) * 64) := by omega
      have he2 : min t ((a / 64 + 1) * 64) ≤ t := by omega
      rw [hits_split ws on a _ t he1 he2]
      congr 1
      · show posW (a / 64, fnd _ on (mk (a % 64) (min t ((a / 64 + 1) * 64) - 64 * (a / 64)))) = _
        rw [posW_fnd ws hws on _ _ _ (by omega) (by omega), show 64 * (a / 64) + a % 64 = a by omega, show min t ((a / 64 + 1) * 64) - 64 * (a / 64) - a % 64 = min t ((a / 64 + 1) * 64) - a by omega]
        rfl
      · apply segs_hits ws hws on f
        by_cases h5 : t ≤ (a / 64 + 1) * 64
        · rw [Nat.min_eq_left h5]; exact .inl (Nat.le_refl _)
        · rw [Nat.min_eq_right (by omega)]
          omega
    · rw [if_neg hlt, hits_nil _ _ _ _ (by omega)]; rfl

theorem popAux_len : ∀ (f x : Nat), Lib.popAux f x = ((List.range f).filter fun j => x.testBit j).length
  | 0, _ => rfl
  | f + 1, x => by
    rw [Lib.popAux, popAux_len f, List.range_succ_eq_map, List.filter_cons, List.filter_map, Nat.testBit_zero]
    have e : (List.range f).filter ((fun j => x.testBit j) ∘ Nat.succ) = (List.range f).filter fun j => (x / 2).testBit j := by
      apply List.filter_congr; intro j _; show x.testBit (j + 1) = _; rw [Nat.testBit_succ]
    rw [e]
    by_cases h : x % 2 = 1
    · rw [if_pos (decide_eq_true h), List.length_cons, List.length_map]; omega
    · rw [if_neg (by simpa using h), List.length_map]; omega
theorem posW_length (w x : Nat) : (posW (w, x)).length = Lib.onesCount x := by
  unfold posW Lib.onesCount; rw [List.length_map, popAux_len]

theorem ctz_head : ∀ (f x : Nat), x < 2 ^ f → 0 < x → ((List.range f).filter fun j => x.testBit j).head? = some (Lib.ctzFrom f x)
  | 0, x, h, h0 => by simp at h; omega
  | f + 1, x, h, h0 => by
    rw [Lib.ctzFrom, List.range_succ_eq_map, List.filter_cons, List.filter_map, Nat.testBit_zero]
    have e : (List.range f).filter ((fun j => x.testBit j) ∘ Nat.succ) = (List.range f).filter fun j => (x / 2).testBit j := by
      apply List.filter_congr; intro j _; show x.testBit (j + 1) = _; rw [Nat.testBit_succ]
    rw [e]
    by_cases h1 : x % 2 = 1
    · rw [if_pos (decide_eq_true h1), if_pos h1]; rfl
    · rw [if_neg (by simpa using h1), if_neg h1, List.head?_map, ctz_head f (x / 2) (by rw [Nat.pow_succ] at h; omega) (by omega)]
      show some (Nat.succ _) = _
      rw [Nat.succ_eq_add_one, Nat.add_comm]
theorem posW_head (w x : Nat) (h : x < 2 ^ 64) (h0 : 0 < x) : (posW (w, x)).head? = some (64 * w + Lib.ctz 64 x) := by
  unfold posW Lib.ctz
  rw [List.head?_map, ctz_head 64 x h h0, if_neg (by omega)]; rfl
theorem ctz_lt (x : Nat) (h : x < 2 ^ 64) (h0 : 0 < x) : Lib.ctz 64 x < 64 := by
  unfold Lib.ctz; rw [if_neg (by omega)]
  exact (Lib.ctzFrom_spec 64 x h0 h).elim fun _ hm => hm.2

theorem len_last : ∀ (f x : Nat), x < 2 ^ f → 0 < x → ((List.range f).filter fun j => x.testBit j).getLast? = some (Lib.bitLenAux f x - 1) ∧ 1 ≤ Lib.bitLenAux f x ∧ Lib.bitLenAux f x ≤ f
  | 0, x, h, h0 => by simp at h; omega
  | f + 1, x, h, h0 => by
    rw [Lib.bitLenAux, if_neg (by omega), List.range_succ_eq_map, List.filter_cons, List.filter_map, Nat.testBit_zero]
    have e : (List.range f).filter ((fun j => x.testBit j) ∘ Nat.succ) = (List.range f).filter fun j => (x / 2).testBit j := by
      apply List.filter_congr; intro j _; show x.testBit (j + 1) = _; rw [Nat.testBit_succ]
    rw [e]
    by_cases h2 : x / 2 = 0
    · have hx : x = 1 := by omega
      subst hx
      have : ((List.range f).filter fun j => (1 / 2).testBit j) = [] := by
        rw [List.filter_eq_nil_iff]; intro j _; simp
      have hb : Lib.bitLenAux f (1 / 2) = 0 := by cases f with | zero => rfl | succ g => rw [Lib.bitLenAux, if_pos (by decide)]
      rw [this, hb]
      exact ⟨rfl, by decide, by omega⟩
    · obtain ⟨h3, h4, h5⟩ := len_last f (x / 2) (by rw [Nat.pow_succ] at h; omega) (by omega)
      have h6 : (((List.range f).filter fun j => (x / 2).testBit j).map Nat.succ).getLast? = some (1 + Lib.bitLenAux f (x / 2) - 1) := by
        rw [List.getLast?_map, h3]
        show some (Nat.succ _) = _
        congr 1; omega
      refine ⟨?_, by omega, by omega⟩
      split
      · rw [List.getLast?_cons, h6]; rfl
      · exact h6
theorem posW_last (w x : Nat) (h : x < 2 ^ 64) (h0 : 0 < x) : (posW (w, x)).getLast? = some (64 * w + Lib.bitLen x - 1) ∧ 1 ≤ Lib.bitLen x ∧ Lib.bitLen x ≤ 64 := by
  obtain ⟨h3, h4, h5⟩ := len_last 64 x h h0
  refine ⟨?_, h4, h5⟩
  unfold posW Lib.bitLen
  rw [List.getLast?_map, h3]
  show some (64 * w + (Lib.bitLenAux 64 x - 1)) = some (64 * w + Lib.bitLenAux 64 x - 1)
  congr 1; omega
theorem posW_zero (w : Nat) : posW (w, 0) = [] := by
  unfold posW; rw [List.map_eq_nil_iff, List.filter_eq_nil_iff]; intro j _; simp

theorem hits_mem (ws : List Nat) (on : Bool) (a t i : Nat) : i ∈ hits ws on a t ↔ a ≤ i ∧ i < t ∧ btW ws i = on := by
  unfold hits; rw [List.mem_filter, List.mem_range'_1]; simp only [beq_iff_eq]
  constructor
  · rintro ⟨⟨h1, h2⟩, h3⟩; exact ⟨h1, by omega, h3⟩
  · rintro ⟨h1, h2, h3⟩; exact ⟨⟨h1, by omega⟩, h3⟩
theorem hits_pairwise (ws : List Nat) (on : Bool) (a t : Nat) : (hits ws on a t).Pairwise (· < ·) :=
  List.Pairwise.filter _ (List.pairwise_lt_range' (s := a) (n := t - a))
end Go.Proofs.YtpplleojdcgceaaDoor
