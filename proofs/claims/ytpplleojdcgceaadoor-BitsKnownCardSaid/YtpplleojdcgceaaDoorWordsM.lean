/- The words of given bits: the plain mathematics. -/
import Derived.Test.YtpplleojdcgceaaDoorRefList
namespace Go.Proofs.YtpplleojdcgceaaDoor
open Go.RowKit

/-- The number whose bit j, below c, is f (o + j). -/
def mkOne (f : Nat → Bool) (o : Nat) : Nat → Nat
  | 0 => 0
  | c + 1 => mkOne f o c + if f (o + c) then 2 ^ c else 0
theorem mkOne_lt (f : Nat → Bool) (o : Nat) : ∀ c, mkOne f o c < 2 ^ c
  | 0 => by simp [mkOne]
  | c + 1 => by
    have := mkOne_lt f o c
    rw [mkOne, Nat.pow_succ]
    split <;> omega
theorem mkOne_bit (f : Nat → Bool) (o : Nat) : ∀ c j, (mkOne f o c).testBit j = (decide (j < c) && f (o + j))
  | 0, j => by simp [mkOne]
  | c + 1, j => by
    have h1 := mkOne_lt f o c
    have h2 := mkOne_bit f o c j
    have h3 := mkOne_lt f o (c + 1)
    rcases Nat.lt_trichotomy j c with h | h | h
    · rw [mkOne]
      split
      · rw [Nat.add_comm, Nat.testBit_two_pow_add_gt h, h2]; simp [h, show j < c + 1 by omega]
      · rw [Nat.add_zero, h2]; simp [h, show j < c + 1 by omega]
    · subst h
      rw [mkOne]
      split
      · rename_i hf
        rw [Nat.add_comm, Nat.testBit_two_pow_add_eq, h2]; simp [hf]
      · rename_i hf
        rw [Nat.add_zero, h2]; simp at hf; simp [hf]
    · rw [Nat.testBit_lt_two_pow (Nat.lt_of_lt_of_le h3 (Nat.pow_le_pow_right (by decide) (by omega)))]
      simp; omega
/-- The words whose bits, below n, are f. -/
def mkW (n : Nat) (f : Nat → Bool) : List Nat := (List.range ((n + 63) / 64)).map fun k => mkOne (fun i => decide (i < n) && f i) (64 * k) 64
theorem mkW_len (n : Nat) (f : Nat → Bool) : (mkW n f).length = (n + 63) / 64 := by unfold mkW; simp
theorem mkW_fit (n : Nat) (f : Nat → Bool) : Fit64 (mkW n f) := by
  intro x hx
  unfold mkW at hx
  obtain ⟨k, _, rfl⟩ := List.mem_map.1 hx
  exact mkOne_lt _ _ 64
theorem mkW_bit (n : Nat) (f : Nat → Bool) (i : Nat) : btW (mkW n f) i = (decide (i < n) && f i) := by
  unfold btW
  by_cases h : i / 64 < (n + 63) / 64
  · have e : (mkW n f)[i / 64]?.getD 0 = mkOne (fun i => decide (i < n) && f i) (64 * (i / 64)) 64 := by unfold mkW; simp [h]
    rw [e, mkOne_bit, show 64 * (i / 64) + i % 64 = i by omega]
    simp [show i % 64 < 64 by omega]
  · rw [List.getElem?_eq_none (by rw [mkW_len]; omega)]
    simp; omega
theorem words_ext {a b : List Nat} (hl : a.length = b.length) (ha : Fit64 a) (hb : Fit64 b) (h : ∀ i, i < 64 * a.length → btW a i = btW b i) : a = b := by
  apply List.ext_getElem hl
  intro k h1 h2
  apply Nat.eq_of_testBit_eq
  intro j
  by_cases hj : j < 64
  · have := h (64 * k + j) (by omega)
    unfold btW at this
    rw [show (64 * k + j) / 64 = k by omega, show (64 * k + j) % 64 = j by omega, List.getElem?_eq_getElem h1, List.getElem?_eq_getElem h2] at this
    exact this
  · have p : (2 : Nat) ^ 64 ≤ 2 ^ j := Nat.pow_le_pow_right (by decide) (by omega)
    rw [Nat.testBit_lt_two_pow (Nat.lt_of_lt_of_le (ha _ (List.getElem_mem h1)) p), Nat.testBit_lt_two_pow (Nat.lt_of_lt_of_le (hb _ (List.getElem_mem h2)) p)]
theorem btW_out (ws : List Nat) (i : Nat) (h : 64 * ws.length ≤ i) : btW ws i = false := by
  unfold btW; rw [List.getElem?_eq_none (by omega)]; simp
theorem mkW_of {n : Nat} {ws : List Nat} {f : Nat → Bool} (hl : ws.length = (n + 63) / 64) (hf : Fit64 ws) (h : ∀ i, i < 64 * ws.length → btW ws i = (decide (i < n) && f i)) : ws = mkW n f :=
  words_ext (by rw [mkW_len, hl]) hf (mkW_fit _ _) fun i hi => by rw [mkW_bit]; exact h i hi
theorem mkW_congr {n : Nat} {f g : Nat → Bool} (h : ∀ i, i < n → f i = g i) : mkW n f = mkW n g :=
  mkW_of (mkW_len _ _) (mkW_fit _ _) fun i _ => by
    rw [mkW_bit]
    by_cases hi : i < n
    · simp [hi, h i hi]
    · simp [hi]
theorem chk_mk (n : Nat) (f : Nat → Bool) (hn : n ≤ 4096) : checkB n (mkW n f) = 0 :=
  chk_zero n _ hn (mkW_len _ _) fun j h1 _ => by rw [mkW_bit]; simp; omega
theorem valid_bits {n : Nat} {ws : List Nat} (h : checkB n ws = 0) (j : Nat) (hj : n ≤ j) : btW ws j = false := by
  obtain ⟨n', hn', hn4, hl⟩ := check_ok h
  obtain rfl : n = n' := by omega
  by_cases h2 : j < 64 * ws.length
  · cases hb : btW ws j with
    | false => rfl
    | true => have := chk_six n ws hn4 hl j hj h2 hb; rw [h] at this; cases this
  · exact btW_out _ _ (by omega)
theorem valid_mk {n : Nat} {ws : List Nat} (hf : Fit64 ws) (h : checkB n ws = 0) : ws = mkW n (btW ws) := by
  obtain ⟨n', hn', hn4, hl⟩ := check_ok h
  obtain rfl : n = n' := by omega
  refine mkW_of hl hf fun i _ => ?_
  by_cases hi : i < n
  · simp [hi]
  · simp [hi]; exact valid_bits h i (by omega)

/-- A piece of a word, set (cleared). -/
def putW (on : Bool) (ws : List Nat) (x : Nat × Nat) : List Nat := ws.set x.1 (if on then (ws[x.1]?.getD 0) ||| x.2 else (ws[x.1]?.getD 0) &&& (18446744073709551615 - x.2))
theorem putW_len (on : Bool) (ws : List Nat) (x : Nat × Nat) : (putW on ws x).length = ws.length := by unfold putW; simp
theorem getD_fit {ws : List Nat} (hf : Fit64 ws) (k : Nat) : ws[k]?.getD 0 < 2 ^ 64 := by
  by_cases h : k < ws.length
  · rw [List.getElem?_eq_getElem h]; exact hf _ (List.getElem_mem h)
  · rw [List.getElem?_eq_none (by omega)]; decide
theorem putW_fit (on : Bool) (ws : List Nat) (x : Nat × Nat) (hf : Fit64 ws) (hx : x.2 < 2 ^ 64) : Fit64 (putW on ws x) := by
  intro y hy
  unfold putW at hy
  rcases List.mem_or_eq_of_mem_set hy with h | rfl
  · exact hf _ h
  · have := getD_fit hf x.1
    split
    · exact Nat.or_lt_two_pow this hx
    · exact Nat.lt_of_le_of_lt Nat.and_le_left this
theorem putW_bit (on : Bool) (ws : List Nat) (k lo hi i : Nat) (hk : k < ws.length) (h1 : lo ≤ hi) (h2 : hi ≤ 64) : btW (putW on ws (k, mk lo hi)) i = if i / 64 = k ∧ lo ≤ i % 64 ∧ i % 64 < hi then on else btW ws i := by
  unfold btW putW
  by_cases h : i / 64 = k
  · subst h
    rw [List.getElem?_set_self hk]
    simp only [Option.getD_some, true_and]
    have hm := mk_bit lo hi (i % 64) h1
    have hn := not_bit (mk lo hi) (mk_lt lo hi h1 h2) (i % 64)
    by_cases hr : lo ≤ i % 64 ∧ i % 64 < hi
    · rw [if_pos hr]
      rw [decide_eq_true hr] at hm
      cases on
      · simp [Nat.testBit_and, hn, hm]
      · simp [Nat.testBit_or, hm]
    · rw [if_neg hr]
      rw [decide_eq_false hr] at hm
      cases on
      · simp [Nat.testBit_and, hn, hm, show i % 64 < 64 by omega]
      · simp [Nat.testBit_or, hm]
  · rw [List.getElem?_set_ne (by omega), if_neg (by omega)]
/-- All pieces put. -/
def putL (on : Bool) (ws : List Nat) (l : List (Nat × Nat)) : List Nat := l.foldl (putW on) ws
theorem putL_len (on : Bool) : ∀ (l : List (Nat × Nat)) (ws : List Nat), (putL on ws l).length = ws.length
  | [], _ => rfl
  | x :: l, ws => by show (putL on (putW on ws x) l).length = _; rw [putL_len on l, putW_len]
theorem putL_snoc (on : Bool) (ws : List Nat) (l : List (Nat × Nat)) (x : Nat × Nat) : putL on ws (l ++ [x]) = putW on (putL on ws l) x := by unfold putL; rw [List.foldl_append]; rfl
theorem putL_fit (on : Bool) : ∀ (l : List (Nat × Nat)) (ws : List Nat), Fit64 ws → (∀ x ∈ l, x.2 < 2 ^ 64) → Fit64 (putL on ws l)
  | [], _, h, _ => h
  | x :: l, ws, h, hx => putL_fit on l _ (putW_fit on ws x h (hx x (by simp))) fun y hy => hx y (by simp [hy])
theorem segs_put (on : Bool) : ∀ (f a t : Nat) (ws : List Nat), Fit64 ws → t ≤ 64 * ws.length → (t ≤ a ∨ t ≤ 64 * (a / 64 + f)) →
    Fit64 (putL on ws ((segs f a t).map sg)) ∧ ∀ i, btW (putL on ws ((segs f a t).map sg)) i = if a ≤ i ∧ i < t then on else btW ws i
  | 0, a, t, ws, hf, _, h => ⟨hf, fun i => by rw [if_neg (by omega)]; rfl⟩
  | f + 1, a, t, ws, hf, ht, h => by
    unfold segs
    by_cases hlt : a < t
    · rw [if_pos hlt, List.map_cons]
      obtain ⟨e, he⟩ : ∃ e, min t ((a / 64 + 1) * 64) = e := ⟨_, rfl⟩
      have he1 : a < e := by omega
      have he2 : e ≤ t := by omega
      have he3 : e ≤ 64 * (a / 64) + 64 := by omega
      have he4 : e = t ∨ e = 64 * (a / 64) + 64 := by omega
      rw [he]
      show Fit64 (putL on (putW on ws (a / 64, mk (a % 64) (e - 64 * (a / 64)))) _) ∧ _
      have hb := putW_bit on ws (a / 64) (a % 64) (e - 64 * (a / 64))
      obtain ⟨r1, r2⟩ := segs_put on f e t (putW on ws (a / 64, mk (a % 64) (e - 64 * (a / 64)))) (putW_fit on ws _ hf (mk_lt _ _ (by omega) (by omega))) (by rw [putW_len]; exact ht) (by omega)
      refine ⟨r1, fun i => ?_⟩
      show btW (putL on (putW on ws (a / 64, mk (a % 64) (e - 64 * (a / 64)))) _) i = _
      rw [r2 i, hb i (by omega) (by omega) (by omega)]
      by_cases c1 : e ≤ i ∧ i < t
      · rw [if_pos c1, if_pos (by omega)]
      · rw [if_neg c1]
        by_cases c2 : i / 64 = a / 64 ∧ a % 64 ≤ i % 64 ∧ i % 64 < e - 64 * (a / 64)
        · rw [if_pos c2, if_pos (by omega)]
        · rw [if_neg c2, if_neg (by omega)]
    · rw [if_neg hlt]
      exact ⟨hf, fun i => by rw [if_neg (by omega)]; rfl⟩
/-- What put makes of words. -/
theorem put_mk (on : Bool) (n a t : Nat) (ws : List Nat) (g : Nat → Bool) (hw : ws = mkW n g) (ht : t ≤ n) (hn : n ≤ 4096) : putL on ws (pcL a t) = mkW n fun i => if a ≤ i ∧ i < t then on else g i := by
  have hl : ws.length = (n + 63) / 64 := by rw [hw, mkW_len]
  have hf : Fit64 ws := by rw [hw]; exact mkW_fit _ _
  obtain ⟨r1, r2⟩ := segs_put on 66 a t ws hf (by omega) (by omega)
  refine mkW_of (by unfold pcL; rw [putL_len, hl]) r1 fun i hi => ?_
  unfold pcL
  rw [r2 i, hw, mkW_bit]
  by_cases c1 : a ≤ i ∧ i < t
  · rw [if_pos c1, if_pos c1]; simp [show i < n by omega]
  · rw [if_neg c1, if_neg c1]
theorem wz_mk (n : Nat) : List.replicate ((n + 63) / 64) 0 = mkW n fun _ => false :=
  mkW_of (by simp) (fun x hx => by rw [(List.mem_replicate.1 hx).2]; decide) fun i hi => by
    unfold btW; rw [List.getElem?_replicate]; split <;> simp

/-- Words joined. -/
def joinW (p : Nat → Nat → Nat) (a b : List Nat) : List Nat := (List.range a.length).map fun k => p (a[k]?.getD 0) (b[k]?.getD 0)
theorem join_mk (p : Nat → Nat → Nat) (q : Bool → Bool → Bool) (hq : q false false = false) (hp : ∀ x y, x < 2 ^ 64 → y < 2 ^ 64 → p x y < 2 ^ 64 ∧ ∀ j, j < 64 → (p x y).testBit j = q (x.testBit j) (y.testBit j)) (n : Nat) (a b : List Nat) (f g : Nat → Bool) (ha : a = mkW n f) (hb : b = mkW n g) :
    joinW p a b = mkW n fun i => q (f i) (g i) := by
  have la : a.length = (n + 63) / 64 := by rw [ha, mkW_len]
  have fa : Fit64 a := by rw [ha]; exact mkW_fit _ _
  have fb : Fit64 b := by rw [hb]; exact mkW_fit _ _
  refine mkW_of (by unfold joinW; simp [la]) (fun x hx => ?_) fun i hi => ?_
  · unfold joinW at hx
    obtain ⟨k, _, rfl⟩ := List.mem_map.1 hx
    exact (hp _ _ (getD_fit fa k) (getD_fit fb k)).1
  · have hi2 : i / 64 < a.length := by unfold joinW at hi; simp at hi; omega
    have e1 := mkW_bit n f i
    have e2 := mkW_bit n g i
    rw [← ha] at e1
    rw [← hb] at e2
    unfold btW at e1 e2 ⊢
    have e3 : (joinW p a b)[i / 64]?.getD 0 = p (a[i / 64]?.getD 0) (b[i / 64]?.getD 0) := by unfold joinW; simp [hi2]
    rw [e3, (hp _ _ (getD_fit fa _) (getD_fit fb _)).2 _ (by omega), e1, e2]
    by_cases h : i < n
    · simp [h]
    · simp [h, hq]
theorem and_bits (x y : Nat) (hx : x < 2 ^ 64) (_ : y < 2 ^ 64) : x &&& y < 2 ^ 64 ∧ ∀ j, j < 64 → (x &&& y).testBit j = (x.testBit j && y.testBit j) := ⟨Nat.lt_of_le_of_lt Nat.and_le_left hx, fun _ _ => Nat.testBit_and _ _ _⟩
theorem or_bits (x y : Nat) (hx : x < 2 ^ 64) (hy : y < 2 ^ 64) : x ||| y < 2 ^ 64 ∧ ∀ j, j < 64 → (x ||| y).testBit j = (x.testBit j || y.testBit j) := ⟨Nat.or_lt_two_pow hx hy, fun _ _ => Nat.testBit_or _ _ _⟩
theorem less_bits (x y : Nat) (hx : x < 2 ^ 64) (hy : y < 2 ^ 64) : x &&& (18446744073709551615 - y) < 2 ^ 64 ∧ ∀ j, j < 64 → (x &&& (18446744073709551615 - y)).testBit j = (x.testBit j && !y.testBit j) :=
  ⟨Nat.lt_of_le_of_lt Nat.and_le_left hx, fun j hj => by rw [Nat.testBit_and, not_bit y hy]; simp [hj]⟩
end Go.Proofs.YtpplleojdcgceaaDoor
