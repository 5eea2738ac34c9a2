/- The answers by name, and what they are of valid bits. -/
import Derived.Test.YtpplleojdcgceaaDoorRefCheck
import Derived.Test.YtpplleojdcgceaaDoorLast
namespace Go.Proofs.YtpplleojdcgceaaDoor
open Go.RowKit

section
variable (N : Int) (v : Value) (ws : List Nat) (hf : Fit64 ws) (w : World) (h : WAt w v ws)
include hf h
theorem RefCheck_is (c : Int) (hc : checkB N ws = c) : Calls Tryd.prog 20 #[bv N v] w fun e w' => e = .returned (.int .i64 c) ∧ Below w.heap.size w w' := by subst hc; exact RefCheck_any N v ws hf w h
theorem Count_is (a t x y : Int) (hc : countB N ws a t = (x, y)) : Calls Tryd.prog 24 #[bv N v, .int .i64 a, .int .i64 t] w fun e w' => e = .returned (.tuple #[.int .i64 x, .int .i64 y]) ∧ Below w.heap.size w w' := by have := Count_any N a t v ws hf w h; rw [hc] at this; exact this
theorem Get_is (i : Int) (x : Bool) (y : Int) (hc : getB N ws i = (x, y)) : Calls Tryd.prog 17 #[bv N v, .int .i64 i] w fun e w' => e = .returned (.tuple #[.bool x, .int .i64 y]) ∧ Below w.heap.size w w' := by have := Get_any N i v ws hf w h; rw [hc] at this; exact this
theorem Last_is (t x y : Int) (on : Bool) (hc : lastB N ws t on = (x, y)) : Calls Tryd.prog 30 #[bv N v, .int .i64 t, .bool on] w fun e w' => e = .returned (.tuple #[.int .i64 x, .int .i64 y]) ∧ Below w.heap.size w w' := by have := Last_any N t v on ws hf w h; rw [hc] at this; exact this
theorem Block_is (k x y : Int) (hc : blockB N ws k = (x, y)) : Calls Tryd.prog 39 #[bv N v, .int .i64 k] w fun e w' => e = .returned (.tuple #[.int .i64 x, .int .i64 y]) ∧ Below w.heap.size w w' := by have := Block_any N k v ws hf w h; rw [hc] at this; exact this
variable (hgd : Gd w)
include hgd
theorem Select_is (k x y : Int) (on : Bool) (hk : k ≤ 9223372036854775807) (hc : selectB N ws k on = (x, y)) : Calls Tryd.prog 26 #[bv N v, .int .i64 k, .bool on] w fun e w' => e = .returned (.tuple #[.int .i64 x, .int .i64 y]) ∧ Below w.heap.size w w' := by have := Select_any N k v on ws hf w hgd h hk; rw [hc] at this; exact this
theorem NextX_is (a x y : Int) (on : Bool) (hc : nextX N ws a on = (x, y)) : Calls Tryd.prog 28 #[bv N v, .int .i64 a, .bool on] w fun e w' => e = .returned (.tuple #[.int .i64 x, .int .i64 y]) ∧ Below w.heap.size w w' := by have := Next_any N a v on ws hf w hgd h; rw [hc] at this; exact this
theorem Fit_is (s a x y : Int) (hc : fitB N ws s a = (x, y)) : Calls Tryd.prog 35 #[bv N v, .int .i64 s, .int .i64 a] w fun e w' => e = .returned (.tuple #[.int .i64 x, .int .i64 y]) ∧ Below w.heap.size w w' := by have := Fit_any N s a v ws hf w hgd h; rw [hc] at this; exact this
theorem Best_is (s x y : Int) (hc : bestB N ws s = (x, y)) : Calls Tryd.prog 37 #[bv N v, .int .i64 s] w fun e w' => e = .returned (.tuple #[.int .i64 x, .int .i64 y]) ∧ Below w.heap.size w w' := by have := Best_any N s v ws hf w hgd h; rw [hc] at this; exact this
end

section
variable {n : Nat} {ws : List Nat} (hc : checkB n ws = 0)
include hc
theorem runB_ok {a t : Nat} (h1 : a ≤ t) (h2 : t ≤ n) : runB n ws a t = 0 := by unfold runB; rw [if_neg (by simp [hc]), if_neg (by omega)]
theorem countB_ok {a t : Nat} (h1 : a ≤ t) (h2 : t ≤ n) : countB n ws a t = ((((hits ws true a t).length : Nat) : Int), 0) := by
  unfold countB; rw [if_neg (by simp [runB_ok hc h1 h2])]; rfl
theorem getB_ok {i : Nat} (h : i < n) : getB n ws i = (btW ws i, 0) := by unfold getB; rw [if_neg (by simp [hc]), if_neg (by omega)]; rfl
theorem lastB_some {t j : Nat} {on : Bool} (ht : t ≤ n) (h : (hits ws on 0 t).getLast? = some j) : lastB n ws t on = (((j : Nat) : Int), 0) := by
  unfold lastB; rw [if_neg (by have := runB_ok hc (Nat.zero_le t) ht; rw [Int.natCast_zero] at this; simp [this]), Int.toNat_natCast]; unfold laB; rw [h]
theorem lastB_none {t : Nat} {on : Bool} (ht : t ≤ n) (h : (hits ws on 0 t).getLast? = none) : lastB n ws t on = (0, 4) := by
  unfold lastB; rw [if_neg (by have := runB_ok hc (Nat.zero_le t) ht; rw [Int.natCast_zero] at this; simp [this]), Int.toNat_natCast]; unfold laB; rw [h]
theorem selectB_some {k j : Nat} {on : Bool} (h : (hits ws on 0 n)[k]? = some j) : selectB n ws k on = (((j : Nat) : Int), 0) := by
  unfold selectB; rw [if_neg (by simp [hc]), if_neg (by omega), Int.toNat_natCast, Int.toNat_natCast]; unfold selB; rw [h]
theorem selectB_none {k : Nat} {on : Bool} (h : (hits ws on 0 n)[k]? = none) : selectB n ws k on = (0, 4) := by
  unfold selectB; rw [if_neg (by simp [hc]), if_neg (by omega), Int.toNat_natCast, Int.toNat_natCast]; unfold selB; rw [h]
theorem nextX_some {a j : Nat} {on : Bool} (ha : a ≤ n) (h : (hits ws on a n).head? = some j) : nextX n ws a on = (((j : Nat) : Int), 0) := by
  unfold nextX; rw [if_neg (by simp [runB_ok hc ha (Nat.le_refl n)]), Int.toNat_natCast, Int.toNat_natCast]; unfold nxB nextB
  have hm := (hits_mem ws on a n j).1 (List.mem_of_mem_head? (by rw [h]; rfl))
  rw [h, Option.getD_some, if_neg (by omega)]
theorem nextX_none {a : Nat} {on : Bool} (ha : a ≤ n) (h : (hits ws on a n).head? = none) : nextX n ws a on = (0, 4) := by
  unfold nextX; rw [if_neg (by simp [runB_ok hc ha (Nat.le_refl n)]), Int.toNat_natCast, Int.toNat_natCast]; unfold nxB nextB
  rw [h, Option.getD_none, if_pos rfl]
end

theorem hits_len (ws : List Nat) (a t : Nat) : (hits ws true a t).length + (hits ws false a t).length = t - a := by
  unfold hits
  have e : (fun i => btW ws i == false) = fun i => !(btW ws i == true) := by funext i; cases btW ws i <;> rfl
  rw [e]
  have : ∀ (l : List Nat) (p : Nat → Bool), (l.filter p).length + (l.filter fun i => !p i).length = l.length := by
    intro l p
    induction l with
    | nil => rfl
    | cons x l ih => by_cases h : p x = true <;> simp [h] <;> omega
  rw [this, List.length_range']
/-- What lies before the k-th, and behind it. -/
theorem hits_around (ws : List Nat) (on : Bool) (n k i : Nat) (h : (hits ws on 0 n)[k]? = some i) : i < n ∧ btW ws i = on ∧ hits ws on 0 i = (hits ws on 0 n).take k ∧ hits ws on i n = (hits ws on 0 n).drop k ∧ hits ws on (i + 1) n = (hits ws on 0 n).drop (k + 1) := by
  have hm := (hits_mem ws on 0 n i).1 (List.mem_of_getElem? h)
  have e1 := hits_split ws on 0 i n (Nat.zero_le _) (by omega)
  have e2 := hits_split ws on i (i + 1) n (by omega) (by omega)
  have e3 : hits ws on i (i + 1) = [i] := by unfold hits; rw [show i + 1 - i = 1 by omega]; simp [hm.2.2]
  have hpw := hits_pairwise ws on 0 n
  have hk : (hits ws on 0 i).length = k := by
    have h2 : (hits ws on 0 n)[(hits ws on 0 i).length]? = some i := by rw [e1, e2, e3]; simp
    obtain ⟨hk1, hk2⟩ := List.getElem?_eq_some_iff.1 h
    obtain ⟨hk3, hk4⟩ := List.getElem?_eq_some_iff.1 h2
    rcases Nat.lt_trichotomy k (hits ws on 0 i).length with hlt | heq | hgt
    · have := List.pairwise_iff_getElem.1 hpw k _ hk1 hk3 hlt; omega
    · exact heq.symm
    · have := List.pairwise_iff_getElem.1 hpw _ k hk3 hk1 hgt; omega
  refine ⟨by omega, hm.2.2, ?_, ?_, ?_⟩
  · rw [e1, ← hk, List.take_left]
  · rw [e1, ← hk, List.drop_left]
  · rw [e1, ← List.drop_drop, ← hk, List.drop_left, e2, e3]; rfl
end Go.Proofs.YtpplleojdcgceaaDoor
