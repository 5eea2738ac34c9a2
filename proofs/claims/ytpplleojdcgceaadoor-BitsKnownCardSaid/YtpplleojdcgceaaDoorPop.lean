/- Counting the bits of a word as math/bits does, and clearing its lowest bit. -/
import Derived.Test.YtpplleojdcgceaaDoorMath
import Derived.Laws.Bits64b
import Derived.RowKit
import Derived.IntWalk
namespace Go.Proofs.YtpplleojdcgceaaDoor
open Go.RowKit

def pos (f x : Nat) : List Nat := (List.range f).filter fun j => x.testBit j
theorem pos_succ (f x : Nat) : pos (f + 1) x = if x % 2 = 1 then 0 :: (pos f (x / 2)).map Nat.succ else (pos f (x / 2)).map Nat.succ := by
  unfold pos
  rw [List.range_succ_eq_map, List.filter_cons, List.filter_map, Nat.testBit_zero]
  have e : (List.range f).filter ((fun j => x.testBit j) ∘ Nat.succ) = (List.range f).filter fun j => (x / 2).testBit j := by
    apply List.filter_congr; intro j _; show x.testBit (j + 1) = _; rw [Nat.testBit_succ]
  rw [e]
  by_cases h : x % 2 = 1
  · rw [if_pos (decide_eq_true h), if_pos h]
  · rw [if_neg (by simpa using h), if_neg h]
theorem posW_pos (w x : Nat) : posW (w, x) = (pos 64 x).map (64 * w + ·) := rfl
theorem clear_low : ∀ (f x : Nat), x < 2 ^ f → pos f (x &&& (x - 1)) = (pos f x).tail
  | 0, _, _ => rfl
  | f + 1, x, h => by
    by_cases h0 : x = 0
    · subst h0
      have : pos (f + 1) 0 = [] := by unfold pos; rw [List.filter_eq_nil_iff]; intro j _; simp
      rw [show (0 &&& (0 - 1) : Nat) = 0 from rfl, this]; rfl
    rw [pos_succ, pos_succ]
    have hb : (x &&& (x - 1)) % 2 = 0 := by
      rw [← Nat.and_one_is_mod, Nat.and_assoc]
      rcases Nat.mod_two_eq_zero_or_one x with h1 | h1
      · rw [Nat.and_comm, Nat.and_assoc, Nat.and_comm 1 x, Nat.and_one_is_mod, h1, Nat.and_zero]
      · rw [Nat.and_one_is_mod, show (x - 1) % 2 = 0 by omega, Nat.and_zero]
    rw [if_neg (by omega), Nat.and_div_two]
    rcases Nat.mod_two_eq_zero_or_one x with h1 | h1
    · rw [if_neg (by omega), show (x - 1) / 2 = x / 2 - 1 by omega, clear_low f (x / 2) (by rw [Nat.pow_succ] at h; omega), List.map_tail]
    · rw [if_pos h1, show (x - 1) / 2 = x / 2 by omega, Nat.and_self]; rfl

def msk (c : Nat) : Nat → Nat
  | 0 => 0
  | k + 1 => c + 256 * msk c k
theorem and_byte (a x c m : Nat) (ha : a < 256) (hc : c < 256) : (a + 256 * x) &&& (c + 256 * m) = (a &&& c) + 256 * (x &&& m) := by
  have e : ∀ p q, p + 256 * q = 2 ^ 8 * q + p := fun p q => by omega
  have h1 : a &&& c < 2 ^ 8 := Nat.and_lt_two_pow _ hc
  apply Nat.eq_of_testBit_eq
  intro i
  rw [Nat.testBit_and, e a x, e c m, e (a &&& c), Nat.testBit_two_pow_mul_add x ha, Nat.testBit_two_pow_mul_add m hc, Nat.testBit_two_pow_mul_add (x &&& m) h1]
  split <;> rw [Nat.testBit_and]
def t1 (a : Nat) : Nat := ((a / 2) &&& 85) + (a &&& 85)
def t2 (a : Nat) : Nat := ((a / 4) &&& 51) + (a &&& 51)
def pc (a : Nat) : Nat := Lib.popAux 8 a
def p1 (k x : Nat) : Nat := ((x / 2) &&& msk 85 k) + (x &&& msk 85 k)
def p2 (k x : Nat) : Nat := ((x / 4) &&& msk 51 k) + (x &&& msk 51 k)
def p3 (k x : Nat) : Nat := (x / 16 + x) &&& msk 15 k
def sumB : Nat → Nat → Nat
  | 0, _ => 0
  | k + 1, x => pc (x % 256) + 256 * sumB k (x / 256)
theorem d1 : ∀ a : Fin 256, ∀ p : Fin 2, ((a.val / 2 + 128 * p.val) &&& 85) = ((a.val / 2) &&& 85) ∧ t1 a.val ≤ 170 := by decide +kernel
theorem d2 : ∀ a : Fin 171, ∀ p : Fin 4, ((a.val / 4 + 64 * p.val) &&& 51) = ((a.val / 4) &&& 51) := by decide +kernel
theorem d3 : ∀ a : Fin 256, ∀ p : Fin 5, ((t2 (t1 a.val) / 16 + 16 * p.val + t2 (t1 a.val)) &&& 15) = pc a.val ∧ t2 (t1 a.val) / 16 + 16 * p.val + t2 (t1 a.val) < 256 ∧ t2 (t1 a.val) % 16 ≤ 4 ∧ t2 (t1 a.val) < 256 ∧ pc a.val ≤ 8 := by decide +kernel
theorem p1_step (k a x : Nat) (ha : a < 256) : p1 (k + 1) (a + 256 * x) = t1 a + 256 * p1 k x := by
  have m : msk 85 (k + 1) = 85 + 256 * msk 85 k := rfl
  unfold p1
  rw [m]
  have h := (d1 ⟨a, ha⟩ ⟨x % 2, by omega⟩).1
  simp only at h
  rw [show (a + 256 * x) / 2 = (a / 2 + 128 * (x % 2)) + 256 * (x / 2) by omega, and_byte _ _ _ _ (by omega) (by decide), and_byte _ _ _ _ ha (by decide), h]
  unfold t1
  omega
theorem p2_step (k a x : Nat) (ha : a ≤ 170) : p2 (k + 1) (a + 256 * x) = t2 a + 256 * p2 k x := by
  have m : msk 51 (k + 1) = 51 + 256 * msk 51 k := rfl
  unfold p2
  rw [m]
  have h := d2 ⟨a, by omega⟩ ⟨x % 4, by omega⟩
  simp only at h
  rw [show (a + 256 * x) / 4 = (a / 4 + 64 * (x % 4)) + 256 * (x / 4) by omega, and_byte _ _ _ _ (by omega) (by decide), and_byte _ _ _ _ (by omega) (by decide), h]
  unfold t2
  omega
theorem p12_low (k x : Nat) : p2 k (p1 k x) % 16 ≤ 4 := by
  cases k with
  | zero => unfold p2 msk; rw [Nat.and_zero, Nat.and_zero]; decide
  | succ k =>
    have h := (d1 ⟨x % 256, by omega⟩ ⟨0, by omega⟩).2
    have h3 := (d3 ⟨x % 256, by omega⟩ ⟨0, by omega⟩).2.2.1
    simp only at h h3
    rw [show x = x % 256 + 256 * (x / 256) by omega, p1_step _ _ _ (by omega), p2_step _ _ _ h]
    omega
theorem swar : ∀ (k x : Nat), p3 k (p2 k (p1 k x)) = sumB k x
  | 0, x => by unfold p3 msk sumB; rw [Nat.and_zero]
  | k + 1, x => by
    have h := (d1 ⟨x % 256, by omega⟩ ⟨0, by omega⟩).2
    have hl := p12_low k (x / 256)
    have h3 := d3 ⟨x % 256, by omega⟩ ⟨p2 k (p1 k (x / 256)) % 16, by omega⟩
    simp only at h h3
    obtain ⟨h4, h5, h6, h7, h8⟩ := h3
    have e : p1 (k + 1) x = t1 (x % 256) + 256 * p1 k (x / 256) := by rw [← p1_step _ _ _ (by omega)]; congr 1; omega
    rw [e, p2_step _ _ _ h]
    have m : msk 15 (k + 1) = 15 + 256 * msk 15 k := rfl
    unfold p3 sumB
    rw [m]
    rw [show (t2 (t1 (x % 256)) + 256 * p2 k (p1 k (x / 256))) / 16 + (t2 (t1 (x % 256)) + 256 * p2 k (p1 k (x / 256))) =
      (t2 (t1 (x % 256)) / 16 + 16 * (p2 k (p1 k (x / 256)) % 16) + t2 (t1 (x % 256))) + 256 * (p2 k (p1 k (x / 256)) / 16 + p2 k (p1 k (x / 256))) by omega,
      and_byte _ _ _ _ h5 (by decide), h4]
    have := swar k (x / 256)
    unfold p3 at this
    rw [this]
theorem popAux_add : ∀ (f g x : Nat), Lib.popAux (f + g) x = Lib.popAux f x + Lib.popAux g (x / 2 ^ f)
  | 0, g, x => by rw [Nat.zero_add]; simp [Lib.popAux]
  | f + 1, g, x => by
    rw [show f + 1 + g = (f + g) + 1 by omega, Lib.popAux, Lib.popAux, popAux_add f g, Nat.div_div_eq_div_mul, ← Nat.pow_succ', Nat.succ_eq_add_one]; omega
theorem popAux_mod : ∀ (f x : Nat), Lib.popAux f (x % 2 ^ f) = Lib.popAux f x
  | 0, _ => rfl
  | f + 1, x => by
    rw [Lib.popAux, Lib.popAux]
    have e1 : x % 2 ^ (f + 1) % 2 = x % 2 := Nat.mod_mod_of_dvd x (Nat.pow_succ' ▸ Nat.dvd_mul_right 2 (2 ^ f))
    have e2 : x % 2 ^ (f + 1) / 2 = x / 2 % 2 ^ f := by rw [Nat.pow_succ', Nat.mod_mul_right_div_self]
    rw [e1, e2, popAux_mod f]
theorem pc_le (x : Nat) : pc (x % 256) ≤ 8 := (d3 ⟨x % 256, by omega⟩ ⟨0, by omega⟩).2.2.2.2
theorem pop_bytes (x : Nat) : Lib.onesCount x = pc (x % 256) + pc (x / 256 % 256) + pc (x / 65536 % 256) + pc (x / 16777216 % 256) + pc (x / 4294967296 % 256) + pc (x / 1099511627776 % 256) + pc (x / 281474976710656 % 256) + pc (x / 72057594037927936 % 256) := by
  unfold Lib.onesCount pc
  have m : ∀ y, Lib.popAux 8 (y % 256) = Lib.popAux 8 y := fun y => popAux_mod 8 y
  simp only [m]
  have a := popAux_add 8
  have n0 := a 56 x
  have n1 := a 48 (x / 256)
  have n2 := a 40 (x / 65536)
  have n3 := a 32 (x / 16777216)
  have n4 := a 24 (x / 4294967296)
  have n5 := a 16 (x / 1099511627776)
  have n6 := a 8 (x / 281474976710656)
  simp only [Nat.div_div_eq_div_mul, Nat.reduceAdd, Nat.reduceMul, Nat.reducePow] at n0 n1 n2 n3 n4 n5 n6
  clear a
  rw [n0, n1, n2, n3, n4, n5, n6]
  simp only [Nat.add_assoc]
theorem sumB8 (x : Nat) : sumB 8 x = pc (x % 256) + 256 * (pc (x / 256 % 256) + 256 * (pc (x / 65536 % 256) + 256 * (pc (x / 16777216 % 256) + 256 * (pc (x / 4294967296 % 256) + 256 * (pc (x / 1099511627776 % 256) + 256 * (pc (x / 281474976710656 % 256) + 256 * pc (x / 72057594037927936 % 256))))))) := by
  simp only [sumB, Nat.div_div_eq_div_mul, Nat.reduceMul, Nat.mul_zero, Nat.add_zero]
theorem dd (a q x : Nat) (h : a < 256) (e : x = a + 256 * q) : x / 256 = q := by omega
theorem dd2 (a b q x : Nat) (h : a < 256) (h2 : b < 256) (e : x = a + 256 * (b + 256 * q)) : x / 65536 = q := by
  rw [show 65536 = 256 * 256 from rfl, ← Nat.div_div_eq_div_mul, dd a _ x h e, dd b q _ h2 rfl]
theorem dd4 (a b c d q x : Nat) (h : a < 256) (h2 : b < 256) (h3 : c < 256) (h4 : d < 256) (e : x = a + 256 * (b + 256 * (c + 256 * (d + 256 * q)))) : x / 4294967296 = q := by
  rw [show 4294967296 = 65536 * 65536 from rfl, ← Nat.div_div_eq_div_mul, dd2 a b _ x h h2 e, dd2 c d q _ h3 h4 rfl]
theorem add_bytes (s0 s1 s2 s3 s4 s5 s6 s7 y1 y2 y3 y4 y5 y6 x3 x4 x5 : Nat) (h0 : s0 ≤ 8) (h1 : s1 ≤ 8) (h2 : s2 ≤ 8) (h3 : s3 ≤ 8) (h4 : s4 ≤ 8) (h5 : s5 ≤ 8) (h6 : s6 ≤ 8) (h7 : s7 ≤ 8)
    (g6 : y6 = s6 + 256 * s7) (g5 : y5 = s5 + 256 * y6) (g4 : y4 = s4 + 256 * y5) (g3 : y3 = s3 + 256 * y4) (g2 : y2 = s2 + 256 * y3) (g1 : y1 = s1 + 256 * y2) (e3 : x3 = s0 + 256 * y1) (e4 : x4 = x3 + x3 / 256) (e5 : x5 = x4 + x4 / 65536) :
    (x5 + x5 / 4294967296) % 128 = s0 + s1 + s2 + s3 + s4 + s5 + s6 + s7 ∧ x4 < 18446744073709551616 ∧ x5 < 18446744073709551616 ∧ x5 + x5 / 4294967296 < 9223372036854775808 := by
  have q1 : x3 / 256 = y1 := dd s0 y1 x3 (by omega) e3
  rw [q1] at e4
  clear q1
  have r4 : x4 = (s0 + s1) + 256 * ((s1 + s2) + 256 * (y2 + y3)) := by
    clear e5 h0 h1 h2 h3 h4 h5 h6 h7 g6 g5 g4 g3
    omega
  have q2 : x4 / 65536 = y2 + y3 := dd2 _ _ _ _ (by omega) (by omega) r4
  rw [q2] at e5
  clear q2
  have r5 : x5 = (s0 + s1 + s2 + s3) + 256 * ((s1 + s2 + s3 + s4) + 256 * ((s2 + s3 + s4 + s5) + 256 * ((s3 + s4 + s5 + s6) + 256 * (y4 + y5 + y6 + s7)))) := by
    clear h0 h1 h2 h3 h4 h5 h6 h7 e4 e3 g1
    rw [e5, r4]
    clear e5 r4
    omega
  have q3 : x5 / 4294967296 = y4 + y5 + y6 + s7 := dd4 _ _ _ _ _ _ (by omega) (by omega) (by omega) (by omega) r5
  rw [q3]
  have b6 : y6 ≤ 2056 := by omega
  have b5 : y5 ≤ 526344 := by omega
  have b4 : y4 ≤ 134744072 := by omega
  have b3 : y3 ≤ 34494482440 := by omega
  have b2 : y2 ≤ 8830587504648 := by omega
  refine ⟨?_, ?_, ?_, ?_⟩
  · rw [r5]
    have z : y4 + y5 + y6 + s7 = (s4 + s5 + s6 + s7) + 256 * (y5 + y6 + s7) := by omega
    rw [z]
    clear r5 r4 e5 e4 e3 g1 g2 g3 g4 g5 g6 z q3 b6 b5 b4 b3 b2
    omega
  · rw [r4]; clear r5 r4 e5 e4 e3 g1 g2 g3 g4 g5 g6 q3; omega
  · rw [r5]; clear r5 r4 e5 e4 e3 g1 g2 g3 g4 g5 g6 q3; omega
  · rw [r5]; clear r5 r4 e5 e4 e3 g1 g2 g3 g4 g5 g6 q3; omega

theorem and_i64_127 (a : Nat) (ha : a < 9223372036854775808) : bits .and .i64 (a : Int) 127 = ((a % 128 : Nat) : Int) := by
  have h1 : (BitVec.ofInt 64 (a : Int)).toNat = a := by
    rw [BitVec.ofInt_natCast, BitVec.toNat_ofNat]; exact Nat.mod_eq_of_lt (by omega)
  have h2 : (BitVec.ofInt 64 (127 : Int)).toNat = 127 := by decide
  show IntKind.i64.wrap ((BitVec.ofInt 64 (a : Int) &&& BitVec.ofInt 64 (127 : Int)).toNat : Int) = _
  rw [BitVec.toNat_and, h1, h2, nat_mask7]
  exact IntWalk.i64_in _ (by omega)

/-- The steps of OnesCount64, each under a name. -/
theorem pop_steps (x : Nat) (hx : x < 18446744073709551616) : ∃ a1 a2 x1 b1 b2 x2 c1 x3 x4 x5 x6 : Nat,
    bits .and .u64 ((x : Int) / 2) 6148914691236517205 = (a1 : Int) ∧ bits .and .u64 (x : Int) 6148914691236517205 = (a2 : Int) ∧ IntKind.u64.wrap ((a1 : Int) + (a2 : Int)) = (x1 : Int) ∧
    bits .and .u64 ((x1 : Int) / 4) 3689348814741910323 = (b1 : Int) ∧ bits .and .u64 (x1 : Int) 3689348814741910323 = (b2 : Int) ∧ IntKind.u64.wrap ((b1 : Int) + (b2 : Int)) = (x2 : Int) ∧
    IntKind.u64.wrap ((x2 : Int) / 16 + (x2 : Int)) = (c1 : Int) ∧ bits .and .u64 (c1 : Int) 1085102592571150095 = (x3 : Int) ∧ IntKind.u64.wrap ((x3 : Int) + (x3 : Int) / 256) = (x4 : Int) ∧
    IntKind.u64.wrap ((x4 : Int) + (x4 : Int) / 65536) = (x5 : Int) ∧ IntKind.u64.wrap ((x5 : Int) + (x5 : Int) / 4294967296) = (x6 : Int) ∧ bits .and .i64 (wrap64 (x6 : Int)) 127 = (Lib.onesCount x : Int) := by
  have m0 : msk 85 8 = 6148914691236517205 := by decide
  have m1 : msk 51 8 = 3689348814741910323 := by decide
  have m2 : msk 15 8 = 1085102592571150095 := by decide
  have L1 : ((x / 2) &&& 6148914691236517205) ≤ 6148914691236517205 := Nat.and_le_right
  have L2 : (x &&& 6148914691236517205) ≤ 6148914691236517205 := Nat.and_le_right
  have b1 : p1 8 x < 18446744073709551616 := by unfold p1; rw [m0]; omega
  have L3 : ((p1 8 x / 4) &&& 3689348814741910323) ≤ 3689348814741910323 := Nat.and_le_right
  have L4 : (p1 8 x &&& 3689348814741910323) ≤ 3689348814741910323 := Nat.and_le_right
  have b2 : p2 8 (p1 8 x) ≤ 7378697629483820646 := by unfold p2; rw [m1]; omega
  have hs := swar 8 x
  have hb := add_bytes (pc (x % 256)) (pc (x / 256 % 256)) (pc (x / 65536 % 256)) (pc (x / 16777216 % 256)) (pc (x / 4294967296 % 256)) (pc (x / 1099511627776 % 256)) (pc (x / 281474976710656 % 256)) (pc (x / 72057594037927936 % 256)) _ _ _ _ _ _ _ _ _ (pc_le _) (pc_le _) (pc_le _) (pc_le _) (pc_le _) (pc_le _) (pc_le _) (pc_le _) rfl rfl rfl rfl rfl rfl (sumB8 x) rfl rfl
  have h3 : sumB 8 x < 18446744073709551616 := by
    rw [sumB8]
    have q0 := pc_le x; have q1 := pc_le (x / 256); have q2 := pc_le (x / 65536); have q3 := pc_le (x / 16777216); have q4 := pc_le (x / 4294967296); have q5 := pc_le (x / 1099511627776); have q6 := pc_le (x / 281474976710656); have q7 := pc_le (x / 72057594037927936)
    omega
  obtain ⟨k1, k2, k3, k4⟩ := hb
  refine ⟨(x / 2) &&& 6148914691236517205, x &&& 6148914691236517205, p1 8 x, (p1 8 x / 4) &&& 3689348814741910323, p1 8 x &&& 3689348814741910323, p2 8 (p1 8 x), p2 8 (p1 8 x) / 16 + p2 8 (p1 8 x), sumB 8 x, sumB 8 x + sumB 8 x / 256, sumB 8 x + sumB 8 x / 256 + (sumB 8 x + sumB 8 x / 256) / 65536, sumB 8 x + sumB 8 x / 256 + (sumB 8 x + sumB 8 x / 256) / 65536 + (sumB 8 x + sumB 8 x / 256 + (sumB 8 x + sumB 8 x / 256) / 65536) / 4294967296, ?_, ?_, ?_, ?_, ?_, ?_, ?_, ?_, ?_, ?_, ?_, ?_⟩
  · rw [show (x : Int) / 2 = ((x / 2 : Nat) : Int) by omega]; exact bits_and_u64_nat _ 6148914691236517205 (by omega) (by decide)
  · exact bits_and_u64_nat _ 6148914691236517205 hx (by decide)
  · rw [IntKind.wrap_u64]; unfold p1; rw [m0]; omega
  · rw [show (p1 8 x : Int) / 4 = ((p1 8 x / 4 : Nat) : Int) by omega]; exact bits_and_u64_nat _ 3689348814741910323 (by omega) (by decide)
  · exact bits_and_u64_nat _ 3689348814741910323 b1 (by decide)
  · rw [IntKind.wrap_u64]
    have e : p2 8 (p1 8 x) = ((p1 8 x / 4) &&& 3689348814741910323) + (p1 8 x &&& 3689348814741910323) := by unfold p2; rw [m1]
    rw [e]; omega
  · rw [IntKind.wrap_u64]; omega
  · rw [← hs]
    have e : p3 8 (p2 8 (p1 8 x)) = (p2 8 (p1 8 x) / 16 + p2 8 (p1 8 x)) &&& 1085102592571150095 := by unfold p3; rw [m2]
    rw [e]; exact bits_and_u64_nat _ 1085102592571150095 (by omega) (by decide)
  · rw [IntKind.wrap_u64]; exact (by omega : ((sumB 8 x : Int) + (sumB 8 x : Int) / 256) % 18446744073709551616 = ((sumB 8 x + sumB 8 x / 256 : Nat) : Int))
  · rw [IntKind.wrap_u64]; exact (by omega : (((sumB 8 x + sumB 8 x / 256 : Nat) : Int) + ((sumB 8 x + sumB 8 x / 256 : Nat) : Int) / 65536) % 18446744073709551616 = ((sumB 8 x + sumB 8 x / 256 + (sumB 8 x + sumB 8 x / 256) / 65536 : Nat) : Int))
  · rw [IntKind.wrap_u64]; exact (by omega : (((sumB 8 x + sumB 8 x / 256 + (sumB 8 x + sumB 8 x / 256) / 65536 : Nat) : Int) + ((sumB 8 x + sumB 8 x / 256 + (sumB 8 x + sumB 8 x / 256) / 65536 : Nat) : Int) / 4294967296) % 18446744073709551616 = ((sumB 8 x + sumB 8 x / 256 + (sumB 8 x + sumB 8 x / 256) / 65536 + (sumB 8 x + sumB 8 x / 256 + (sumB 8 x + sumB 8 x / 256) / 65536) / 4294967296 : Nat) : Int))
  · have e : wrap64 ((sumB 8 x + sumB 8 x / 256 + (sumB 8 x + sumB 8 x / 256) / 65536 + (sumB 8 x + sumB 8 x / 256 + (sumB 8 x + sumB 8 x / 256) / 65536) / 4294967296 : Nat) : Int) = ((sumB 8 x + sumB 8 x / 256 + (sumB 8 x + sumB 8 x / 256) / 65536 + (sumB 8 x + sumB 8 x / 256 + (sumB 8 x + sumB 8 x / 256) / 65536) / 4294967296 : Nat) : Int) := by unfold wrap64; omega
    rw [e, and_i64_127 _ k4, k1, pop_bytes]
end Go.Proofs.YtpplleojdcgceaaDoor
