/- The reference's system in memory. -/
import Derived.Test.YtnmeeddhagmjdaaVmG
import Derived.Test.YtnmeeddhagmjdaaRfRn
namespace Go.Proofs.Ytnmeeddhagmjdaa
open Go.RowKit Go.Shelf
attribute [local go_sem] Oper.semAt_some

def isZ8 : Value → Bool
  | .int .u8 0 => true
  | _ => false
def isZI : Value → Bool
  | .int .i64 0 => true
  | _ => false
def isF : Value → Bool
  | .bool false => true
  | _ => false
theorem isZ8_eq {v : Value} (h : isZ8 v = true) : v = .int .u8 0 := by
  unfold isZ8 at h; split at h <;> simp_all
theorem isZI_eq {v : Value} (h : isZI v = true) : v = .int .i64 0 := by
  unfold isZI at h; split at h <;> simp_all
theorem isF_eq {v : Value} (h : isF v = true) : v = .bool false := by
  unfold isF at h; split at h <;> simp_all
/-- The first n of a list pass; what is behind them. -/
def eat (p : Value → Bool) : Nat → List Value → Option (List Value)
  | 0, l => some l
  | _ + 1, [] => none
  | n + 1, v :: l => if p v then eat p n l else none
theorem eat_some (p : Value → Bool) : ∀ (n : Nat) (l r : List Value), eat p n l = some r → n ≤ l.length ∧ l.drop n = r ∧ ∀ j, j < n → ∃ v, l[j]? = some v ∧ p v = true
  | 0, l, r, h => by
    simp only [eat, Option.some.injEq] at h
    exact ⟨Nat.zero_le _, h, fun j hj => by omega⟩
  | n + 1, [], r, h => by cases h
  | n + 1, v :: l, r, h => by
    rw [eat] at h
    split at h
    · rename_i hp
      obtain ⟨h1, h2, h3⟩ := eat_some p n l r h
      refine ⟨by rw [List.length_cons]; omega, by rw [List.drop_succ_cons]; exact h2, fun j hj => ?_⟩
      cases j with
      | zero => exact ⟨v, rfl, hp⟩
      | succ j => rw [List.getElem?_cons_succ]; exact h3 j (by omega)
    · cases h
def eatAll (l : List Value) : Bool := ((eat isZI 1024 l).bind fun l => (eat isF 64 l).bind fun l => eat isZ8 65536 l).isSome
set_option maxRecDepth 1000000 in
theorem eatAll_ok : eatAll Try.zeroCells91.toList = true := by kernel_rfl
theorem rzero_size : Try.zeroCells91.size = 66639 := Try.zeroCells91_size
theorem rzero_cells : ∃ Z : Array Value, Z = Try.zeroCells91 ∧ Z.size = 66639 ∧ (∀ j, j < 1024 → Z[j]? = some (.int .i64 0)) ∧ (∀ g, g < 64 → Z[1024 + g]? = some (.bool false)) ∧ ∀ i, i < 65536 → Z[1088 + i]? = some (.int .u8 0) := by
  refine ⟨_, rfl, rzero_size, ?_⟩
  have h := eatAll_ok
  unfold eatAll at h
  obtain ⟨r3, h3⟩ := Option.isSome_iff_exists.1 h
  obtain ⟨r1, h1, h3⟩ := Option.bind_eq_some_iff.1 h3
  obtain ⟨r2, h2, h3⟩ := Option.bind_eq_some_iff.1 h3
  obtain ⟨_, d1, e1⟩ := eat_some _ _ _ _ h1
  obtain ⟨_, d2, e2⟩ := eat_some _ _ _ _ h2
  obtain ⟨_, _, e3⟩ := eat_some _ _ _ _ h3
  refine ⟨fun j hj => ?_, fun g hg => ?_, fun i hi => ?_⟩
  · obtain ⟨v, hv, hp⟩ := e1 j hj
    rw [← isZI_eq hp, ← hv, Array.getElem?_toList]
  · obtain ⟨v, hv, hp⟩ := e2 g hg
    rw [← isF_eq hp, ← hv, ← d1, List.getElem?_drop, Array.getElem?_toList]
  · obtain ⟨v, hv, hp⟩ := e3 i hi
    rw [← isZ8_eq hp, ← hv, ← d2, List.getElem?_drop, ← d1, List.getElem?_drop, Array.getElem?_toList, show 1088 + i = 1024 + (64 + i) by omega]

/-- The cells of the reference's system. -/
structure RRow (cs : Array Value) (kd : Nat → Int) (hg : Nat → Bool) (bt : Nat → Nat → Int) (st : Array Value) : Prop where
  size : cs.size = 66639
  k : ∀ j, j < 1024 → cs[j]? = some (.int .i64 (kd j))
  h : ∀ g, g < 64 → cs[1024 + g]? = some (.bool (hg g))
  b : ∀ j, j < 1024 → ∀ i, i < 64 → cs[1088 + (j * 64 + i)]? = some (.int .u8 (bt j i))
  s : ∀ i, i < 15 → cs[66624 + i]? = st[i]?
def RAtS (W : World) (R : Nat) (kd : Nat → Int) (hg : Nat → Bool) (bt : Nat → Nat → Int) (st : Array Value) : Prop := ∃ cs, W.heap[R]? = some (.cells cs 91 (0, 0)) ∧ RRow cs kd hg bt st
variable {W V : World} {R : Nat} {kd : Nat → Int} {hg : Nat → Bool} {bt : Nat → Nat → Int} {st : Array Value}
theorem RAtS.lt (h : RAtS W R kd hg bt st) : R < W.heap.size := by obtain ⟨_, h, _⟩ := h; exact (Array.getElem?_eq_some_iff.1 h).1
theorem RAtS.of_heap (h : RAtS W R kd hg bt st) (e : V.heap[R]? = W.heap[R]?) : RAtS V R kd hg bt st := by obtain ⟨cs, h1, h2⟩ := h; exact ⟨cs, e.trans h1, h2⟩
theorem RAtS.later (h : RAtS W R kd hg bt st) (hb : Below W.heap.size W V) : RAtS V R kd hg bt st := h.of_heap (hb.block R h.lt)
theorem RAtS.keep {q : Nat → Prop} (h : RAtS W R kd hg bt st) (hb : Keep q W V) (hq : ¬ q R) : RAtS V R kd hg bt st := h.of_heap (hb.block R h.lt hq)
theorem RAtS.ck (h : RAtS W R kd hg bt st) (j : Nat) (hj : j < 1024) : W.cell? ⟨R, j, none⟩ = some (.int .i64 (kd j)) := by obtain ⟨cs, h1, h2⟩ := h; simp only [World.cell?, h1]; exact h2.k j hj
theorem RAtS.ch (h : RAtS W R kd hg bt st) (g : Nat) (hj : g < 64) : W.cell? ⟨R, 1024 + g, none⟩ = some (.bool (hg g)) := by obtain ⟨cs, h1, h2⟩ := h; simp only [World.cell?, h1]; exact h2.h g hj
theorem RAtS.cb (h : RAtS W R kd hg bt st) (j : Nat) (hj : j < 1024) (i : Nat) (hi : i < 64) : W.cell? ⟨R, 1088 + j * 64 + i, none⟩ = some (.int .u8 (bt j i)) := by obtain ⟨cs, h1, h2⟩ := h; simp only [World.cell?, h1]; rw [Nat.add_assoc]; exact h2.b j hj i hi
theorem RAtS.frozen (h : RAtS W R kd hg bt st) (o : Nat) : W.frozen? ⟨R, o, none⟩ = false := by obtain ⟨cs, h1, _⟩ := h; simp [World.frozen?, h1]
theorem RAtS.range (h : RAtS W R kd hg bt st) (hs : st.size = 15) : W.rangeAt R 66624 st.toList := fun i u hu => by
  have hi : i < 15 := by have := (List.getElem?_eq_some_iff.1 hu).1; simp at this; omega
  obtain ⟨cs, h1, h2⟩ := h
  simp only [World.cell?, h1]
  rw [h2.s i hi, ← Array.getElem?_toList]; exact hu
theorem RAtS.there (h : RAtS W R kd hg bt st) (o n : Nat) (ho : o + n ≤ 66639) : W.there R o n := fun i hi => by
  refine ⟨?_, h.frozen _⟩
  obtain ⟨cs, h1, h2⟩ := h
  simp only [World.cell?, h1]
  rw [Option.isSome_iff_exists]
  exact ⟨_, Array.getElem?_eq_getElem (show o + i < cs.size by have := h2.size; omega)⟩
theorem RAtS.putS (h : RAtS W R kd hg bt st) (su : Array Value) (hs : su.size = 15) : RAtS (W.setCells R 66624 su.toList) R kd hg bt su := by
  obtain ⟨cs, h1, h2⟩ := h
  have hz := h2.size
  have hl : su.toList.length = 15 := by simpa using hs
  refine ⟨_, heap_setCells su.toList W R _ cs _ h1, ⟨by rw [splice_size]; exact hz, fun j hj => ?_, fun g hg => ?_, fun j hj i hi => ?_, fun i hi => ?_⟩⟩
  · rw [splice_out _ _ _ _ (by omega)]; exact h2.k j hj
  · rw [splice_out _ _ _ _ (by omega)]; exact h2.h g hg
  · rw [splice_out _ _ _ _ (by omega)]; exact h2.b j hj i hi
  · rw [splice_in _ _ _ _ (by omega) (by omega), Array.getElem?_toList]
theorem RAtS.setH (h : RAtS W R kd hg bt st) (g : Nat) (hg' : g < 64) (b : Bool) : RAtS (W.setCell ⟨R, 1024 + g, none⟩ (.bool b)) R kd (fun i => if i = g then b else hg i) bt st := by
  obtain ⟨cs, h1, h2⟩ := h
  have hz := h2.size
  refine ⟨_, heap_setCell_same W R _ cs _ _ h1, ⟨by rw [Array.size_setIfInBounds]; exact hz, fun j hj => ?_, fun i hi => ?_, fun j hj i hi => ?_, fun i hi => ?_⟩⟩
  · rw [Array.getElem?_setIfInBounds, if_neg (by omega)]; exact h2.k j hj
  · rw [Array.getElem?_setIfInBounds]
    by_cases e : i = g
    · subst e; rw [if_pos rfl, if_pos (by omega)]; simp
    · rw [if_neg (by omega)]; simp only [if_neg e]; exact h2.h i hi
  · rw [Array.getElem?_setIfInBounds, if_neg (by omega)]; exact h2.b j hj i hi
  · rw [Array.getElem?_setIfInBounds, if_neg (by omega)]; exact h2.s i hi
theorem RAtS.setK (h : RAtS W R kd hg bt st) (p : Nat) (hp : p < 1024) (x : Int) : RAtS (W.setCell ⟨R, p, none⟩ (.int .i64 x)) R (fun i => if i = p then x else kd i) hg bt st := by
  obtain ⟨cs, h1, h2⟩ := h
  have hz := h2.size
  refine ⟨_, heap_setCell_same W R _ cs _ _ h1, ⟨by rw [Array.size_setIfInBounds]; exact hz, fun j hj => ?_, fun i hi => ?_, fun j hj i hi => ?_, fun i hi => ?_⟩⟩
  · rw [Array.getElem?_setIfInBounds]
    by_cases e : j = p
    · subst e; rw [if_pos rfl, if_pos (by omega)]; simp
    · rw [if_neg (by omega)]; simp only [if_neg e]; exact h2.k j hj
  · rw [Array.getElem?_setIfInBounds, if_neg (by omega)]; exact h2.h i hi
  · rw [Array.getElem?_setIfInBounds, if_neg (by omega)]; exact h2.b j hj i hi
  · rw [Array.getElem?_setIfInBounds, if_neg (by omega)]; exact h2.s i hi
theorem RAtS.setB (h : RAtS W R kd hg bt st) (p : Nat) (hp : p < 1024) (q : Nat) (hq : q < 64) (x : Int) : RAtS (W.setCell ⟨R, 1088 + p * 64 + q, none⟩ (.int .u8 x)) R kd hg (fun j i => if j = p ∧ i = q then x else bt j i) st := by
  obtain ⟨cs, h1, h2⟩ := h
  have hz := h2.size
  refine ⟨_, heap_setCell_same W R _ cs _ _ h1, ⟨by rw [Array.size_setIfInBounds]; exact hz, fun j hj => ?_, fun i hi => ?_, fun j hj i hi => ?_, fun i hi => ?_⟩⟩
  · rw [Array.getElem?_setIfInBounds, if_neg (by omega)]; exact h2.k j hj
  · rw [Array.getElem?_setIfInBounds, if_neg (by omega)]; exact h2.h i hi
  · rw [Array.getElem?_setIfInBounds]
    by_cases e : j = p ∧ i = q
    · obtain ⟨rfl, rfl⟩ := e; rw [if_pos (by omega), if_pos (by omega)]; simp
    · rw [if_neg (by omega)]; simp only [if_neg e]; exact h2.b j hj i hi
  · rw [Array.getElem?_setIfInBounds, if_neg (by omega)]; exact h2.s i hi
def zeros64 : List Value := List.replicate 64 (.int .u8 0)
theorem RAtS.setZ (h : RAtS W R kd hg bt st) (p : Nat) (hp : p < 1024) : RAtS (W.setCells R (1088 + p * 64) zeros64) R kd hg (fun j i => if j = p then 0 else bt j i) st := by
  obtain ⟨cs, h1, h2⟩ := h
  have hz := h2.size
  have hl : zeros64.length = 64 := by unfold zeros64; simp
  refine ⟨_, heap_setCells zeros64 W R _ cs _ h1, ⟨by rw [splice_size]; exact hz, fun j hj => ?_, fun i hi => ?_, fun j hj i hi => ?_, fun i hi => ?_⟩⟩
  · rw [splice_out _ _ _ _ (by omega)]; exact h2.k j hj
  · rw [splice_out _ _ _ _ (by omega)]; exact h2.h i hi
  · by_cases e : j = p
    · subst e
      rw [← Nat.add_assoc, splice_in _ _ _ _ (by omega) (by omega)]
      unfold zeros64
      rw [List.getElem?_replicate, if_pos hi]; simp
    · rw [splice_out _ _ _ _ (by omega)]; simp only [if_neg e]; exact h2.b j hj i hi
  · rw [splice_out _ _ _ _ (by omega)]; exact h2.s i hi
theorem RAtS.congr {kd' : Nat → Int} {hg' : Nat → Bool} {bt' : Nat → Nat → Int} (h : RAtS W R kd hg bt st) (h1 : ∀ j, j < 1024 → kd j = kd' j) (h2 : ∀ g, g < 64 → hg g = hg' g) (h3 : ∀ j, j < 1024 → ∀ i, i < 64 → bt j i = bt' j i) : RAtS W R kd' hg' bt' st := by
  obtain ⟨cs, g1, g2⟩ := h
  exact ⟨cs, g1, g2.size, fun j hj => by rw [← h1 j hj]; exact g2.k j hj, fun g hg => by rw [← h2 g hg]; exact g2.h g hg, fun j hj i hi => by rw [← h3 j hj i hi]; exact g2.b j hj i hi, g2.s⟩
set_option maxRecDepth 100000 in
theorem Rpage_is (a : Int) (b : Bool) (hb : (decide (0 ≤ a) && decide (a < 1024)) = b) (w : World) : Calls Try.prog 64 #[.int .i64 a] w fun e w' => e = .returned (.bool b) ∧ w = w' := by
  by_cases h0 : 0 ≤ a
  · by_cases h1 : a < 1024
    · obtain rfl : b = true := by rw [← hb]; simp; omega
      clear hb
      go_enter Try.func64, Try.ntmps64
      go_wp2
      go_ret
      exact ⟨rfl, rfl⟩
    · obtain rfl : b = false := by rw [← hb]; simp; omega
      clear hb
      go_enter Try.func64, Try.ntmps64
      go_wp2
      go_ret
      exact ⟨rfl, rfl⟩
  · obtain rfl : b = false := by rw [← hb]; simp; omega
    clear hb
    go_enter Try.func64, Try.ntmps64
    go_wp2
    go_ret
    exact ⟨rfl, rfl⟩
/-- Are n pages from a on of kind x? -/
def kndB (kd : Nat → Int) (x : Int) (a : Nat) : Nat → Bool
  | 0 => true
  | n + 1 => kndB kd x a n && decide (kd (a + n) = x)
set_option maxRecDepth 100000 in
set_option maxHeartbeats 2000000 in
theorem Rkinds_is (a n : Nat) (x : Int) (han : a + n ≤ 1024) (w : World) (hr : RAtS w R kd hg bt st) : Calls Try.prog 65 #[.pointer (some ⟨R, 0, none⟩), .int .i64 (a : Int), .int .i64 (n : Int), .int .i64 x] w fun e w' => e = .returned (.bool (kndB kd x a n)) ∧ w = w' := by
  have HR := Lib.hid hr
  have hal : Try.prog.arrayLen 86 = 1024 := by kernel_rfl
  clear hr
  go_enter Try.func65, Try.ntmps65
  go_wp2_with fail
  go_loopw [9] (fun i wr => ∃ k : Nat, k ≤ n ∧ i = .int .i64 ((a + k : Nat) : Int) ∧ kndB kd x a k = true ∧ w = wr) (fun i _ => a + n - (intOf i).toNat)
  case atStart => exact ⟨0, Nat.zero_le _, rfl, rfl, rfl⟩
  case round =>
    obtain ⟨k, hk, rfl, hkn, rfl⟩ := hrel
    have HK := Lib.hid hkn
    obtain ⟨q, hq⟩ : ∃ q, a + k = q := ⟨_, rfl⟩
    have HQ := Lib.hid hq
    rw [hq]
    by_cases hlt : k < n
    · have h1 : (q : Int) < (a : Int) + (n : Int) := by omega
      have hc := HR.out.ck q (by omega)
      have hq2 : (q : Int) < 1024 := by omega
      by_cases hx : kd q = x
      · have hne : (kd q != x) = false := by simp [hx]
        have HK2 : Hid (kndB kd x a (k + 1) = true) := by
          unfold Hid; rw [kndB, hkn, hq, hx]; simp
        clear hkn hq hx
        go_wp2_with fail
        go_roundw
        case rel => exact ⟨k + 1, by omega, by rw [← Nat.add_assoc, HQ.out]; go_num, HK2.out, by trivial⟩
        case measure => simp [intOf]; omega
      · have hne : (kd q != x) = true := by simp [hx]
        have hfin : kndB kd x a n = false := by
          have : ∀ d, kndB kd x a (k + 1 + d) = false := fun d => by
            induction d with
            | zero => show (kndB kd x a k && decide (kd (a + k) = x)) = false; rw [hq, decide_eq_false hx, Bool.and_false]
            | succ d ih => show (kndB kd x a (k + 1 + d) && _) = false; rw [ih, Bool.false_and]
          have h2 := this (n - (k + 1))
          rw [show k + 1 + (n - (k + 1)) = n by omega] at h2
          exact h2
        have HF := Lib.hid hfin
        clear hkn hq hx hfin
        go_wp2_with fail
        go_ret
        rw [HF.out]
        exact ⟨rfl, by trivial⟩
    · have h1 : ¬ (q : Int) < (a : Int) + (n : Int) := by omega
      have HK2 : Hid (kndB kd x a n = true) := by
        unfold Hid; rw [show n = k by omega]; exact hkn
      clear hkn hq
      go_wp2_with fail
      go_ret
      rw [HK2.out]
      exact ⟨rfl, by trivial⟩
end Go.Proofs.Ytnmeeddhagmjdaa
