/- The other way to keep pages. -/
import Derived.Test.YtjplihljmohpjaaKf
import Derived.Test.YtjplihljmohpjaaKd
import Derived.Test.YtjplihljmohpjaaKg
/- The reference's system in memory. -/
namespace Go.Proofs.Ytjplihljmohpjaa
open Go.RowKit Go.Shelf
attribute [local go_sem] Oper.semAt_some

def isZ8 : Value → Bool
  | .int .u8 0 => true
  | _ => false
def isZI : Value → Bool
  | .int .i64 0 => true
  | _ => false
def isF : Value → Bool
  | .bool false => true
  | _ => false
theorem isZ8_eq {v : Value} (h : isZ8 v = true) : v = .int .u8 0 := by
  unfold isZ8 at h; split at h <;> simp_all
theorem isZI_eq {v : Value} (h : isZI v = true) : v = .int .i64 0 := by
  unfold isZI at h; split at h <;> simp_all
theorem isF_eq {v : Value} (h : isF v = true) : v = .bool false := by
  unfold isF at h; split at h <;> simp_all
/-- The first n of a list pass; what is behind them. -/
def eat (p : Value → Bool) : Nat → List Value → Option (List Value)
  | 0, l => some l
  | _ + 1, [] => none
  | n + 1, v :: l => if p v then eat p n l else none
theorem eat_some (p : Value → Bool) : ∀ (n : Nat) (l r : List Value), eat p n l = some r → n ≤ l.length ∧ l.drop n = r ∧ ∀ j, j < n → ∃ v, l[j]? = some v ∧ p v = true
  | 0, l, r, h => by
    simp only [eat, Option.some.injEq] at h
    exact ⟨Nat.zero_le _, h, fun j hj => by omega⟩
  | n + 1, [], r, h => by cases h
  | n + 1, v :: l, r, h => by
    rw [eat] at h
    split at h
    · rename_i hp
      obtain ⟨h1, h2, h3⟩ := eat_some p n l r h
      refine ⟨by rw [List.length_cons]; omega, by rw [List.drop_succ_cons]; exact h2, fun j hj => ?_⟩
      cases j with
      | zero => exact ⟨v, rfl, hp⟩
      | succ j => rw [List.getElem?_cons_succ]; exact h3 j (by omega)
    · cases h
def eatAll (l : List Value) : Bool := ((eat isZI 1024 l).bind fun l => (eat isF 64 l).bind fun l => eat isZ8 65536 l).isSome
set_option maxRecDepth 1000000 in
theorem eatAll_ok : eatAll Try.zeroCells91.toList = true := by kernel_rfl
theorem rzero_size : Try.zeroCells91.size = 66639 := Try.zeroCells91_size
theorem rzero_cells : ∃ Z : Array Value, Z = Try.zeroCells91 ∧ Z.size = 66639 ∧ (∀ j, j < 1024 → Z[j]? = some (.int .i64 0)) ∧ (∀ g, g < 64 → Z[1024 + g]? = some (.bool false)) ∧ ∀ i, i < 65536 → Z[1088 + i]? = some (.int .u8 0) := by
  refine ⟨_, rfl, rzero_size, ?_⟩
  have h := eatAll_ok
  unfold eatAll at h
  obtain ⟨r3, h3⟩ := Option.isSome_iff_exists.1 h
  obtain ⟨r1, h1, h3⟩ := Option.bind_eq_some_iff.1 h3
  obtain ⟨r2, h2, h3⟩ := Option.bind_eq_some_iff.1 h3
  obtain ⟨_, d1, e1⟩ := eat_some _ _ _ _ h1
  obtain ⟨_, d2, e2⟩ := eat_some _ _ _ _ h2
  obtain ⟨_, _, e3⟩ := eat_some _ _ _ _ h3
  refine ⟨fun j hj => ?_, fun g hg => ?_, fun i hi => ?_⟩
  · obtain ⟨v, hv, hp⟩ := e1 j hj
    rw [← isZI_eq hp, ← hv, Array.getElem?_toList]
  · obtain ⟨v, hv, hp⟩ := e2 g hg
    rw [← isF_eq hp, ← hv, ← d1, List.getElem?_drop, Array.getElem?_toList]
  · obtain ⟨v, hv, hp⟩ := e3 i hi
    rw [← isZ8_eq hp, ← hv, ← d2, List.getElem?_drop, ← d1, List.getElem?_drop, Array.getElem?_toList, show 1088 + i = 1024 + (64 + i) by omega]

/-- The cells of the reference's system. -/
structure RRow (cs : Array Value) (kd : Nat → Int) (hg : Nat → Bool) (bt : Nat → Nat → Int) (st : Array Value) : Prop where
  size : cs.size = 66639
  k : ∀ j, j < 1024 → cs[j]? = some (.int .i64 (kd j))
  h : ∀ g, g < 64 → cs[1024 + g]? = some (.bool (hg g))
  b : ∀ j, j < 1024 → ∀ i, i < 64 → cs[1088 + (j * 64 + i)]? = some (.int .u8 (bt j i))
  s : ∀ i, i < 15 → cs[66624 + i]? = st[i]?
def RAtS (W : World) (R : Nat) (kd : Nat → Int) (hg : Nat → Bool) (bt : Nat → Nat → Int) (st : Array Value) : Prop := ∃ cs, W.heap[R]? = some (.cells cs 91 (0, 0)) ∧ RRow cs kd hg bt st
variable {W V : World} {R : Nat} {kd : Nat → Int} {hg : Nat → Bool} {bt : Nat → Nat → Int} {st : Array Value}
theorem RAtS.lt (h : RAtS W R kd hg bt st) : R < W.heap.size := by obtain ⟨_, h, _⟩ := h; exact (Array.getElem?_eq_some_iff.1 h).1
theorem RAtS.of_heap (h : RAtS W R kd hg bt st) (e : V.heap[R]? = W.heap[R]?) : RAtS V R kd hg bt st := by obtain ⟨cs, h1, h2⟩ := h; exact ⟨cs, e.trans h1, h2⟩
theorem RAtS.later (h : RAtS W R kd hg bt st) (hb : Below W.heap.size W V) : RAtS V R kd hg bt st := h.of_heap (hb.block R h.lt)
theorem RAtS.keep {q : Nat → Prop} (h : RAtS W R kd hg bt st) (hb : Keep q W V) (hq : ¬ q R) : RAtS V R kd hg bt st := h.of_heap (hb.block R h.lt hq)
theorem RAtS.ck (h : RAtS W R kd hg bt st) (j : Nat) (hj : j < 1024) : W.cell? ⟨R, j, none⟩ = some (.int .i64 (kd j)) := by obtain ⟨cs, h1, h2⟩ := h; simp only [World.cell?, h1]; exact h2.k j hj
theorem RAtS.ch (h : RAtS W R kd hg bt st) (g : Nat) (hj : g < 64) : W.cell? ⟨R, 1024 + g, none⟩ = some (.bool (hg g)) := by obtain ⟨cs, h1, h2⟩ := h; simp only [World.cell?, h1]; exact h2.h g hj
theorem RAtS.cb (h : RAtS W R kd hg bt st) (j : Nat) (hj : j < 1024) (i : Nat) (hi : i < 64) : W.cell? ⟨R, 1088 + j * 64 + i, none⟩ = some (.int .u8 (bt j i)) := by obtain ⟨cs, h1, h2⟩ := h; simp only [World.cell?, h1]; rw [Nat.add_assoc]; exact h2.b j hj i hi
theorem RAtS.frozen (h : RAtS W R kd hg bt st) (o : Nat) : W.frozen? ⟨R, o, none⟩ = false := by obtain ⟨cs, h1, _⟩ := h; simp [World.frozen?, h1]
theorem RAtS.range (h : RAtS W R kd hg bt st) (hs : st.size = 15) : W.rangeAt R 66624 st.toList := fun i u hu => by
  have hi : i < 15 := by have := (List.getElem?_eq_some_iff.1 hu).1; simp at this; omega
  obtain ⟨cs, h1, h2⟩ := h
  simp only [World.cell?, h1]
  rw [h2.s i hi, ← Array.getElem?_toList]; exact hu
theorem RAtS.there (h : RAtS W R kd hg bt st) (o n : Nat) (ho : o + n ≤ 66639) : W.there R o n := fun i hi => by
  refine ⟨?_, h.frozen _⟩
  obtain ⟨cs, h1, h2⟩ := h
  simp only [World.cell?, h1]
  rw [Option.isSome_iff_exists]
  exact ⟨_, Array.getElem?_eq_getElem (show o + i < cs.size by have := h2.size; omega)⟩
theorem RAtS.putS (h : RAtS W R kd hg bt st) (su : Array Value) (hs : su.size = 15) : RAtS (W.setCells R 66624 su.toList) R kd hg bt su := by
  obtain ⟨cs, h1, h2⟩ := h
  have hz := h2.size
  have hl : su.toList.length = 15 := by simpa using hs
  refine ⟨_, heap_setCells su.toList W R _ cs _ h1, ⟨by rw [splice_size]; exact hz, fun j hj => ?_, fun g hg => ?_, fun j hj i hi => ?_, fun i hi => ?_⟩⟩
  · rw [splice_out _ _ _ _ (by omega)]; exact h2.k j hj
  · rw [splice_out _ _ _ _ (by omega)]; exact h2.h g hg
  · rw [splice_out _ _ _ _ (by omega)]; exact h2.b j hj i hi
  · rw [splice_in _ _ _ _ (by omega) (by omega), Array.getElem?_toList]
theorem RAtS.setH (h : RAtS W R kd hg bt st) (g : Nat) (hg' : g < 64) (b : Bool) : RAtS (W.setCell ⟨R, 1024 + g, none⟩ (.bool b)) R kd (fun i => if i = g then b else hg i) bt st := by
  obtain ⟨cs, h1, h2⟩ := h
  have hz := h2.size
  refine ⟨_, heap_setCell_same W R _ cs _ _ h1, ⟨by rw [Array.size_setIfInBounds]; exact hz, fun j hj => ?_, fun i hi => ?_, fun j hj i hi => ?_, fun i hi => ?_⟩⟩
  · rw [Array.getElem?_setIfInBounds, if_neg (by omega)]; exact h2.k j hj
  · rw [Array.getElem?_setIfInBounds]
    by_cases e : i = g
    · subst e; rw [if_pos rfl, if_pos (by omega)]; simp
    · rw [if_neg (by omega)]; simp only [if_neg e]; exact h2.h i hi
  · rw [Array.getElem?_setIfInBounds, if_neg (by omega)]; exact h2.b j hj i hi
  · rw [Array.getElem?_setIfInBounds, if_neg (by omega)]; exact h2.s i hi
theorem RAtS.setK (h : RAtS W R kd hg bt st) (p : Nat) (hp : p < 1024) (x : Int) : RAtS (W.setCell ⟨R, p, none⟩ (.int .i64 x)) R (fun i => if i = p then x else kd i) hg bt st := by
  obtain ⟨cs, h1, h2⟩ := h
  have hz := h2.size
  refine ⟨_, heap_setCell_same W R _ cs _ _ h1, ⟨by rw [Array.size_setIfInBounds]; exact hz, fun j hj => ?_, fun i hi => ?_, fun j hj i hi => ?_, fun i hi => ?_⟩⟩
  · rw [Array.getElem?_setIfInBounds]
    by_cases e : j = p
    · subst e; rw [if_pos rfl, if_pos (by omega)]; simp
    · rw [if_neg (by omega)]; simp only [if_neg e]; exact h2.k j hj
  · rw [Array.getElem?_setIfInBounds, if_neg (by omega)]; exact h2.h i hi
  · rw [Array.getElem?_setIfInBounds, if_neg (by omega)]; exact h2.b j hj i hi
  · rw [Array.getElem?_setIfInBounds, if_neg (by omega)]; exact h2.s i hi
theorem RAtS.setB (h : RAtS W R kd hg bt st) (p : Nat) (hp : p < 1024) (q : Nat) (hq : q < 64) (x : Int) : RAtS (W.setCell ⟨R, 1088 + p * 64 + q, none⟩ (.int .u8 x)) R kd hg (fun j i => if j = p ∧ i = q then x else bt j i) st := by
  obtain ⟨cs, h1, h2⟩ := h
  have hz := h2.size
  refine ⟨_, heap_setCell_same W R _ cs _ _ h1, ⟨by rw [Array.size_setIfInBounds]; exact hz, fun j hj => ?_, fun i hi => ?_, fun j hj i hi => ?_, fun i hi => ?_⟩⟩
  · rw [Array.getElem?_setIfInBounds, if_neg (by omega)]; exact h2.k j hj
  · rw [Array.getElem?_setIfInBounds, if_neg (by omega)]; exact h2.h i hi
  · rw [Array.getElem?_setIfInBounds]
    by_cases e : j = p ∧ i = q
    · obtain ⟨rfl, rfl⟩ := e; rw [if_pos (by omega), if_pos (by omega)]; simp
    · rw [if_neg (by omega)]; simp only [if_neg e]; exact h2.b j hj i hi
  · rw [Array.getElem?_setIfInBounds, if_neg (by omega)]; exact h2.s i hi
def zeros64 : List Value := List.replicate 64 (.int .u8 0)
theorem RAtS.setZ (h : RAtS W R kd hg bt st) (p : Nat) (hp : p < 1024) : RAtS (W.setCells R (1088 + p * 64) zeros64) R kd hg (fun j i => if j = p then 0 else bt j i) st := by
  obtain ⟨cs, h1, h2⟩ := h
  have hz := h2.size
  have hl : zeros64.length = 64 := by unfold zeros64; simp
  refine ⟨_, heap_setCells zeros64 W R _ cs _ h1, ⟨by rw [splice_size]; exact hz, fun j hj => ?_, fun i hi => ?_, fun j hj i hi => ?_, fun i hi => ?_⟩⟩
  · rw [splice_out _ _ _ _ (by omega)]; exact h2.k j hj
  · rw [splice_out _ _ _ _ (by omega)]; exact h2.h i hi
  · by_cases e : j = p
    · subst e
      rw [← Nat.add_assoc, splice_in _ _ _ _ (by omega) (by omega)]
      unfold zeros64
      rw [List.getElem?_replicate, if_pos hi]; simp
    · rw [splice_out _ _ _ _ (by omega)]; simp only [if_neg e]; exact h2.b j hj i hi
  · rw [splice_out _ _ _ _ (by omega)]; exact h2.s i hi
theorem RAtS.congr {kd' : Nat → Int} {hg' : Nat → Bool} {bt' : Nat → Nat → Int} (h : RAtS W R kd hg bt st) (h1 : ∀ j, j < 1024 → kd j = kd' j) (h2 : ∀ g, g < 64 → hg g = hg' g) (h3 : ∀ j, j < 1024 → ∀ i, i < 64 → bt j i = bt' j i) : RAtS W R kd' hg' bt' st := by
  obtain ⟨cs, g1, g2⟩ := h
  exact ⟨cs, g1, g2.size, fun j hj => by rw [← h1 j hj]; exact g2.k j hj, fun g hg => by rw [← h2 g hg]; exact g2.h g hg, fun j hj i hi => by rw [← h3 j hj i hi]; exact g2.b j hj i hi, g2.s⟩
set_option maxRecDepth 100000 in
theorem Rpage_is (a : Int) (b : Bool) (hb : (decide (0 ≤ a) && decide (a < 1024)) = b) (w : World) : Calls Try.prog 64 #[.int .i64 a] w fun e w' => e = .returned (.bool b) ∧ w = w' := by
  by_cases h0 : 0 ≤ a
  · by_cases h1 : a < 1024
    · obtain rfl : b = true := by rw [← hb]; simp; omega
      clear hb
      go_enter Try.func64, Try.ntmps64
      go_wp2
      go_ret
      exact ⟨rfl, rfl⟩
    · obtain rfl : b = false := by rw [← hb]; simp; omega
      clear hb
      go_enter Try.func64, Try.ntmps64
      go_wp2
      go_ret
      exact ⟨rfl, rfl⟩
  · obtain rfl : b = false := by rw [← hb]; simp; omega
    clear hb
    go_enter Try.func64, Try.ntmps64
    go_wp2
    go_ret
    exact ⟨rfl, rfl⟩
/-- Are n pages from a on of kind x? -/
def kndB (kd : Nat → Int) (x : Int) (a : Nat) : Nat → Bool
  | 0 => true
  | n + 1 => kndB kd x a n && decide (kd (a + n) = x)
set_option maxRecDepth 100000 in
set_option maxHeartbeats 2000000 in
theorem Rkinds_is (a n : Nat) (x : Int) (han : a + n ≤ 1024) (w : World) (hr : RAtS w R kd hg bt st) : Calls Try.prog 65 #[.pointer (some ⟨R, 0, none⟩), .int .i64 (a : Int), .int .i64 (n : Int), .int .i64 x] w fun e w' => e = .returned (.bool (kndB kd x a n)) ∧ w = w' := by
  have HR := Lib.hid hr
  have hal : Try.prog.arrayLen 86 = 1024 := by kernel_rfl
  clear hr
  go_enter Try.func65, Try.ntmps65
  go_wp2_with fail
  go_loopw [9] (fun i wr => ∃ k : Nat, k ≤ n ∧ i = .int .i64 ((a + k : Nat) : Int) ∧ kndB kd x a k = true ∧ w = wr) (fun i _ => a + n - (intOf i).toNat)
  case atStart => exact ⟨0, Nat.zero_le _, rfl, rfl, rfl⟩
  case round =>
    obtain ⟨k, hk, rfl, hkn, rfl⟩ := hrel
    have HK := Lib.hid hkn
    obtain ⟨q, hq⟩ : ∃ q, a + k = q := ⟨_, rfl⟩
    have HQ := Lib.hid hq
    rw [hq]
    by_cases hlt : k < n
    · have h1 : (q : Int) < (a : Int) + (n : Int) := by omega
      have hc := HR.out.ck q (by omega)
      have hq2 : (q : Int) < 1024 := by omega
      by_cases hx : kd q = x
      · have hne : (kd q != x) = false := by simp [hx]
        have HK2 : Hid (kndB kd x a (k + 1) = true) := by
          unfold Hid; rw [kndB, hkn, hq, hx]; simp
        clear hkn hq hx
        go_wp2_with fail
        go_roundw
        case rel => exact ⟨k + 1, by omega, by rw [← Nat.add_assoc, HQ.out]; go_num, HK2.out, by trivial⟩
        case measure => simp [intOf]; omega
      · have hne : (kd q != x) = true := by simp [hx]
        have hfin : kndB kd x a n = false := by
          have : ∀ d, kndB kd x a (k + 1 + d) = false := fun d => by
            induction d with
            | zero => show (kndB kd x a k && decide (kd (a + k) = x)) = false; rw [hq, decide_eq_false hx, Bool.and_false]
            | succ d ih => show (kndB kd x a (k + 1 + d) && _) = false; rw [ih, Bool.false_and]
          have h2 := this (n - (k + 1))
          rw [show k + 1 + (n - (k + 1)) = n by omega] at h2
          exact h2
        have HF := Lib.hid hfin
        clear hkn hq hx hfin
        go_wp2_with fail
        go_ret
        rw [HF.out]
        exact ⟨rfl, by trivial⟩
    · have h1 : ¬ (q : Int) < (a : Int) + (n : Int) := by omega
      have HK2 : Hid (kndB kd x a n = true) := by
        unfold Hid; rw [show n = k by omega]; exact hkn
      clear hkn hq
      go_wp2_with fail
      go_ret
      rw [HK2.out]
      exact ⟨rfl, by trivial⟩
end Go.Proofs.Ytjplihljmohpjaa

/- The reference's calls. -/
namespace Go.Proofs.Ytjplihljmohpjaa
open Go.RowKit Go.Shelf
attribute [local go_sem] Oper.semAt_some
variable {W V : World} {R : Nat} {kd : Nat → Int} {hg : Nat → Bool} {bt : Nat → Nat → Int} {st : Array Value}

theorem z64_one : zeros64.toArray.all (·.oneCell') = true := by kernel_rfl
theorem z64_i : (Try.prog.info? 88).map (·.size) = some zeros64.toArray.size := by kernel_rfl
set_option maxRecDepth 100000 in
set_option maxHeartbeats 600000 in
theorem Rset_is (a n : Nat) (x : Int) (han : a + n ≤ 1024) (w : World) (hr : RAtS w R kd hg bt st) : Calls Try.prog 97 #[.pointer (some ⟨R, 0, none⟩), .int .i64 (a : Int), .int .i64 (n : Int), .int .i64 x] w fun e w' => e = .returned (.tuple #[]) ∧
    RAtS w' R (fun i => if a ≤ i ∧ i < a + n then x else kd i) hg (fun i k => if a ≤ i ∧ i < a + n then 0 else bt i k) st ∧ Keep (· = R) w w' := by
  have HR := Lib.hid hr
  have hal : Try.prog.arrayLen 86 = 1024 := by kernel_rfl
  have hal2 : Try.prog.arrayLen 89 = 1024 := by kernel_rfl
  clear hr
  go_enter Try.func97, Try.ntmps97
  go_wp2_with fail
  go_loopw [8] (fun i wr => ∃ k : Nat, k ≤ n ∧ i = .int .i64 ((a + k : Nat) : Int) ∧ RAtS wr R (fun i => if a ≤ i ∧ i < a + k then x else kd i) hg (fun i j => if a ≤ i ∧ i < a + k then 0 else bt i j) st ∧ Keep (· = R) w wr) (fun i _ => a + n - (intOf i).toNat)
  case atStart => exact ⟨0, Nat.zero_le _, rfl, HR.out.congr (fun j _ => by rw [if_neg (by omega)]) (fun _ _ => rfl) (fun j _ i _ => by rw [if_neg (by omega)]), Keep.refl _ _⟩
  case round =>
    obtain ⟨k, hk, rfl, hat, hkp⟩ := hrel
    obtain ⟨q, hq⟩ : ∃ q, a + k = q := ⟨_, rfl⟩
    have HQ := Lib.hid hq
    rw [hq] at hat ⊢
    by_cases hlt : k < n
    · have h1 : (q : Int) < (a : Int) + (n : Int) := by omega
      have hq2 : (q : Int) < 1024 := by omega
      have hqn : q < 1024 := by omega
      have hc := hat.ck q hqn
      have hf := hat.frozen q
      have h2 := hat.setK q hqn x
      have ht := h2.there (1088 + q * 64) 64 (by omega)
      have hlen : zeros64.toArray.size = 64 := by kernel_rfl
      have h3 := h2.setZ q hqn
      have H3 : Hid (RAtS ((wr.setCell ⟨R, q, none⟩ (.int .i64 x)).setCells R (1088 + q * 64) zeros64) R (fun i => if a ≤ i ∧ i < a + (k + 1) then x else kd i) hg (fun i j => if a ≤ i ∧ i < a + (k + 1) then 0 else bt i j) st) :=
        h3.congr (fun j _ => by
          by_cases e : j = q
          · rw [if_pos e, if_pos (by omega)]
          · rw [if_neg e]
            by_cases e2 : a ≤ j ∧ j < q
            · rw [if_pos e2, if_pos (by omega)]
            · rw [if_neg e2, if_neg (by omega)]) (fun _ _ => rfl) (fun j _ i _ => by
          by_cases e : j = q
          · rw [if_pos e, if_pos (by omega)]
          · rw [if_neg e]
            by_cases e2 : a ≤ j ∧ j < q
            · rw [if_pos e2, if_pos (by omega)]
            · rw [if_neg e2, if_neg (by omega)])
      have HK : Hid (Keep (· = R) w ((wr.setCell ⟨R, q, none⟩ (.int .i64 x)).setCells R (1088 + q * 64) zeros64)) := Keep.setCells (q := (· = R)) R (.inl rfl) _ _ _ (hkp.setCell _ _ (.inl rfl))
      clear hq h3 h2 hat hkp
      go_wp2_with (refine wpList_store_mid rfl 88 _ _ rfl R (1088 + q * 64) zeros64.toArray rfl (by kernel_rfl) (by rw [hlen]; with_reducible exact ht) z64_i z64_one ?_)
      go_roundw
      case rel => exact ⟨k + 1, by omega, by rw [← Nat.add_assoc, HQ.out]; go_num, H3.out, HK.out⟩
      case measure => simp [intOf]; omega
    · have h1 : ¬ (q : Int) < (a : Int) + (n : Int) := by omega
      obtain rfl : k = n := by omega
      have HA := Lib.hid hat
      clear hat
      clear hq
      go_wp2_with fail
      go_end0
      have h9 := HA.out
      rw [← HQ.out] at h9
      exact ⟨rfl, h9, hkp⟩
abbrev kdF (f : Pages) : Nat → Int := fun j => (f j).kd
abbrev hgF (f : Pages) : Nat → Bool := fun g => (f (16 * g)).hu
abbrev btF (f : Pages) : Nat → Nat → Int := fun j k => (f j).by' k
/-- The reference's system: as SysV. -/
structure RfV (W : World) (R : Nat) (Y : Nat → Prop) (kd : Nat → Int) (hg : Nat → Bool) (bt : Nat → Nat → Int) (L : List Ru) (m : Nat → Nat) (v : Value) : Prop where
  row : RAtS W R kd hg bt (stA v (ci m) (ci (hf L m)))
  ru : RAt W v (toI L)
  own : ∀ b, obk v = some b → b ≠ R ∧ ¬ Y b
  far : ∀ b, Y b → b ≠ R
theorem RfV.keep {W V : World} {R : Nat} {Y : Nat → Prop} {L : List Ru} {m : Nat → Nat} {v : Value} (s : RfV W R Y kd hg bt L m v) {q : Nat → Prop} (hb : Keep q W V) (hq : ∀ k, q k → Y k) : RfV V R Y kd hg bt L m v :=
  ⟨s.row.keep hb (fun h => s.far R (hq R h) rfl), s.ru.keep hb (fun b hb2 hqb => (s.own b hb2).2 (hq b hqb)), s.own, s.far⟩
theorem RfV.later {W V : World} {R : Nat} {Y : Nat → Prop} {L : List Ru} {m : Nat → Nat} {v : Value} (s : RfV W R Y kd hg bt L m v) (hb : Below W.heap.size W V) : RfV V R Y kd hg bt L m v := ⟨s.row.later hb, s.ru.later hb, s.own, s.far⟩
theorem RfV.cells {W V : World} {R : Nat} {Y : Nat → Prop} {L : List Ru} {m : Nat → Nat} {v : Value} (s : RfV W R Y kd hg bt L m v) (hb : Keep (· = R) W V) {kd' : Nat → Int} {hg' : Nat → Bool} {bt' : Nat → Nat → Int} (h : RAtS V R kd' hg' bt' (stA v (ci m) (ci (hf L m)))) : RfV V R Y kd' hg' bt' L m v := ⟨h, s.ru.keep hb (fun b hb2 e => (s.own b hb2).1 e), s.own, s.far⟩
set_option maxRecDepth 100000 in
set_option maxHeartbeats 4000000 in
theorem Rrefusd_is (Y : Nat → Prop) (L : List Ru) (hL : OkL L) (m : Nat → Nat) (hm : Sm m) (c : Nat) (hc7 : c < 7) (v : Value) (w : World) (hs : RfV w R Y kd hg bt L m v) :
    Calls Try.prog 80 #[.pointer (some ⟨R, 0, none⟩), .int .i64 (c : Int)] w fun e w' => e = .returned (.bool (refP L c (m c + 1))) ∧ RfV w' R Y kd hg bt L (updN m c (m c + 1)) v ∧ Keep (· = R) w w' := by
  have hrg := hs.row.range (stA_size _ _ _)
  have HN := Lib.hid (RNext_ok v L hL (ci m) (ci (hf L m)) (csF_hf L m fun k hk => by have := hm k hk; omega) c (m c) hc7 rfl (by have := hm c hc7; omega) w hs.ru)
  go_enter Try.func80, Try.ntmps80
  go_wp2_with (refine wpList_load_mid rfl 45 _ rfl R 66624 rfl (stA v (ci m) (ci (hf L m))).toList _ hrg Try.underlying45 rfl sy_i ?_)
  refine HN.out.mono ?_
  rintro e w1 ⟨rfl, B1⟩
  rw [ci_upd, nxH_hf]
  obtain ⟨W2, hW2⟩ : ∃ x, w1.alloc (.cells #[.slice none 0 0, .int .i64 0, .int .i64 0, .int .i64 0, .int .i64 0, .int .i64 0, .int .i64 0, .int .i64 0, .int .i64 0, .int .i64 0, .int .i64 0, .int .i64 0, .int .i64 0, .int .i64 0, .int .i64 0] 45) = x := ⟨_, rfl⟩
  have hb2 : Below w1.heap.size w1 W2 := by rw [← hW2]; exact (Below.refl _ _).alloc (Nat.le_refl _) _
  have sN : SBox W2 w1.heap.size (.slice none 0 0) zer zer := by rw [← hW2]; exact SBox.new w1 (.slice none 0 0) zer zer
  have hB2 := B1.trans (hb2.mono B1.size)
  have hu1 := hs.ru.one
  have sM := sN.row v (ci (updN m c (m c + 1))) (ci (hf L (updN m c (m c + 1))))
  have hB3 := below_row hB2 w1.heap.size B1.size (stA v (ci (updN m c (m c + 1))) (ci (hf L (updN m c (m c + 1)))))
  have s3 := hs.later hB3
  have htR := s3.row.there 66624 15 (by omega)
  have hone : (stA v (ci (updN m c (m c + 1))) (ci (hf L (updN m c (m c + 1))))).all (·.oneCell') = true := stA_one v hu1 _ _
  go_wp2_with (first | rw [hW2] | refine wpList_store_row rfl 45 _ _ rfl w1.heap.size (stA v (ci (updN m c (m c + 1))) (ci (hf L (updN m c (m c + 1))))) rfl rfl 45 _ sN (st_i _ _ _) rfl hone ?_ | refine wpList_load_row rfl 45 _ rfl w1.heap.size rfl 45 _ (0, 0) _ sM Try.underlying45 rfl (st_i _ _ _) ?_ | refine wpList_store_mid rfl 45 _ _ rfl R 66624 (stA v (ci (updN m c (m c + 1))) (ci (hf L (updN m c (m c + 1))))) rfl rfl htR (st_i _ _ _) hone ?_)
  go_ret
  have hK1 : Keep (· = R) (W2.setRow w1.heap.size (stA v (ci (updN m c (m c + 1))) (ci (hf L (updN m c (m c + 1)))))) ((W2.setRow w1.heap.size (stA v (ci (updN m c (m c + 1))) (ci (hf L (updN m c (m c + 1)))))).setCells R 66624 (stA v (ci (updN m c (m c + 1))) (ci (hf L (updN m c (m c + 1))))).toList) := Keep.setCells (q := (· = R)) R (.inl rfl) _ _ _ (Keep.refl _ _)
  refine ⟨rfl, ⟨s3.row.putS _ (stA_size _ _ _), s3.ru.keep hK1 (fun b hb2 e => (s3.own b hb2).1 e), s3.own, s3.far⟩, (Keep.of_below hB3).trans hK1⟩
end Go.Proofs.Ytjplihljmohpjaa

/- The reference: pages are changed. -/
namespace Go.Proofs.Ytjplihljmohpjaa
open Go.RowKit Go.Shelf
attribute [local go_sem] Oper.semAt_some
variable {W V : World} {R : Nat} {kd : Nat → Int} {hg : Nat → Bool} {bt : Nat → Nat → Int} {st : Array Value}

/-- The pages of a system. -/
structure Good (f : Pages) : Prop where
  grp : ∀ j, j < 1024 → (f j).hu = (f (16 * (j / 16))).hu
  com : ∀ j, j < 1024 → (f j).hu = true → (f j).kd = 2
  zer : ∀ j, j < 1024 → (f j).kd ≠ 2 → ∀ k, k < 64 → (f j).by' k = 0
  knd : ∀ j, j < 1024 → 0 ≤ (f j).kd ∧ (f j).kd ≤ 3
/-- Is none of n pages from a on of a huge page? -/
def nohB (hg : Nat → Bool) (a : Nat) : Nat → Bool
  | 0 => true
  | n + 1 => nohB hg a n && !hg ((a + n) / 16)
theorem nohB_cut {hg : Nat → Bool} {a k n : Nat} (hk : k < n) (h : hg ((a + k) / 16) = true) : nohB hg a n = false := by
  have : ∀ d, nohB hg a (k + 1 + d) = false := fun d => by
    induction d with
    | zero => show (nohB hg a k && !hg ((a + k) / 16)) = false; rw [h]; simp
    | succ d ih => show (nohB hg a (k + 1 + d) && _) = false; rw [ih, Bool.false_and]
  have h2 := this (n - (k + 1))
  rwa [show k + 1 + (n - (k + 1)) = n by omega] at h2
theorem posT {f : Pages} (hf : Good f) (x : Int) (a : Nat) : ∀ n, a + n ≤ 1024 → posE (chkT x) f (List.range' a n) = if (kndB (kdF f) x a n && nohB (hgF f) a n) = true then 0 else 9
  | 0, _ => rfl
  | n + 1, h => by
    rw [List.range'_concat, Nat.one_mul, posE_append, posT hf x a n (by omega)]
    have hg := hf.grp (a + n) (by omega)
    show (if (if _ then (0 : Int) else 9) ≠ 0 then _ else (if chkT x (f (a + n)) ≠ 0 then chkT x (f (a + n)) else 0)) = if ((kndB (kdF f) x a n && decide ((f (a + n)).kd = x)) && (nohB (hgF f) a n && !(f (16 * ((a + n) / 16))).hu)) = true then (0 : Int) else 9
    rw [← hg]
    unfold chkT
    cases kndB (kdF f) x a n <;> cases nohB (hgF f) a n <;> cases (f (a + n)).hu <;> by_cases e : (f (a + n)).kd = x <;> simp [e]
theorem nohB_all {hg : Nat → Bool} {a : Nat} : ∀ {n : Nat}, nohB hg a n = true → ∀ i, a ≤ i → i < a + n → hg (i / 16) = false
  | 0, _, i, h1, h2 => by omega
  | n + 1, h, i, h1, h2 => by
    have h3 : nohB hg a n = true ∧ (!hg ((a + n) / 16)) = true := by rw [← Bool.and_eq_true]; exact h
    by_cases e : i = a + n
    · subst e; simpa using h3.2
    · exact nohB_all h3.1 i h1 (by omega)
theorem mem_rng {a n i : Nat} : i ∈ List.range' a n ↔ a ≤ i ∧ i < a + n := by rw [List.mem_range'_1]
theorem chg_at (chg : Pg → Pg) (f : Pages) (a n i : Nat) : chgF chg f (List.range' a n) i = if a ≤ i ∧ i < a + n then chg (f i) else f i := by
  rw [chgF_at chg _ f i (List.nodup_range' ..)]
  by_cases h : a ≤ i ∧ i < a + n
  · rw [if_pos (mem_rng.2 h), if_pos h]
  · rw [if_neg (fun h2 => h (mem_rng.1 h2)), if_neg h]
/-- The reference's system has the pages f. -/
abbrev RfS (W : World) (R : Nat) (Y : Nat → Prop) (f : Pages) (L : List Ru) (m : Nat → Nat) (v : Value) : Prop := RfV W R Y (kdF f) (hgF f) (btF f) L m v
abbrev RLeft (R : Nat) (Y : Nat → Prop) (L : List Ru) (v : Value) (w : World) (r : Int × Pages × (Nat → Nat)) (e : Ending) (w' : World) : Prop := e = .returned (.int .i64 r.1) ∧ RfS w' R Y r.2.1 L r.2.2 v ∧ Keep (· = R) w w'
set_option maxRecDepth 100000 in
set_option maxHeartbeats 2000000 in
theorem Rchange_is (Y : Nat → Prop) (f : Pages) (hf : Good f) (L : List Ru) (hL : OkL L) (m : Nat → Nat) (hm : Sm m) (c : Nat) (hc7 : c < 7) (x y : Int) (v : Value) (a n : Int) (ha : I64 a) (w : World) (hs : RfS w R Y f L m v) :
    Calls Try.prog 78 #[.pointer (some ⟨R, 0, none⟩), .int .i64 a, .int .i64 n, .int .i64 x, .int .i64 y, .int .i64 (c : Int)] w (RLeft R Y L v w (opP (cTurn c x y) f L m a n)) := by
  obtain ⟨r, hr⟩ : ∃ r, opP (cTurn c x y) f L m a n = r := ⟨_, rfl⟩
  rw [hr]
  unfold opP at hr
  have HS := Lib.hid hs
  have ha1 := ha.1
  have ha2 := ha.2
  by_cases h1 : n < 1
  · obtain rfl : r = (7, f, m) := by rw [← hr, if_neg]; unfold areB; simp; omega
    clear hr ha
    go_enter Try.func78, Try.ntmps78
    go_wp2
    go_ret
    exact ⟨rfl, HS.out, Keep.refl _ _⟩
  · obtain ⟨pb, hpb⟩ : ∃ b, (decide (0 ≤ a) && decide (a < 1024)) = b := ⟨_, rfl⟩
    have HP := Lib.hid (Rpage_is a pb hpb w)
    cases pb
    · obtain rfl : r = (7, f, m) := by
        rw [← hr, if_neg]
        unfold areB
        simp at hpb ⊢
        omega
      clear hr ha hpb
      go_enter Try.func78, Try.ntmps78
      go_wp2_with fail
      refine HP.out.mono ?_
      rintro e w' ⟨rfl, rfl⟩
      go_wp2_with fail
      go_ret
      exact ⟨rfl, HS.out, Keep.refl _ _⟩
    · simp at hpb
      by_cases h2 : 1024 - a < n
      · obtain rfl : r = (7, f, m) := by rw [← hr, if_neg]; unfold areB; simp; omega
        clear hr ha
        go_enter Try.func78, Try.ntmps78
        go_wp2_with fail
        refine HP.out.mono ?_
        rintro e w' ⟨rfl, rfl⟩
        go_wp2_with fail
        go_ret
        exact ⟨rfl, HS.out, Keep.refl _ _⟩
      · obtain ⟨A, rfl⟩ : ∃ A : Nat, a = (A : Int) := ⟨a.toNat, by omega⟩
        obtain ⟨N, rfl⟩ : ∃ N : Nat, n = (N : Int) := ⟨n.toNat, by omega⟩
        have hAN : A + N ≤ 1024 := by omega
        rw [if_pos (areB_of (by omega) hAN), Int.toNat_natCast, Int.toNat_natCast] at hr
        unfold doA at hr
        rw [posT hf x A N hAN] at hr
        have HK := Lib.hid (Rkinds_is A N x hAN w hs.row)
        obtain ⟨kb, hkb⟩ : ∃ b, kndB (kdF f) x A N = b := ⟨_, rfl⟩
        rw [hkb] at HK hr
        cases kb
        · obtain rfl : r = (9, f, m) := by rw [← hr]; simp
          clear hr ha hpb hkb
          go_enter Try.func78, Try.ntmps78
          go_wp2_with fail
          refine HP.out.mono ?_
          rintro e w' ⟨rfl, rfl⟩
          go_wp2_with fail
          refine HK.out.mono ?_
          rintro e w' ⟨rfl, rfl⟩
          go_wp2_with fail
          go_ret
          exact ⟨rfl, HS.out, Keep.refl _ _⟩
        · rw [Bool.true_and] at hr
          have hr2 := hr
          have HR := Lib.hid hr
          have hal : Try.prog.arrayLen 87 = 64 := by kernel_rfl
          clear hr hr2 ha hpb hkb hs
          go_enter Try.func78, Try.ntmps78
          go_wp2_with fail
          refine HP.out.mono ?_
          rintro e w' ⟨rfl, rfl⟩
          go_wp2_with fail
          refine HK.out.mono ?_
          rintro e w' ⟨rfl, rfl⟩
          go_wp2_with fail
          go_loopw [13] (fun i wr => ∃ k : Nat, k ≤ N ∧ i = .int .i64 ((A + k : Nat) : Int) ∧ nohB (hgF f) A k = true ∧ w = wr) (fun i _ => A + N - (intOf i).toNat)
          case atStart => exact ⟨0, Nat.zero_le _, rfl, rfl, rfl⟩
          case round =>
            obtain ⟨k, hk, rfl, hkn, rfl⟩ := hrel
            have HKN := Lib.hid hkn
            obtain ⟨q, hq⟩ : ∃ q, A + k = q := ⟨_, rfl⟩
            have HQ := Lib.hid hq
            rw [hq]
            by_cases hlt : k < N
            · have g1 : (q : Int) < (A : Int) + (N : Int) := by omega
              obtain ⟨u, hu⟩ : ∃ u, q / 16 = u := ⟨_, rfl⟩
              have hu64 : u < 64 := by omega
              have hdiv : (q : Int).tdiv 16 = (u : Int) := by rw [Int.tdiv_eq_ediv_of_nonneg (by omega)]; omega
              have hcc := HS.out.row.ch u hu64
              have hu1 : (u : Int) < 64 := by omega
              obtain ⟨hb, hhb⟩ : ∃ b, hgF f u = b := ⟨_, rfl⟩
              rw [hhb] at hcc
              cases hb
              · have HK2 : Hid (nohB (hgF f) A (k + 1) = true) := by
                  show (nohB (hgF f) A k && !hgF f ((A + k) / 16)) = true
                  rw [hkn, hq, hu, hhb]; rfl
                clear hkn hq hu hhb
                go_wp2_with fail
                go_roundw
                case rel => exact ⟨k + 1, by omega, by rw [← Nat.add_assoc, HQ.out]; go_num, HK2.out, by trivial⟩
                case measure => simp [intOf]; omega
              · have HF : Hid (r = (9, f, m)) := by
                  unfold Hid
                  rw [← HR.out, nohB_cut hlt (by rw [hq, hu, hhb])]; simp
                clear hkn hq hu hhb
                go_wp2_with fail
                go_ret
                rw [HF.out]
                exact ⟨rfl, HS.out, Keep.refl _ _⟩
            · have g1 : ¬ (q : Int) < (A : Int) + (N : Int) := by omega
              obtain rfl : k = N := by omega
              have hr3 := HR.out
              rw [hkn] at hr3
              simp only [if_true, ne_eq, not_true, if_false] at hr3
              have HR3 := Lib.hid hr3
              clear hkn hq hr3
              go_wp2_with fail
              refine (Rrefusd_is Y L hL m hm c hc7 v w HS.out).mono ?_
              rintro e w2 ⟨rfl, s2, k2⟩
              obtain ⟨b, hb⟩ : ∃ b, refP L c (m c + 1) = b := ⟨_, rfl⟩
              rw [hb] at HR3 ⊢
              cases b
              · go_wp2_with fail
                refine (Rset_is A k y hAN w2 s2.row).mono ?_
                rintro e w3 ⟨rfl, s3, k3⟩
                go_wp2_with fail
                go_ret
                have h9 := HR3.out
                simp only [Bool.false_eq_true, if_false] at h9
                rw [← h9]
                refine ⟨rfl, s2.cells k3 (s3.congr (fun j hj => ?_) (fun g hg => ?_) (fun j hj i hi => ?_)), k2.trans k3⟩
                · show _ = (chgF (chgT y) f (List.range' A k) j).kd
                  rw [chg_at]; split <;> rfl
                · show (f (16 * g)).hu = (chgF (chgT y) f (List.range' A k) (16 * g)).hu
                  rw [chg_at]
                  split
                  · rename_i hin
                    have := nohB_all HKN.out (16 * g) hin.1 hin.2
                    rw [show 16 * g / 16 = g by omega] at this
                    exact this
                  · rfl
                · show _ = (chgF (chgT y) f (List.range' A k) j).by' i
                  rw [chg_at]; split <;> rfl
              · go_wp2_with fail
                go_ret
                have h9 := HR3.out
                simp only [if_true] at h9
                rw [← h9]
                exact ⟨rfl, s2, k2⟩
end Go.Proofs.Ytjplihljmohpjaa

/- The reference: groups; what is good stays good. -/
namespace Go.Proofs.Ytjplihljmohpjaa
open Go.RowKit Go.Shelf
attribute [local go_sem] Oper.semAt_some
variable {W V : World} {R : Nat} {kd : Nat → Int} {hg : Nat → Bool} {bt : Nat → Nat → Int} {st : Array Value}

theorem posE_congr {c1 c2 : Pg → Int} {f : Pages} : ∀ {l : List Nat}, (∀ j ∈ l, c1 (f j) = c2 (f j)) → posE c1 f l = posE c2 f l
  | [], _ => rfl
  | j :: l, h => by
    rw [posE, posE, h j (by simp), posE_congr fun i hi => h i (by simp [hi])]
theorem posE_const {c : Pg → Int} {f : Pages} {x : Int} (hx : x ≠ 0) {j : Nat} {l : List Nat} (h : c (f j) = x) : posE c f (j :: l) = x := by rw [posE, h, if_pos hx]
theorem posE_zero {c : Pg → Int} {f : Pages} : ∀ {l : List Nat}, (∀ j ∈ l, c (f j) = 0) → posE c f l = 0
  | [], _ => rfl
  | j :: _, h => by rw [posE, h j (by simp), if_neg (by simp)]; exact posE_zero fun i hi => h i (by simp [hi])
theorem kndB_all {kd : Nat → Int} {x : Int} {a : Nat} : ∀ {n : Nat}, (∀ i, a ≤ i → i < a + n → kd i = x) → kndB kd x a n = true
  | 0, _ => rfl
  | n + 1, h => by rw [kndB, kndB_all fun i h1 h2 => h i h1 (by omega), h (a + n) (by omega) (by omega)]; simp
theorem kndB_of {kd : Nat → Int} {x : Int} {a : Nat} : ∀ {n : Nat}, kndB kd x a n = true → ∀ i, a ≤ i → i < a + n → kd i = x
  | 0, _, i, h1, h2 => by omega
  | n + 1, h, i, h1, h2 => by
    rw [kndB, Bool.and_eq_true] at h
    by_cases e : i = a + n
    · subst e; simpa using h.2
    · exact kndB_of h.1 i h1 (by omega)
theorem nohB_true {hg : Nat → Bool} {a : Nat} : ∀ {n : Nat}, (∀ i, a ≤ i → i < a + n → hg (i / 16) = false) → nohB hg a n = true
  | 0, _ => rfl
  | n + 1, h => by rw [nohB, nohB_true fun i h1 h2 => h i h1 (by omega), h (a + n) (by omega) (by omega)]; rfl
theorem grp_in {f : Pages} (hf : Good f) {g i : Nat} (hg : g < 64) (h1 : 16 * g ≤ i) (h2 : i < 16 * g + 16) : (f i).hu = hgF f g := by
  rw [hf.grp i (by omega), show i / 16 = g by omega]
theorem rng16 (a : Nat) : ∃ l, List.range' a 16 = a :: l ∧ ∀ j ∈ List.range' a 16, a ≤ j ∧ j < a + 16 := ⟨List.range' (a + 1) 15, rfl, fun _ hj => mem_rng.1 hj⟩
theorem posJ {f : Pages} (hf : Good f) {g : Nat} (hg : g < 64) : posE chkJ f (List.range' (16 * g) 16) = if kndB (kdF f) 2 (16 * g) 16 = false then 9 else if hgF f g = true then 8 else 0 := by
  cases hh : hgF f g
  · have e : posE chkJ f (List.range' (16 * g) 16) = posE (chkT 2) f (List.range' (16 * g) 16) := posE_congr fun j hj => by
      have hj := mem_rng.1 hj
      have hu := (grp_in hf hg hj.1 hj.2).trans hh
      unfold chkJ chkT
      rw [hu]
      by_cases h : (f j).kd = 2 <;> simp [h]
    rw [e, posT hf 2 _ _ (by omega), nohB_true fun i h1 h2 => by rw [show i / 16 = g by omega]; exact hh]
    cases kndB (kdF f) 2 (16 * g) 16 <;> simp
  · have hk : kndB (kdF f) 2 (16 * g) 16 = true := kndB_all fun i h1 h2 => hf.com i (by omega) ((grp_in hf hg h1 h2).trans hh)
    obtain ⟨l, hl, _⟩ := rng16 (16 * g)
    rw [hk, hl, posE_const (x := 8) (by decide)]
    · rfl
    · unfold chkJ
      rw [if_neg (by rw [hf.com (16 * g) (by omega) ((grp_in hf hg (Nat.le_refl _) (by omega)).trans hh)]; simp), if_pos ((grp_in hf hg (Nat.le_refl _) (by omega)).trans hh)]
theorem posS {f : Pages} (hf : Good f) {g : Nat} (hg : g < 64) : posE chkS f (List.range' (16 * g) 16) = if hgF f g = true then 0 else 9 := by
  cases hh : hgF f g
  · obtain ⟨l, hl, _⟩ := rng16 (16 * g)
    rw [hl, posE_const (x := 9) (by decide)]
    · rfl
    · unfold chkS; rw [(grp_in hf hg (Nat.le_refl _) (by omega)).trans hh]; rfl
  · rw [posE_zero fun j hj => by
      have hj := mem_rng.1 hj
      unfold chkS; rw [(grp_in hf hg hj.1 hj.2).trans hh]; rfl]
    rfl
/-- What is good stays good. -/
theorem good_free : Good (fun _ => freeP) := ⟨fun _ _ => rfl, fun _ _ h => (by cases h), fun _ _ _ _ _ => rfl, fun _ _ => ⟨(by decide), (by decide)⟩⟩
theorem good_turn {f : Pages} (hf : Good f) (L : List Ru) (m : Nat → Nat) (c : Nat) (x y : Int) (hy : 0 ≤ y ∧ y ≤ 3) (a n : Int) : Good (opP (cTurn c x y) f L m a n).2.1 := by
  unfold opP
  split
  · rename_i hab
    obtain ⟨A, N, rfl, rfl, _, hAN⟩ := areB_nat hab
    rw [Int.toNat_natCast, Int.toNat_natCast]
    unfold doA
    split
    · exact hf
    · rename_i hp
      split
      · exact hf
      · rw [posT hf x A N hAN] at hp
        have hkn : (kndB (kdF f) x A N && nohB (hgF f) A N) = true := by
          cases h : (kndB (kdF f) x A N && nohB (hgF f) A N)
          · rw [h] at hp; simp at hp
          · rfl
        rw [Bool.and_eq_true] at hkn
        have hu : ∀ j, j < 1024 → (chgF (chgT y) f (List.range' A N) j).hu = (f j).hu := fun j hj => by
          rw [chg_at]
          split
          · rename_i hin
            rw [hf.grp j hj]
            exact (nohB_all hkn.2 j hin.1 hin.2).symm
          · rfl
        refine ⟨fun j hj => by rw [hu j hj, hu _ (by omega)]; exact hf.grp j hj, fun j hj h => ?_, fun j hj h k hk => ?_, fun j hj => ?_⟩
        · rw [hu j hj] at h
          show (chgF (chgT y) f (List.range' A N) j).kd = 2
          rw [chg_at]
          split
          · rename_i hin
            rw [hf.grp j hj] at h
            have h8 := nohB_all hkn.2 j hin.1 hin.2
            rw [show hgF f (j / 16) = true from h] at h8
            cases h8
          · exact hf.com j hj h
        · show (chgF (chgT y) f (List.range' A N) j).by' k = 0
          have h2 : (chgF (chgT y) f (List.range' A N) j).kd ≠ 2 := h
          rw [chg_at] at h2 ⊢
          split
          · rfl
          · rename_i hin
            rw [if_neg hin] at h2
            exact hf.zer j hj h2 k hk
        · show 0 ≤ (chgF (chgT y) f (List.range' A N) j).kd ∧ (chgF (chgT y) f (List.range' A N) j).kd ≤ 3
          rw [chg_at]
          split
          · exact hy
          · exact hf.knd j hj
  · exact hf
theorem good_hu {f : Pages} (hf : Good f) {g : Nat} (b : Bool) (hk : b = true → ∀ i, 16 * g ≤ i → i < 16 * g + 16 → (f i).kd = 2) : Good (chgF (fun p => { p with hu := b }) f (List.range' (16 * g) 16)) := by
  refine ⟨fun j hj => ?_, fun j hj h => ?_, fun j hj h k hkk => ?_, fun j hj => ?_⟩
  · rw [chg_at, chg_at]
    by_cases h : 16 * g ≤ j ∧ j < 16 * g + 16
    · rw [if_pos h, if_pos (by omega)]
    · rw [if_neg h, if_neg (by omega)]; exact hf.grp j hj
  · rw [chg_at] at h ⊢
    split at h
    · rename_i hin
      rw [if_pos hin]; exact hk h j hin.1 hin.2
    · rename_i hin
      rw [if_neg hin]; exact hf.com j hj h
  · rw [chg_at] at h ⊢
    split at h
    · rename_i hin
      rw [if_pos hin]; exact hf.zer j hj h k hkk
    · rename_i hin
      rw [if_neg hin]; exact hf.zer j hj h k hkk
  · rw [chg_at]; split <;> exact hf.knd j hj
theorem grp_nat {a : Int} (h : grpB a = true) : ∃ g : Nat, a = ((16 * g : Nat) : Int) ∧ g < 64 := by
  obtain ⟨x, rfl, h1, h2⟩ := grpB_nat h
  exact ⟨x / 16, by omega, by omega⟩
theorem good_join {f : Pages} (hf : Good f) (L : List Ru) (m : Nat → Nat) (a : Int) : Good (opG cJoin f L m a).2.1 := by
  unfold opG
  split
  · rename_i hab
    obtain ⟨g, rfl, hg⟩ := grp_nat hab
    rw [Int.toNat_natCast]
    unfold doA
    split
    · exact hf
    · rename_i hp
      split
      · exact hf
      · rw [posJ hf hg] at hp
        refine good_hu hf true fun _ i h1 h2 => ?_
        have hk : kndB (kdF f) 2 (16 * g) 16 = true := by
          cases h : kndB (kdF f) 2 (16 * g) 16
          · rw [h] at hp; simp at hp
          · rfl
        exact kndB_of hk i h1 h2
  · exact hf
theorem good_split {f : Pages} (hf : Good f) (L : List Ru) (m : Nat → Nat) (a : Int) : Good (opG cSplit f L m a).2.1 := by
  unfold opG
  split
  · rename_i hab
    obtain ⟨g, rfl, _⟩ := grp_nat hab
    rw [Int.toNat_natCast]
    unfold doA
    split
    · exact hf
    · split
      · exact hf
      · exact good_hu hf false fun h => by cases h
  · exact hf
end Go.Proofs.Ytjplihljmohpjaa

/- The reference's calls, one by one. -/
namespace Go.Proofs.Ytjplihljmohpjaa
open Go.RowKit Go.Shelf
attribute [local go_sem] Oper.semAt_some
variable {R : Nat}
theorem grpB_of' {x : Nat} (hx : x < 1024) : grpB (x : Int) = decide (x % 16 = 0) := by
  unfold grpB
  rw [show areB (x : Int) 1 = true by unfold areB; simp; omega, Bool.true_and, Int.tmod_eq_emod_of_nonneg (by omega)]
  rw [Bool.eq_iff_iff]; simp; omega

set_option maxRecDepth 100000 in
theorem RReserve_is (Y : Nat → Prop) (f : Pages) (hf : Good f) (L : List Ru) (hL : OkL L) (m : Nat → Nat) (hm : Sm m) (v : Value) (a n : Int) (ha : I64 a) (w : World) (hs : RfS w R Y f L m v) :
    Calls Try.prog 40 #[.pointer (some ⟨R, 0, none⟩), .int .i64 a, .int .i64 n] w (RLeft R Y L v w (opP (cTurn 0 0 1) f L m a n)) := by
  have HC := Lib.hid (Rchange_is Y f hf L hL m hm 0 (by decide) 0 1 v a n ha w hs)
  clear hs hf
  go_enter Try.func40, Try.ntmps40
  go_wp2_with fail
  refine HC.out.mono ?_
  rintro e w2 ⟨rfl, h2, h3⟩
  go_wp2_with fail
  go_ret
  exact ⟨rfl, h2, h3⟩
set_option maxRecDepth 100000 in
theorem RRelease_is (Y : Nat → Prop) (f : Pages) (hf : Good f) (L : List Ru) (hL : OkL L) (m : Nat → Nat) (hm : Sm m) (v : Value) (a n : Int) (ha : I64 a) (w : World) (hs : RfS w R Y f L m v) :
    Calls Try.prog 41 #[.pointer (some ⟨R, 0, none⟩), .int .i64 a, .int .i64 n] w (RLeft R Y L v w (opP (cTurn 1 1 0) f L m a n)) := by
  have HC := Lib.hid (Rchange_is Y f hf L hL m hm 1 (by decide) 1 0 v a n ha w hs)
  clear hs hf
  go_enter Try.func41, Try.ntmps41
  go_wp2_with fail
  refine HC.out.mono ?_
  rintro e w2 ⟨rfl, h2, h3⟩
  go_wp2_with fail
  go_ret
  exact ⟨rfl, h2, h3⟩
set_option maxRecDepth 100000 in
theorem RCommit_is (Y : Nat → Prop) (f : Pages) (hf : Good f) (L : List Ru) (hL : OkL L) (m : Nat → Nat) (hm : Sm m) (v : Value) (a n : Int) (ha : I64 a) (w : World) (hs : RfS w R Y f L m v) :
    Calls Try.prog 42 #[.pointer (some ⟨R, 0, none⟩), .int .i64 a, .int .i64 n] w (RLeft R Y L v w (opP (cTurn 2 1 2) f L m a n)) := by
  have HC := Lib.hid (Rchange_is Y f hf L hL m hm 2 (by decide) 1 2 v a n ha w hs)
  clear hs hf
  go_enter Try.func42, Try.ntmps42
  go_wp2_with fail
  refine HC.out.mono ?_
  rintro e w2 ⟨rfl, h2, h3⟩
  go_wp2_with fail
  go_ret
  exact ⟨rfl, h2, h3⟩
set_option maxRecDepth 100000 in
theorem RDecommit_is (Y : Nat → Prop) (f : Pages) (hf : Good f) (L : List Ru) (hL : OkL L) (m : Nat → Nat) (hm : Sm m) (v : Value) (a n : Int) (ha : I64 a) (w : World) (hs : RfS w R Y f L m v) :
    Calls Try.prog 43 #[.pointer (some ⟨R, 0, none⟩), .int .i64 a, .int .i64 n] w (RLeft R Y L v w (opP (cTurn 3 2 1) f L m a n)) := by
  have HC := Lib.hid (Rchange_is Y f hf L hL m hm 3 (by decide) 2 1 v a n ha w hs)
  clear hs hf
  go_enter Try.func43, Try.ntmps43
  go_wp2_with fail
  refine HC.out.mono ?_
  rintro e w2 ⟨rfl, h2, h3⟩
  go_wp2_with fail
  go_ret
  exact ⟨rfl, h2, h3⟩
set_option maxRecDepth 100000 in
theorem RGuard_is (Y : Nat → Prop) (f : Pages) (hf : Good f) (L : List Ru) (hL : OkL L) (m : Nat → Nat) (hm : Sm m) (v : Value) (a n : Int) (ha : I64 a) (w : World) (hs : RfS w R Y f L m v) :
    Calls Try.prog 44 #[.pointer (some ⟨R, 0, none⟩), .int .i64 a, .int .i64 n, .bool true] w (RLeft R Y L v w (opP (cTurn 4 1 3) f L m a n)) := by
  have HC := Lib.hid (Rchange_is Y f hf L hL m hm 4 (by decide) 1 3 v a n ha w hs)
  clear hs hf
  go_enter Try.func44, Try.ntmps44
  go_wp2_with fail
  refine HC.out.mono ?_
  rintro e w2 ⟨rfl, h2, h3⟩
  go_wp2_with fail
  go_ret
  exact ⟨rfl, h2, h3⟩
set_option maxRecDepth 100000 in
theorem RUnguard_is (Y : Nat → Prop) (f : Pages) (hf : Good f) (L : List Ru) (hL : OkL L) (m : Nat → Nat) (hm : Sm m) (v : Value) (a n : Int) (ha : I64 a) (w : World) (hs : RfS w R Y f L m v) :
    Calls Try.prog 44 #[.pointer (some ⟨R, 0, none⟩), .int .i64 a, .int .i64 n, .bool false] w (RLeft R Y L v w (opP (cTurn 4 3 1) f L m a n)) := by
  have HC := Lib.hid (Rchange_is Y f hf L hL m hm 4 (by decide) 3 1 v a n ha w hs)
  clear hs hf
  go_enter Try.func44, Try.ntmps44
  go_wp2_with fail
  refine HC.out.mono ?_
  rintro e w2 ⟨rfl, h2, h3⟩
  go_wp2_with fail
  go_ret
  exact ⟨rfl, h2, h3⟩
set_option maxRecDepth 100000 in
set_option maxHeartbeats 2000000 in
theorem RJoin_is (Y : Nat → Prop) (f : Pages) (hf : Good f) (L : List Ru) (hL : OkL L) (m : Nat → Nat) (hm : Sm m) (v : Value) (a : Int) (w : World) (hs : RfS w R Y f L m v) :
    Calls Try.prog 46 #[.pointer (some ⟨R, 0, none⟩), .int .i64 a] w (RLeft R Y L v w (opG cJoin f L m a)) := by
  obtain ⟨r, hr⟩ : ∃ r, opG cJoin f L m a = r := ⟨_, rfl⟩
  rw [hr]
  unfold opG at hr
  have HS := Lib.hid hs
  have hal : Try.prog.arrayLen 87 = 64 := by kernel_rfl
  obtain ⟨pb, hpb⟩ : ∃ b, (decide (0 ≤ a) && decide (a < 1024)) = b := ⟨_, rfl⟩
  have HP := Lib.hid (Rpage_is a pb hpb w)
  cases pb
  · obtain rfl : r = (7, f, m) := by
      rw [← hr, if_neg]
      intro h
      obtain ⟨g, rfl, hg⟩ := grp_nat h
      simp at hpb
      omega
    clear hr hpb
    go_enter Try.func46, Try.ntmps46
    go_wp2_with fail
    refine HP.out.mono ?_
    rintro e w' ⟨rfl, rfl⟩
    go_wp2_with fail
    go_ret
    exact ⟨rfl, HS.out, Keep.refl _ _⟩
  · simp at hpb
    obtain ⟨q, hq⟩ : ∃ q, a.tmod 16 = q := ⟨_, rfl⟩
    have hq2 := hq
    rw [Int.tmod_eq_emod_of_nonneg hpb.1] at hq2
    by_cases h0 : q = 0
    · have hqb : (q != 0) = false := by simpa using h0
      obtain ⟨g, rfl⟩ : ∃ g : Nat, a = ((16 * g : Nat) : Int) := ⟨(a / 16).toNat, by omega⟩
      have hg : g < 64 := by omega
      rw [if_pos (by rw [grpB_of' (by omega)]; simp), Int.toNat_natCast] at hr
      unfold doA at hr
      rw [posJ hf hg] at hr
      have hdiv : ((16 * g : Nat) : Int).tdiv 16 = (g : Int) := by rw [Int.tdiv_eq_ediv_of_nonneg (by omega)]; omega
      have hcc := hs.row.ch g hg
      have hg1 : (g : Int) < 64 := by omega
      obtain ⟨T, hT⟩ : ∃ T, ((16 * g : Nat) : Int) = T := ⟨_, rfl⟩
      have HK := Lib.hid (Rkinds_is (16 * g) 16 2 (by omega) w hs.row)
      rw [hT] at HK HP hdiv hq hpb ⊢
      obtain ⟨hb, hhb⟩ : ∃ b, hgF f g = b := ⟨_, rfl⟩
      obtain ⟨kb, hkb⟩ : ∃ b, kndB (kdF f) 2 (16 * g) 16 = b := ⟨_, rfl⟩
      rw [hhb] at hcc hr
      rw [hkb] at HK hr
      have HR := Lib.hid hr
      have HHB := Lib.hid hhb
      clear hr hT hhb hkb hq2 hs
      cases kb
      · have HR2 : Hid (r = (9, f, m)) := by unfold Hid; rw [← HR.out]; simp
        go_enter Try.func46, Try.ntmps46
        go_wp2_with fail
        refine HP.out.mono ?_
        rintro e w' ⟨rfl, rfl⟩
        go_wp2_with fail
        refine HK.out.mono ?_
        rintro e w' ⟨rfl, rfl⟩
        go_wp2_with fail
        go_ret
        rw [HR2.out]
        exact ⟨rfl, HS.out, Keep.refl _ _⟩
      · cases hb
        · simp at HR
          go_enter Try.func46, Try.ntmps46
          go_wp2_with fail
          refine HP.out.mono ?_
          rintro e w' ⟨rfl, rfl⟩
          go_wp2_with fail
          refine HK.out.mono ?_
          rintro e w' ⟨rfl, rfl⟩
          go_wp2_with fail
          refine (Rrefusd_is Y L hL m hm 5 (by decide) v w HS.out).mono ?_
          rintro e w2 ⟨rfl, s2, k2⟩
          obtain ⟨rb, hrb⟩ : ∃ b, refP L 5 (m 5 + 1) = b := ⟨_, rfl⟩
          rw [hrb] at HR ⊢
          cases rb
          · have hc2 := s2.row.ch g hg
            have hf2 := s2.row.frozen (1024 + g)
            have hS3 := s2.row.setH g hg true
            go_wp2_with fail
            go_ret
            have h9 := HR.out
            simp only [Bool.false_eq_true, if_false] at h9
            rw [← h9]
            have k3 : Keep (· = R) w2 (w2.setCell ⟨R, 1024 + g, none⟩ (.bool true)) := (Keep.refl _ _).setCell _ _ (.inl rfl)
            refine ⟨rfl, s2.cells k3 (hS3.congr (fun j hj => ?_) (fun i hi => ?_) (fun j hj i hi => ?_)), k2.trans k3⟩
            · show _ = (chgF chgJ f (List.range' (16 * g) 16) j).kd
              rw [chg_at]; split <;> rfl
            · show _ = (chgF chgJ f (List.range' (16 * g) 16) (16 * i)).hu
              rw [chg_at]
              by_cases e : i = g
              · rw [if_pos e, if_pos (by omega)]; rfl
              · rw [if_neg e, if_neg (by omega)]
            · show _ = (chgF chgJ f (List.range' (16 * g) 16) j).by' i
              rw [chg_at]; split <;> rfl
          · go_wp2_with fail
            go_ret
            have h9 := HR.out
            simp only [if_true] at h9
            rw [← h9]
            exact ⟨rfl, s2, k2⟩
        · have HR2 : Hid (r = (8, f, m)) := by unfold Hid; rw [← HR.out]; simp
          go_enter Try.func46, Try.ntmps46
          go_wp2_with fail
          refine HP.out.mono ?_
          rintro e w' ⟨rfl, rfl⟩
          go_wp2_with fail
          refine HK.out.mono ?_
          rintro e w' ⟨rfl, rfl⟩
          go_wp2_with fail
          go_ret
          rw [HR2.out]
          exact ⟨rfl, HS.out, Keep.refl _ _⟩
    · have hqb : (q != 0) = true := by simpa using h0
      obtain rfl : r = (7, f, m) := by
        rw [← hr, if_neg]
        intro h
        obtain ⟨g, rfl, hg⟩ := grp_nat h
        omega
      clear hr hpb hq2
      go_enter Try.func46, Try.ntmps46
      go_wp2_with fail
      refine HP.out.mono ?_
      rintro e w' ⟨rfl, rfl⟩
      go_wp2_with fail
      go_ret
      exact ⟨rfl, HS.out, Keep.refl _ _⟩
set_option maxRecDepth 100000 in
set_option maxHeartbeats 2000000 in
theorem RSplit_is (Y : Nat → Prop) (f : Pages) (hf : Good f) (L : List Ru) (hL : OkL L) (m : Nat → Nat) (hm : Sm m) (v : Value) (a : Int) (w : World) (hs : RfS w R Y f L m v) :
    Calls Try.prog 47 #[.pointer (some ⟨R, 0, none⟩), .int .i64 a] w (RLeft R Y L v w (opG cSplit f L m a)) := by
  obtain ⟨r, hr⟩ : ∃ r, opG cSplit f L m a = r := ⟨_, rfl⟩
  rw [hr]
  unfold opG at hr
  have HS := Lib.hid hs
  have hal : Try.prog.arrayLen 87 = 64 := by kernel_rfl
  obtain ⟨pb, hpb⟩ : ∃ b, (decide (0 ≤ a) && decide (a < 1024)) = b := ⟨_, rfl⟩
  have HP := Lib.hid (Rpage_is a pb hpb w)
  cases pb
  · obtain rfl : r = (7, f, m) := by
      rw [← hr, if_neg]
      intro h
      obtain ⟨g, rfl, hg⟩ := grp_nat h
      simp at hpb
      omega
    clear hr hpb
    go_enter Try.func47, Try.ntmps47
    go_wp2_with fail
    refine HP.out.mono ?_
    rintro e w' ⟨rfl, rfl⟩
    go_wp2_with fail
    go_ret
    exact ⟨rfl, HS.out, Keep.refl _ _⟩
  · simp at hpb
    obtain ⟨q, hq⟩ : ∃ q, a.tmod 16 = q := ⟨_, rfl⟩
    have hq2 := hq
    rw [Int.tmod_eq_emod_of_nonneg hpb.1] at hq2
    by_cases h0 : q = 0
    · have hqb : (q != 0) = false := by simpa using h0
      obtain ⟨g, rfl⟩ : ∃ g : Nat, a = ((16 * g : Nat) : Int) := ⟨(a / 16).toNat, by omega⟩
      have hg : g < 64 := by omega
      rw [if_pos (by rw [grpB_of' (by omega)]; simp), Int.toNat_natCast] at hr
      unfold doA at hr
      rw [posS hf hg] at hr
      have hdiv : ((16 * g : Nat) : Int).tdiv 16 = (g : Int) := by rw [Int.tdiv_eq_ediv_of_nonneg (by omega)]; omega
      have hcc := hs.row.ch g hg
      have hg1 : (g : Int) < 64 := by omega
      obtain ⟨T, hT⟩ : ∃ T, ((16 * g : Nat) : Int) = T := ⟨_, rfl⟩
      have HK := Lib.hid (Rkinds_is (16 * g) 16 2 (by omega) w hs.row)
      rw [hT] at HK HP hdiv hq hpb ⊢
      obtain ⟨hb, hhb⟩ : ∃ b, hgF f g = b := ⟨_, rfl⟩
      obtain ⟨kb, hkb⟩ : ∃ b, kndB (kdF f) 2 (16 * g) 16 = b := ⟨_, rfl⟩
      rw [hhb] at hcc hr
      rw [hkb] at HK
      have HR := Lib.hid hr
      have HHB := Lib.hid hhb
      clear hr hT hhb hkb hq2 hs
      cases hb
      · have HR2 : Hid (r = (9, f, m)) := by unfold Hid; rw [← HR.out]; simp
        go_enter Try.func47, Try.ntmps47
        go_wp2_with fail
        refine HP.out.mono ?_
        rintro e w' ⟨rfl, rfl⟩
        go_wp2_with fail
        go_ret
        rw [HR2.out]
        exact ⟨rfl, HS.out, Keep.refl _ _⟩
      · simp at HR
        go_enter Try.func47, Try.ntmps47
        go_wp2_with fail
        refine HP.out.mono ?_
        rintro e w' ⟨rfl, rfl⟩
        go_wp2_with fail
        refine (Rrefusd_is Y L hL m hm 6 (by decide) v w HS.out).mono ?_
        rintro e w2 ⟨rfl, s2, k2⟩
        obtain ⟨rb, hrb⟩ : ∃ b, refP L 6 (m 6 + 1) = b := ⟨_, rfl⟩
        rw [hrb] at HR ⊢
        cases rb
        · have hc2 := s2.row.ch g hg
          have hf2 := s2.row.frozen (1024 + g)
          have hS3 := s2.row.setH g hg false
          go_wp2_with fail
          go_ret
          have h9 := HR.out
          simp only [Bool.false_eq_true, if_false] at h9
          rw [← h9]
          have k3 : Keep (· = R) w2 (w2.setCell ⟨R, 1024 + g, none⟩ (.bool false)) := (Keep.refl _ _).setCell _ _ (.inl rfl)
          refine ⟨rfl, s2.cells k3 (hS3.congr (fun j hj => ?_) (fun i hi => ?_) (fun j hj i hi => ?_)), k2.trans k3⟩
          · show _ = (chgF chgS f (List.range' (16 * g) 16) j).kd
            rw [chg_at]; split <;> rfl
          · show _ = (chgF chgS f (List.range' (16 * g) 16) (16 * i)).hu
            rw [chg_at]
            by_cases e : i = g
            · rw [if_pos e, if_pos (by omega)]; rfl
            · rw [if_neg e, if_neg (by omega)]
          · show _ = (chgF chgS f (List.range' (16 * g) 16) j).by' i
            rw [chg_at]; split <;> rfl
        · go_wp2_with fail
          go_ret
          have h9 := HR.out
          simp only [if_true] at h9
          rw [← h9]
          exact ⟨rfl, s2, k2⟩
    · have hqb : (q != 0) = true := by simpa using h0
      obtain rfl : r = (7, f, m) := by
        rw [← hr, if_neg]
        intro h
        obtain ⟨g, rfl, hg⟩ := grp_nat h
        omega
      clear hr hpb hq2
      go_enter Try.func47, Try.ntmps47
      go_wp2_with fail
      refine HP.out.mono ?_
      rintro e w' ⟨rfl, rfl⟩
      go_wp2_with fail
      go_ret
      exact ⟨rfl, HS.out, Keep.refl _ _⟩
end Go.Proofs.Ytjplihljmohpjaa

/- The reference: bytes, kinds, plans. -/
namespace Go.Proofs.Ytjplihljmohpjaa
open Go.RowKit Go.Shelf
attribute [local go_sem] Oper.semAt_some
variable {R : Nat} {kd : Nat → Int} {hg : Nat → Bool} {bt : Nat → Nat → Int} {st : Array Value}

set_option maxRecDepth 100000 in
theorem Rwhere_far (t : Int) (ht : t < 0 ∨ 65536 ≤ t) (w : World) (s : Value) :
    Calls Try.prog 81 #[s, .int .i64 t] w fun e w' => e = .returned (.tuple #[.int .i64 0, .int .i64 0, .int .i64 7]) ∧ w = w' := by
  by_cases h0 : t < 0
  · clear ht
    go_enter Try.func81, Try.ntmps81
    go_wp2_with fail
    go_ret3
    exact ⟨rfl, rfl⟩
  · have h1 : 65536 ≤ t := by omega
    clear ht
    go_enter Try.func81, Try.ntmps81
    go_wp2_with fail
    go_ret3
    exact ⟨rfl, rfl⟩
set_option maxRecDepth 100000 in
set_option maxHeartbeats 1000000 in
theorem Rwhere_is (j k : Nat) (hj : j < 1024) (hk : k < 64) (w : World) (hr : RAtS w R kd hg bt st) :
    Calls Try.prog 81 #[.pointer (some ⟨R, 0, none⟩), .int .i64 ((64 * j + k : Nat) : Int)] w fun e w' =>
      e = .returned (if kd j = 2 then .tuple #[.int .i64 (j : Int), .int .i64 (k : Int), .int .i64 0] else .tuple #[.int .i64 0, .int .i64 0, .int .i64 61]) ∧ w = w' := by
  have c1 := hr.ck j hj
  have hal : Try.prog.arrayLen 86 = 1024 := by kernel_rfl
  obtain ⟨hq1, hq2⟩ := addr_num j k hk
  obtain ⟨t, ht⟩ : ∃ t, ((64 * j + k : Nat) : Int) = t := ⟨_, rfl⟩
  rw [ht] at hq1 hq2 ⊢
  have ht1 : ¬ t < 0 := by omega
  have ht2 : ¬ 65536 ≤ t := by omega
  have hj1 : (j : Int) < 1024 := by omega
  generalize kd j = x at c1 ⊢
  clear ht hr
  by_cases hx : x = 2
  · subst hx
    rw [if_pos rfl]
    go_enter Try.func81, Try.ntmps81
    go_wp2_with fail
    go_ret3
    exact ⟨rfl, rfl⟩
  · rw [if_neg hx]
    have hx2 : (x != 2) = true := by simpa using hx
    go_enter Try.func81, Try.ntmps81
    go_wp2_with fail
    go_ret3
    exact ⟨rfl, rfl⟩
set_option maxRecDepth 100000 in
set_option maxHeartbeats 1000000 in
theorem RRead_is (f : Pages) (t : Int) (w : World) (hr : RAtS w R (kdF f) (hgF f) (btF f) st) (r : Int × Int) (hrd : rdE f t = r) :
    Calls Try.prog 49 #[.pointer (some ⟨R, 0, none⟩), .int .i64 t] w fun e w' => e = .returned (.tuple #[.int .u8 r.1, .int .i64 r.2]) ∧ w = w' := by
  unfold rdE at hrd
  by_cases h0 : t < 0 ∨ 65536 ≤ t
  · rw [if_pos h0] at hrd
    subst hrd
    have HM := Lib.hid (Rwhere_far t h0 w (.pointer (some ⟨R, 0, none⟩)))
    clear h0 hr
    go_enter Try.func49, Try.ntmps49
    go_wp2_with fail
    refine HM.out.mono ?_
    rintro e w' ⟨rfl, rfl⟩
    go_wp2_with fail
    go_ret2
    exact ⟨rfl, rfl⟩
  · rw [if_neg h0] at hrd
    obtain ⟨j, k, rfl, hj, hk, e1, e2⟩ := addr_split h0
    rw [e1, e2] at hrd
    have HM := Lib.hid (Rwhere_is j k hj hk w hr)
    have c2 := hr.cb j hj k hk
    have hj1 : (j : Int) < 1024 := by omega
    have hk1 : (k : Int) < 64 := by omega
    have hal2 : Try.prog.arrayLen 89 = 1024 := by kernel_rfl
    have hal3 : Try.prog.arrayLen 88 = 64 := by kernel_rfl
    clear h0 e1 e2 hr
    obtain ⟨t, ht⟩ : ∃ t, ((64 * j + k : Nat) : Int) = t := ⟨_, rfl⟩
    rw [ht] at HM ⊢
    clear ht
    by_cases hx : (f j).kd = 2
    · rw [if_pos hx] at hrd
      have hx' : kdF f j = 2 := hx
      rw [if_pos hx'] at HM
      subst hrd
      clear hx hx'
      go_enter Try.func49, Try.ntmps49
      go_wp2_with fail
      refine HM.out.mono ?_
      rintro e w' ⟨rfl, rfl⟩
      go_wp2_with fail
      go_ret2
      exact ⟨rfl, rfl⟩
    · rw [if_neg hx] at hrd
      have hx' : ¬ kdF f j = 2 := hx
      rw [if_neg hx'] at HM
      subst hrd
      clear hx hx' c2
      go_enter Try.func49, Try.ntmps49
      go_wp2_with fail
      refine HM.out.mono ?_
      rintro e w' ⟨rfl, rfl⟩
      go_wp2_with fail
      go_ret2
      exact ⟨rfl, rfl⟩
set_option maxRecDepth 100000 in
set_option maxHeartbeats 1000000 in
theorem RWrite_is (Y : Nat → Prop) (f : Pages) (L : List Ru) (m : Nat → Nat) (v : Value) (t b : Int) (w : World) (hs : RfS w R Y f L m v) (e : Int) (he : (rdE f t).2 = e) :
    Calls Try.prog 48 #[.pointer (some ⟨R, 0, none⟩), .int .i64 t, .int .u8 b] w fun x w' => x = .returned (.int .i64 e) ∧ RfS w' R Y (wrF f t b) L m v ∧ Keep (· = R) w w' := by
  have HS := Lib.hid hs
  unfold rdE at he
  obtain ⟨g, hg⟩ : ∃ g, wrF f t b = g := ⟨_, rfl⟩
  rw [hg]
  unfold wrF at hg
  by_cases h0 : t < 0 ∨ 65536 ≤ t
  · rw [if_pos h0] at he hg
    subst he; subst hg
    have HM := Lib.hid (Rwhere_far t h0 w (.pointer (some ⟨R, 0, none⟩)))
    clear h0
    go_enter Try.func48, Try.ntmps48
    go_wp2_with fail
    refine HM.out.mono ?_
    rintro e w' ⟨rfl, rfl⟩
    go_wp2_with fail
    go_ret
    exact ⟨rfl, HS.out, Keep.refl _ _⟩
  · rw [if_neg h0] at he hg
    obtain ⟨j, k, rfl, hj, hk, e1, e2⟩ := addr_split h0
    rw [e1, e2] at he hg
    have HM := Lib.hid (Rwhere_is j k hj hk w hs.row)
    have c2 := hs.row.cb j hj k hk
    have c3 := hs.row.frozen (1088 + j * 64 + k)
    have hj1 : (j : Int) < 1024 := by omega
    have hk1 : (k : Int) < 64 := by omega
    have hal2 : Try.prog.arrayLen 89 = 1024 := by kernel_rfl
    have hal3 : Try.prog.arrayLen 88 = 64 := by kernel_rfl
    clear h0 e1 e2 hs
    obtain ⟨t, ht⟩ : ∃ t, ((64 * j + k : Nat) : Int) = t := ⟨_, rfl⟩
    rw [ht] at HM ⊢
    clear ht
    by_cases hx : (f j).kd = 2
    · rw [if_pos hx] at he hg
      have hx' : kdF f j = 2 := hx
      rw [if_pos hx'] at HM
      subst he
      have HG := Lib.hid hg
      clear hx hx' hg
      go_enter Try.func48, Try.ntmps48
      go_wp2_with fail
      refine HM.out.mono ?_
      rintro e w' ⟨rfl, rfl⟩
      go_wp2_with fail
      go_ret
      have hK : Keep (· = R) w (w.setCell ⟨R, 1088 + j * 64 + k, none⟩ (.int .u8 b)) := (Keep.refl _ _).setCell _ _ (.inl rfl)
      have h9 := HS.out.row.setB j hj k hk b
      rw [← HG.out]
      refine ⟨rfl, HS.out.cells hK (h9.congr (fun i hi => ?_) (fun i hi => ?_) (fun i hi q hq => ?_)), hK⟩
      · show (f i).kd = (updP f j _ i).kd
        unfold updP; split
        · rename_i e; subst e; rfl
        · rfl
      · show (f (16 * i)).hu = (updP f j _ (16 * i)).hu
        unfold updP; split
        · rename_i e; rw [← e]
        · rfl
      · show (if i = j ∧ q = k then b else (f i).by' q) = (updP f j _ i).by' q
        unfold updP
        by_cases e : i = j
        · subst e
          by_cases e2 : q = k
          · simp [e2]
          · simp [e2]
        · simp [e]
    · rw [if_neg hx] at he hg
      have hx' : ¬ kdF f j = 2 := hx
      rw [if_neg hx'] at HM
      subst he; subst hg
      clear hx hx' c2
      go_enter Try.func48, Try.ntmps48
      go_wp2_with fail
      refine HM.out.mono ?_
      rintro e w' ⟨rfl, rfl⟩
      go_wp2_with fail
      go_ret
      exact ⟨rfl, HS.out, Keep.refl _ _⟩
theorem areB_page {a : Int} : areB a 1 = (decide (0 ≤ a) && decide (a < 1024)) := by
  unfold areB; rw [Bool.eq_iff_iff]; simp; omega
set_option maxRecDepth 100000 in
set_option maxHeartbeats 1000000 in
theorem RKind_is (f : Pages) (hf : Good f) (a : Int) (w : World) (hr : RAtS w R (kdF f) (hgF f) (btF f) st) (r : Int × Bool × Int) (hk : knE f a = r) :
    Calls Try.prog 50 #[.pointer (some ⟨R, 0, none⟩), .int .i64 a] w fun e w' => e = .returned (.tuple #[.int .i64 r.1, .bool r.2.1, .int .i64 r.2.2]) ∧ Below w.heap.size w w' := by
  unfold knE at hk
  obtain ⟨pb, hpb⟩ : ∃ b, (decide (0 ≤ a) && decide (a < 1024)) = b := ⟨_, rfl⟩
  have HP := Lib.hid (Rpage_is a pb hpb w)
  rw [areB_page, hpb] at hk
  cases pb
  · rw [if_neg (by simp)] at hk
    subst hk
    clear hpb hr
    go_enter Try.func50, Try.ntmps50
    go_wp2_with fail
    refine HP.out.mono ?_
    rintro e w' ⟨rfl, rfl⟩
    go_wp2_with fail
    go_ret3
    exact ⟨rfl, Below.refl _ _⟩
  · rw [if_pos rfl] at hk
    simp at hpb
    obtain ⟨j, rfl⟩ : ∃ j : Nat, a = (j : Int) := ⟨a.toNat, by omega⟩
    rw [Int.toNat_natCast] at hk
    have hj : j < 1024 := by omega
    have c1 := hr.ck j hj
    have c2 := hr.ch (j / 16) (by omega)
    rw [show hgF f (j / 16) = (f j).hu from (hf.grp j hj).symm] at c2
    have hal : Try.prog.arrayLen 86 = 1024 := by kernel_rfl
    have hal2 : Try.prog.arrayLen 87 = 64 := by kernel_rfl
    obtain ⟨u, hu⟩ : ∃ u, j / 16 = u := ⟨_, rfl⟩
    rw [hu] at c2
    have hdiv : (j : Int).tdiv 16 = (u : Int) := by rw [Int.tdiv_eq_ediv_of_nonneg (by omega)]; omega
    have hw : IntKind.i64.wrap (u : Int) = (u : Int) := by rw [IntKind.wrap_i64]; omega
    have d1 : decide ((j : Int) < 0) = false := by simp
    have d2 : decide ((1024 : Int) ≤ (j : Int)) = false := by simp; omega
    have d3 : decide ((u : Int) < 0) = false := by simp
    have d4 : decide ((64 : Int) ≤ (u : Int)) = false := by simp; omega
    have HK := Lib.hid hk
    have hj1 : (j : Int) < 1024 := by omega
    have hu1 : (u : Int) < 64 := by omega
    clear hk hu hpb hr hf
    go_enter Try.func50, Try.ntmps50
    go_wp2_with fail
    refine HP.out.mono ?_
    rintro e w' ⟨rfl, rfl⟩
    go_wp2_with fail
    go_quiet (fail)
    go_wp2_with fail
    go_ret3
    rw [← HK.out]
    exact ⟨rfl, below_drewN (Below.refl _ _) _⟩
end Go.Proofs.Ytjplihljmohpjaa

/- The reference's counts; plans; New. -/
namespace Go.Proofs.Ytjplihljmohpjaa
open Go.RowKit Go.Shelf
attribute [local go_sem] Oper.semAt_some
variable {R : Nat} {kd : Nat → Int} {hg : Nat → Bool} {bt : Nat → Nat → Int} {st : Array Value}

abbrev v4 (a b c d : Nat) : Array Value := #[.int .i64 (a : Int), .int .i64 (b : Int), .int .i64 (c : Int), .int .i64 (d : Int)]
def FBx (W : World) (g : Nat) (a b c d : Nat) : Prop := W.heap[g]? = some (.cells (v4 a b c d) 65 (0, 0))
theorem FBx.lt {W : World} {g a b c d : Nat} (s : FBx W g a b c d) : g < W.heap.size := (Array.getElem?_eq_some_iff.1 s).1
theorem FBx.frozen {W : World} {g a b c d : Nat} (s : FBx W g a b c d) (j : Nat) : W.frozen? ⟨g, j, none⟩ = false := by unfold FBx at s; simp [World.frozen?, s]
theorem FBx.c0 {W : World} {g a b c d : Nat} (s : FBx W g a b c d) : W.cell? ⟨g, 0, none⟩ = some (.int .i64 (a : Int)) := by unfold FBx at s; simp [World.cell?, s]
theorem FBx.i0 {W : World} {g a b c d : Nat} (s : FBx W g a b c d) : FBx (W.setCell ⟨g, 0, none⟩ (.int .i64 ((a : Int) + 1))) g (a + 1) b c d := heap_setCell_same W g 0 _ _ _ s
theorem FBx.c1 {W : World} {g a b c d : Nat} (s : FBx W g a b c d) : W.cell? ⟨g, 1, none⟩ = some (.int .i64 (b : Int)) := by unfold FBx at s; simp [World.cell?, s]
theorem FBx.i1 {W : World} {g a b c d : Nat} (s : FBx W g a b c d) : FBx (W.setCell ⟨g, 1, none⟩ (.int .i64 ((b : Int) + 1))) g a (b + 1) c d := heap_setCell_same W g 1 _ _ _ s
theorem FBx.c2 {W : World} {g a b c d : Nat} (s : FBx W g a b c d) : W.cell? ⟨g, 2, none⟩ = some (.int .i64 (c : Int)) := by unfold FBx at s; simp [World.cell?, s]
theorem FBx.i2 {W : World} {g a b c d : Nat} (s : FBx W g a b c d) : FBx (W.setCell ⟨g, 2, none⟩ (.int .i64 ((c : Int) + 1))) g a b (c + 1) d := heap_setCell_same W g 2 _ _ _ s
theorem FBx.c3 {W : World} {g a b c d : Nat} (s : FBx W g a b c d) : W.cell? ⟨g, 3, none⟩ = some (.int .i64 (d : Int)) := by unfold FBx at s; simp [World.cell?, s]
theorem FBx.i3 {W : World} {g a b c d : Nat} (s : FBx W g a b c d) : FBx (W.setCell ⟨g, 3, none⟩ (.int .i64 ((d : Int) + 1))) g a b c (d + 1) := heap_setCell_same W g 3 _ _ _ s
theorem cnH_append (f : Pages) : ∀ (l r : List Nat), cnH f (l ++ r) = cnH f l + cnH f r
  | [], r => by rw [List.nil_append]; show _ = 0 + _; omega
  | j :: l, r => by show _ + cnH f (l ++ r) = _ + cnH f l + _; rw [cnH_append f l r]; omega
theorem cnH_grp (f : Pages) (g : Nat) : ∀ k, k ≤ 16 → cnH f (List.range' (16 * g) k) = if k = 0 then 0 else if (f (16 * g)).hu = true then 1 else 0
  | 0, _ => rfl
  | k + 1, h => by
    rw [List.range'_concat, Nat.one_mul, cnH_snoc, cnH_grp f g k (by omega), if_neg (by omega : ¬ k + 1 = 0)]
    by_cases e : k = 0
    · subst e
      rw [if_pos rfl, Nat.add_zero]
      by_cases hu : (f (16 * g)).hu = true
      · rw [if_pos ⟨hu, by omega⟩, if_pos hu]
      · rw [if_neg (fun h => hu h.1), if_neg hu]
    · rw [if_neg e, if_neg (show ¬ ((f (16 * g + k)).hu = true ∧ (16 * g + k) % 16 = 0) from fun h2 => by have := h2.2; omega), Nat.add_zero]
/-- How many groups are huge. -/
def cnG (hg : Nat → Bool) : Nat → Nat
  | 0 => 0
  | g + 1 => cnG hg g + if hg g = true then 1 else 0
theorem cnG_is (f : Pages) : ∀ i, cnH f (List.range' 0 (16 * i)) = cnG (hgF f) i
  | 0 => rfl
  | i + 1 => by
    have e : List.range' 0 (16 * (i + 1)) = List.range' 0 (16 * i) ++ List.range' (16 * i) 16 := by
      rw [show 16 * (i + 1) = 16 * i + 16 by omega, ← List.range'_append_1, Nat.zero_add]
    rw [e, cnH_append, cnG_is f i, cnH_grp f i 16 (Nat.le_refl _), if_neg (by decide)]
    rfl
theorem cnG_le (hg : Nat → Bool) : ∀ i, cnG hg i ≤ i
  | 0 => Nat.le_refl _
  | i + 1 => by have := cnG_le hg i; show cnG hg i + (if _ then 1 else 0) ≤ _; split <;> omega
theorem cnK_len1 (f : Pages) (k : Int) (n : Nat) : cnK f k (List.range' 0 n) ≤ n := by have := cnK_len f k (List.range' 0 n); rwa [List.length_range'] at this
theorem cnK_step (f : Pages) (k : Int) (n : Nat) : cnK f k (List.range' 0 (n + 1)) = cnK f k (List.range' 0 n) + if (f n).kd = k then 1 else 0 := by
  rw [List.range'_concat, Nat.one_mul, Nat.zero_add, cnK_snoc]
theorem cboxes (w : World) : ∃ W, (w.alloc (.cells #[.int .i64 0, .int .i64 0, .int .i64 0, .int .i64 0, .int .i64 0] 67)).alloc (.cells #[.int .i64 0, .int .i64 0, .int .i64 0, .int .i64 0] 65) = W ∧ Below w.heap.size w W ∧ NBx W w.heap.size 0 0 0 0 0 ∧ FBx W (w.heap.size + 1) 0 0 0 0 := by
  refine ⟨_, rfl, ((Below.refl _ _).alloc (Nat.le_refl _) _).alloc (by simp) _, (Below.heap_alloc _ _ _ (by simp)).trans (World.alloc_heap_new w _), ?_⟩
  have := World.alloc_heap_new (w.alloc (.cells #[.int .i64 0, .int .i64 0, .int .i64 0, .int .i64 0, .int .i64 0] 67)) (.cells #[.int .i64 0, .int .i64 0, .int .i64 0, .int .i64 0] 65)
  rw [World.size_alloc] at this
  exact this
set_option maxRecDepth 100000 in
set_option maxHeartbeats 4000000 in
theorem RCounts_is (f : Pages) (hf : Good f) (w : World) (hr : RAtS w R (kdF f) (hgF f) (btF f) st) :
    Calls Try.prog 51 #[.pointer (some ⟨R, 0, none⟩)] w fun e w' => e = .returned (.agg (cnV f (List.range' 0 1024))) ∧ Below w.heap.size w w' := by
  have HR := Lib.hid hr
  have HF := Lib.hid hf
  have hal : Try.prog.arrayLen 86 = 1024 := by kernel_rfl
  have hal2 : Try.prog.arrayLen 87 = 64 := by kernel_rfl
  have hal3 : Try.prog.arrayLen 65 = 4 := by kernel_rfl
  obtain ⟨W1, hW1, hb1, bR, bF⟩ := cboxes w
  have hRl := hr.lt
  clear hr hf
  go_enter Try.func51, Try.ntmps51
  go_wp2_with fail
  try rw [hW1]
  go_loopw [4] (fun i wr => ∃ k : Nat, k ≤ 1024 ∧ i = .int .i64 k ∧ FBx wr (w.heap.size + 1) (cnK f 0 (List.range' 0 k)) (cnK f 1 (List.range' 0 k)) (cnK f 2 (List.range' 0 k)) (cnK f 3 (List.range' 0 k)) ∧ NBx wr w.heap.size 0 0 0 0 0 ∧ Below w.heap.size w wr) (fun i _ => 1024 - (intOf i).toNat)
  case atStart => exact ⟨0, Nat.zero_le _, rfl, bF, bR, hb1⟩
  case round =>
    obtain ⟨k, hk, rfl, hN, hZ, hB⟩ := hrel
    by_cases hlt : k < 1024
    · have hc := (HR.out.later hB).ck k hlt
      have hk1 : (k : Int) < 1024 := by omega
      have hkd := HF.out.knd k hlt
      have l0 := cnK_len1 f 0 k
      have l1 := cnK_len1 f 1 k
      have l2 := cnK_len1 f 2 k
      have l3 := cnK_len1 f 3 k
      have s0 := cnK_step f 0 k
      have s1 := cnK_step f 1 k
      have s2 := cnK_step f 2 k
      have s3 := cnK_step f 3 k
      have HI : Hid (∀ V', FBx V' (w.heap.size + 1) (cnK f 0 (List.range' 0 k) + if (f k).kd = 0 then 1 else 0) (cnK f 1 (List.range' 0 k) + if (f k).kd = 1 then 1 else 0) (cnK f 2 (List.range' 0 k) + if (f k).kd = 2 then 1 else 0) (cnK f 3 (List.range' 0 k) + if (f k).kd = 3 then 1 else 0) →
          FBx V' (w.heap.size + 1) (cnK f 0 (List.range' 0 (k + 1))) (cnK f 1 (List.range' 0 (k + 1))) (cnK f 2 (List.range' 0 (k + 1))) (cnK f 3 (List.range' 0 (k + 1)))) := fun V' h => by rw [s0, s1, s2, s3]; exact h
      clear s0 s1 s2 s3
      have hc' : wr.cell? ⟨R, k, none⟩ = some (.int .i64 (f k).kd) := hc
      clear hc
      generalize cnK f 0 (List.range' 0 k) = n0 at *
      generalize cnK f 1 (List.range' 0 k) = n1 at *
      generalize cnK f 2 (List.range' 0 k) = n2 at *
      generalize cnK f 3 (List.range' 0 k) = n3 at *
      obtain ⟨x, hx⟩ : ∃ x, (f k).kd = x := ⟨_, rfl⟩
      rw [hx] at hc' hkd HI
      replace l0 : n0 < 2000 := by omega
      replace l1 : n1 < 2000 := by omega
      replace l2 : n2 < 2000 := by omega
      replace l3 : n3 < 2000 := by omega
      clear hx bR bF hW1
      have hx4 : x = 0 ∨ x = 1 ∨ x = 2 ∨ x = 3 := by omega
      have hFl := hN.lt
      rcases hx4 with rfl | rfl | rfl | rfl
      · have q := hN.c0
        have qf := hN.frozen 0
        simp only [show ((0 : Int) = 1) = False by simp, show ((0 : Int) = 2) = False by simp, show ((0 : Int) = 3) = False by simp, if_true, if_false, Nat.add_zero] at HI
        have h1 := HI.out _ hN.i0
        have h2 := hZ.other (x := ⟨w.heap.size + 1, 0, none⟩) (by simp) (.int .i64 ((n0 : Int) + 1))
        have h3 := hB.setCell (p := ⟨w.heap.size + 1, 0, none⟩) (by dsimp only; omega) (.int .i64 ((n0 : Int) + 1))
        have H1 := Lib.hid h1
        have H2 := Lib.hid h2
        have H3 := Lib.hid h3
        clear h1 h2 h3 HI hN hZ hB
        go_wp2_with fail
        go_roundw
        case rel => exact ⟨k + 1, by omega, by go_num, H1.out, H2.out, H3.out⟩
        case measure => simp [intOf]; omega
      · have q := hN.c1
        have qf := hN.frozen 1
        simp only [show ((1 : Int) = 0) = False by simp, show ((1 : Int) = 2) = False by simp, show ((1 : Int) = 3) = False by simp, if_true, if_false, Nat.add_zero] at HI
        have h1 := HI.out _ hN.i1
        have h2 := hZ.other (x := ⟨w.heap.size + 1, 1, none⟩) (by simp) (.int .i64 ((n1 : Int) + 1))
        have h3 := hB.setCell (p := ⟨w.heap.size + 1, 1, none⟩) (by dsimp only; omega) (.int .i64 ((n1 : Int) + 1))
        have H1 := Lib.hid h1
        have H2 := Lib.hid h2
        have H3 := Lib.hid h3
        clear h1 h2 h3 HI hN hZ hB
        go_wp2_with fail
        go_roundw
        case rel => exact ⟨k + 1, by omega, by go_num, H1.out, H2.out, H3.out⟩
        case measure => simp [intOf]; omega
      · have q := hN.c2
        have qf := hN.frozen 2
        simp only [show ((2 : Int) = 0) = False by simp, show ((2 : Int) = 1) = False by simp, show ((2 : Int) = 3) = False by simp, if_true, if_false, Nat.add_zero] at HI
        have h1 := HI.out _ hN.i2
        have h2 := hZ.other (x := ⟨w.heap.size + 1, 2, none⟩) (by simp) (.int .i64 ((n2 : Int) + 1))
        have h3 := hB.setCell (p := ⟨w.heap.size + 1, 2, none⟩) (by dsimp only; omega) (.int .i64 ((n2 : Int) + 1))
        have H1 := Lib.hid h1
        have H2 := Lib.hid h2
        have H3 := Lib.hid h3
        clear h1 h2 h3 HI hN hZ hB
        go_wp2_with fail
        go_roundw
        case rel => exact ⟨k + 1, by omega, by go_num, H1.out, H2.out, H3.out⟩
        case measure => simp [intOf]; omega
      · have q := hN.c3
        have qf := hN.frozen 3
        simp only [show ((3 : Int) = 0) = False by simp, show ((3 : Int) = 1) = False by simp, show ((3 : Int) = 2) = False by simp, if_true, if_false, Nat.add_zero] at HI
        have h1 := HI.out _ hN.i3
        have h2 := hZ.other (x := ⟨w.heap.size + 1, 3, none⟩) (by simp) (.int .i64 ((n3 : Int) + 1))
        have h3 := hB.setCell (p := ⟨w.heap.size + 1, 3, none⟩) (by dsimp only; omega) (.int .i64 ((n3 : Int) + 1))
        have H1 := Lib.hid h1
        have H2 := Lib.hid h2
        have H3 := Lib.hid h3
        clear h1 h2 h3 HI hN hZ hB
        go_wp2_with fail
        go_roundw
        case rel => exact ⟨k + 1, by omega, by go_num, H1.out, H2.out, H3.out⟩
        case measure => simp [intOf]; omega
    · have hk1 : ¬ (k : Int) < 1024 := by omega
      obtain rfl : k = 1024 := by omega
      obtain ⟨n0, hn0⟩ : ∃ n, cnK f 0 (List.range' 0 1024) = n := ⟨_, rfl⟩
      obtain ⟨n1, hn1⟩ : ∃ n, cnK f 1 (List.range' 0 1024) = n := ⟨_, rfl⟩
      obtain ⟨n2, hn2⟩ : ∃ n, cnK f 2 (List.range' 0 1024) = n := ⟨_, rfl⟩
      obtain ⟨n3, hn3⟩ : ∃ n, cnK f 3 (List.range' 0 1024) = n := ⟨_, rfl⟩
      have hn4 := cnG_is f 64
      have HV : Hid (cnV f (List.range' 0 1024) = v5 n0 n1 n2 n3 (cnG (hgF f) 64)) := by
        unfold Hid cnV
        rw [hn0, hn1, hn2, hn3, ← hn4]
      rw [hn0, hn1, hn2, hn3] at hN
      clear hn0 hn1 hn2 hn3 hn4 bR bF hW1
      obtain ⟨V, rfl⟩ : ∃ V, V = wr := ⟨_, rfl⟩
      go_wp2_with fail
      go_loopw [5, 6] (fun s i wr => ∃ g : Nat, g ≤ 64 ∧ i = .int .i64 g ∧ s = .int .i64 (cnG (hgF f) g : Nat) ∧ V = wr) (fun _ i _ => 64 - (intOf i).toNat)
      case atStart => exact ⟨0, Nat.zero_le _, rfl, rfl, rfl⟩
      case round =>
        obtain ⟨g, hg', rfl, rfl, rfl⟩ := hrel
        have hle := cnG_le (hgF f) g
        by_cases hg2 : g < 64
        · have hc := (HR.out.later hB).ch g hg2
          have hg1 : (g : Int) < 64 := by omega
          have hs : Hid (cnG (hgF f) (g + 1) = cnG (hgF f) g + if hgF f g = true then 1 else 0) := rfl
          obtain ⟨b, hb⟩ : ∃ b, hgF f g = b := ⟨_, rfl⟩
          rw [hb] at hc hs
          obtain ⟨c, hcc⟩ : ∃ c, cnG (hgF f) g = c := ⟨_, rfl⟩
          rw [hcc] at hs hle ⊢
          clear hb hcc hN hZ
          cases b
          · go_wp2_with fail
            go_roundw
            case rel => exact ⟨g + 1, by omega, by go_num, by rw [hs.out]; rfl, by trivial⟩
            case measure => simp [intOf]; omega
          · go_wp2_with fail
            go_roundw
            case rel => exact ⟨g + 1, by omega, by go_num, by rw [hs.out]; go_num, by trivial⟩
            case measure => simp [intOf]; omega
        · have hg1 : ¬ (g : Int) < 64 := by omega
          obtain rfl : g = 64 := by omega
          obtain ⟨n4, hn4⟩ : ∃ n, cnG (hgF f) 64 = n := ⟨_, rfl⟩
          rw [hn4] at HV ⊢
          have q0 := hN.c0
          have q1 := hN.c1
          have q2 := hN.c2
          have q3 := hN.c3
          have hone : (v5 n0 n1 n2 n3 n4).all (·.oneCell') = true := by kernel_rfl
          clear hn4
          go_wp2_with (refine wpList_store_row rfl 67 _ _ rfl w.heap.size (v5 n0 n1 n2 n3 n4) rfl rfl 67 _ hZ (n5_i _ _ _ _ _) rfl hone ?_)
          have m3 := setRow_heap V w.heap.size _ (v5 n0 n1 n2 n3 n4) _ _ hZ
          have hld : (loadVar 67 ⟨w.heap.size, 0, none⟩).run Try.prog _ = _ := run_loadVar_row _ _ 67 67 _ _ _ m3 Try.underlying67 rfl (n5_i _ _ _ _ _)
          exact bodyPost_ret (v := .agg (v5 n0 n1 n2 n3 n4)) (by simp [results, Try.results51, asAddr, hld]) rfl ⟨by rw [HV.out], below_row hB _ (by omega) _⟩
end Go.Proofs.Ytjplihljmohpjaa

/- Plans; the reference's New. -/
namespace Go.Proofs.Ytjplihljmohpjaa
open Go.RowKit Go.Shelf
attribute [local go_sem] Oper.semAt_some
variable {R : Nat} {kd : Nat → Int} {hg : Nat → Bool} {bt : Nat → Nat → Int} {st : Array Value}

theorem zero_state (w : World) : ∃ W, w.alloc (.cells #[.slice none 0 0, .int .i64 0, .int .i64 0, .int .i64 0, .int .i64 0, .int .i64 0, .int .i64 0, .int .i64 0, .int .i64 0, .int .i64 0, .int .i64 0, .int .i64 0, .int .i64 0, .int .i64 0, .int .i64 0] 45) = W ∧ Below w.heap.size w W ∧ SBox W w.heap.size (.slice none 0 0) zer zer := ⟨_, rfl, (Below.refl _ _).alloc (Nat.le_refl _) _, SBox.new w (.slice none 0 0) zer zer⟩
theorem fold_splice (Z : Array Value) (v : Value) (c h : Nat → Int) : Array.foldl (fun (cs : Array Value) (x : Value × Nat) => cs.setIfInBounds (66624 + x.snd) x.fst) Z (stA v c h).zipIdx 0 15 = splice Z 66624 (stA v c h).toList := by kernel_rfl
theorem rnew_row (v : Value) (c h : Nat → Int) : RRow (splice Try.zeroCells91 66624 (stA v c h).toList) (kdF freeF) (hgF freeF) (btF freeF) (stA v c h) := by
  obtain ⟨Z, hZ, hz, h1, h2, h3⟩ := rzero_cells
  rw [← hZ]
  have hl : (stA v c h).toList.length = 15 := rfl
  refine ⟨by rw [splice_size]; exact hz, fun j hj => ?_, fun g hg => ?_, fun j hj i hi => ?_, fun i hi => ?_⟩
  · rw [splice_out _ _ _ _ (by omega)]; exact h1 j hj
  · rw [splice_out _ _ _ _ (by omega)]; exact h2 g hg
  · rw [splice_out _ _ _ _ (by omega)]; exact h3 _ (by omega)
  · rw [splice_in _ _ _ _ (by omega) (by omega), Array.getElem?_toList]
set_option maxRecDepth 1000000 in
set_option maxHeartbeats 2000000 in
theorem RNew_ok (v : Value) (L : List Ru) (hL : OkL L) (w : World) (h : RAt w v (toI L)) :
    Calls Try.prog 14 #[.agg #[v]] w fun e w' => ∃ R, e = .returned (.tuple #[.pointer (some ⟨R, 0, none⟩), .int .i64 0]) ∧ w.heap.size ≤ R ∧ RAtS w' R (kdF freeF) (hgF freeF) (btF freeF) (stA v zer zer) ∧ Below w.heap.size w w' := by
  obtain ⟨W1, hW1⟩ : ∃ x, w.alloc (.cells #[v] 24) = x := ⟨_, rfl⟩
  have hb1 : Below w.heap.size w W1 := by rw [← hW1]; exact (Below.refl _ _).alloc (Nat.le_refl _) _
  have bP : Boxed W1 w.heap.size 24 v := by rw [← hW1]; exact Boxed.new w _ _
  have HS := Lib.hid (RStart_ok v L hL W1 (h.later hb1))
  have q1 := bP.cell
  have hv1 := h.one
  go_enter Try.func14, Try.ntmps14
  go_wp2_with fail
  try rw [hW1]
  refine HS.out.mono ?_
  rintro e w1 ⟨rfl, B1⟩
  obtain ⟨W2, hW2, hb2, sN⟩ := zero_state w1
  have hB1 := hb1.trans (B1.mono hb1.size)
  have hB2 := hB1.trans (hb2.mono hB1.size)
  have sM := sN.row v zer zer
  have hsz := stA_size v zer zer
  clear hW1
  go_wp2_with (first | rw [hW2] | refine wpList_store_row rfl 45 _ _ rfl w1.heap.size (stA v zer zer) rfl rfl 45 _ sN (st_i _ _ _) rfl (stA_one _ hv1 _ _) ?_ | refine wpList_load_row rfl 45 _ rfl w1.heap.size rfl 45 _ (0, 0) _ sM Try.underlying45 rfl (st_i _ _ _) ?_)
  · go_ret2
    have hB3 : Below w.heap.size w (W2.setRow w1.heap.size (stA v zer zer)) := below_row hB2 _ hB1.size _
    refine ⟨_, rfl, hB2.size, ⟨_, ?_, rnew_row v zer zer⟩, hB3.alloc (by rw [setRow_size]; exact hB2.size) _⟩
    rw [fold_splice]
    have h9 := World.alloc_heap_new (W2.setRow w1.heap.size (stA v zer zer)) (.cells (splice Try.zeroCells91 66624 (stA v zer zer).toList) 91)
    rw [setRow_size] at h9
    exact h9
theorem RNew_bad (v : Value) (l : List RlI) (i : Nat) (c : Int) (hc : chkP l = (i, c)) (h0 : c ≠ 0) (w : World) (h : RAt w v l) :
    Calls Try.prog 14 #[.agg #[v]] w fun e w' => e = .returned (.tuple #[.pointer none, .int .i64 c]) ∧ Below w.heap.size w w' := by
  obtain ⟨W1, hW1⟩ : ∃ x, w.alloc (.cells #[v] 24) = x := ⟨_, rfl⟩
  have hb1 : Below w.heap.size w W1 := by rw [← hW1]; exact (Below.refl _ _).alloc (Nat.le_refl _) _
  have bP : Boxed W1 w.heap.size 24 v := by rw [← hW1]; exact Boxed.new w _ _
  have HS := Lib.hid (RStart_bad v l i c hc h0 W1 (h.later hb1))
  have q1 := bP.cell
  have hq : (c != 0) = true := by simpa using h0
  clear hc h0
  go_enter Try.func14, Try.ntmps14
  go_wp2_with fail
  try rw [hW1]
  refine HS.out.mono ?_
  rintro e w1 ⟨rfl, B1⟩
  obtain ⟨W2, hW2, hb2, sN⟩ := zero_state w1
  have hB1 := hb1.trans (B1.mono hb1.size)
  have hB2 := hB1.trans (hb2.mono hB1.size)
  clear hW1
  go_wp2_with (first | rw [hW2] | refine wpList_store_row rfl 45 _ _ rfl w1.heap.size (stA (.slice none 0 0) zer zer) rfl rfl 45 _ sN (st_i _ _ _) rfl (stA_one _ rfl _ _) ?_)
  go_ret2
  exact ⟨rfl, below_row hB2 _ hB1.size _⟩
set_option maxRecDepth 100000 in
set_option maxHeartbeats 2000000 in
theorem RPlan_bad (Y : Nat → Prop) (f : Pages) (L : List Ru) (m : Nat → Nat) (u : Value) (v : Value) (l : List RlI) (i : Nat) (c : Int) (hc : chkP l = (i, c)) (h0 : c ≠ 0) (w : World) (hs : RfS w R Y f L m u) (h : RAt w v l) :
    Calls Try.prog 52 #[.pointer (some ⟨R, 0, none⟩), .agg #[v]] w fun e w' => e = .returned (.int .i64 c) ∧ RfS w' R Y f L m u ∧ Keep (· = R) w w' := by
  obtain ⟨W1, hW1⟩ : ∃ x, w.alloc (.cells #[v] 24) = x := ⟨_, rfl⟩
  have hb1 : Below w.heap.size w W1 := by rw [← hW1]; exact (Below.refl _ _).alloc (Nat.le_refl _) _
  have bP : Boxed W1 w.heap.size 24 v := by rw [← hW1]; exact Boxed.new w _ _
  have HS := Lib.hid (RStart_bad v l i c hc h0 W1 (h.later hb1))
  have q1 := bP.cell
  have hq : (c == 0) = false := by simpa using h0
  clear hc h0
  go_enter Try.func52, Try.ntmps52
  go_wp2_with fail
  try rw [hW1]
  refine HS.out.mono ?_
  rintro e w1 ⟨rfl, B1⟩
  obtain ⟨W2, hW2, hb2, sN⟩ := zero_state w1
  have hB1 := hb1.trans (B1.mono hb1.size)
  have hB2 := hB1.trans (hb2.mono hB1.size)
  clear hW1
  go_wp2_with (first | rw [hW2] | refine wpList_store_row rfl 45 _ _ rfl w1.heap.size (stA (.slice none 0 0) zer zer) rfl rfl 45 _ sN (st_i _ _ _) rfl (stA_one _ rfl _ _) ?_)
  go_ret
  have hB3 := below_row hB2 w1.heap.size hB1.size (stA (.slice none 0 0) zer zer)
  exact ⟨rfl, hs.later hB3, Keep.of_below hB3⟩
set_option maxRecDepth 100000 in
set_option maxHeartbeats 2000000 in
theorem RPlan_ok (Y : Nat → Prop) (f : Pages) (L : List Ru) (m : Nat → Nat) (u : Value) (v : Value) (L' : List Ru) (hL : OkL L') (w : World) (hs : RfS w R Y f L m u) (h : RAt w v (toI L')) (hv : ∀ b, obk v = some b → b ≠ R ∧ ¬ Y b) :
    Calls Try.prog 52 #[.pointer (some ⟨R, 0, none⟩), .agg #[v]] w fun e w' => e = .returned (.int .i64 0) ∧ RfS w' R Y f L' (fun _ => 0) v ∧ Keep (· = R) w w' := by
  obtain ⟨W1, hW1⟩ : ∃ x, w.alloc (.cells #[v] 24) = x := ⟨_, rfl⟩
  have hb1 : Below w.heap.size w W1 := by rw [← hW1]; exact (Below.refl _ _).alloc (Nat.le_refl _) _
  have bP : Boxed W1 w.heap.size 24 v := by rw [← hW1]; exact Boxed.new w _ _
  have HS := Lib.hid (RStart_ok v L' hL W1 (h.later hb1))
  have q1 := bP.cell
  have hv1 := h.one
  go_enter Try.func52, Try.ntmps52
  go_wp2_with fail
  try rw [hW1]
  refine HS.out.mono ?_
  rintro e w1 ⟨rfl, B1⟩
  obtain ⟨W2, hW2, hb2, sN⟩ := zero_state w1
  have hB1 := hb1.trans (B1.mono hb1.size)
  have hB2 := hB1.trans (hb2.mono hB1.size)
  have sM := sN.row v zer zer
  have hB3 := below_row hB2 w1.heap.size hB1.size (stA v zer zer)
  have s3 := hs.later hB3
  have htR := s3.row.there 66624 15 (by omega)
  have hone : (stA v zer zer).all (·.oneCell') = true := stA_one v hv1 _ _
  clear hW1
  go_wp2_with (first | rw [hW2] | refine wpList_store_row rfl 45 _ _ rfl w1.heap.size (stA v zer zer) rfl rfl 45 _ sN (st_i _ _ _) rfl hone ?_ | refine wpList_load_row rfl 45 _ rfl w1.heap.size rfl 45 _ (0, 0) _ sM Try.underlying45 rfl (st_i _ _ _) ?_ | refine wpList_store_mid rfl 45 _ _ rfl R 66624 (stA v zer zer) rfl rfl htR (st_i _ _ _) hone ?_)
  go_ret
  have hK1 : Keep (· = R) (W2.setRow w1.heap.size (stA v zer zer)) ((W2.setRow w1.heap.size (stA v zer zer)).setCells R 66624 (stA v zer zer).toList) := Keep.setCells (q := (· = R)) R (.inl rfl) _ _ _ (Keep.refl _ _)
  refine ⟨rfl, ⟨by rw [ci0, hf0 L' hL]; exact s3.row.putS _ (stA_size _ _ _), (h.later hB3).keep hK1 (fun b hb2 e => (hv b hb2).1 e), hv, s3.far⟩, (Keep.of_below hB3).trans hK1⟩
set_option maxRecDepth 100000 in
set_option maxHeartbeats 2000000 in
theorem Plan_bad (S P : Nat) (X : Nat → Prop) (f : Pages) (L : List Ru) (m : Nat → Nat) (v : Value) (l : List RlI) (i : Nat) (c : Int) (hc : chkP l = (i, c)) (h0 : c ≠ 0) (w : World) (hs : Sys w S P X f L m) (h : RAt w v l) :
    Calls Try.prog 23 #[.pointer (some ⟨S, 0, none⟩), .agg #[v]] w fun e w' => e = .returned (.int .i64 c) ∧ Sys w' S P X f L m ∧ Keep (SP S P) w w' := by
  obtain ⟨W1, hW1⟩ : ∃ x, w.alloc (.cells #[v] 24) = x := ⟨_, rfl⟩
  have hb1 : Below w.heap.size w W1 := by rw [← hW1]; exact (Below.refl _ _).alloc (Nat.le_refl _) _
  have bP : Boxed W1 w.heap.size 24 v := by rw [← hW1]; exact Boxed.new w _ _
  have HS := Lib.hid (Start_bad v l i c hc h0 W1 (h.later hb1))
  obtain ⟨vs, sV⟩ := hs
  have HM := Lib.hid (made_yes S P vs _ _ W1 (sV.box.later hb1))
  have q1 := bP.cell
  have hq : (c != 0) = true := by simpa using h0
  clear hc h0
  go_enter Try.func23, Try.ntmps23
  go_wp2_with fail
  try rw [hW1]
  refine HM.out.mono ?_
  rintro e w' ⟨rfl, rfl⟩
  go_wp2_with fail
  refine HS.out.mono ?_
  rintro e w1 ⟨rfl, B1⟩
  obtain ⟨W2, hW2, hb2, sN⟩ := zero_state w1
  have hB1 := hb1.trans (B1.mono hb1.size)
  have hB2 := hB1.trans (hb2.mono hB1.size)
  clear hW1
  go_wp2_with (first | rw [hW2] | refine wpList_store_row rfl 45 _ _ rfl w1.heap.size (stA (.slice none 0 0) zer zer) rfl rfl 45 _ sN (st_i _ _ _) rfl (stA_one _ rfl _ _) ?_)
  go_ret
  have hB3 := below_row hB2 w1.heap.size hB1.size (stA (.slice none 0 0) zer zer)
  exact ⟨rfl, ⟨vs, sV.later hB3⟩, Keep.of_below hB3⟩
set_option maxRecDepth 100000 in
set_option maxHeartbeats 2000000 in
theorem Plan_ok (S P : Nat) (X : Nat → Prop) (f : Pages) (L : List Ru) (m : Nat → Nat) (v : Value) (L' : List Ru) (hL : OkL L') (w : World) (hs : Sys w S P X f L m) (h : RAt w v (toI L')) :
    Calls Try.prog 23 #[.pointer (some ⟨S, 0, none⟩), .agg #[v]] w fun e w' => e = .returned (.int .i64 0) ∧ Sys w' S P X f L' (fun _ => 0) ∧ Keep (SP S P) w w' := by
  obtain ⟨W1, hW1⟩ : ∃ x, w.alloc (.cells #[v] 24) = x := ⟨_, rfl⟩
  have hb1 : Below w.heap.size w W1 := by rw [← hW1]; exact (Below.refl _ _).alloc (Nat.le_refl _) _
  have bP : Boxed W1 w.heap.size 24 v := by rw [← hW1]; exact Boxed.new w _ _
  have HS := Lib.hid (Start_ok v L' hL W1 (h.later hb1))
  obtain ⟨vs, sV⟩ := hs
  have HM := Lib.hid (made_yes S P vs _ _ W1 (sV.box.later hb1))
  have q1 := bP.cell
  go_enter Try.func23, Try.ntmps23
  go_wp2_with fail
  try rw [hW1]
  refine HM.out.mono ?_
  rintro e w' ⟨rfl, rfl⟩
  go_wp2_with fail
  refine HS.out.mono ?_
  rintro e w1 ⟨u, rfl, hru, hfr, B1⟩
  obtain ⟨W2, hW2, hb2, sN⟩ := zero_state w1
  have hB1 := hb1.trans (B1.mono hb1.size)
  have hB2 := hB1.trans (hb2.mono hB1.size)
  have hu1 := hru.one
  have hr2 := hru.later hb2
  have sM := sN.row u zer zer
  have hB3 := below_row hB2 w1.heap.size hB1.size (stA u zer zer)
  have s3 := sV.later hB3
  have htS := s3.box.there
  have hone : (stA u zer zer).all (·.oneCell') = true := stA_one u hu1 _ _
  clear hW1
  go_wp2_with (first | rw [hW2] | refine wpList_store_row rfl 45 _ _ rfl w1.heap.size (stA u zer zer) rfl rfl 45 _ sN (st_i _ _ _) rfl hone ?_ | refine wpList_load_row rfl 45 _ rfl w1.heap.size rfl 45 _ (0, 0) _ sM Try.underlying45 rfl (st_i _ _ _) ?_ | refine wpList_store_mid rfl 45 _ _ rfl S 1 (stA u zer zer) rfl rfl htS (st_i _ _ _) hone ?_)
  go_ret
  have hK1 : Keep (· = S) (W2.setRow w1.heap.size (stA u zer zer)) ((W2.setRow w1.heap.size (stA u zer zer)).setCells S 1 (stA u zer zer).toList) := Keep.setCells (q := (· = S)) S (.inl rfl) _ _ _ (Keep.refl _ _)
  have hS0 := sV.box.lt
  have hP0 := sV.pg.lt
  have hz1 := hb1.size
  have hr3 : RAt (W2.setRow w1.heap.size (stA u zer zer)) u (toI L') := hr2.row (b := w1.heap.size) _ (fun e => by have := hfr _ e; omega)
  refine ⟨rfl, ⟨u, by rw [ci0, hf0 L' hL]; exact s3.box.put u zer zer, s3.pg.keep hK1 (fun e => s3.ne e.symm), hr3.keep hK1 (fun b hb e => by have := hfr b (obk_own hb); omega), s3.ne, fun b hb => ?_, fun b hb => ⟨Nat.lt_of_lt_of_le (s3.far b hb).1 hK1.size, (s3.far b hb).2⟩⟩, (Keep.of_below hB3).trans (hK1.mono fun _ _ h => .inl h)⟩
  have := hfr b hb
  exact ⟨by omega, by omega, fun hX => by have := (sV.far b hX).1; omega⟩
end Go.Proofs.Ytjplihljmohpjaa
