/- The other way to refuse. -/
import Derived.Test.YtjplihljmohpjaaKb
import Derived.Test.YtjplihljmohpjaaKa
import Derived.Test.YtjplihljmohpjaaKc
/- The reference: in, rule, Check. -/
namespace Go.Proofs.Ytjplihljmohpjaa
open Go.RowKit
attribute [local go_sem] Oper.semAt_some

def inb (x lo hi : Int) : Bool := decide (lo ≤ x) && decide (x ≤ hi)
theorem in_is (x lo hi : Int) (b : Bool) (hb : inb x lo hi = b) (w : World) : Calls Try.prog 71 #[.int .i64 x, .int .i64 lo, .int .i64 hi] w fun e w' => e = .returned (.bool b) ∧ w = w' := by
  unfold inb at hb
  by_cases h1 : lo ≤ x <;> by_cases h2 : x ≤ hi
  all_goals
    have HB : Hid ((decide (lo ≤ x) && decide (x ≤ hi)) = b) := hb
    clear hb
    go_enter Try.func71, Try.ntmps71
    go_wp2
    go_ret
    exact ⟨ret_bool (by rw [← HB.out]; simp [h1, h2]), rfl⟩
theorem chkR_in (k f e t : Int) : chkR ⟨k, f, e, t⟩ = if inb k 0 6 = false then 2 else if inb f 1 10000 = false then 7 else if inb e 0 12 = false then 7 else if inb t 0 1000 = false then 7 else if e = 0 ∧ t ≠ 1 then 6 else 0 := by
  unfold chkR inb
  simp only [Bool.and_eq_false_iff, decide_eq_false_iff_not]
  split <;> split <;> (try split) <;> (try split) <;> (try split) <;> first | rfl | omega | (split <;> first | rfl | omega | (split <;> first | rfl | omega))
set_option maxRecDepth 100000 in
set_option maxHeartbeats 1000000 in
theorem rule_is (x : RlI) (r : Int) (hr : chkR x = r) (w : World) : Calls Try.prog 96 #[rv x] w fun e w' => e = .returned (.int .i64 r) ∧ Below w.heap.size w w' := by
  obtain ⟨k, f, e, t⟩ := x
  rw [chkR_in] at hr
  have hBw : ∀ o : Obj, Below w.heap.size w (w.alloc o) := fun o => (Below.refl _ _).alloc (Nat.le_refl _) _
  obtain ⟨bk, hk⟩ : ∃ b, inb k 0 6 = b := ⟨_, rfl⟩
  obtain ⟨bf, hf⟩ : ∃ b, inb f 1 10000 = b := ⟨_, rfl⟩
  obtain ⟨be, he⟩ : ∃ b, inb e 0 12 = b := ⟨_, rfl⟩
  obtain ⟨bt, ht⟩ : ∃ b, inb t 0 1000 = b := ⟨_, rfl⟩
  rw [hk, hf, he, ht] at hr
  have HK := Lib.hid hk
  have HF := Lib.hid hf
  have HE := Lib.hid he
  have HT := Lib.hid ht
  clear hk hf he ht
  cases bk
  · simp only [if_true] at hr
    subst hr
    go_enter Try.func96, Try.ntmps96
    go_wp2_with fail
    refine (in_is k 0 6 false HK.out _).mono ?_
    rintro e w1 ⟨rfl, rfl⟩
    go_wp2
    go_ret
    exact ⟨rfl, hBw _⟩
  cases bf
  · simp only [if_true, Bool.true_eq_false, if_false] at hr
    subst hr
    go_enter Try.func96, Try.ntmps96
    go_wp2_with fail
    refine (in_is k 0 6 true HK.out _).mono ?_
    rintro e w1 ⟨rfl, rfl⟩
    go_wp2_with fail
    refine (in_is f 1 10000 false HF.out _).mono ?_
    rintro e w1 ⟨rfl, rfl⟩
    go_wp2
    go_ret
    exact ⟨rfl, hBw _⟩
  cases be
  · simp only [if_true, Bool.true_eq_false, if_false] at hr
    subst hr
    go_enter Try.func96, Try.ntmps96
    go_wp2_with fail
    refine (in_is k 0 6 true HK.out _).mono ?_
    rintro e w1 ⟨rfl, rfl⟩
    go_wp2_with fail
    refine (in_is f 1 10000 true HF.out _).mono ?_
    rintro e w1 ⟨rfl, rfl⟩
    go_wp2_with fail
    refine (in_is e 0 12 false HE.out _).mono ?_
    rintro e w1 ⟨rfl, rfl⟩
    go_wp2
    go_ret
    exact ⟨rfl, hBw _⟩
  cases bt
  · simp only [if_true, Bool.true_eq_false, if_false] at hr
    subst hr
    go_enter Try.func96, Try.ntmps96
    go_wp2_with fail
    refine (in_is k 0 6 true HK.out _).mono ?_
    rintro e w1 ⟨rfl, rfl⟩
    go_wp2_with fail
    refine (in_is f 1 10000 true HF.out _).mono ?_
    rintro e w1 ⟨rfl, rfl⟩
    go_wp2_with fail
    refine (in_is e 0 12 true HE.out _).mono ?_
    rintro e w1 ⟨rfl, rfl⟩
    go_wp2_with fail
    refine (in_is t 0 1000 false HT.out _).mono ?_
    rintro e w1 ⟨rfl, rfl⟩
    go_wp2
    go_ret
    exact ⟨rfl, hBw _⟩
  simp only [Bool.true_eq_false, if_false] at hr
  by_cases he : e = 0
  · by_cases ht : t = 1
    · rw [if_neg (by simp [ht])] at hr
      subst hr; subst he; subst ht
      go_enter Try.func96, Try.ntmps96
      go_wp2_with fail
      refine (in_is k 0 6 true HK.out _).mono ?_
      rintro e w1 ⟨rfl, rfl⟩
      go_wp2_with fail
      refine (in_is f 1 10000 true HF.out _).mono ?_
      rintro e w1 ⟨rfl, rfl⟩
      go_wp2_with fail
      refine (in_is 0 0 12 true HE.out _).mono ?_
      rintro e w1 ⟨rfl, rfl⟩
      go_wp2_with fail
      refine (in_is 1 0 1000 true HT.out _).mono ?_
      rintro e w1 ⟨rfl, rfl⟩
      go_wp2
      go_ret
      exact ⟨rfl, hBw _⟩
    · rw [if_pos ⟨he, ht⟩] at hr
      subst hr; subst he
      have ht2 : (t != 1) = true := by simp [ht]
      go_enter Try.func96, Try.ntmps96
      go_wp2_with fail
      refine (in_is k 0 6 true HK.out _).mono ?_
      rintro e w1 ⟨rfl, rfl⟩
      go_wp2_with fail
      refine (in_is f 1 10000 true HF.out _).mono ?_
      rintro e w1 ⟨rfl, rfl⟩
      go_wp2_with fail
      refine (in_is 0 0 12 true HE.out _).mono ?_
      rintro e w1 ⟨rfl, rfl⟩
      go_wp2_with fail
      refine (in_is t 0 1000 true HT.out _).mono ?_
      rintro e w1 ⟨rfl, rfl⟩
      go_wp2
      go_ret
      exact ⟨rfl, hBw _⟩
  · rw [if_neg (by intro h; exact he h.1)] at hr
    subst hr
    have he2 : (e == 0) = false := by simp [he]
    go_enter Try.func96, Try.ntmps96
    go_wp2_with fail
    refine (in_is k 0 6 true HK.out _).mono ?_
    rintro e w1 ⟨rfl, rfl⟩
    go_wp2_with fail
    refine (in_is f 1 10000 true HF.out _).mono ?_
    rintro e w1 ⟨rfl, rfl⟩
    go_wp2_with fail
    refine (in_is e 0 12 true HE.out _).mono ?_
    rintro e w1 ⟨rfl, rfl⟩
    go_wp2_with fail
    refine (in_is t 0 1000 true HT.out _).mono ?_
    rintro e w1 ⟨rfl, rfl⟩
    go_wp2
    go_ret
    exact ⟨rfl, hBw _⟩

set_option maxRecDepth 100000 in
set_option maxHeartbeats 1000000 in
theorem RCheck_is (v : Value) (l : List RlI) (i : Nat) (c : Int) (hc : chkP l = (i, c)) (w : World) (h : RAt w v l) :
    Calls Try.prog 77 #[.agg #[v]] w fun e w' => e = .returned (.tuple #[.int .i64 (i : Int), .int .i64 c]) ∧ Below w.heap.size w w' := by
  have hl64 := h.len
  obtain ⟨a, cap, rfl⟩ := h.form
  unfold chkP at hc
  by_cases h1 : (50 : Int) < (l.length : Int)
  · rw [if_pos (by omega)] at hc
    cases hc
    go_enter Try.func77, Try.ntmps77
    go_wp2
    go_ret2
    exact ⟨rfl, (Below.refl _ _).alloc (Nat.le_refl _) _⟩
  · rw [if_neg (by omega)] at hc
    have HC := Lib.hid hc
    clear hc
    obtain ⟨n, hn⟩ : ∃ n, l.length = n := ⟨_, rfl⟩
    have HN := Lib.hid hn
    rw [hn] at h h1 hl64
    rw [hn]
    clear hn
    obtain ⟨WL, hWL⟩ : ∃ x, w.alloc (.cells #[.slice a n cap] 24) = x := ⟨_, rfl⟩
    have hbL : Below w.heap.size w WL := by rw [← hWL]; exact (Below.refl _ _).alloc (Nat.le_refl _) _
    have bP : Boxed WL w.heap.size 24 (.slice a n cap) := by rw [← hWL]; exact Boxed.new w _ _
    have hP := bP.cell
    have hL := h.later hbL
    go_enter Try.func77, Try.ntmps77
    go_wp2_with fail
    try rw [hWL]
    clear hWL
    go_loopw [4] (fun j wr => ∃ k : Nat, k ≤ n ∧ j = .int .i64 k ∧ Hid (∀ (m : Nat) (y : RlI), m < k → l[m]? = some y → chkR y = 0) ∧ Below WL.heap.size WL wr) (fun i _ => n - (intOf i).toNat)
    case atStart => exact ⟨0, Nat.zero_le _, rfl, (fun m y hm => by omega), Below.refl _ _⟩
    case round =>
      obtain ⟨k, hk, rfl, HV, hB⟩ := hrel
      have hPw := cell_later hB hP
      by_cases hlt : k < n
      · obtain ⟨x, hx⟩ : ∃ x, l[k]? = some x := ⟨_, List.getElem?_eq_getElem (by rw [HN.out]; exact hlt)⟩
        obtain ⟨b, off, rfl, _, k1, k2, k3, k4⟩ := hL.at k _ hx
        replace k1 := cell_later hB k1
        replace k2 := cell_later hB k2
        replace k3 := cell_later hB k3
        replace k4 := cell_later hB k4
        have hi1 : (k : Int) < (n : Int) := by omega
        obtain ⟨r, hr⟩ : ∃ r, chkR x = r := ⟨_, rfl⟩
        have HR := Lib.hid hr
        have HX := Lib.hid hx
        have hsz := hB.size
        by_cases hr0 : r = 0
        · subst hr0
          have HV2 : Hid (∀ (m : Nat) (y : RlI), m < k + 1 → l[m]? = some y → chkR y = 0) := fun m y hm hy => by
            by_cases hmk : m < k
            · exact HV.out m y hmk hy
            · obtain rfl : m = k := by omega
              rw [hx] at hy; cases hy; exact hr
          clear hr hx HV
          go_wp2_with fail
          refine (rule_is x 0 HR.out _).mono ?_
          rintro e w1 ⟨rfl, hB1⟩
          go_wp2
          go_roundw
          case rel => exact ⟨k + 1, by omega, by go_num, HV2, hB.trans (hB1.mono hB.size)⟩
          case measure => simp [intOf]; omega
        · have hq : (r != 0) = true := by simp [hr0]
          have hA : (i, c) = (0 + k, r) := by
            rw [← HC.out, ← hr]
            exact chkF_cut l 0 k x hx HV.out (by rw [hr]; exact hr0)
          rw [Nat.zero_add] at hA
          cases hA
          clear hr hx HV
          go_wp2_with fail
          refine (rule_is x _ HR.out _).mono ?_
          rintro e w1 ⟨rfl, hB1⟩
          go_wp2
          go_ret2
          exact ⟨rfl, hbL.trans ((hB.trans (hB1.mono hB.size)).mono hbL.size)⟩
      · have hi1 : ¬ ((k : Int) < (n : Int)) := by omega
        have hA : (i, c) = (0, 0) := by
          rw [← HC.out]
          exact chkF_all l 0 fun j y hy => HV.out j y (by have := (List.getElem?_eq_some_iff.1 hy).1; rw [HN.out] at this; omega) hy
        cases hA
        go_wp2
        go_ret2
        exact ⟨rfl, hbL.trans (hB.mono hbL.size)⟩
end Go.Proofs.Ytjplihljmohpjaa

/- The reference: refuses, refused, hits. -/
namespace Go.Proofs.Ytjplihljmohpjaa
open Go.RowKit
attribute [local go_sem] Oper.semAt_some

set_option maxRecDepth 100000 in
set_option maxHeartbeats 2000000 in
theorem Rrefuses_is (r : Ru) (h : r.ok) (kd n : Nat) (hn : n ≤ 1000000) (b : Bool) (hb : (decide (r.k = kd) && r.ref n) = b) (w : World) :
    Calls Try.prog 92 #[rv r.toI, .int .i64 (kd : Int), .int .i64 (n : Int)] w fun e w' => e = .returned (.bool b) ∧ Below w.heap.size w w' := by
  have hBw : ∀ o : Obj, Below w.heap.size w (w.alloc o) := fun o => (Below.refl _ _).alloc (Nat.le_refl _) _
  have hk := h.k; have hf1 := h.f1; have hf2 := h.f2; have he2 := h.e2; have ht2 := h.t2; have het := h.et
  clear h
  obtain ⟨k, f, e, t⟩ := r
  simp only at hk hf1 hf2 he2 ht2 het
  unfold Ru.ref at hb
  unfold Ru.toI
  simp only at hb ⊢
  by_cases hkk : k = kd
  · subst hkk
    rw [decide_eq_true rfl, Bool.true_and] at hb
    by_cases h1 : n < f
    · have h1' : (n : Int) < (f : Int) := by omega
      have hbf : b = false := by rw [← hb]; simp; omega
      subst hbf
      clear hb het
      go_enter Try.func92, Try.ntmps92
      go_wp2_with fail
      go_ret
      exact ⟨rfl, hBw _⟩
    have h1' : ¬ (n : Int) < (f : Int) := by omega
    by_cases he : e = 0
    · subst he
      have ht := het rfl
      subst ht
      have hbf : ((n : Int) == (f : Int)) = b := by rw [← hb, Bool.eq_iff_iff]; simp; omega
      have HB := Lib.hid hbf
      clear hb het hbf
      go_enter Try.func92, Try.ntmps92
      go_wp2_with fail
      go_ret
      exact ⟨ret_bool HB.out, hBw _⟩
    have he0 : (e : Int) ≠ 0 := by omega
    have he3 : ((e : Int) == 0) = false := by simp [he]
    obtain ⟨q, hq⟩ : ∃ q, (n - f) / e = q := ⟨_, rfl⟩
    rw [hq] at hb
    have hqn : q ≤ n - f := by rw [← hq]; exact Nat.div_le_self _ _
    have hq2 : Int.tdiv ((n : Int) - (f : Int)) (e : Int) = (q : Int) := by rw [Int.tdiv_eq_ediv_of_nonneg (by omega), ← hq, show (n : Int) - (f : Int) = ((n - f : Nat) : Int) by omega]; rfl
    have hpl : q * e ≤ 1000000 := by rw [← hq]; exact Nat.le_trans (Nat.div_mul_le_self _ _) (by omega)
    obtain ⟨p, hp⟩ : ∃ p, q * e = p := ⟨_, rfl⟩
    rw [hp] at hpl hb
    have hp1 : (q : Int) * (e : Int) = (p : Int) := by rw [← hp]; simp
    obtain ⟨g, hg⟩ : ∃ g, f + p = g := ⟨_, rfl⟩
    have hg1 : (f : Int) + (p : Int) = (g : Int) := by omega
    rw [hg, decide_eq_true (show f ≤ n by omega), Bool.true_and] at hb
    clear hq hp het hg
    by_cases hgn : g = n
    · have hg2 : ((g : Int) == (n : Int)) = true := by simp [hgn]
      rw [decide_eq_true hgn, Bool.true_and] at hb
      clear hgn
      by_cases ht : t = 0
      · have ht3 : ((t : Int) == 0) = true := by simp [ht]
        have hbf : b = true := by rw [← hb, decide_eq_true ht]; rfl
        subst hbf
        clear hb ht
        go_enter Try.func92, Try.ntmps92
        go_wp2_with fail
        go_ret
        exact ⟨rfl, hBw _⟩
      · have ht3 : ((t : Int) == 0) = false := by simp [ht]
        by_cases hqt : q < t
        · have hqt2 : (q : Int) < (t : Int) := by omega
          have hbf : b = true := by rw [← hb, decide_eq_true hqt]; simp
          subst hbf
          clear hb ht hqt
          go_enter Try.func92, Try.ntmps92
          go_wp2_with fail
          go_ret
          exact ⟨rfl, hBw _⟩
        · have hqt2 : ¬ (q : Int) < (t : Int) := by omega
          have hbf : b = false := by rw [← hb, decide_eq_false hqt, decide_eq_false ht]; rfl
          subst hbf
          clear hb ht hqt
          go_enter Try.func92, Try.ntmps92
          go_wp2_with fail
          go_ret
          exact ⟨rfl, hBw _⟩
    · have hg2 : ((g : Int) == (n : Int)) = false := by simp; omega
      have hbf : b = false := by rw [← hb, decide_eq_false hgn]; rfl
      subst hbf
      clear hb hgn
      go_enter Try.func92, Try.ntmps92
      go_wp2_with fail
      go_ret
      exact ⟨rfl, hBw _⟩
  · have hk2 : ((k : Int) != (kd : Int)) = true := by simp; omega
    have hbf : b = false := by rw [← hb, decide_eq_false hkk]; rfl
    subst hbf
    clear hb hkk het
    go_enter Try.func92, Try.ntmps92
    go_wp2_with fail
    go_ret
    exact ⟨rfl, hBw _⟩
theorem refP_take (L : List Ru) (kd n k : Nat) (r : Ru) (h : L[k]? = some r) : refP (L.take (k + 1)) kd n = (refP (L.take k) kd n || (decide (r.k = kd) && r.ref n)) := by
  rw [List.take_add_one, h]; exact refP_snoc _ _ _ _
theorem refP_has (L : List Ru) (kd n k : Nat) (r : Ru) (h : L[k]? = some r) (hr : (decide (r.k = kd) && r.ref n) = true) : refP L kd n = true := by
  unfold refP
  rw [List.any_eq_true]
  exact ⟨r, List.mem_of_getElem? h, hr⟩
set_option maxRecDepth 100000 in
set_option maxHeartbeats 2000000 in
theorem Rrefused_is (L : List Ru) (hL : OkL L) (kd n : Nat) (hn : n ≤ 1000000) (b : Bool) (hb : refP L kd n = b) (v : Value) (w : World) (h : RAt w v (toI L)) :
    Calls Try.prog 72 #[.agg #[v], .int .i64 (kd : Int), .int .i64 (n : Int)] w fun e w' => e = .returned (.bool b) ∧ Below w.heap.size w w' := by
  have HB := Lib.hid hb
  have HL := Lib.hid hL
  obtain ⟨a, cap, rfl⟩ := h.form
  obtain ⟨N, hN⟩ : ∃ n, L.length = n := ⟨_, rfl⟩
  have HN := Lib.hid hN
  have hN50 : N ≤ 50 := by have := hL.1; omega
  have HLN : Hid ((toI L).length = N) := by unfold Hid; rw [toI_len, hN]
  rw [HLN.out] at h ⊢
  obtain ⟨WL, hWL⟩ : ∃ x, w.alloc (.cells #[.slice a N cap] 24) = x := ⟨_, rfl⟩
  have hbL : Below w.heap.size w WL := by rw [← hWL]; exact (Below.refl _ _).alloc (Nat.le_refl _) _
  have bP : Boxed WL w.heap.size 24 (.slice a N cap) := by rw [← hWL]; exact Boxed.new w _ _
  have hP := bP.cell
  have hLL := h.later hbL
  clear hb hN
  go_enter Try.func72, Try.ntmps72
  go_wp2_with fail
  try rw [hWL]
  clear hWL
  go_loopw [7] (fun j wr => ∃ k : Nat, k ≤ N ∧ j = .int .i64 k ∧ Hid (refP (L.take k) kd n = false) ∧ Below WL.heap.size WL wr) (fun i _ => N - (intOf i).toNat)
  case atStart => exact ⟨0, Nat.zero_le _, rfl, rfl, Below.refl _ _⟩
  case round =>
    obtain ⟨k, hk, rfl, HV, hB⟩ := hrel
    have hPw := cell_later hB hP
    by_cases hlt : k < N
    · obtain ⟨r, hx⟩ : ∃ x, L[k]? = some x := ⟨_, List.getElem?_eq_getElem (by rw [HN.out]; exact hlt)⟩
      have hrk := HL.out.get hx
      obtain ⟨b1, off, rfl, _, k1, k2, k3, k4⟩ := hLL.at k _ (toI_some hx)
      replace k1 := cell_later hB k1
      replace k2 := cell_later hB k2
      replace k3 := cell_later hB k3
      replace k4 := cell_later hB k4
      simp only [Ru.toI] at k1 k2 k3 k4
      have hi1 : (k : Int) < (N : Int) := by omega
      have hst := refP_take L kd n k r hx
      rw [HV.out, Bool.false_or] at hst
      cases hc : (decide (r.k = kd) && r.ref n) with
      | true =>
        have HR := Lib.hid (Rrefuses_is r hrk kd n hn true hc)
        have hbt : b = true := by rw [← HB.out]; exact refP_has L kd n k r hx hc
        subst hbt
        clear hst hx hc hrk
        go_wp2_with fail
        refine (HR.out _).mono ?_
        rintro e w3 ⟨rfl, B3⟩
        go_wp2
        go_ret
        exact ⟨rfl, hbL.trans ((hB.trans (B3.mono hB.size)).mono hbL.size)⟩
      | false =>
        have HR := Lib.hid (Rrefuses_is r hrk kd n hn false hc)
        have HV2 : Hid (refP (L.take (k + 1)) kd n = false) := by unfold Hid; rw [hst, hc]
        clear hst hx hc hrk
        go_wp2_with fail
        refine (HR.out _).mono ?_
        rintro e w3 ⟨rfl, B3⟩
        go_wp2
        go_roundw
        case rel => exact ⟨k + 1, by omega, by go_num, HV2, hB.trans (B3.mono hB.size)⟩
        case measure => simp [intOf]; omega
    · have hi1 : ¬ ((k : Int) < (N : Int)) := by omega
      have hbf : b = false := by
        rw [← HB.out, ← HV.out, List.take_of_length_le (by rw [HN.out]; omega)]
      subst hbf
      go_wp2
      go_ret
      exact ⟨rfl, hbL.trans (hB.mono hbL.size)⟩
set_option maxRecDepth 100000 in
set_option maxHeartbeats 2000000 in
theorem Rhits_is (L : List Ru) (hL : OkL L) (kd : Nat) (c : Int) (hc6 : c ≤ 1000000) (v : Value) (w : World) (h : RAt w v (toI L)) :
    Calls Try.prog 88 #[.agg #[v], .int .i64 (kd : Int), .int .i64 c] w fun e w' => e = .returned (.int .i64 (hitN L kd c.toNat : Nat)) ∧ Below w.heap.size w w' := by
  have HL := Lib.hid hL
  have H0 := Lib.hid (hitN_zero hL.2 kd)
  obtain ⟨WL, hWL⟩ : ∃ x, w.alloc (.cells #[v] 24) = x := ⟨_, rfl⟩
  have hbL : Below w.heap.size w WL := by rw [← hWL]; exact (Below.refl _ _).alloc (Nat.le_refl _) _
  have bP : Boxed WL w.heap.size 24 v := by rw [← hWL]; exact Boxed.new w _ _
  have hP := bP.cell
  have hLL := h.later hbL
  clear hL
  go_enter Try.func88, Try.ntmps88
  go_wp2_with fail
  try rw [hWL]
  clear hWL
  go_loopw [7, 8] (fun s j wr => ∃ k : Nat, k ≤ c.toNat ∧ j = .int .i64 ((k + 1 : Nat) : Int) ∧ s = .int .i64 (hitN L kd k : Nat) ∧ Below WL.heap.size WL wr) (fun _ i _ => c.toNat + 1 - (intOf i).toNat)
  case atStart => exact ⟨0, Nat.zero_le _, rfl, by rw [H0.out]; rfl, Below.refl _ _⟩
  case round =>
    obtain ⟨k, hk, rfl, rfl, hB⟩ := hrel
    have hPw := cell_later hB hP
    have hle := hitN_le L kd k HL.out.2
    have hs := Lib.hid (hitN_succ L kd k)
    obtain ⟨m, hm⟩ : ∃ m, hitN L kd k = m := ⟨_, rfl⟩
    rw [hm] at hle hs ⊢
    obtain ⟨z, hz⟩ : ∃ z, k + 1 = z := ⟨_, rfl⟩
    by_cases hlt : k < c.toNat
    · have hi1 : (z : Int) ≤ c := by omega
      rw [hz] at hs ⊢
      cases hc : refP L kd z with
      | true =>
        have HR := Lib.hid (Rrefused_is L HL.out kd z (by omega) true hc v _ (hLL.later hB))
        have hs2 : Hid (hitN L kd z = m + 1) := by rw [hs.out, hc]; rfl
        clear hs hc hm
        go_wp2_with fail
        refine HR.out.mono ?_
        rintro e w3 ⟨rfl, B3⟩
        go_wp2
        go_roundw
        case rel => exact ⟨z, by omega, by go_num, by rw [hs2.out]; go_num, hB.trans (B3.mono hB.size)⟩
        case measure => simp [intOf]; omega
      | false =>
        have HR := Lib.hid (Rrefused_is L HL.out kd z (by omega) false hc v _ (hLL.later hB))
        have hs2 : Hid (hitN L kd z = m) := by rw [hs.out, hc]; rfl
        clear hs hc hm
        go_wp2_with fail
        refine HR.out.mono ?_
        rintro e w3 ⟨rfl, B3⟩
        go_wp2
        go_roundw
        case rel => exact ⟨z, by omega, by go_num, by rw [hs2.out], hB.trans (B3.mono hB.size)⟩
        case measure => simp [intOf]; omega
    · have hi1 : ¬ ((z : Int) ≤ c) := by omega
      have hkc : k = c.toNat := by omega
      have hfin : Hid (hitN L kd c.toNat = m) := by unfold Hid; rw [← hkc]; exact hm
      rw [hz]
      clear hkc hs hm
      go_wp2
      go_ret
      exact ⟨ret_int (by rw [hfin.out]), hbL.trans (hB.mono hbL.size)⟩
end Go.Proofs.Ytjplihljmohpjaa

/- The reference: CheckState. -/
namespace Go.Proofs.Ytjplihljmohpjaa
open Go.RowKit Go.Shelf
attribute [local go_sem] Oper.semAt_some

set_option maxRecDepth 100000 in
set_option maxHeartbeats 1000000 in
theorem RCheckState_bad (v : Value) (l : List RlI) (i : Nat) (e : Int) (hc : chkP l = (i, e)) (h0 : e ≠ 0) (c h : Nat → Int) (w : World) (hr : RAt w v l) :
    Calls Try.prog 63 #[stV v c h] w fun x w' => x = .returned (.int .i64 e) ∧ Below w.heap.size w w' := by
  obtain ⟨WL, hWL⟩ : ∃ x, w.alloc (.cells (stA v c h) 45) = x := ⟨_, rfl⟩
  have hb : Below w.heap.size w WL := by rw [← hWL]; exact (Below.refl _ _).alloc (Nat.le_refl _) _
  have sS : SBox WL w.heap.size v c h := by rw [← hWL]; exact SBox.new w v c h
  have HC := Lib.hid (RCheck_is v l i e hc WL (hr.later hb))
  have hq : (e != 0) = true := by simp [h0]
  have q1 := sS.v
  clear hc h0
  go_enter Try.func63, Try.ntmps63
  go_wp2_with fail
  try rw [hWL]
  refine HC.out.mono ?_
  rintro e w1 ⟨rfl, B1⟩
  go_wp2
  go_ret
  exact ⟨rfl, hb.trans (B1.mono hb.size)⟩

theorem inb_iff {x lo hi : Int} : inb x lo hi = true ↔ lo ≤ x ∧ x ≤ hi := by unfold inb; simp
set_option maxRecDepth 100000 in
set_option maxHeartbeats 4000000 in
theorem RCheckState_is (v : Value) (L : List Ru) (hL : OkL L) (c h : Nat → Int) (r : Int) (hrs : csF L c h = r) (w : World) (hr : RAt w v (toI L)) :
    Calls Try.prog 63 #[stV v c h] w fun x w' => x = .returned (.int .i64 r) ∧ Below w.heap.size w w' := by
  obtain ⟨WL, hWL⟩ : ∃ x, w.alloc (.cells (stA v c h) 45) = x := ⟨_, rfl⟩
  have hb : Below w.heap.size w WL := by rw [← hWL]; exact (Below.refl _ _).alloc (Nat.le_refl _) _
  have sS : SBox WL w.heap.size v c h := by rw [← hWL]; exact SBox.new w v c h
  have hrL := hr.later hb
  have HC := Lib.hid (RCheck_is v (toI L) 0 0 (chkP_of hL) WL hrL)
  have q1 := sS.v
  have HRS := Lib.hid hrs
  have HL := Lib.hid hL
  clear hrs
  go_enter Try.func63, Try.ntmps63
  go_wp2_with fail
  try rw [hWL]
  refine HC.out.mono ?_
  rintro e w1 ⟨rfl, B1⟩
  have s1 := sS.later B1
  have hB1 := hb.trans (B1.mono hb.size)
  have hr1 := hrL.later B1
  have hsz1 := s1.lt
  have har := arr7
  clear hWL q1
  go_wp2_with fail
  go_loopw [5] (fun i wr => ∃ k : Nat, k ≤ 7 ∧ i = .int .i64 k ∧ Hid (∀ j, j < k → inb (c j) 0 1000000 = true) ∧ w1 = wr) (fun i _ => 7 - (intOf i).toNat)
  case atStart => exact ⟨0, Nat.zero_le _, rfl, (fun j hj => by omega), rfl⟩
  case round =>
    obtain ⟨k, hk, rfl, HO, rfl⟩ := hrel
    by_cases hlt : k < 7
    · have hh := s1.c k hlt
      have hi1 : (k : Int) < 7 := by omega
      obtain ⟨ck, hck⟩ : ∃ x, c k = x := ⟨_, rfl⟩
      rw [hck] at hh
      cases hin : inb ck 0 1000000 with
      | false =>
        have HI := Lib.hid hin
        have hr6 : r = 6 := by
          rw [← HRS.out]
          refine csF_cut hlt ?_
          unfold inb at hin
          unfold okS
          rw [hck, hin, Bool.false_and]
        subst hr6
        clear hck hin
        go_wp2_with fail
        refine (in_is ck 0 1000000 false HI.out _).mono ?_
        rintro e w2 ⟨rfl, rfl⟩
        go_wp2
        go_ret
        exact ⟨rfl, hB1⟩
      | true =>
        have HI := Lib.hid hin
        have HO2 : Hid (∀ j, j < k + 1 → inb (c j) 0 1000000 = true) := fun j hj => by
          by_cases hjk : j < k
          · exact HO.out j hjk
          · obtain rfl : j = k := by omega
            rw [hck]; exact hin
        clear hck hin HO
        go_wp2_with fail
        refine (in_is ck 0 1000000 true HI.out _).mono ?_
        rintro e w2 ⟨rfl, rfl⟩
        go_wp2
        go_roundw
        case rel => exact ⟨k + 1, by omega, by go_num, HO2, by trivial⟩
        case measure => simp [intOf]; omega
    · have hi1 : ¬ ((k : Int) < 7) := by omega
      have HIN : Hid (∀ j, j < 7 → 0 ≤ c j ∧ c j ≤ 1000000) := fun j hj => inb_iff.1 (HO.out j (by omega))
      clear HO
      go_wp2_with fail
      go_loopw [6] (fun i wr => ∃ k : Nat, k ≤ 7 ∧ i = .int .i64 k ∧ Hid (∀ j, j < k → okS L c h j = true) ∧ Below w1.heap.size w1 wr) (fun i _ => 7 - (intOf i).toNat)
      case atStart => exact ⟨0, Nat.zero_le _, rfl, (fun j hj => by omega), Below.refl _ _⟩
      case round =>
        obtain ⟨k, hk, rfl, HO, hB⟩ := hrel
        by_cases hlt : k < 7
        · have hcw := cell_later hB (s1.c k hlt)
          have hhw := cell_later hB (s1.h k hlt)
          have hqw := cell_later hB s1.v
          have hi1 : (k : Int) < 7 := by omega
          have hk0 : decide ((k : Int) < 0) = false := by simp
          have hk7 : decide ((7 : Int) ≤ (k : Int)) = false := by simp; omega
          have hr2 := hr1.later hB
          have hin := HIN.out k hlt
          obtain ⟨ck, hck⟩ : ∃ x, c k = x := ⟨_, rfl⟩
          obtain ⟨hv, hhv⟩ : ∃ x, h k = x := ⟨_, rfl⟩
          rw [hck] at hcw hin
          rw [hhv] at hhw
          have HH := Lib.hid (fun W hW => Rhits_is L HL.out k ck hin.2 v W hW)
          obtain ⟨m, hm⟩ : ∃ m, hitN L k ck.toNat = m := ⟨_, rfl⟩
          rw [hm] at HH
          have x0 := fun x : Beh wr => Beh.cell hqw x
          have xh := fun x : Beh wr => Beh.cell hhw x
          have xc := fun x : Beh wr => Beh.cell hcw x
          by_cases heq : hv = (m : Int)
          · have hq : (hv != (m : Int)) = false := by simp [heq]
            have HO2 : Hid (∀ j, j < k + 1 → okS L c h j = true) := fun j hj => by
              by_cases hjk : j < k
              · exact HO.out j hjk
              · obtain rfl : j = k := by omega
                unfold okS
                rw [hck, hhv, hm, heq]
                simp; omega
            clear hck hhv hm HO heq hin
            go_wp2_with fail
            refine region_beh (by kernel_rfl) (by kernel_rfl) ?_
            repeat (go_big_quiet_step ((go_at_call 88; rename_i x; refine (HH.out _ (hr2.later x.h)).mono ?_; rintro e w3 ⟨rfl, B3⟩; exact ⟨rfl, ⟨_, x.h.trans (B3.mono x.h.size)⟩, rfl⟩)))
            refine wpQuiet_nil ?_
            intro _ hw'
            obtain ⟨x, rfl⟩ := hw'
            go_wp2_with fail
            go_roundw
            case rel => exact ⟨k + 1, by omega, by go_num, HO2, hB.trans (x.h.mono hB.size)⟩
            case measure => simp [intOf]; omega
          · have hq : (hv != (m : Int)) = true := by simp [heq]
            have hr6 : r = 6 := by
              rw [← HRS.out]
              refine csF_cut hlt ?_
              unfold okS
              rw [hck, hhv, hm]
              simp [heq]
            subst hr6
            clear hck hhv hm HO heq hin
            go_wp2_with fail
            refine region_beh (by kernel_rfl) (by kernel_rfl) ?_
            repeat (go_big_quiet_step ((go_at_call 88; rename_i x; refine (HH.out _ (hr2.later x.h)).mono ?_; rintro e w3 ⟨rfl, B3⟩; exact ⟨rfl, ⟨_, x.h.trans (B3.mono x.h.size)⟩, rfl⟩)))
            refine wpQuiet_nil ?_
            intro _ hw'
            obtain ⟨x, rfl⟩ := hw'
            go_wp2_with fail
            go_ret
            exact ⟨rfl, hB1.trans ((hB.trans (x.h.mono hB.size)).mono hB1.size)⟩
        · have hi1 : ¬ ((k : Int) < 7) := by omega
          have hr0 : r = 0 := by rw [← HRS.out]; exact csF_all fun j hj => HO.out j (by omega)
          subst hr0
          go_wp2
          go_ret
          exact ⟨rfl, hB1.trans (hB.mono hB1.size)⟩
end Go.Proofs.Ytjplihljmohpjaa

/- Next: the errors; the reference's Next and Start. -/
namespace Go.Proofs.Ytjplihljmohpjaa
open Go.RowKit Go.Shelf
attribute [local go_sem] Oper.semAt_some

theorem isK_inb (k : Int) : inb k 0 6 = isK k := by unfold inb isK; rw [Bool.eq_iff_iff]; simp; omega
set_option maxRecDepth 100000 in
set_option maxHeartbeats 2000000 in
theorem Next_bad (v : Value) (c h : Nat → Int) (x : Int) (hx : x ≠ 0) (kd : Int) (w : World) (hC : ∀ W, Below w.heap.size w W → Calls Try.prog 59 #[stV v c h] W fun e w' => e = .returned (.int .i64 x) ∧ Below W.heap.size W w') :
    Calls Try.prog 104 #[stV v c h, .int .i64 kd] w fun e w' => e = .returned (.tuple #[stV (.slice none 0 0) zer zer, .bool false, .int .i64 x]) ∧ Below w.heap.size w w' := by
  obtain ⟨WL, hWL, hb, sS, sR⟩ := next_world w v c h
  have HC := Lib.hid (hC WL hb)
  have hq : (x != 0) = true := by simp [hx]
  have hq2 : (x == 0) = false := by simp [hx]
  clear hx hC
  go_enter Try.func104, Try.ntmps104
  go_wp2_with (refine wpList_load_row rfl 45 _ rfl w.heap.size rfl 45 _ (0, 0) _ sS Try.underlying45 rfl (st_i _ _ _) ?_)
  try rw [hWL]
  refine HC.out.mono ?_
  rintro e w1 ⟨rfl, B1⟩
  have r1 := sR.later B1
  have hB1 := hb.trans (B1.mono hb.size)
  clear hWL
  go_wp2_with (refine wpList_store_row rfl 45 _ _ rfl (w.heap.size + 1) (stA (.slice none 0 0) zer zer) rfl rfl 45 _ r1 (st_i _ _ _) rfl (stA_one _ rfl _ _) ?_)
  have sR2 := r1.row (.slice none 0 0) zer zer
  have hld := st_load sR2
  refine bodyPost_ret (v := .tuple #[stV (.slice none 0 0) zer zer, .bool false, .int .i64 x]) (by simp [results, Try.results104, asAddr, hld]) rfl ⟨rfl, below_row hB1 _ (by omega) _⟩
set_option maxRecDepth 100000 in
set_option maxHeartbeats 2000000 in
theorem Next_kind (v : Value) (c h : Nat → Int) (kd : Int) (hk : isK kd = false) (w : World) (hC : ∀ W, Below w.heap.size w W → Calls Try.prog 59 #[stV v c h] W fun e w' => e = .returned (.int .i64 0) ∧ Below W.heap.size W w') :
    Calls Try.prog 104 #[stV v c h, .int .i64 kd] w fun e w' => e = .returned (.tuple #[stV (.slice none 0 0) zer zer, .bool false, .int .i64 2]) ∧ Below w.heap.size w w' := by
  obtain ⟨WL, hWL, hb, sS, sR⟩ := next_world w v c h
  have HC := Lib.hid (hC WL hb)
  have HK := Lib.hid hk
  clear hC hk
  go_enter Try.func104, Try.ntmps104
  go_wp2_with (refine wpList_load_row rfl 45 _ rfl w.heap.size rfl 45 _ (0, 0) _ sS Try.underlying45 rfl (st_i _ _ _) ?_)
  try rw [hWL]
  refine HC.out.mono ?_
  rintro e w1 ⟨rfl, B1⟩
  have r1 := sR.later B1
  have hB1 := hb.trans (B1.mono hb.size)
  clear hWL
  go_wp2_with fail
  refine (isKind_is kd false HK.out _).mono ?_
  rintro e w1' ⟨rfl, rfl⟩
  go_wp2_with (refine wpList_store_row rfl 45 _ _ rfl (w.heap.size + 1) (stA (.slice none 0 0) zer zer) rfl rfl 45 _ r1 (st_i _ _ _) rfl (stA_one _ rfl _ _) ?_)
  have sR2 := r1.row (.slice none 0 0) zer zer
  have hld := st_load sR2
  refine bodyPost_ret (v := .tuple #[stV (.slice none 0 0) zer zer, .bool false, .int .i64 2]) (by simp [results, Try.results104, asAddr, hld]) rfl ⟨rfl, below_row hB1 _ (by omega) _⟩
set_option maxRecDepth 100000 in
set_option maxHeartbeats 2000000 in
theorem RNext_bad (v : Value) (c h : Nat → Int) (x : Int) (hx : x ≠ 0) (kd : Int) (w : World) (hC : ∀ W, Below w.heap.size w W → Calls Try.prog 63 #[stV v c h] W fun e w' => e = .returned (.int .i64 x) ∧ Below W.heap.size W w') :
    Calls Try.prog 31 #[stV v c h, .int .i64 kd] w fun e w' => e = .returned (.tuple #[stV (.slice none 0 0) zer zer, .bool false, .int .i64 x]) ∧ Below w.heap.size w w' := by
  obtain ⟨WL, hWL, hb, sS, sR⟩ := next_world w v c h
  have HC := Lib.hid (hC WL hb)
  have hq : (x != 0) = true := by simp [hx]
  have hq2 : (x == 0) = false := by simp [hx]
  clear hx hC
  go_enter Try.func31, Try.ntmps31
  go_wp2_with (refine wpList_load_row rfl 45 _ rfl w.heap.size rfl 45 _ (0, 0) _ sS Try.underlying45 rfl (st_i _ _ _) ?_)
  try rw [hWL]
  refine HC.out.mono ?_
  rintro e w1 ⟨rfl, B1⟩
  have r1 := sR.later B1
  have hB1 := hb.trans (B1.mono hb.size)
  clear hWL
  go_wp2_with (refine wpList_store_row rfl 45 _ _ rfl (w.heap.size + 1) (stA (.slice none 0 0) zer zer) rfl rfl 45 _ r1 (st_i _ _ _) rfl (stA_one _ rfl _ _) ?_)
  have sR2 := r1.row (.slice none 0 0) zer zer
  have hld := st_load sR2
  refine bodyPost_ret (v := .tuple #[stV (.slice none 0 0) zer zer, .bool false, .int .i64 x]) (by simp [results, Try.results31, asAddr, hld]) rfl ⟨rfl, below_row hB1 _ (by omega) _⟩
set_option maxRecDepth 100000 in
set_option maxHeartbeats 2000000 in
theorem RNext_kind (v : Value) (c h : Nat → Int) (kd : Int) (hk : isK kd = false) (w : World) (hC : ∀ W, Below w.heap.size w W → Calls Try.prog 63 #[stV v c h] W fun e w' => e = .returned (.int .i64 0) ∧ Below W.heap.size W w') :
    Calls Try.prog 31 #[stV v c h, .int .i64 kd] w fun e w' => e = .returned (.tuple #[stV (.slice none 0 0) zer zer, .bool false, .int .i64 2]) ∧ Below w.heap.size w w' := by
  obtain ⟨WL, hWL, hb, sS, sR⟩ := next_world w v c h
  have HC := Lib.hid (hC WL hb)
  have HK := Lib.hid hk
  clear hC hk
  go_enter Try.func31, Try.ntmps31
  go_wp2_with (refine wpList_load_row rfl 45 _ rfl w.heap.size rfl 45 _ (0, 0) _ sS Try.underlying45 rfl (st_i _ _ _) ?_)
  try rw [hWL]
  refine HC.out.mono ?_
  rintro e w1 ⟨rfl, B1⟩
  have r1 := sR.later B1
  have hB1 := hb.trans (B1.mono hb.size)
  clear hWL
  go_wp2_with fail
  refine (in_is kd 0 6 false (by rw [isK_inb, HK.out]) _).mono ?_
  rintro e w1' ⟨rfl, rfl⟩
  go_wp2_with (refine wpList_store_row rfl 45 _ _ rfl (w.heap.size + 1) (stA (.slice none 0 0) zer zer) rfl rfl 45 _ r1 (st_i _ _ _) rfl (stA_one _ rfl _ _) ?_)
  have sR2 := r1.row (.slice none 0 0) zer zer
  have hld := st_load sR2
  refine bodyPost_ret (v := .tuple #[stV (.slice none 0 0) zer zer, .bool false, .int .i64 2]) (by simp [results, Try.results31, asAddr, hld]) rfl ⟨rfl, below_row hB1 _ (by omega) _⟩

set_option maxRecDepth 100000 in
set_option maxHeartbeats 4000000 in
theorem RNext_ok (v : Value) (L : List Ru) (hL : OkL L) (c h : Nat → Int) (hrs : csF L c h = 0) (kd n : Nat) (hkd : kd < 7) (hn : c kd = (n : Int)) (hn2 : n < 1000000) (w : World) (hr : RAt w v (toI L)) :
    Calls Try.prog 31 #[stV v c h, .int .i64 (kd : Int)] w fun x w' => x = .returned (.tuple #[stV v (upd c kd (n + 1 : Nat)) (nxH L h kd n), .bool (refP L kd (n + 1)), .int .i64 0]) ∧ Below w.heap.size w w' := by
  obtain ⟨va, vc, hv⟩ := hr.form
  have hv1 : v.oneCell' = true := by rw [hv]; rfl
  obtain ⟨WL, hWL, hb, sS, sR⟩ := next_world w v c h
  have hrL := hr.later hb
  have HC := Lib.hid (RCheckState_is v L hL c h 0 hrs WL hrL)
  obtain ⟨m, hm, hmn⟩ : ∃ m : Nat, h kd = (m : Int) ∧ m ≤ n := by
    have ho : okS L c h kd = true := by
      cases hq : okS L c h kd
      · rw [csF_cut hkd hq] at hrs; cases hrs
      · rfl
    obtain ⟨n', h1, _, h3⟩ := okS_num ho
    obtain rfl : n' = n := by omega
    exact ⟨_, h3, hitN_le L kd n' hL.2⟩
  have HL := Lib.hid hL
  have HK := Lib.hid (show inb (kd : Int) 0 6 = true by unfold inb; simp; omega)
  obtain ⟨bR, hbR⟩ : ∃ b, refP L kd (n + 1) = b := ⟨_, rfl⟩
  have HR := Lib.hid (fun W hW => Rrefused_is L hL kd (n + 1) (by omega) bR hbR v W hW)
  rw [show ((n + 1 : Nat) : Int) = (n : Int) + 1 by omega] at HR
  clear hrs hv
  go_enter Try.func31, Try.ntmps31
  go_wp2_with (refine wpList_load_row rfl 45 _ rfl w.heap.size rfl 45 _ (0, 0) _ sS Try.underlying45 rfl (st_i _ _ _) ?_)
  try rw [hWL]
  refine HC.out.mono ?_
  rintro e w1 ⟨rfl, B1⟩
  have s1 := sS.later B1
  have r1 := sR.later B1
  have hr1 := hrL.later B1
  have hB1 := hb.trans (B1.mono hb.size)
  have k1 := s1.c kd hkd
  have kf1 := s1.frozen (1 + kd)
  rw [hn] at k1
  have hkd1 : (kd : Int) < 7 := by omega
  have hn3 : ((n : Int) == 1000000) = false := by simp; omega
  have hsl1 := s1.lt
  have har := arr7
  clear hWL
  go_wp2_with fail
  refine (in_is kd 0 6 true HK.out _).mono ?_
  rintro e w1' ⟨rfl, rfl⟩
  have sc := s1.setc kd hkd ((n : Int) + 1)
  obtain ⟨W3, hW3⟩ : ∃ x, w1.setCell ⟨w.heap.size, 1 + kd, none⟩ (.int .i64 ((n : Int) + 1)) = x := ⟨_, rfl⟩
  have rc : SBox W3 (w.heap.size + 1) (.slice none 0 0) zer zer := by
    rw [← hW3]; exact r1.other (by show w.heap.size + 1 ≠ w.heap.size; omega) _
  have hB3 : Below w.heap.size w W3 := by rw [← hW3]; exact hB1.setCell (by dsimp only; omega) _
  rw [hW3] at sc
  have HW3 := Lib.hid hW3
  clear hW3
  go_wp2_with fail
  rw [HW3.out]
  have hr3 := hr.later hB3
  have y0 := fun x : Beh W3 => Beh.cell sc.v x
  have y1 := fun x : Beh W3 => Beh.cell (sc.c kd hkd) x
  rw [show upd c kd ((n : Int) + 1) kd = (n : Int) + 1 by unfold upd; rw [if_pos rfl]] at y1
  have hk0 : decide ((kd : Int) < 0) = false := by simp
  have hk7 : decide ((7 : Int) ≤ (kd : Int)) = false := by simp; omega
  refine region_beh (by kernel_rfl) (by kernel_rfl) ?_
  repeat (go_big_quiet_step ((go_at_call 72; rename_i x; refine (HR.out _ (hr3.later x.h)).mono ?_; rintro e w3 ⟨rfl, B3⟩; exact ⟨rfl, ⟨_, x.h.trans (B3.mono x.h.size)⟩, rfl⟩)))
  refine wpQuiet_nil ?_
  intro _ hw'
  obtain ⟨x, rfl⟩ := hw'
  have sX := sc.later x.h
  have rX := rc.later x.h
  have hBX := hB3.trans (x.h.mono hB3.size)
  generalize x.W = X at sX rX hBX ⊢
  have hzX := sX.h kd hkd
  rw [hm] at hzX
  have hzf := sX.frozen (8 + kd)
  have HU := Lib.hid (show upd c kd ((n : Int) + 1) = upd c kd (n + 1 : Nat) by congr 1)
  cases bR
  · clear hzX hzf
    have HN := Lib.hid (show nxH L h kd n = h by unfold nxH; rw [hbR]; simp)
    go_wp2_with (first | (refine wpList_load_row rfl 45 _ rfl w.heap.size rfl 45 _ (0, 0) _ sX Try.underlying45 rfl (st_i _ _ _) ?_) | (refine wpList_store_row rfl 45 _ _ rfl (w.heap.size + 1) (stA v (upd c kd ((n : Int) + 1)) h) rfl rfl 45 _ rX (st_i _ _ _) rfl (stA_one _ hv1 _ _) ?_))
    have sF := rX.row v (upd c kd ((n : Int) + 1)) h
    have hld := st_load sF
    refine bodyPost_ret (v := .tuple #[stV v (upd c kd ((n : Int) + 1)) h, .bool false, .int .i64 0]) (by simp [results, Try.results31, asAddr, hld]) rfl ⟨?_, below_row hBX _ (by omega) _⟩
    rw [HU.out, HN.out, hbR]
  · have HN := Lib.hid (show nxH L h kd n = upd h kd ((m : Int) + 1) by unfold nxH; rw [hbR, hm]; simp)
    have sY := sX.seth kd hkd ((m : Int) + 1)
    have rY : SBox (X.setCell ⟨w.heap.size, 8 + kd, none⟩ (.int .i64 ((m : Int) + 1))) (w.heap.size + 1) (.slice none 0 0) zer zer := rX.other (by show w.heap.size + 1 ≠ w.heap.size; omega) _
    have hBY : Below w.heap.size w (X.setCell ⟨w.heap.size, 8 + kd, none⟩ (.int .i64 ((m : Int) + 1))) := hBX.setCell (by dsimp only; omega) _
    go_wp2_with (first | (refine wpList_load_row rfl 45 _ rfl w.heap.size rfl 45 _ (0, 0) _ sY Try.underlying45 rfl (st_i _ _ _) ?_) | (refine wpList_store_row rfl 45 _ _ rfl (w.heap.size + 1) (stA v (upd c kd ((n : Int) + 1)) (upd h kd ((m : Int) + 1))) rfl rfl 45 _ rY (st_i _ _ _) rfl (stA_one _ hv1 _ _) ?_))
    have sF := rY.row v (upd c kd ((n : Int) + 1)) (upd h kd ((m : Int) + 1))
    have hld := st_load sF
    refine bodyPost_ret (v := .tuple #[stV v (upd c kd ((n : Int) + 1)) (upd h kd ((m : Int) + 1)), .bool true, .int .i64 0]) (by simp [results, Try.results31, asAddr, hld]) rfl ⟨?_, below_row hBY _ (by omega) _⟩
    rw [HU.out, HN.out, hbR]

set_option maxRecDepth 100000 in
set_option maxHeartbeats 1000000 in
theorem RStart_bad (v : Value) (l : List RlI) (i : Nat) (c : Int) (hc : chkP l = (i, c)) (h0 : c ≠ 0) (w : World) (h : RAt w v l) :
    Calls Try.prog 39 #[.agg #[v]] w fun e w' => e = .returned (.tuple #[stV (.slice none 0 0) zer zer, .int .i64 c]) ∧ Below w.heap.size w w' := by
  obtain ⟨WL, hWL, hb, bP, sR⟩ := start_world w v
  have HC := Lib.hid (RCheck_is v l i c hc WL (h.later hb))
  have hq : (c != 0) = true := by simp [h0]
  have q1 := bP.cell
  clear hc h0
  go_enter Try.func39, Try.ntmps39
  go_wp2_with fail
  try rw [hWL]
  refine HC.out.mono ?_
  rintro e w1 ⟨rfl, B1⟩
  have sR1 := sR.later B1
  have hB1 := hb.trans (B1.mono hb.size)
  clear hWL
  go_wp2_with (refine wpList_store_row rfl 45 _ _ rfl (w.heap.size + 1) (stA (.slice none 0 0) zer zer) rfl rfl 45 _ sR1 (st_i _ _ _) rfl (stA_one _ rfl _ _) ?_)
  have sR2 := sR1.row (.slice none 0 0) zer zer
  have hld := st_load sR2
  refine bodyPost_ret (v := .tuple #[stV (.slice none 0 0) zer zer, .int .i64 c]) (by simp [results, Try.results39, asAddr, hld]) rfl ⟨rfl, below_row hB1 _ (by omega) _⟩
set_option maxRecDepth 100000 in
set_option maxHeartbeats 1000000 in
theorem RStart_ok (v : Value) (L : List Ru) (hL : OkL L) (w : World) (h : RAt w v (toI L)) :
    Calls Try.prog 39 #[.agg #[v]] w fun e w' => e = .returned (.tuple #[stV v zer zer, .int .i64 0]) ∧ Below w.heap.size w w' := by
  obtain ⟨WL, hWL, hb, bP, sR⟩ := start_world w v
  have HC := Lib.hid (RCheck_is v (toI L) 0 0 (chkP_of hL) WL (h.later hb))
  have q1 := bP.cell
  obtain ⟨va, vc, hv⟩ := h.form
  have hv1 : v.oneCell' = true := by rw [hv]; rfl
  clear hv
  go_enter Try.func39, Try.ntmps39
  go_wp2_with fail
  try rw [hWL]
  refine HC.out.mono ?_
  rintro e w1 ⟨rfl, B1⟩
  have sR1 := sR.later B1
  have hB1 := hb.trans (B1.mono hb.size)
  have q2 := (bP.kept (grown_of_below B1) (by simp)).cell
  clear hWL
  go_wp2_with (refine wpList_store_row rfl 45 _ _ rfl (w.heap.size + 1) (stA v zer zer) rfl rfl 45 _ sR1 (st_i _ _ _) rfl (stA_one _ hv1 _ _) ?_)
  have sR3 := sR1.row v zer zer
  have hld := st_load sR3
  refine bodyPost_ret (v := .tuple #[stV v zer zer, .int .i64 0]) (by simp [results, Try.results39, asAddr, hld]) rfl ⟨rfl, below_row hB1 _ (by omega) _⟩
end Go.Proofs.Ytjplihljmohpjaa

/- The reference: SamePlan, SameState, of what is equal. -/
namespace Go.Proofs.Ytjplihljmohpjaa
open Go.RowKit Go.Shelf
attribute [local go_sem] Oper.semAt_some

theorem SBox.cells0 {W : World} {b : Nat} {v : Value} {c h : Nat → Int} (s : SBox W b v c h) : W.cell? ⟨b, 0, none⟩ = some v ∧ (W.cell? ⟨b, 1, none⟩ = some (.int .i64 (c 0)) ∧ W.cell? ⟨b, 2, none⟩ = some (.int .i64 (c 1)) ∧ W.cell? ⟨b, 3, none⟩ = some (.int .i64 (c 2)) ∧ W.cell? ⟨b, 4, none⟩ = some (.int .i64 (c 3)) ∧ W.cell? ⟨b, 5, none⟩ = some (.int .i64 (c 4)) ∧ W.cell? ⟨b, 6, none⟩ = some (.int .i64 (c 5)) ∧ W.cell? ⟨b, 7, none⟩ = some (.int .i64 (c 6))) ∧
    (W.cell? ⟨b, 8, none⟩ = some (.int .i64 (h 0)) ∧ W.cell? ⟨b, 9, none⟩ = some (.int .i64 (h 1)) ∧ W.cell? ⟨b, 10, none⟩ = some (.int .i64 (h 2)) ∧ W.cell? ⟨b, 11, none⟩ = some (.int .i64 (h 3)) ∧ W.cell? ⟨b, 12, none⟩ = some (.int .i64 (h 4)) ∧ W.cell? ⟨b, 13, none⟩ = some (.int .i64 (h 5)) ∧ W.cell? ⟨b, 14, none⟩ = some (.int .i64 (h 6))) :=
  ⟨s.cell 0, ⟨s.cell 1, s.cell 2, s.cell 3, s.cell 4, s.cell 5, s.cell 6, s.cell 7⟩, s.cell 8, s.cell 9, s.cell 10, s.cell 11, s.cell 12, s.cell 13, s.cell 14⟩
theorem eqF (xs : Array Value) : ∀ (fs : List Field), (∀ f ∈ fs, f.type = 3 ∧ ∃ x : Int, ∀ W, (part f.type xs f.offset).run Try.prog W = .ok (.int .i64 x) W) → ∀ w, (Op.eqFields 9999 xs xs fs).run Try.prog w = .ok true w
  | [], _, w => by simp [Op.eqFields]
  | f :: fs, h, w => by
    obtain ⟨ht, x, hx⟩ := h f (by simp)
    have ih := eqF xs fs (fun g hg => h g (by simp [hg]))
    have hi : ∀ W, (Op.equalIn 9999 f.type (.int .i64 x) (.int .i64 x)).run Try.prog W = .ok true W := fun W => by rw [ht, run_equalIn_int W 9998 3 .i64 .i64 x x Try.underlying3]; simp
    simp only [Op.eqFields, Sem.run_ite, Sem.run_bind, hx, hi, Result.andThen_ok, ih]
    simp
set_option maxRecDepth 100000 in
theorem neqR (a b c d : Int) (w : World) : (Go.binOp .neq 134 (.agg #[.int .i64 a, .int .i64 b, .int .i64 c, .int .i64 d]) (.agg #[.int .i64 a, .int .i64 b, .int .i64 c, .int .i64 d])).run Try.prog w = Result.ok (.bool false) w := by
  have ht : Try.prog.underlying 134 = some (.struct (Try.prog.fieldsOf 134)) := by kernel_rfl
  have hp : Try.prog.stoodInHeld 134 = false := by kernel_rfl
  obtain ⟨f0, f1, f2, f3, hu, o0, o1, o2, o3, t0, t1, t2, t3⟩ : ∃ f0 f1 f2 f3 : Field, Try.prog.underlying 134 = some (.struct #[f0, f1, f2, f3]) ∧ f0.offset = 0 ∧ f1.offset = 1 ∧ f2.offset = 2 ∧ f3.offset = 3 ∧ f0.type = 3 ∧ f1.type = 3 ∧ f2.type = 3 ∧ f3.type = 3 :=
    ⟨_, _, _, _, Try.underlying134, rfl, rfl, rfl, rfl, rfl, rfl, rfl, rfl⟩
  have hf : Try.prog.fieldsOf 134 = #[f0, f1, f2, f3] := by
    have := ht.symm.trans hu
    simpa using this
  rw [run_neq_struct, run_equalIn_agg w 9999 134 _ _ ht hp, hf, eqF]
  · rfl
  · intro f hm
    simp at hm
    rcases hm with rfl | rfl | rfl | rfl
    · exact ⟨t0, a, fun W => by rw [t0, o0]; kernel_rfl⟩
    · exact ⟨t1, b, fun W => by rw [t1, o1]; kernel_rfl⟩
    · exact ⟨t2, c, fun W => by rw [t2, o2]; kernel_rfl⟩
    · exact ⟨t3, d, fun W => by rw [t3, o3]; kernel_rfl⟩
theorem eqA7 (c : Nat → Int) (w : World) : (Go.binOp .eql 43 (.agg (arr c)) (.agg (arr c))).run Try.prog w = Result.ok (.bool true) w := by
  rw [run_eql_struct, eq7 c 9999 (fun x W => by rw [run_equalIn_int W 9998 3 .i64 .i64 x x Try.underlying3]; simp) w]; rfl
set_option maxRecDepth 100000 in
set_option maxHeartbeats 2000000 in
theorem SamePlan_is (v u : Value) (l : List RlI) (w : World) (hv : RAt w v l) (hu : RAt w u l) :
    Calls Try.prog 70 #[.agg #[v], .agg #[u]] w fun e w' => e = .returned (.bool true) ∧ Below w.heap.size w w' := by
  have hl64 := hv.len
  obtain ⟨va, vc, rfl⟩ := hv.form
  obtain ⟨ua, uc, rfl⟩ := hu.form
  obtain ⟨n, hn⟩ : ∃ n, l.length = n := ⟨_, rfl⟩
  have HN := Lib.hid hn
  rw [hn] at hv hu hl64 ⊢
  clear hn
  obtain ⟨WL, hWL⟩ : ∃ x, (w.alloc (.cells #[.slice va n vc] 24)).alloc (.cells #[.slice ua n uc] 24) = x := ⟨_, rfl⟩
  have hb : Below w.heap.size w WL := by rw [← hWL]; exact ((Below.refl _ _).alloc (Nat.le_refl _) _).alloc (by simp) _
  have b1 : Boxed WL w.heap.size 24 (.slice va n vc) := by rw [← hWL]; exact (Boxed.new w _ _).alloc _
  have b2 : Boxed WL (w.heap.size + 1) 24 (.slice ua n uc) := by
    rw [← hWL]
    have := Boxed.new (w.alloc (.cells #[.slice va n vc] 24)) 24 (.slice ua n uc)
    rw [World.size_alloc] at this
    exact this
  have q1 := b1.cell
  have q2 := b2.cell
  have hvL := hv.later hb
  have huL := hu.later hb
  have hne := neqR
  go_enter Try.func70, Try.ntmps70
  go_wp2_with fail
  try rw [hWL]
  clear hWL
  go_loopw [5] (fun i wr => ∃ k : Nat, k ≤ n ∧ i = .int .i64 k ∧ Below WL.heap.size WL wr) (fun i _ => n - (intOf i).toNat)
  case atStart => exact ⟨0, Nat.zero_le _, rfl, Below.refl _ _⟩
  case round =>
    obtain ⟨k, hk, rfl, hB⟩ := hrel
    have p1 := cell_later hB q1
    have p2 := cell_later hB q2
    by_cases hlt : k < n
    · obtain ⟨x, hx⟩ : ∃ x, l[k]? = some x := ⟨_, List.getElem?_eq_getElem (by rw [HN.out]; exact hlt)⟩
      obtain ⟨b1, o1, rfl, _, k1, k2, k3, k4⟩ := hvL.at k _ hx
      obtain ⟨b2, o2, rfl, _, j1, j2, j3, j4⟩ := huL.at k _ hx
      replace k1 := cell_later hB k1
      replace k2 := cell_later hB k2
      replace k3 := cell_later hB k3
      replace k4 := cell_later hB k4
      replace j1 := cell_later hB j1
      replace j2 := cell_later hB j2
      replace j3 := cell_later hB j3
      replace j4 := cell_later hB j4
      have hi1 : (k : Int) < (n : Int) := by omega
      have hk0 : decide ((k : Int) < 0) = false := by simp
      have hk7 : decide ((n : Int) ≤ (k : Int)) = false := by simp; omega
      clear hx
      go_wp2_with fail
      go_quiet (fail)
      go_wp2_with fail
      go_roundw
      case rel => exact ⟨k + 1, by omega, by go_num, below_drewN hB _⟩
      case measure => simp [intOf]; omega
    · have hi1 : ¬ ((k : Int) < (n : Int)) := by omega
      go_wp2
      go_ret
      exact ⟨rfl, hb.trans (hB.mono hb.size)⟩
set_option maxRecDepth 100000 in
set_option maxHeartbeats 2000000 in
theorem SameState_is (v u : Value) (c h : Nat → Int) (l : List RlI) (w : World) (hv : RAt w v l) (hu : RAt w u l) :
    Calls Try.prog 30 #[stV v c h, stV u c h] w fun e w' => e = .returned (.bool true) ∧ Below w.heap.size w w' := by
  obtain ⟨WL, hWL⟩ : ∃ x, (w.alloc (.cells (stA v c h) 45)).alloc (.cells (stA u c h) 45) = x := ⟨_, rfl⟩
  have hb : Below w.heap.size w WL := by rw [← hWL]; exact ((Below.refl _ _).alloc (Nat.le_refl _) _).alloc (by simp) _
  have s1 : SBox WL w.heap.size v c h := by rw [← hWL]; exact (SBox.new w v c h).alloc _
  have s2 : SBox WL (w.heap.size + 1) u c h := by
    rw [← hWL]
    have := SBox.new (w.alloc (.cells (stA v c h) 45)) u c h
    rw [World.size_alloc] at this
    exact this
  have q1 := s1.v
  have q2 := s2.v
  have HS := Lib.hid (SamePlan_is v u l WL (hv.later hb) (hu.later hb))
  have hec := eqA7 c
  have heh := eqA7 h
  go_enter Try.func30, Try.ntmps30
  go_wp2_with fail
  try rw [hWL]
  refine HS.out.mono ?_
  rintro e w1 ⟨rfl, B1⟩
  obtain ⟨z0, ⟨z1, z2, z3, z4, z5, z6, z7⟩, z8, z9, z10, z11, z12, z13, z14⟩ := (s1.later B1).cells0
  obtain ⟨y0, ⟨y1, y2, y3, y4, y5, y6, y7⟩, y8, y9, y10, y11, y12, y13, y14⟩ := (s2.later B1).cells0
  clear hWL
  go_wp2_with fail
  go_ret
  exact ⟨rfl, hb.trans (B1.mono hb.size)⟩
end Go.Proofs.Ytjplihljmohpjaa
