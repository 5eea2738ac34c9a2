/- The reference: refuses, refused, hits. -/
import Derived.Test.YtnmeeddhagmjdaaRfRc
import Derived.Test.YtnmeeddhagmjdaaBeh
namespace Go.Proofs.Ytnmeeddhagmjdaa
open Go.RowKit
attribute [local go_sem] Oper.semAt_some

set_option maxRecDepth 100000 in
set_option maxHeartbeats 2000000 in
theorem Rrefuses_is (r : Ru) (h : r.ok) (kd n : Nat) (hn : n ≤ 1000000) (b : Bool) (hb : (decide (r.k = kd) && r.ref n) = b) (w : World) :
    Calls Try.prog 92 #[rv r.toI, .int .i64 (kd : Int), .int .i64 (n : Int)] w fun e w' => e = .returned (.bool b) ∧ Below w.heap.size w w' := by
  have hBw : ∀ o : Obj, Below w.heap.size w (w.alloc o) := fun o => (Below.refl _ _).alloc (Nat.le_refl _) _
  have hk := h.k; have hf1 := h.f1; have hf2 := h.f2; have he2 := h.e2; have ht2 := h.t2; have het := h.et
  clear h
  obtain ⟨k, f, e, t⟩ := r
  simp only at hk hf1 hf2 he2 ht2 het
  unfold Ru.ref at hb
  unfold Ru.toI
  simp only at hb ⊢
  by_cases hkk : k = kd
  · subst hkk
    rw [decide_eq_true rfl, Bool.true_and] at hb
    by_cases h1 : n < f
    · have h1' : (n : Int) < (f : Int) := by omega
      have hbf : b = false := by rw [← hb]; simp; omega
      subst hbf
      clear hb het
      go_enter Try.func92, Try.ntmps92
      go_wp2_with fail
      go_ret
      exact ⟨rfl, hBw _⟩
    have h1' : ¬ (n : Int) < (f : Int) := by omega
    by_cases he : e = 0
    · subst he
      have ht := het rfl
      subst ht
      have hbf : ((n : Int) == (f : Int)) = b := by rw [← hb, Bool.eq_iff_iff]; simp; omega
      have HB := Lib.hid hbf
      clear hb het hbf
      go_enter Try.func92, Try.ntmps92
      go_wp2_with fail
      go_ret
      exact ⟨ret_bool HB.out, hBw _⟩
    have he0 : (e : Int) ≠ 0 := by omega
    have he3 : ((e : Int) == 0) = false := by simp [he]
    obtain ⟨q, hq⟩ : ∃ q, (n - f) / e = q := ⟨_, rfl⟩
    rw [hq] at hb
    have hqn : q ≤ n - f := by rw [← hq]; exact Nat.div_le_self _ _
    have hq2 : Int.tdiv ((n : Int) - (f : Int)) (e : Int) = (q : Int) := by rw [Int.tdiv_eq_ediv_of_nonneg (by omega), ← hq, show (n : Int) - (f : Int) = ((n - f : Nat) : Int) by omega]; rfl
    have hpl : q * e ≤ 1000000 := by rw [← hq]; exact Nat.le_trans (Nat.div_mul_le_self _ _) (by omega)
    obtain ⟨p, hp⟩ : ∃ p, q * e = p := ⟨_, rfl⟩
    rw [hp] at hpl hb
    have hp1 : (q : Int) * (e : Int) = (p : Int) := by rw [← hp]; simp
    obtain ⟨g, hg⟩ : ∃ g, f + p = g := ⟨_, rfl⟩
    have hg1 : (f : Int) + (p : Int) = (g : Int) := by omega
    rw [hg, decide_eq_true (show f ≤ n by omega), Bool.true_and] at hb
    clear hq hp het hg
    by_cases hgn : g = n
    · have hg2 : ((g : Int) == (n : Int)) = true := by simp [hgn]
      rw [decide_eq_true hgn, Bool.true_and] at hb
      clear hgn
      by_cases ht : t = 0
      · have ht3 : ((t : Int) == 0) = true := by simp [ht]
        have hbf : b = true := by rw [← hb, decide_eq_true ht]; rfl
        subst hbf
        clear hb ht
        go_enter Try.func92, Try.ntmps92
        go_wp2_with fail
        go_ret
        exact ⟨rfl, hBw _⟩
      · have ht3 : ((t : Int) == 0) = false := by simp [ht]
        by_cases hqt : q < t
        · have hqt2 : (q : Int) < (t : Int) := by omega
          have hbf : b = true := by rw [← hb, decide_eq_true hqt]; simp
          subst hbf
          clear hb ht hqt
          go_enter Try.func92, Try.ntmps92
          go_wp2_with fail
          go_ret
          exact ⟨rfl, hBw _⟩
        · have hqt2 : ¬ (q : Int) < (t : Int) := by omega
          have hbf : b = false := by rw [← hb, decide_eq_false hqt, decide_eq_false ht]; rfl
          subst hbf
          clear hb ht hqt
          go_enter Try.func92, Try.ntmps92
          go_wp2_with fail
          go_ret
          exact ⟨rfl, hBw _⟩
    · have hg2 : ((g : Int) == (n : Int)) = false := by simp; omega
      have hbf : b = false := by rw [← hb, decide_eq_false hgn]; rfl
      subst hbf
      clear hb hgn
      go_enter Try.func92, Try.ntmps92
      go_wp2_with fail
      go_ret
      exact ⟨rfl, hBw _⟩
  · have hk2 : ((k : Int) != (kd : Int)) = true := by simp; omega
    have hbf : b = false := by rw [← hb, decide_eq_false hkk]; rfl
    subst hbf
    clear hb hkk het
    go_enter Try.func92, Try.ntmps92
    go_wp2_with fail
    go_ret
    exact ⟨rfl, hBw _⟩
theorem refP_take (L : List Ru) (kd n k : Nat) (r : Ru) (h : L[k]? = some r) : refP (L.take (k + 1)) kd n = (refP (L.take k) kd n || (decide (r.k = kd) && r.ref n)) := by
  rw [List.take_add_one, h]; exact refP_snoc _ _ _ _
theorem refP_has (L : List Ru) (kd n k : Nat) (r : Ru) (h : L[k]? = some r) (hr : (decide (r.k = kd) && r.ref n) = true) : refP L kd n = true := by
  unfold refP
  rw [List.any_eq_true]
  exact ⟨r, List.mem_of_getElem? h, hr⟩
set_option maxRecDepth 100000 in
set_option maxHeartbeats 2000000 in
theorem Rrefused_is (L : List Ru) (hL : OkL L) (kd n : Nat) (hn : n ≤ 1000000) (b : Bool) (hb : refP L kd n = b) (v : Value) (w : World) (h : RAt w v (toI L)) :
    Calls Try.prog 72 #[.agg #[v], .int .i64 (kd : Int), .int .i64 (n : Int)] w fun e w' => e = .returned (.bool b) ∧ Below w.heap.size w w' := by
  have HB := Lib.hid hb
  have HL := Lib.hid hL
  obtain ⟨a, cap, rfl⟩ := h.form
  obtain ⟨N, hN⟩ : ∃ n, L.length = n := ⟨_, rfl⟩
  have HN := Lib.hid hN
  have hN50 : N ≤ 50 := by have := hL.1; omega
  have HLN : Hid ((toI L).length = N) := by unfold Hid; rw [toI_len, hN]
  rw [HLN.out] at h ⊢
  obtain ⟨WL, hWL⟩ : ∃ x, w.alloc (.cells #[.slice a N cap] 24) = x := ⟨_, rfl⟩
  have hbL : Below w.heap.size w WL := by rw [← hWL]; exact (Below.refl _ _).alloc (Nat.le_refl _) _
  have bP : Boxed WL w.heap.size 24 (.slice a N cap) := by rw [← hWL]; exact Boxed.new w _ _
  have hP := bP.cell
  have hLL := h.later hbL
  clear hb hN
  go_enter Try.func72, Try.ntmps72
  go_wp2_with fail
  try rw [hWL]
  clear hWL
  go_loopw [7] (fun j wr => ∃ k : Nat, k ≤ N ∧ j = .int .i64 k ∧ Hid (refP (L.take k) kd n = false) ∧ Below WL.heap.size WL wr) (fun i _ => N - (intOf i).toNat)
  case atStart => exact ⟨0, Nat.zero_le _, rfl, rfl, Below.refl _ _⟩
  case round =>
    obtain ⟨k, hk, rfl, HV, hB⟩ := hrel
    have hPw := cell_later hB hP
    by_cases hlt : k < N
    · obtain ⟨r, hx⟩ : ∃ x, L[k]? = some x := ⟨_, List.getElem?_eq_getElem (by rw [HN.out]; exact hlt)⟩
      have hrk := HL.out.get hx
      obtain ⟨b1, off, rfl, _, k1, k2, k3, k4⟩ := hLL.at k _ (toI_some hx)
      replace k1 := cell_later hB k1
      replace k2 := cell_later hB k2
      replace k3 := cell_later hB k3
      replace k4 := cell_later hB k4
      simp only [Ru.toI] at k1 k2 k3 k4
      have hi1 : (k : Int) < (N : Int) := by omega
      have hst := refP_take L kd n k r hx
      rw [HV.out, Bool.false_or] at hst
      cases hc : (decide (r.k = kd) && r.ref n) with
      | true =>
        have HR := Lib.hid (Rrefuses_is r hrk kd n hn true hc)
        have hbt : b = true := by rw [← HB.out]; exact refP_has L kd n k r hx hc
        subst hbt
        clear hst hx hc hrk
        go_wp2_with fail
        refine (HR.out _).mono ?_
        rintro e w3 ⟨rfl, B3⟩
        go_wp2
        go_ret
        exact ⟨rfl, hbL.trans ((hB.trans (B3.mono hB.size)).mono hbL.size)⟩
      | false =>
        have HR := Lib.hid (Rrefuses_is r hrk kd n hn false hc)
        have HV2 : Hid (refP (L.take (k + 1)) kd n = false) := by unfold Hid; rw [hst, hc]
        clear hst hx hc hrk
        go_wp2_with fail
        refine (HR.out _).mono ?_
        rintro e w3 ⟨rfl, B3⟩
        go_wp2
        go_roundw
        case rel => exact ⟨k + 1, by omega, by go_num, HV2, hB.trans (B3.mono hB.size)⟩
        case measure => simp [intOf]; omega
    · have hi1 : ¬ ((k : Int) < (N : Int)) := by omega
      have hbf : b = false := by
        rw [← HB.out, ← HV.out, List.take_of_length_le (by rw [HN.out]; omega)]
      subst hbf
      go_wp2
      go_ret
      exact ⟨rfl, hbL.trans (hB.mono hbL.size)⟩
set_option maxRecDepth 100000 in
set_option maxHeartbeats 2000000 in
theorem Rhits_is (L : List Ru) (hL : OkL L) (kd : Nat) (c : Int) (hc6 : c ≤ 1000000) (v : Value) (w : World) (h : RAt w v (toI L)) :
    Calls Try.prog 88 #[.agg #[v], .int .i64 (kd : Int), .int .i64 c] w fun e w' => e = .returned (.int .i64 (hitN L kd c.toNat : Nat)) ∧ Below w.heap.size w w' := by
  have HL := Lib.hid hL
  have H0 := Lib.hid (hitN_zero hL.2 kd)
  obtain ⟨WL, hWL⟩ : ∃ x, w.alloc (.cells #[v] 24) = x := ⟨_, rfl⟩
  have hbL : Below w.heap.size w WL := by rw [← hWL]; exact (Below.refl _ _).alloc (Nat.le_refl _) _
  have bP : Boxed WL w.heap.size 24 v := by rw [← hWL]; exact Boxed.new w _ _
  have hP := bP.cell
  have hLL := h.later hbL
  clear hL
  go_enter Try.func88, Try.ntmps88
  go_wp2_with fail
  try rw [hWL]
  clear hWL
  go_loopw [7, 8] (fun s j wr => ∃ k : Nat, k ≤ c.toNat ∧ j = .int .i64 ((k + 1 : Nat) : Int) ∧ s = .int .i64 (hitN L kd k : Nat) ∧ Below WL.heap.size WL wr) (fun _ i _ => c.toNat + 1 - (intOf i).toNat)
  case atStart => exact ⟨0, Nat.zero_le _, rfl, by rw [H0.out]; rfl, Below.refl _ _⟩
  case round =>
    obtain ⟨k, hk, rfl, rfl, hB⟩ := hrel
    have hPw := cell_later hB hP
    have hle := hitN_le L kd k HL.out.2
    have hs := Lib.hid (hitN_succ L kd k)
    obtain ⟨m, hm⟩ : ∃ m, hitN L kd k = m := ⟨_, rfl⟩
    rw [hm] at hle hs ⊢
    obtain ⟨z, hz⟩ : ∃ z, k + 1 = z := ⟨_, rfl⟩
    by_cases hlt : k < c.toNat
    · have hi1 : (z : Int) ≤ c := by omega
      rw [hz] at hs ⊢
      cases hc : refP L kd z with
      | true =>
        have HR := Lib.hid (Rrefused_is L HL.out kd z (by omega) true hc v _ (hLL.later hB))
        have hs2 : Hid (hitN L kd z = m + 1) := by rw [hs.out, hc]; rfl
        clear hs hc hm
        go_wp2_with fail
        refine HR.out.mono ?_
        rintro e w3 ⟨rfl, B3⟩
        go_wp2
        go_roundw
        case rel => exact ⟨z, by omega, by go_num, by rw [hs2.out]; go_num, hB.trans (B3.mono hB.size)⟩
        case measure => simp [intOf]; omega
      | false =>
        have HR := Lib.hid (Rrefused_is L HL.out kd z (by omega) false hc v _ (hLL.later hB))
        have hs2 : Hid (hitN L kd z = m) := by rw [hs.out, hc]; rfl
        clear hs hc hm
        go_wp2_with fail
        refine HR.out.mono ?_
        rintro e w3 ⟨rfl, B3⟩
        go_wp2
        go_roundw
        case rel => exact ⟨z, by omega, by go_num, by rw [hs2.out], hB.trans (B3.mono hB.size)⟩
        case measure => simp [intOf]; omega
    · have hi1 : ¬ ((z : Int) ≤ c) := by omega
      have hkc : k = c.toNat := by omega
      have hfin : Hid (hitN L kd c.toNat = m) := by unfold Hid; rw [← hkc]; exact hm
      rw [hz]
      clear hkc hs hm
      go_wp2
      go_ret
      exact ⟨ret_int (by rw [hfin.out]), hbL.trans (hB.mono hbL.size)⟩
end Go.Proofs.Ytnmeeddhagmjdaa
