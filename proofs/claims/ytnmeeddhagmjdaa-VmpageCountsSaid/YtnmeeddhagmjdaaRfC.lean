/- Check and what it calls. -/
import Derived.Test.YtnmeeddhagmjdaaRfB
namespace Go.Proofs.Ytnmeeddhagmjdaa
open Go.RowKit
attribute [local go_sem] Oper.semAt_some

def isK (k : Int) : Bool := decide (0 ≤ k) && decide (k < 7)
theorem isKind_is (k : Int) (b : Bool) (hb : isK k = b) (w : World) : Calls Try.prog 102 #[.int .i64 k] w fun e w' => e = .returned (.bool b) ∧ w = w' := by
  unfold isK at hb
  by_cases h1 : 0 ≤ k <;> by_cases h2 : k < 7
  all_goals first | (exfalso; omega) | skip
  all_goals
    have HB : Hid ((decide (0 ≤ k) && decide (k < 7)) = b) := hb
    clear hb
    go_enter Try.func102, Try.ntmps102
    go_wp2
    go_ret
    exact ⟨ret_bool (by rw [← HB.out]; simp [h1, h2]), rfl⟩

set_option maxRecDepth 100000 in
set_option maxHeartbeats 1000000 in
theorem checkRule_is (x : RlI) (r : Int) (hr : chkR x = r) (w : World) : Calls Try.prog 95 #[rv x] w fun e w' => e = .returned (.int .i64 r) ∧ Below w.heap.size w w' := by
  obtain ⟨k, f, e, t⟩ := x
  unfold chkR at hr
  simp only at hr
  have hBw : ∀ o : Obj, Below w.heap.size w (w.alloc o) := fun o => (Below.refl _ _).alloc (Nat.le_refl _) _
  by_cases hk : k < 0 ∨ 6 < k
  · rw [if_pos hk] at hr
    have HK : Hid (isK k = false) := by unfold Hid isK; simp; omega
    subst hr
    clear hk
    go_enter Try.func95, Try.ntmps95
    go_wp2_with fail
    refine (isKind_is k false HK.out _).mono ?_
    rintro e w1 ⟨rfl, rfl⟩
    go_wp2
    go_ret
    exact ⟨rfl, hBw _⟩
  rw [if_neg hk] at hr
  have HK : Hid (isK k = true) := by unfold Hid isK; simp; omega
  clear hk
  by_cases h0 : f < 1 ∨ 10000 < f ∨ e < 0 ∨ 12 < e ∨ t < 0 ∨ 1000 < t
  · rw [if_pos h0] at hr
    subst hr
    by_cases h1 : f < 1
    · clear h0
      go_enter Try.func95, Try.ntmps95
      go_wp2_with fail
      refine (isKind_is k true HK.out _).mono ?_
      rintro e w1 ⟨rfl, rfl⟩
      go_wp2
      go_ret
      exact ⟨rfl, hBw _⟩
    by_cases h2 : 10000 < f
    · clear h0
      go_enter Try.func95, Try.ntmps95
      go_wp2_with fail
      refine (isKind_is k true HK.out _).mono ?_
      rintro e w1 ⟨rfl, rfl⟩
      go_wp2
      go_ret
      exact ⟨rfl, hBw _⟩
    by_cases h3 : e < 0
    · clear h0
      go_enter Try.func95, Try.ntmps95
      go_wp2_with fail
      refine (isKind_is k true HK.out _).mono ?_
      rintro e w1 ⟨rfl, rfl⟩
      go_wp2
      go_ret
      exact ⟨rfl, hBw _⟩
    by_cases h4 : 12 < e
    · clear h0
      go_enter Try.func95, Try.ntmps95
      go_wp2_with fail
      refine (isKind_is k true HK.out _).mono ?_
      rintro e w1 ⟨rfl, rfl⟩
      go_wp2
      go_ret
      exact ⟨rfl, hBw _⟩
    by_cases h5 : t < 0
    · clear h0
      go_enter Try.func95, Try.ntmps95
      go_wp2_with fail
      refine (isKind_is k true HK.out _).mono ?_
      rintro e w1 ⟨rfl, rfl⟩
      go_wp2
      go_ret
      exact ⟨rfl, hBw _⟩
    by_cases h6 : 1000 < t
    · clear h0
      go_enter Try.func95, Try.ntmps95
      go_wp2_with fail
      refine (isKind_is k true HK.out _).mono ?_
      rintro e w1 ⟨rfl, rfl⟩
      go_wp2
      go_ret
      exact ⟨rfl, hBw _⟩
    exfalso; omega
  rw [if_neg h0] at hr
  have h1 : ¬ f < 1 := by omega
  have h2 : ¬ 10000 < f := by omega
  have h3 : ¬ e < 0 := by omega
  have h4 : ¬ 12 < e := by omega
  have h5 : ¬ t < 0 := by omega
  have h6 : ¬ 1000 < t := by omega
  clear h0
  by_cases he : e = 0
  · subst he
    by_cases ht : t = 1
    · subst ht
      rw [if_neg (by simp)] at hr
      subst hr
      go_enter Try.func95, Try.ntmps95
      go_wp2_with fail
      refine (isKind_is k true HK.out _).mono ?_
      rintro e w1 ⟨rfl, rfl⟩
      go_wp2
      go_ret
      exact ⟨rfl, hBw _⟩
    · rw [if_pos ⟨rfl, ht⟩] at hr
      subst hr
      have ht2 : (t != 1) = true := by simp [ht]
      go_enter Try.func95, Try.ntmps95
      go_wp2_with fail
      refine (isKind_is k true HK.out _).mono ?_
      rintro e w1 ⟨rfl, rfl⟩
      go_wp2
      go_ret
      exact ⟨rfl, hBw _⟩
  · rw [if_neg (by intro h; exact he h.1)] at hr
    subst hr
    have he2 : (e == 0) = false := by simp [he]
    go_enter Try.func95, Try.ntmps95
    go_wp2_with fail
    refine (isKind_is k true HK.out _).mono ?_
    rintro e w1 ⟨rfl, rfl⟩
    go_wp2
    go_ret
    exact ⟨rfl, hBw _⟩

set_option maxRecDepth 100000 in
set_option maxHeartbeats 1000000 in
theorem Check_is (v : Value) (l : List RlI) (i : Nat) (c : Int) (hc : chkP l = (i, c)) (w : World) (h : RAt w v l) :
    Calls Try.prog 75 #[.agg #[v]] w fun e w' => e = .returned (.tuple #[.int .i64 (i : Int), .int .i64 c]) ∧ Below w.heap.size w w' := by
  have hl64 := h.len
  obtain ⟨a, cap, rfl⟩ := h.form
  unfold chkP at hc
  by_cases h1 : (50 : Int) < (l.length : Int)
  · rw [if_pos (by omega)] at hc
    cases hc
    go_enter Try.func75, Try.ntmps75
    go_wp2
    go_ret2
    exact ⟨rfl, (Below.refl _ _).alloc (Nat.le_refl _) _⟩
  · rw [if_neg (by omega)] at hc
    have HC := Lib.hid hc
    clear hc
    obtain ⟨n, hn⟩ : ∃ n, l.length = n := ⟨_, rfl⟩
    have HN := Lib.hid hn
    rw [hn] at h h1 hl64
    rw [hn]
    clear hn
    obtain ⟨WL, hWL⟩ : ∃ x, w.alloc (.cells #[.slice a n cap] 24) = x := ⟨_, rfl⟩
    have hbL : Below w.heap.size w WL := by rw [← hWL]; exact (Below.refl _ _).alloc (Nat.le_refl _) _
    have bP : Boxed WL w.heap.size 24 (.slice a n cap) := by rw [← hWL]; exact Boxed.new w _ _
    have hP := bP.cell
    have hL := h.later hbL
    go_enter Try.func75, Try.ntmps75
    go_wp2_with fail
    try rw [hWL]
    clear hWL
    go_loopw [14] (fun j wr => ∃ k : Nat, k ≤ n ∧ j = .int .i64 k ∧ Hid (∀ (m : Nat) (y : RlI), m < k → l[m]? = some y → chkR y = 0) ∧ Below WL.heap.size WL wr) (fun i _ => n - (intOf i).toNat)
    case atStart => exact ⟨0, Nat.zero_le _, rfl, (fun m y hm => by omega), Below.refl _ _⟩
    case round =>
      obtain ⟨k, hk, rfl, HV, hB⟩ := hrel
      by_cases hlt : k < n
      · obtain ⟨x, hx⟩ : ∃ x, l[k]? = some x := ⟨_, List.getElem?_eq_getElem (by rw [HN.out]; exact hlt)⟩
        obtain ⟨b, off, rfl, _, k1, k2, k3, k4⟩ := hL.at k _ hx
        replace k1 := cell_later hB k1
        replace k2 := cell_later hB k2
        replace k3 := cell_later hB k3
        replace k4 := cell_later hB k4
        have hi1 : (k : Int) < (n : Int) := by omega
        obtain ⟨r, hr⟩ : ∃ r, chkR x = r := ⟨_, rfl⟩
        have HR := Lib.hid hr
        have HX := Lib.hid hx
        have hsz := hB.size
        by_cases hr0 : r = 0
        · subst hr0
          have HV2 : Hid (∀ (m : Nat) (y : RlI), m < k + 1 → l[m]? = some y → chkR y = 0) := fun m y hm hy => by
            by_cases hmk : m < k
            · exact HV.out m y hmk hy
            · obtain rfl : m = k := by omega
              rw [hx] at hy; cases hy; exact hr
          clear hr hx HV
          go_wp2_with fail
          refine (checkRule_is x 0 HR.out _).mono ?_
          rintro e w1 ⟨rfl, hB1⟩
          go_wp2
          go_roundw
          case rel => exact ⟨k + 1, by omega, by go_num, HV2, (hB.alloc hB.size _).trans (hB1.mono (by simp; omega))⟩
          case measure => simp [intOf]; omega
        · have hq : (r != 0) = true := by simp [hr0]
          have hA : (i, c) = (0 + k, r) := by
            rw [← HC.out, ← hr]
            exact chkF_cut l 0 k x hx HV.out (by rw [hr]; exact hr0)
          rw [Nat.zero_add] at hA
          cases hA
          clear hr hx HV
          go_wp2_with fail
          refine (checkRule_is x _ HR.out _).mono ?_
          rintro e w1 ⟨rfl, hB1⟩
          go_wp2
          go_ret2
          exact ⟨rfl, hbL.trans (((hB.alloc hB.size _).trans (hB1.mono (by simp; omega))).mono hbL.size)⟩
      · have hi1 : ¬ ((k : Int) < (n : Int)) := by omega
        have hA : (i, c) = (0, 0) := by
          rw [← HC.out]
          exact chkF_all l 0 fun j y hy => HV.out j y (by have := (List.getElem?_eq_some_iff.1 hy).1; rw [HN.out] at this; omega) hy
        cases hA
        go_wp2
        go_ret2
        exact ⟨rfl, hbL.trans (hB.mono hbL.size)⟩
end Go.Proofs.Ytnmeeddhagmjdaa
