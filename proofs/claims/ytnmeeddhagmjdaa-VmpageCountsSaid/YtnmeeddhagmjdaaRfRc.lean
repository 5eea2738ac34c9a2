/- The reference: in, rule, Check. -/
import Derived.Test.YtnmeeddhagmjdaaRfC
namespace Go.Proofs.Ytnmeeddhagmjdaa
open Go.RowKit
attribute [local go_sem] Oper.semAt_some

def inb (x lo hi : Int) : Bool := decide (lo ≤ x) && decide (x ≤ hi)
theorem in_is (x lo hi : Int) (b : Bool) (hb : inb x lo hi = b) (w : World) : Calls Try.prog 71 #[.int .i64 x, .int .i64 lo, .int .i64 hi] w fun e w' => e = .returned (.bool b) ∧ w = w' := by
  unfold inb at hb
  by_cases h1 : lo ≤ x <;> by_cases h2 : x ≤ hi
  all_goals
    have HB : Hid ((decide (lo ≤ x) && decide (x ≤ hi)) = b) := hb
    clear hb
    go_enter Try.func71, Try.ntmps71
    go_wp2
    go_ret
    exact ⟨ret_bool (by rw [← HB.out]; simp [h1, h2]), rfl⟩
theorem chkR_in (k f e t : Int) : chkR ⟨k, f, e, t⟩ = if inb k 0 6 = false then 2 else if inb f 1 10000 = false then 7 else if inb e 0 12 = false then 7 else if inb t 0 1000 = false then 7 else if e = 0 ∧ t ≠ 1 then 6 else 0 := by
  unfold chkR inb
  simp only [Bool.and_eq_false_iff, decide_eq_false_iff_not]
  split <;> split <;> (try split) <;> (try split) <;> (try split) <;> first | rfl | omega | (split <;> first | rfl | omega | (split <;> first | rfl | omega))
set_option maxRecDepth 100000 in
set_option maxHeartbeats 1000000 in
theorem rule_is (x : RlI) (r : Int) (hr : chkR x = r) (w : World) : Calls Try.prog 96 #[rv x] w fun e w' => e = .returned (.int .i64 r) ∧ Below w.heap.size w w' := by
  obtain ⟨k, f, e, t⟩ := x
  rw [chkR_in] at hr
  have hBw : ∀ o : Obj, Below w.heap.size w (w.alloc o) := fun o => (Below.refl _ _).alloc (Nat.le_refl _) _
  obtain ⟨bk, hk⟩ : ∃ b, inb k 0 6 = b := ⟨_, rfl⟩
  obtain ⟨bf, hf⟩ : ∃ b, inb f 1 10000 = b := ⟨_, rfl⟩
  obtain ⟨be, he⟩ : ∃ b, inb e 0 12 = b := ⟨_, rfl⟩
  obtain ⟨bt, ht⟩ : ∃ b, inb t 0 1000 = b := ⟨_, rfl⟩
  rw [hk, hf, he, ht] at hr
  have HK := Lib.hid hk
  have HF := Lib.hid hf
  have HE := Lib.hid he
  have HT := Lib.hid ht
  clear hk hf he ht
  cases bk
  · simp only [if_true] at hr
    subst hr
    go_enter Try.func96, Try.ntmps96
    go_wp2_with fail
    refine (in_is k 0 6 false HK.out _).mono ?_
    rintro e w1 ⟨rfl, rfl⟩
    go_wp2
    go_ret
    exact ⟨rfl, hBw _⟩
  cases bf
  · simp only [if_true, Bool.true_eq_false, if_false] at hr
    subst hr
    go_enter Try.func96, Try.ntmps96
    go_wp2_with fail
    refine (in_is k 0 6 true HK.out _).mono ?_
    rintro e w1 ⟨rfl, rfl⟩
    go_wp2_with fail
    refine (in_is f 1 10000 false HF.out _).mono ?_
    rintro e w1 ⟨rfl, rfl⟩
    go_wp2
    go_ret
    exact ⟨rfl, hBw _⟩
  cases be
  · simp only [if_true, Bool.true_eq_false, if_false] at hr
    subst hr
    go_enter Try.func96, Try.ntmps96
    go_wp2_with fail
    refine (in_is k 0 6 true HK.out _).mono ?_
    rintro e w1 ⟨rfl, rfl⟩
    go_wp2_with fail
    refine (in_is f 1 10000 true HF.out _).mono ?_
    rintro e w1 ⟨rfl, rfl⟩
    go_wp2_with fail
    refine (in_is e 0 12 false HE.out _).mono ?_
    rintro e w1 ⟨rfl, rfl⟩
    go_wp2
    go_ret
    exact ⟨rfl, hBw _⟩
  cases bt
  · simp only [if_true, Bool.true_eq_false, if_false] at hr
    subst hr
    go_enter Try.func96, Try.ntmps96
    go_wp2_with fail
    refine (in_is k 0 6 true HK.out _).mono ?_
    rintro e w1 ⟨rfl, rfl⟩
    go_wp2_with fail
    refine (in_is f 1 10000 true HF.out _).mono ?_
    rintro e w1 ⟨rfl, rfl⟩
    go_wp2_with fail
    refine (in_is e 0 12 true HE.out _).mono ?_
    rintro e w1 ⟨rfl, rfl⟩
    go_wp2_with fail
    refine (in_is t 0 1000 false HT.out _).mono ?_
    rintro e w1 ⟨rfl, rfl⟩
    go_wp2
    go_ret
    exact ⟨rfl, hBw _⟩
  simp only [Bool.true_eq_false, if_false] at hr
  by_cases he : e = 0
  · by_cases ht : t = 1
    · rw [if_neg (by simp [ht])] at hr
      subst hr; subst he; subst ht
      go_enter Try.func96, Try.ntmps96
      go_wp2_with fail
      refine (in_is k 0 6 true HK.out _).mono ?_
      rintro e w1 ⟨rfl, rfl⟩
      go_wp2_with fail
      refine (in_is f 1 10000 true HF.out _).mono ?_
      rintro e w1 ⟨rfl, rfl⟩
      go_wp2_with fail
      refine (in_is 0 0 12 true HE.out _).mono ?_
      rintro e w1 ⟨rfl, rfl⟩
      go_wp2_with fail
      refine (in_is 1 0 1000 true HT.out _).mono ?_
      rintro e w1 ⟨rfl, rfl⟩
      go_wp2
      go_ret
      exact ⟨rfl, hBw _⟩
    · rw [if_pos ⟨he, ht⟩] at hr
      subst hr; subst he
      have ht2 : (t != 1) = true := by simp [ht]
      go_enter Try.func96, Try.ntmps96
      go_wp2_with fail
      refine (in_is k 0 6 true HK.out _).mono ?_
      rintro e w1 ⟨rfl, rfl⟩
      go_wp2_with fail
      refine (in_is f 1 10000 true HF.out _).mono ?_
      rintro e w1 ⟨rfl, rfl⟩
      go_wp2_with fail
      refine (in_is 0 0 12 true HE.out _).mono ?_
      rintro e w1 ⟨rfl, rfl⟩
      go_wp2_with fail
      refine (in_is t 0 1000 true HT.out _).mono ?_
      rintro e w1 ⟨rfl, rfl⟩
      go_wp2
      go_ret
      exact ⟨rfl, hBw _⟩
  · rw [if_neg (by intro h; exact he h.1)] at hr
    subst hr
    have he2 : (e == 0) = false := by simp [he]
    go_enter Try.func96, Try.ntmps96
    go_wp2_with fail
    refine (in_is k 0 6 true HK.out _).mono ?_
    rintro e w1 ⟨rfl, rfl⟩
    go_wp2_with fail
    refine (in_is f 1 10000 true HF.out _).mono ?_
    rintro e w1 ⟨rfl, rfl⟩
    go_wp2_with fail
    refine (in_is e 0 12 true HE.out _).mono ?_
    rintro e w1 ⟨rfl, rfl⟩
    go_wp2_with fail
    refine (in_is t 0 1000 true HT.out _).mono ?_
    rintro e w1 ⟨rfl, rfl⟩
    go_wp2
    go_ret
    exact ⟨rfl, hBw _⟩

set_option maxRecDepth 100000 in
set_option maxHeartbeats 1000000 in
theorem RCheck_is (v : Value) (l : List RlI) (i : Nat) (c : Int) (hc : chkP l = (i, c)) (w : World) (h : RAt w v l) :
    Calls Try.prog 77 #[.agg #[v]] w fun e w' => e = .returned (.tuple #[.int .i64 (i : Int), .int .i64 c]) ∧ Below w.heap.size w w' := by
  have hl64 := h.len
  obtain ⟨a, cap, rfl⟩ := h.form
  unfold chkP at hc
  by_cases h1 : (50 : Int) < (l.length : Int)
  · rw [if_pos (by omega)] at hc
    cases hc
    go_enter Try.func77, Try.ntmps77
    go_wp2
    go_ret2
    exact ⟨rfl, (Below.refl _ _).alloc (Nat.le_refl _) _⟩
  · rw [if_neg (by omega)] at hc
    have HC := Lib.hid hc
    clear hc
    obtain ⟨n, hn⟩ : ∃ n, l.length = n := ⟨_, rfl⟩
    have HN := Lib.hid hn
    rw [hn] at h h1 hl64
    rw [hn]
    clear hn
    obtain ⟨WL, hWL⟩ : ∃ x, w.alloc (.cells #[.slice a n cap] 24) = x := ⟨_, rfl⟩
    have hbL : Below w.heap.size w WL := by rw [← hWL]; exact (Below.refl _ _).alloc (Nat.le_refl _) _
    have bP : Boxed WL w.heap.size 24 (.slice a n cap) := by rw [← hWL]; exact Boxed.new w _ _
    have hP := bP.cell
    have hL := h.later hbL
    go_enter Try.func77, Try.ntmps77
    go_wp2_with fail
    try rw [hWL]
    clear hWL
    go_loopw [4] (fun j wr => ∃ k : Nat, k ≤ n ∧ j = .int .i64 k ∧ Hid (∀ (m : Nat) (y : RlI), m < k → l[m]? = some y → chkR y = 0) ∧ Below WL.heap.size WL wr) (fun i _ => n - (intOf i).toNat)
    case atStart => exact ⟨0, Nat.zero_le _, rfl, (fun m y hm => by omega), Below.refl _ _⟩
    case round =>
      obtain ⟨k, hk, rfl, HV, hB⟩ := hrel
      have hPw := cell_later hB hP
      by_cases hlt : k < n
      · obtain ⟨x, hx⟩ : ∃ x, l[k]? = some x := ⟨_, List.getElem?_eq_getElem (by rw [HN.out]; exact hlt)⟩
        obtain ⟨b, off, rfl, _, k1, k2, k3, k4⟩ := hL.at k _ hx
        replace k1 := cell_later hB k1
        replace k2 := cell_later hB k2
        replace k3 := cell_later hB k3
        replace k4 := cell_later hB k4
        have hi1 : (k : Int) < (n : Int) := by omega
        obtain ⟨r, hr⟩ : ∃ r, chkR x = r := ⟨_, rfl⟩
        have HR := Lib.hid hr
        have HX := Lib.hid hx
        have hsz := hB.size
        by_cases hr0 : r = 0
        · subst hr0
          have HV2 : Hid (∀ (m : Nat) (y : RlI), m < k + 1 → l[m]? = some y → chkR y = 0) := fun m y hm hy => by
            by_cases hmk : m < k
            · exact HV.out m y hmk hy
            · obtain rfl : m = k := by omega
              rw [hx] at hy; cases hy; exact hr
          clear hr hx HV
          go_wp2_with fail
          refine (rule_is x 0 HR.out _).mono ?_
          rintro e w1 ⟨rfl, hB1⟩
          go_wp2
          go_roundw
          case rel => exact ⟨k + 1, by omega, by go_num, HV2, hB.trans (hB1.mono hB.size)⟩
          case measure => simp [intOf]; omega
        · have hq : (r != 0) = true := by simp [hr0]
          have hA : (i, c) = (0 + k, r) := by
            rw [← HC.out, ← hr]
            exact chkF_cut l 0 k x hx HV.out (by rw [hr]; exact hr0)
          rw [Nat.zero_add] at hA
          cases hA
          clear hr hx HV
          go_wp2_with fail
          refine (rule_is x _ HR.out _).mono ?_
          rintro e w1 ⟨rfl, hB1⟩
          go_wp2
          go_ret2
          exact ⟨rfl, hbL.trans ((hB.trans (hB1.mono hB.size)).mono hbL.size)⟩
      · have hi1 : ¬ ((k : Int) < (n : Int)) := by omega
        have hA : (i, c) = (0, 0) := by
          rw [← HC.out]
          exact chkF_all l 0 fun j y hy => HV.out j y (by have := (List.getElem?_eq_some_iff.1 hy).1; rw [HN.out] at this; omega) hy
        cases hA
        go_wp2
        go_ret2
        exact ⟨rfl, hbL.trans (hB.mono hbL.size)⟩
end Go.Proofs.Ytnmeeddhagmjdaa
