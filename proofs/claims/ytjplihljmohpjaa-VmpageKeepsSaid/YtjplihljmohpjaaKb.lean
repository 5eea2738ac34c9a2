/- The tally of a plan. -/
import Derived.Laws.MakeOwn
import Derived.Test.YtjplihljmohpjaaKa
/- Check and what it calls. -/
namespace Go.Proofs.Ytjplihljmohpjaa
open Go.RowKit
attribute [local go_sem] Oper.semAt_some

def isK (k : Int) : Bool := decide (0 ≤ k) && decide (k < 7)
theorem isKind_is (k : Int) (b : Bool) (hb : isK k = b) (w : World) : Calls Try.prog 102 #[.int .i64 k] w fun e w' => e = .returned (.bool b) ∧ w = w' := by
  unfold isK at hb
  by_cases h1 : 0 ≤ k <;> by_cases h2 : k < 7
  all_goals first | (exfalso; omega) | skip
  all_goals
    have HB : Hid ((decide (0 ≤ k) && decide (k < 7)) = b) := hb
    clear hb
    go_enter Try.func102, Try.ntmps102
    go_wp2
    go_ret
    exact ⟨ret_bool (by rw [← HB.out]; simp [h1, h2]), rfl⟩

set_option maxRecDepth 100000 in
set_option maxHeartbeats 1000000 in
theorem checkRule_is (x : RlI) (r : Int) (hr : chkR x = r) (w : World) : Calls Try.prog 95 #[rv x] w fun e w' => e = .returned (.int .i64 r) ∧ Below w.heap.size w w' := by
  obtain ⟨k, f, e, t⟩ := x
  unfold chkR at hr
  simp only at hr
  have hBw : ∀ o : Obj, Below w.heap.size w (w.alloc o) := fun o => (Below.refl _ _).alloc (Nat.le_refl _) _
  by_cases hk : k < 0 ∨ 6 < k
  · rw [if_pos hk] at hr
    have HK : Hid (isK k = false) := by unfold Hid isK; simp; omega
    subst hr
    clear hk
    go_enter Try.func95, Try.ntmps95
    go_wp2_with fail
    refine (isKind_is k false HK.out _).mono ?_
    rintro e w1 ⟨rfl, rfl⟩
    go_wp2
    go_ret
    exact ⟨rfl, hBw _⟩
  rw [if_neg hk] at hr
  have HK : Hid (isK k = true) := by unfold Hid isK; simp; omega
  clear hk
  by_cases h0 : f < 1 ∨ 10000 < f ∨ e < 0 ∨ 12 < e ∨ t < 0 ∨ 1000 < t
  · rw [if_pos h0] at hr
    subst hr
    by_cases h1 : f < 1
    · clear h0
      go_enter Try.func95, Try.ntmps95
      go_wp2_with fail
      refine (isKind_is k true HK.out _).mono ?_
      rintro e w1 ⟨rfl, rfl⟩
      go_wp2
      go_ret
      exact ⟨rfl, hBw _⟩
    by_cases h2 : 10000 < f
    · clear h0
      go_enter Try.func95, Try.ntmps95
      go_wp2_with fail
      refine (isKind_is k true HK.out _).mono ?_
      rintro e w1 ⟨rfl, rfl⟩
      go_wp2
      go_ret
      exact ⟨rfl, hBw _⟩
    by_cases h3 : e < 0
    · clear h0
      go_enter Try.func95, Try.ntmps95
      go_wp2_with fail
      refine (isKind_is k true HK.out _).mono ?_
      rintro e w1 ⟨rfl, rfl⟩
      go_wp2
      go_ret
      exact ⟨rfl, hBw _⟩
    by_cases h4 : 12 < e
    · clear h0
      go_enter Try.func95, Try.ntmps95
      go_wp2_with fail
      refine (isKind_is k true HK.out _).mono ?_
      rintro e w1 ⟨rfl, rfl⟩
      go_wp2
      go_ret
      exact ⟨rfl, hBw _⟩
    by_cases h5 : t < 0
    · clear h0
      go_enter Try.func95, Try.ntmps95
      go_wp2_with fail
      refine (isKind_is k true HK.out _).mono ?_
      rintro e w1 ⟨rfl, rfl⟩
      go_wp2
      go_ret
      exact ⟨rfl, hBw _⟩
    by_cases h6 : 1000 < t
    · clear h0
      go_enter Try.func95, Try.ntmps95
      go_wp2_with fail
      refine (isKind_is k true HK.out _).mono ?_
      rintro e w1 ⟨rfl, rfl⟩
      go_wp2
      go_ret
      exact ⟨rfl, hBw _⟩
    exfalso; omega
  rw [if_neg h0] at hr
  have h1 : ¬ f < 1 := by omega
  have h2 : ¬ 10000 < f := by omega
  have h3 : ¬ e < 0 := by omega
  have h4 : ¬ 12 < e := by omega
  have h5 : ¬ t < 0 := by omega
  have h6 : ¬ 1000 < t := by omega
  clear h0
  by_cases he : e = 0
  · subst he
    by_cases ht : t = 1
    · subst ht
      rw [if_neg (by simp)] at hr
      subst hr
      go_enter Try.func95, Try.ntmps95
      go_wp2_with fail
      refine (isKind_is k true HK.out _).mono ?_
      rintro e w1 ⟨rfl, rfl⟩
      go_wp2
      go_ret
      exact ⟨rfl, hBw _⟩
    · rw [if_pos ⟨rfl, ht⟩] at hr
      subst hr
      have ht2 : (t != 1) = true := by simp [ht]
      go_enter Try.func95, Try.ntmps95
      go_wp2_with fail
      refine (isKind_is k true HK.out _).mono ?_
      rintro e w1 ⟨rfl, rfl⟩
      go_wp2
      go_ret
      exact ⟨rfl, hBw _⟩
  · rw [if_neg (by intro h; exact he h.1)] at hr
    subst hr
    have he2 : (e == 0) = false := by simp [he]
    go_enter Try.func95, Try.ntmps95
    go_wp2_with fail
    refine (isKind_is k true HK.out _).mono ?_
    rintro e w1 ⟨rfl, rfl⟩
    go_wp2
    go_ret
    exact ⟨rfl, hBw _⟩

set_option maxRecDepth 100000 in
set_option maxHeartbeats 1000000 in
theorem Check_is (v : Value) (l : List RlI) (i : Nat) (c : Int) (hc : chkP l = (i, c)) (w : World) (h : RAt w v l) :
    Calls Try.prog 75 #[.agg #[v]] w fun e w' => e = .returned (.tuple #[.int .i64 (i : Int), .int .i64 c]) ∧ Below w.heap.size w w' := by
  have hl64 := h.len
  obtain ⟨a, cap, rfl⟩ := h.form
  unfold chkP at hc
  by_cases h1 : (50 : Int) < (l.length : Int)
  · rw [if_pos (by omega)] at hc
    cases hc
    go_enter Try.func75, Try.ntmps75
    go_wp2
    go_ret2
    exact ⟨rfl, (Below.refl _ _).alloc (Nat.le_refl _) _⟩
  · rw [if_neg (by omega)] at hc
    have HC := Lib.hid hc
    clear hc
    obtain ⟨n, hn⟩ : ∃ n, l.length = n := ⟨_, rfl⟩
    have HN := Lib.hid hn
    rw [hn] at h h1 hl64
    rw [hn]
    clear hn
    obtain ⟨WL, hWL⟩ : ∃ x, w.alloc (.cells #[.slice a n cap] 24) = x := ⟨_, rfl⟩
    have hbL : Below w.heap.size w WL := by rw [← hWL]; exact (Below.refl _ _).alloc (Nat.le_refl _) _
    have bP : Boxed WL w.heap.size 24 (.slice a n cap) := by rw [← hWL]; exact Boxed.new w _ _
    have hP := bP.cell
    have hL := h.later hbL
    go_enter Try.func75, Try.ntmps75
    go_wp2_with fail
    try rw [hWL]
    clear hWL
    go_loopw [14] (fun j wr => ∃ k : Nat, k ≤ n ∧ j = .int .i64 k ∧ Hid (∀ (m : Nat) (y : RlI), m < k → l[m]? = some y → chkR y = 0) ∧ Below WL.heap.size WL wr) (fun i _ => n - (intOf i).toNat)
    case atStart => exact ⟨0, Nat.zero_le _, rfl, (fun m y hm => by omega), Below.refl _ _⟩
    case round =>
      obtain ⟨k, hk, rfl, HV, hB⟩ := hrel
      by_cases hlt : k < n
      · obtain ⟨x, hx⟩ : ∃ x, l[k]? = some x := ⟨_, List.getElem?_eq_getElem (by rw [HN.out]; exact hlt)⟩
        obtain ⟨b, off, rfl, _, k1, k2, k3, k4⟩ := hL.at k _ hx
        replace k1 := cell_later hB k1
        replace k2 := cell_later hB k2
        replace k3 := cell_later hB k3
        replace k4 := cell_later hB k4
        have hi1 : (k : Int) < (n : Int) := by omega
        obtain ⟨r, hr⟩ : ∃ r, chkR x = r := ⟨_, rfl⟩
        have HR := Lib.hid hr
        have HX := Lib.hid hx
        have hsz := hB.size
        by_cases hr0 : r = 0
        · subst hr0
          have HV2 : Hid (∀ (m : Nat) (y : RlI), m < k + 1 → l[m]? = some y → chkR y = 0) := fun m y hm hy => by
            by_cases hmk : m < k
            · exact HV.out m y hmk hy
            · obtain rfl : m = k := by omega
              rw [hx] at hy; cases hy; exact hr
          clear hr hx HV
          go_wp2_with fail
          refine (checkRule_is x 0 HR.out _).mono ?_
          rintro e w1 ⟨rfl, hB1⟩
          go_wp2
          go_roundw
          case rel => exact ⟨k + 1, by omega, by go_num, HV2, (hB.alloc hB.size _).trans (hB1.mono (by simp; omega))⟩
          case measure => simp [intOf]; omega
        · have hq : (r != 0) = true := by simp [hr0]
          have hA : (i, c) = (0 + k, r) := by
            rw [← HC.out, ← hr]
            exact chkF_cut l 0 k x hx HV.out (by rw [hr]; exact hr0)
          rw [Nat.zero_add] at hA
          cases hA
          clear hr hx HV
          go_wp2_with fail
          refine (checkRule_is x _ HR.out _).mono ?_
          rintro e w1 ⟨rfl, hB1⟩
          go_wp2
          go_ret2
          exact ⟨rfl, hbL.trans (((hB.alloc hB.size _).trans (hB1.mono (by simp; omega))).mono hbL.size)⟩
      · have hi1 : ¬ ((k : Int) < (n : Int)) := by omega
        have hA : (i, c) = (0, 0) := by
          rw [← HC.out]
          exact chkF_all l 0 fun j y hy => HV.out j y (by have := (List.getElem?_eq_some_iff.1 hy).1; rw [HN.out] at this; omega) hy
        cases hA
        go_wp2
        go_ret2
        exact ⟨rfl, hbL.trans (hB.mono hbL.size)⟩
end Go.Proofs.Ytjplihljmohpjaa

/- What is left of a rule. -/
namespace Go.Proofs.Ytjplihljmohpjaa
open Go.RowKit
attribute [local go_sem] Oper.semAt_some

/-- What later answers. -/
def ltV (o : Option Ru) : Value := .tuple #[rv (match o with | some r => r.toI | none => ⟨0, 0, 0, 0⟩), .bool o.isSome]

set_option maxRecDepth 100000 in
set_option maxHeartbeats 2000000 in
theorem later_is (r : Ru) (h : r.ok) (n : Nat) (hn : n ≤ 1000000) (w : World) :
    Calls Try.prog 108 #[rv r.toI, .int .i64 (n : Int)] w fun e w' => e = .returned (ltV (later r n)) ∧ Below w.heap.size w w' := by
  have hB2 : ∀ o o' : Obj, Below w.heap.size w ((w.alloc o).alloc o') := fun o o' => ((Below.refl _ _).alloc (Nat.le_refl _) _).alloc (by simp) _
  have hk := h.k; have hf1 := h.f1; have hf2 := h.f2; have he2 := h.e2; have ht2 := h.t2; have het := h.et
  clear h
  obtain ⟨k, f, e, t⟩ := r
  simp only at hk hf1 hf2 he2 ht2 het
  unfold later Ru.toI
  simp only
  by_cases h1 : n < f
  · have h1' : (n : Int) < (f : Int) := by omega
    rw [if_pos h1]
    unfold ltV Ru.toI
    simp only
    go_enter Try.func108, Try.ntmps108
    go_wp2_with fail
    refine bodyPost_ret (v := .tuple #[.agg #[.int .i64 (k : Int), .int .i64 (f : Int), .int .i64 (e : Int), .int .i64 (t : Int)], .bool true]) (by simp [results, Try.results108, go_sem]) rfl ⟨rfl, hB2 _ _⟩
  rw [if_neg h1]
  have h1' : ¬ (n : Int) < (f : Int) := by omega
  by_cases he : e = 0
  · subst he
    have ht := het rfl
    subst ht
    simp only [Nat.div_zero, Nat.add_zero]
    rw [if_pos (by omega)]
    unfold ltV
    simp only
    go_enter Try.func108, Try.ntmps108
    go_wp2_with fail
    refine bodyPost_ret (v := .tuple #[.agg #[.int .i64 0, .int .i64 0, .int .i64 0, .int .i64 0], .bool false]) (by simp [results, Try.results108, go_sem]) rfl ⟨rfl, hB2 _ _⟩
  have he1 : (0 : Int) < (e : Int) := by omega
  have he0 : (e : Int) ≠ 0 := by omega
  obtain ⟨q, hq⟩ : ∃ q, (n - f) / e = q := ⟨_, rfl⟩
  rw [hq]
  have hqn : q ≤ n - f := by rw [← hq]; exact Nat.div_le_self _ _
  have hq1 : ((n : Int) - (f : Int)) / (e : Int) = (q : Int) := by rw [← hq, show (n : Int) - (f : Int) = ((n - f : Nat) : Int) by omega]; rfl
  have hq2 : Int.tdiv ((n : Int) - (f : Int)) (e : Int) = (q : Int) := by rw [Int.tdiv_eq_ediv_of_nonneg (by omega)]; exact hq1
  have hpl : (1 + q) * e ≤ 13000000 := Nat.le_trans (Nat.mul_le_mul_left _ he2) (by omega)
  obtain ⟨p, hp⟩ : ∃ p, (1 + q) * e = p := ⟨_, rfl⟩
  rw [hp] at hpl ⊢
  have hp1 : (1 + (q : Int)) * (e : Int) = (p : Int) := by rw [← hp]; simp
  have HQ := Lib.hid hq
  have HP := Lib.hid hp
  clear hq hp het
  by_cases ht : t = 0
  · subst ht
    rw [if_neg (by omega)]
    unfold ltV Ru.toI
    simp only
    go_enter Try.func108, Try.ntmps108
    go_wp2_with fail
    refine bodyPost_ret (v := .tuple #[.agg #[.int .i64 (k : Int), .int .i64 ((f : Int) + (p : Int)), .int .i64 (e : Int), .int .i64 0], .bool true]) (by simp [results, Try.results108, go_sem]) rfl ⟨rfl, hB2 _ _⟩
  have ht1 : (0 : Int) < (t : Int) := by omega
  by_cases h2 : t ≤ 1 + q
  · have h2' : (t : Int) ≤ 1 + (q : Int) := by omega
    rw [if_pos ⟨ht, h2⟩]
    unfold ltV
    simp only
    go_enter Try.func108, Try.ntmps108
    go_wp2_with fail
    refine bodyPost_ret (v := .tuple #[.agg #[.int .i64 0, .int .i64 0, .int .i64 0, .int .i64 0], .bool false]) (by simp [results, Try.results108, go_sem]) rfl ⟨rfl, hB2 _ _⟩
  · have h2' : ¬ (t : Int) ≤ 1 + (q : Int) := by omega
    rw [if_neg (by omega)]
    unfold ltV Ru.toI
    simp only
    rw [show ((t - (1 + q) : Nat) : Int) = (t : Int) - (1 + (q : Int)) by omega]
    go_enter Try.func108, Try.ntmps108
    go_wp2_with fail
    refine bodyPost_ret (v := .tuple #[.agg #[.int .i64 (k : Int), .int .i64 ((f : Int) + (p : Int)), .int .i64 (e : Int), .int .i64 ((t : Int) - (1 + (q : Int)))], .bool true]) (by simp [results, Try.results108, go_sem]) rfl ⟨rfl, hB2 _ _⟩
end Go.Proofs.Ytjplihljmohpjaa

/- The first call that is refused after a call. -/
namespace Go.Proofs.Ytjplihljmohpjaa
open Go.RowKit
attribute [local go_sem] Oper.semAt_some

theorem later_no (r : Ru) (h : r.ok) (n : Nat) (hn : n ≤ 1000000) (hl : later r n = none) (w : World) :
    Calls Try.prog 108 #[rv r.toI, .int .i64 (n : Int)] w fun e w' => e = .returned (.tuple #[.agg #[.int .i64 0, .int .i64 0, .int .i64 0, .int .i64 0], .bool false]) ∧ Below w.heap.size w w' := by
  have := later_is r h n hn w
  rw [hl] at this
  exact this
theorem later_yes (r r' : Ru) (h : r.ok) (n : Nat) (hn : n ≤ 1000000) (hl : later r n = some r') (w : World) :
    Calls Try.prog 108 #[rv r.toI, .int .i64 (n : Int)] w fun e w' => e = .returned (.tuple #[.agg #[.int .i64 (r'.k : Int), .int .i64 (r'.f : Int), .int .i64 (r'.e : Int), .int .i64 (r'.t : Int)], .bool true]) ∧ Below w.heap.size w w' := by
  have := later_is r h n hn w
  rw [hl] at this
  exact this
def aftI : Option Nat → Int
  | none => 0
  | some x => x

set_option maxRecDepth 100000 in
set_option maxHeartbeats 4000000 in
theorem after_is (L : List Ru) (hL : OkL L) (kd m : Nat) (hm : m ≤ 1000000) (v : Value) (w : World) (h : RAt w v (toI L)) :
    Calls Try.prog 107 #[.agg #[v], .int .i64 (kd : Int), .int .i64 (m : Int)] w fun e w' => e = .returned (.tuple #[.int .i64 (aftI (aft L kd m)), .bool (aft L kd m).isSome]) ∧ Below w.heap.size w w' := by
  obtain ⟨a, cap, rfl⟩ := h.form
  obtain ⟨n, hn⟩ : ∃ n, L.length = n := ⟨_, rfl⟩
  have HN := Lib.hid hn
  have hn50 : n ≤ 50 := by have := hL.1; omega
  rw [toI_len, hn] at h
  rw [toI_len, hn]
  clear hn
  obtain ⟨WL, hWL⟩ : ∃ x, w.alloc (.cells #[.slice a n cap] 24) = x := ⟨_, rfl⟩
  have hbL : Below w.heap.size w WL := by rw [← hWL]; exact (Below.refl _ _).alloc (Nat.le_refl _) _
  have bP : Boxed WL w.heap.size 24 (.slice a n cap) := by rw [← hWL]; exact Boxed.new w _ _
  have hP := bP.cell
  have hLL := h.later hbL
  go_enter Try.func107, Try.ntmps107
  go_wp2_with fail
  try rw [hWL]
  clear hWL
  go_loopw [6, 7, 15] (fun nx ok j wr => ∃ k : Nat, k ≤ n ∧ j = .int .i64 k ∧ nx = .int .i64 (aftI (aft (L.take k) kd m)) ∧ ok = .bool (aft (L.take k) kd m).isSome ∧ Below WL.heap.size WL wr) (fun _ _ i _ => n - (intOf i).toNat)
  case atStart => exact ⟨0, Nat.zero_le _, rfl, rfl, rfl, Below.refl _ _⟩
  case round =>
    obtain ⟨k, hk, rfl, rfl, rfl, hB⟩ := hrel
    by_cases hlt : k < n
    · obtain ⟨r, hx⟩ : ∃ x, L[k]? = some x := ⟨_, List.getElem?_eq_getElem (by rw [HN.out]; exact hlt)⟩
      have hr := hL.get hx
      obtain ⟨b, off, rfl, _, k1, k2, k3, k4⟩ := hLL.at k _ (toI_some hx)
      replace k1 := cell_later hB k1
      replace k2 := cell_later hB k2
      replace k3 := cell_later hB k3
      replace k4 := cell_later hB k4
      have hi1 : (k : Int) < (n : Int) := by omega
      have hst := aft_take L kd m k r hx
      obtain ⟨acc, hacc⟩ : ∃ acc, aft (L.take k) kd m = acc := ⟨_, rfl⟩
      rw [hacc] at hst ⊢
      obtain ⟨rk, rf, re, rt⟩ := r
      simp only [Ru.toI] at k1 k2 k3 k4
      have hsz := hB.size
      by_cases hkd : rk = kd
      · subst hkd
        have hq : ((rk : Int) != (rk : Int)) = false := by simp
        cases hl : later ⟨rk, rf, re, rt⟩ m with
        | none =>
          have HS : Hid (aft (L.take (k + 1)) rk m = acc) := by unfold Hid; rw [hst]; unfold aftS; simp [hl]
          have HL := Lib.hid (later_no _ hr m hm hl)
          clear hx hst hacc hr hl
          cases acc with
          | none =>
            simp only [aftI, Option.isSome_none]
            go_wp2_with fail
            refine (HL.out _).mono ?_
            rintro e w1 ⟨rfl, hB1⟩
            go_wp2
            go_roundw
            case rel => exact ⟨k + 1, by omega, by go_num, by rw [HS.out] <;> rfl, by rw [HS.out] <;> rfl, ((hB.alloc hB.size _).trans (hB1.mono (by simp <;> omega))).alloc (by have := hB1.size; simp at this <;> omega) _⟩
            case measure => simp [intOf]; omega
          | some x =>
            simp only [aftI, Option.isSome_some]
            go_wp2_with fail
            refine (HL.out _).mono ?_
            rintro e w1 ⟨rfl, hB1⟩
            go_wp2
            go_roundw
            case rel => exact ⟨k + 1, by omega, by go_num, by rw [HS.out] <;> rfl, by rw [HS.out] <;> rfl, ((hB.alloc hB.size _).trans (hB1.mono (by simp <;> omega))).alloc (by have := hB1.size; simp at this <;> omega) _⟩
            case measure => simp [intOf]; omega
        | some r' =>
          have HL := Lib.hid (later_yes _ r' hr m hm hl)
          cases acc with
          | none =>
            have HS : Hid (aft (L.take (k + 1)) rk m = some r'.f) := by unfold Hid; rw [hst]; unfold aftS; simp [hl]
            clear hx hst hacc hr hl
            simp only [aftI, Option.isSome_none]
            go_wp2_with fail
            refine (HL.out _).mono ?_
            rintro e w1 ⟨rfl, hB1⟩
            go_wp2
            go_roundw
            case rel => exact ⟨k + 1, by omega, by go_num, by rw [HS.out] <;> rfl, by rw [HS.out] <;> rfl, ((hB.alloc hB.size _).trans (hB1.mono (by simp <;> omega))).alloc (by have := hB1.size; simp at this <;> omega) _⟩
            case measure => simp [intOf]; omega
          | some x =>
            by_cases hlx : r'.f < x
            · have HS : Hid (aft (L.take (k + 1)) rk m = some r'.f) := by unfold Hid; rw [hst]; unfold aftS; simp [hl, hlx]
              have hlx1 : (r'.f : Int) < (x : Int) := by omega
              clear hx hst hacc hr hl
              simp only [aftI, Option.isSome_some]
              go_wp2_with fail
              refine (HL.out _).mono ?_
              rintro e w1 ⟨rfl, hB1⟩
              go_wp2
              go_roundw
              case rel => exact ⟨k + 1, by omega, by go_num, by rw [HS.out] <;> rfl, by rw [HS.out] <;> rfl, ((hB.alloc hB.size _).trans (hB1.mono (by simp <;> omega))).alloc (by have := hB1.size; simp at this <;> omega) _⟩
              case measure => simp [intOf]; omega
            · have HS : Hid (aft (L.take (k + 1)) rk m = some x) := by unfold Hid; rw [hst]; unfold aftS; simp [hl, hlx]
              have hlx1 : ¬ (r'.f : Int) < (x : Int) := by omega
              clear hx hst hacc hr hl
              simp only [aftI, Option.isSome_some]
              go_wp2_with fail
              refine (HL.out _).mono ?_
              rintro e w1 ⟨rfl, hB1⟩
              go_wp2
              go_roundw
              case rel => exact ⟨k + 1, by omega, by go_num, by rw [HS.out] <;> rfl, by rw [HS.out] <;> rfl, ((hB.alloc hB.size _).trans (hB1.mono (by simp <;> omega))).alloc (by have := hB1.size; simp at this <;> omega) _⟩
              case measure => simp [intOf]; omega
      · have hq : ((rk : Int) != (kd : Int)) = true := by simp; omega
        have HS : Hid (aft (L.take (k + 1)) kd m = acc) := by unfold Hid; rw [hst]; unfold aftS; simp [hkd]
        clear hx hst hacc hr hkd
        go_wp2
        go_roundw
        case rel => exact ⟨k + 1, by omega, by go_num, by rw [HS.out], by rw [HS.out], hB.alloc hB.size _⟩
        case measure => simp [intOf]; omega
    · have hi1 : ¬ ((k : Int) < (n : Int)) := by omega
      have hkn : k = n := by omega
      have hs : L.take k = L := by rw [hkn, ← HN.out, List.take_length]
      rw [hs]
      clear hs hkn
      go_wp2
      go_ret2
      exact ⟨rfl, hbL.trans (hB.mono hbL.size)⟩

set_option maxRecDepth 100000 in
set_option maxHeartbeats 1000000 in
theorem refuses_is (L : List Ru) (hL : OkL L) (kd n : Nat) (h1 : 1 ≤ n) (hn : n ≤ 1000001) (v : Value) (w : World) (h : RAt w v (toI L)) :
    Calls Try.prog 106 #[.agg #[v], .int .i64 (kd : Int), .int .i64 (n : Int)] w fun e w' => e = .returned (.bool (refP L kd n)) ∧ Below w.heap.size w w' := by
  obtain ⟨m, rfl⟩ : ∃ m, n = m + 1 := ⟨n - 1, by omega⟩
  have hb : Below w.heap.size w (w.alloc (.cells #[v] 24)) := (Below.refl _ _).alloc (Nat.le_refl _) _
  have ha := aft_ref hL.2 kd (m + 1) h1
  rw [Nat.add_sub_cancel] at ha
  have HA := Lib.hid (after_is L hL kd m (by omega) v _ (h.later hb))
  have hw1 : IntKind.i64.wrap (((m + 1 : Nat) : Int) - 1) = (m : Int) := IntWalk.i64_in _ (by omega) |>.trans (by omega)
  have hw2 : ((m + 1 : Nat) : Int) - 1 = (m : Int) := by omega
  have hw3 : ((m : Int) + 1) - 1 = (m : Int) := by omega
  rw [← ha]
  clear ha
  cases hq : aft L kd m with
  | none =>
    rw [hq] at HA
    simp only [aftI, Option.isSome_none] at HA
    go_enter Try.func106, Try.ntmps106
    go_wp2_with fail
    try rw [hw3]
    refine HA.out.mono ?_
    rintro e w1 ⟨rfl, hB1⟩
    go_wp2
    go_ret
    exact ⟨by simp, hb.trans (hB1.mono (by simp))⟩
  | some x =>
    rw [hq] at HA
    simp only [aftI, Option.isSome_some] at HA
    by_cases hx : x = m + 1
    · subst hx
      go_enter Try.func106, Try.ntmps106
      go_wp2_with fail
      try rw [hw3]
      refine HA.out.mono ?_
      rintro e w1 ⟨rfl, hB1⟩
      go_wp2
      go_ret
      exact ⟨by simp, hb.trans (hB1.mono (by simp))⟩
    · have hx1 : ((x : Int) == (m : Int) + 1) = false := by simp; omega
      have hx2 : (x : Int) ≠ (m : Int) + 1 := by omega
      go_enter Try.func106, Try.ntmps106
      go_wp2_with fail
      try rw [hw3]
      refine HA.out.mono ?_
      rintro e w1 ⟨rfl, hB1⟩
      go_wp2
      go_ret
      exact ⟨by simp [hx], hb.trans (hB1.mono (by simp))⟩
end Go.Proofs.Ytjplihljmohpjaa

/- The iterator over a rule's calls. -/
namespace Go.Proofs.Ytjplihljmohpjaa
open Go.RowKit Go.Shelf
attribute [local go_sem] Oper.semAt_some

abbrev Pn (most : Nat) := { p : Nat // p ≤ most }
def encN {most : Nat} (x : Pn most) : Array Value := #[.int .i64 (x.1 : Nat)]
theorem clF_stop {r : Ru} {most i : Nat} (h : (r.t ≠ 0 ∧ r.t ≤ i) ∨ most < r.f + i * r.e) : ∀ fuel, clF r most fuel i = []
  | 0 => rfl
  | fuel + 1 => by
    rw [clF]
    split
    · rfl
    · rcases h with h | h
      · contradiction
      · rw [if_pos h]
theorem clF_go {r : Ru} (hr : r.ok) {most i fuel : Nat} (hf : i + fuel = most + 2) (h1 : ¬ (r.t ≠ 0 ∧ r.t ≤ i)) (h2 : ¬ most < r.f + i * r.e) : ∃ g, fuel = g + 1 ∧ clF r most fuel i = (r.f + i * r.e) :: clF r most g (i + 1) := by
  have h0 : fuel ≠ 0 := by
    rintro rfl
    have hf1 := hr.f1
    rcases Nat.eq_zero_or_pos r.e with he | he
    · have := hr.et he; omega
    · have : i * 1 ≤ i * r.e := Nat.mul_le_mul_left _ he
      omega
  obtain ⟨g, rfl⟩ : ∃ g, fuel = g + 1 := ⟨fuel - 1, by omega⟩
  exact ⟨g, rfl, by rw [clF, if_neg h1, if_neg h2]⟩

set_option maxRecDepth 100000 in
set_option maxHeartbeats 4000000 in
theorem calls1_in (n : Nat) (hn : 1 ≤ n) (l BR BM most : Nat) (hmost : most ≤ 100000) (r : Ru) (hr : r.ok) (p : Nat → Prop) (hp1 : p BR) (hp2 : p BM) (J Jx : List (Pn most) → World → Prop) (W0 : World)
    (hY : ∀ (pre : List (Pn most)) x W, J pre W → pre.length < 200000 → YieldAt Fence.wide (n - 1) Try.prog l (encN x) W fun e W' =>
      (e = .returned (.bool true) ∧ J (pre ++ [x]) W' ∧ KC p W W' ∧ KeepsFrom W0.heap.size W W') ∨ (e = .returned (.bool false) ∧ Jx (pre ++ [x]) W' ∧ KeepsFrom W0.heap.size W W'))
    (hbR : RBox W0 BR r.toI) (hbM : Boxed W0 BM 3 (.int .i64 most)) (h0 : J [] W0) :
    CallsIn Fence.wide n Try.prog 105 #[.func (.yield l) #[] #[], .pointer (some ⟨BR, 0, none⟩), .pointer (some ⟨BM, 0, none⟩)] W0 fun e W' => (∃ v, e = .returned v) ∧
      ((∃ ys, ys.map Subtype.val = clL r most ∧ J ys W') ∨ (∃ pre : List (Pn most), pre.map Subtype.val <+: clL r most ∧ Jx pre W')) := by
  refine callsIn_of_wp Try.func105 rfl trivial ?_ rfl
  simp only [Try.ntmps105, List.size_toArray, List.length_cons, List.length_nil, Nat.reduceAdd, Nat.reduceSub, Array.replicate_succ, Array.replicate_zero, List.push_toArray, List.append_toArray, List.nil_append, List.cons_append]
  have HR := Lib.hid hr
  have hk := hr.k; have hf1 := hr.f1; have hf2 := hr.f2; have he2 := hr.e2; have ht2 := hr.t2; have het := hr.et
  gi_wp2_with fail
  gi_loopw [4] (fun v wr => ∃ (i fuel : Nat) (pre : List (Pn most)), v = .int .i64 i ∧ i + fuel = most + 2 ∧ pre.length ≤ i ∧ J pre wr ∧ RBox wr BR r.toI ∧ Boxed wr BM 3 (.int .i64 most) ∧ Hid (pre.map Subtype.val ++ clF r most fuel i = clL r most)) (fun v _ => most + 2 - (intOf v).toNat)
  case atStart => exact ⟨0, most + 2, [], rfl, by omega, by simp, h0, hbR, hbM, rfl⟩
  case round =>
    obtain ⟨i, fuel, pre, rfl, hif, hpl, hJs, hbR, hbM, HP⟩ := hrel
    have c1 := hbR.c1
    have c2 := hbR.c2
    have c3 := hbR.c3
    have cM := hbM.cell
    simp only [Ru.toI] at c1 c2 c3
    obtain ⟨q, hq⟩ : ∃ q, i * r.e = q := ⟨_, rfl⟩
    have hq1 : (i : Int) * (r.e : Int) = (q : Int) := by rw [← hq]; simp
    have hql : q ≤ 100002 * 12 := by rw [← hq]; exact Nat.mul_le_mul (by omega) he2
    by_cases h1 : r.t ≠ 0 ∧ r.t ≤ i
    · have hs := clF_stop (most := most) (.inl h1) fuel
      have h2 := HP.out
      rw [hs, List.append_nil] at h2
      have HP2 := Lib.hid h2
      have ht0 : ((r.t : Int) == 0) = false := by simp; omega
      have ht1 : ¬ (i : Int) < (r.t : Int) := by omega
      have ht3 : (r.t : Int) ≠ 0 := by omega
      clear h1 hs h2 HP hq
      gi_wp2
      go_end0
      exact ⟨⟨_, rfl⟩, .inl ⟨pre, HP2.out, hJs⟩⟩
    · by_cases h3 : most < r.f + i * r.e
      · have hs := clF_stop (r := r) (i := i) (most := most) (.inr h3) fuel
        have h2 := HP.out
        rw [hs, List.append_nil] at h2
        have HP2 := Lib.hid h2
        rw [hq] at h3
        have h3' : (most : Int) < (r.f : Int) + (q : Int) := by omega
        clear hs h2 HP hq
        by_cases ht : r.t = 0
        · have ht0 : ((r.t : Int) == 0) = true := by simp; omega
          have ht3 : (r.t : Int) = 0 := by omega
          rw [ht3] at c3 ht0
          clear ht3
          gi_wp2_with fail
          refine ⟨fun f hf => (by cases hf), ?_⟩
          rename_i K5 hK5 x5 h5 w5 heq5
          apply hK5
          gi_wp2_with fail
          refine bodyPost_ret (results_none rfl _ _ _) rfl ?_
          exact ⟨⟨_, rfl⟩, .inl ⟨pre, HP2.out, hJs⟩⟩
        · have ht0 : ((r.t : Int) == 0) = false := by simp; omega
          have ht1 : (i : Int) < (r.t : Int) := by omega
          have ht3 : (r.t : Int) ≠ 0 := by omega
          clear h1
          gi_wp2_with fail
          refine ⟨fun f hf => (by cases hf), ?_⟩
          rename_i K5 hK5 x5 h5 w5 heq5
          apply hK5
          gi_wp2_with fail
          refine bodyPost_ret (results_none rfl _ _ _) rfl ?_
          exact ⟨⟨_, rfl⟩, .inl ⟨pre, HP2.out, hJs⟩⟩
      · obtain ⟨g, rfl, hs⟩ := clF_go HR.out hif h1 h3
        rw [hq] at h3 hs
        have hx : r.f + q ≤ most := by omega
        have h3' : ¬ (most : Int) < (r.f : Int) + (q : Int) := by omega
        obtain ⟨x, hxx⟩ : ∃ x : Pn most, (⟨r.f + q, hx⟩ : Pn most) = x := ⟨_, rfl⟩
        have HS : Hid ((pre ++ [x]).map Subtype.val ++ clF r most g (i + 1) = clL r most) := by
          unfold Hid
          rw [List.map_append, List.map_singleton, List.append_assoc, ← HP.out, hs, ← hxx]; rfl
        obtain ⟨fn, tmps, assign, body, hy, hR⟩ := hY pre x wr hJs (by omega)
        dsimp only [encN] at hy
        have hxv : ((x.1 : Nat) : Int) = (r.f : Int) + (q : Int) := by rw [← hxx]; simp
        rw [hxv] at hy
        clear hs HP hq hxx hxv
        by_cases ht : r.t = 0
        · have ht0 : ((r.t : Int) == 0) = true := by simp; omega
          have ht3 : (r.t : Int) = 0 := by omega
          rw [ht3] at c3 ht0
          clear ht3
          gi_wp2_with fail
          refine hR.mono ?_
          rintro e2 W2 (⟨rfl, hJ2, hk2, _⟩ | ⟨rfl, hJx2, _⟩)
          · have yR : RBox W2 BR r.toI := hk2 BR _ hp1 hbR rfl
            have yM : Boxed W2 BM 3 (.int .i64 most) := hk2 BM _ hp2 hbM rfl
            gi_wp2
            go_roundw
            case rel => exact ⟨i + 1, g, pre ++ [x], by go_num, by omega, by rw [List.length_append, List.length_singleton]; omega, hJ2, yR, yM, HS⟩
            case measure => simp [intOf]; omega
          · gi_wp2
            refine bodyPost_ret (results_none rfl _ _ _) rfl ?_
            exact ⟨⟨_, rfl⟩, .inr ⟨pre ++ [x], ⟨_, HS.out⟩, hJx2⟩⟩
        · have ht0 : ((r.t : Int) == 0) = false := by simp; omega
          have ht1 : (i : Int) < (r.t : Int) := by omega
          have ht3 : (r.t : Int) ≠ 0 := by omega
          clear h1
          gi_wp2_with fail
          refine hR.mono ?_
          rintro e2 W2 (⟨rfl, hJ2, hk2, _⟩ | ⟨rfl, hJx2, _⟩)
          · have yR : RBox W2 BR r.toI := hk2 BR _ hp1 hbR rfl
            have yM : Boxed W2 BM 3 (.int .i64 most) := hk2 BM _ hp2 hbM rfl
            gi_wp2
            go_roundw
            case rel => exact ⟨i + 1, g, pre ++ [x], by go_num, by omega, by rw [List.length_append, List.length_singleton]; omega, hJ2, yR, yM, HS⟩
            case measure => simp [intOf]; omega
          · gi_wp2
            refine bodyPost_ret (results_none rfl _ _ _) rfl ?_
            exact ⟨⟨_, rfl⟩, .inr ⟨pre ++ [x], ⟨_, HS.out⟩, hJx2⟩⟩

theorem calls_g (n : Nat) (hn : 1 ≤ n) (BR BM most : Nat) (hmost : most ≤ 100000) (r : Ru) (hr : r.ok) (p : Nat → Prop) (hp1 : p BR) (hp2 : p BM) (w : World) (hbR : RBox w BR r.toI) (hbM : Boxed w BM 3 (.int .i64 most)) :
    SeqG Fence.wide n Try.prog 105 #[.pointer (some ⟨BR, 0, none⟩), .pointer (some ⟨BM, 0, none⟩)] (encN (most := most)) (fun _ => KC p) (fun ys => ys.map Subtype.val = clL r most) (fun pre => pre.map Subtype.val <+: clL r most) 200000 w := by
  intro l J Jx W hW _ _ hY h0
  exact calls1_in n hn l BR BM most hmost r hr p hp1 hp2 J Jx W hY (hbR.later hW) (hbM.kept (grown_of_below hW) (by simp)) h0

theorem calls_any (n : Nat) (x : RlI) (t : Int) (w : World) :
    CallsIn Fence.wide n Try.prog 103 #[rv x, .int .i64 t] w fun e w' => e = .returned (.func (.func 105) #[] #[.pointer (some ⟨w.heap.size, 0, none⟩), .pointer (some ⟨w.heap.size + 1, 0, none⟩)]) ∧ (w.alloc (.cells #[.int .i64 x.k, .int .i64 x.f, .int .i64 x.e, .int .i64 x.t] 134)).alloc (.cells #[.int .i64 t] 3) = w' := by
  refine callsIn_of_wp Try.func103 rfl trivial ?_ rfl
  simp only [Try.ntmps103, List.size_toArray, List.length_cons, List.length_nil, Nat.reduceAdd, Nat.reduceSub, Array.replicate_succ, Array.replicate_zero, List.push_toArray, List.append_toArray, List.nil_append, List.cons_append]
  gi_wp2
  go_ret
  exact ⟨rfl, rfl⟩
end Go.Proofs.Ytjplihljmohpjaa

/- A table of small numbers, one for each call. -/
namespace Go.Proofs.Ytjplihljmohpjaa
open Go.RowKit Go.Shelf
attribute [local go_sem] Oper.semAt_some

theorem Try.infoU8 : (Try.prog.info? 5).map (fun i => (i.zero, i.size, i.bytes)) = some (some (.int .u8 0), 1, 1) := by kernel_rfl
def tbl (m : Nat) (c : Nat → Nat) : Array Value := ((List.range m).map fun n => Value.int .u8 ((c n % 256 : Nat) : Int)).toArray
theorem tbl_size (m : Nat) (c : Nat → Nat) : (tbl m c).size = m := by unfold tbl; rw [List.size_toArray, List.length_map, List.length_range]
theorem tbl_at (m : Nat) (c : Nat → Nat) (p : Nat) (hp : p < m) : (tbl m c)[p]? = some (.int .u8 ((c p % 256 : Nat) : Int)) := by
  unfold tbl; rw [List.getElem?_toArray, List.getElem?_map, List.getElem?_range hp]; rfl
theorem tbl_set (m : Nat) (c : Nat → Nat) (p : Nat) (x : Nat) : (tbl m c).setIfInBounds p (.int .u8 ((x % 256 : Nat) : Int)) = tbl m (fun y => if y = p then x else c y) := by
  apply Array.ext_getElem?
  intro j
  rw [Array.getElem?_setIfInBounds, tbl_size]
  by_cases hj : j < m
  · rw [tbl_at _ _ j hj, tbl_at _ _ j hj]
    by_cases he : p = j
    · subst he; simp [hj]
    · rw [if_neg he, if_neg (Ne.symm he)]
  · have h1 : ∀ g, (tbl m g)[j]? = none := fun g => by rw [Array.getElem?_eq_none]; rw [tbl_size]; omega
    rw [h1, h1]
    split
    · rw [if_neg (by omega)]
    · rfl
theorem tbl_congr (m : Nat) {c d : Nat → Nat} (h : ∀ p, p < m → c p = d p) : tbl m c = tbl m d := by
  unfold tbl
  rw [List.map_congr_left (g := fun n => Value.int .u8 ((d n % 256 : Nat) : Int)) fun p hp => by rw [h p (List.mem_range.1 hp)]]
/-- A block that holds the table. -/
def TBox (W : World) (g m : Nat) (c : Nat → Nat) : Prop := W.heap[g]? = some (.cells (tbl m c) 5 (0, 0))
theorem TBox.lt {W : World} {g m : Nat} {c : Nat → Nat} (h : TBox W g m c) : g < W.heap.size := (Array.getElem?_eq_some_iff.1 h).1
theorem TBox.later {W V : World} {g m : Nat} {c : Nat → Nat} (h : TBox W g m c) (hb : Below W.heap.size W V) : TBox V g m c := (hb.block g h.lt).trans h
theorem TBox.cell {W : World} {g m : Nat} {c : Nat → Nat} (h : TBox W g m c) (p : Nat) (hp : p < m) : W.cell? ⟨g, p, none⟩ = some (.int .u8 ((c p % 256 : Nat) : Int)) := by
  unfold TBox at h; simp only [World.cell?, h]; exact tbl_at m c p hp
theorem TBox.frozen {W : World} {g m : Nat} {c : Nat → Nat} (h : TBox W g m c) (p : Nat) : W.frozen? ⟨g, p, none⟩ = false := by unfold TBox at h; simp [World.frozen?, h]
theorem TBox.set {W : World} {g m : Nat} {c : Nat → Nat} (h : TBox W g m c) (p x : Nat) : TBox (W.setCell ⟨g, p, none⟩ (.int .u8 ((x % 256 : Nat) : Int))) g m (fun y => if y = p then x else c y) := by
  unfold TBox
  rw [← tbl_set]
  exact heap_setCell_same W g p _ _ _ h
theorem TBox.congr {W : World} {g m : Nat} {c d : Nat → Nat} (h : TBox W g m c) (e : ∀ p, p < m → c p = d p) : TBox W g m d := by unfold TBox at *; rw [← tbl_congr m e]; exact h
theorem own_TBox {β : Type} (B g m : Nat) (f : β → Nat → Nat) : OwnFrom B (fun (s : β) W => TBox W g m (f s)) := fun s A C row hs hg hr =>
  (hg.block g (Array.getElem?_eq_some_iff.1 hs).1 (fun e => by
    obtain ⟨_, o', h1, h2⟩ := hr g e.symm
    unfold TBox at hs
    rw [hs] at h1; cases h1; cases h2)).trans hs
theorem made_tbl (m : Nat) : (madeCells (Value.int .u8 0).cells (m * 1)) = tbl m (fun _ => 0) := by
  apply Array.ext_getElem?
  intro j
  by_cases h : j < m
  · rw [tbl_at _ _ j h]
    simp [madeCells, h, Value.cells, Nat.mod_one]
  · rw [Array.getElem?_eq_none (by simp [madeCells]; omega), Array.getElem?_eq_none (by rw [tbl_size]; omega)]
theorem run_make_tbl (w : World) (m : Nat) (hm : m ≤ 1000000) : (Instr.makeSlice 56 (.int .i64 (m : Int)) (.int .i64 (m : Int))).run Try.prog w = .ok (.slice (some ⟨w.heap.size, 0, none⟩) m m) (w.alloc (.cells (tbl m fun _ => 0) 5)) := by
  obtain ⟨i0, hi, hz0, hz1, hz2⟩ := info_parts Try.infoU8
  have hr := run_make (P := Try.prog) w 56 5 i0 _ Try.underlying56 hi hz0 .i64 .i64 m m (by omega) (Int.le_refl _) (by rw [hz2]; omega) (by omega)
  simp only [Int.toNat_natCast] at hr
  rw [hz1, made_tbl] at hr
  exact hr
end Go.Proofs.Ytjplihljmohpjaa

/- How many rules refuse each call. -/
namespace Go.Proofs.Ytjplihljmohpjaa
open Go.RowKit Go.Shelf
attribute [local go_sem] Oper.semAt_some

/-- Between two rounds of the loop over rules. -/
def HT (w : World) (L : List Ru) (kd m n : Nat) (j k : Nat) (Ds : List Nat) (W : World) : Prop :=
  k + j = n + 1 ∧ k ≤ n ∧ Boxed W (w.heap.size + 2) 56 (.slice (some ⟨w.heap.size + 1, 0, none⟩) m m) ∧ TBox W (w.heap.size + 1) m (cnt (L.take k) kd) ∧ Ds.Nodup ∧ (∀ D ∈ Ds, w.heap.size ≤ D ∧ W.heap[D]? = some (.deferred (some []))) ∧ Below w.heap.size w W
def IAt (w : World) (L : List Ru) (kd most n : Nat) (va : Option Addr) (cap : Nat) (j : Nat) (a : Act) (W : World) : Prop :=
  ∃ (k : Nat) (Ds : List Nat) (u8 u9 u10 u18 u19 u20 u21 u22 u23 u24 u25 u26 u27 u28 u29 u30 u31 u32 u33 u34 u35 u36 : Value), HT w L kd (most + 1) n j k Ds W ∧ a = { tmps := #[.agg #[.slice va n cap], .int .i64 (kd : Int), .int .i64 (most : Int), .pointer (some ⟨w.heap.size, 0, none⟩), undef, undef, .slice none 0 0, .pointer (some ⟨w.heap.size + 2, 0, none⟩), u8, u9, u10, .int .i64 (most : Int), .int .i64 ((most : Int) + 1), .slice (some ⟨w.heap.size + 1, 0, none⟩) (most + 1) (most + 1), .pointer (some ⟨w.heap.size, 0, none⟩), .slice va n cap, .int .i64 (n : Int), .int .i64 (k : Int), u18, u19, u20, u21, u22, u23, u24, u25, u26, u27, u28, u29, u30, u31, u32, u33, u34, u35, u36], defers := Ds.map markOf }

/-- Between two rounds over the calls of a rule. -/
def JT (w : World) (m : Nat) (c : Nat → Nat) (Ds : List Nat) (s : List Nat) (V : World) : Prop :=
  Boxed V (w.heap.size + 2) 56 (.slice (some ⟨w.heap.size + 1, 0, none⟩) m m) ∧ TBox V (w.heap.size + 1) m (fun p => c p + s.count p) ∧ (∀ D ∈ Ds, w.heap.size ≤ D ∧ V.heap[D]? = some (.deferred (some []))) ∧ Below w.heap.size w V
theorem JT_own {α : Type} (w : World) (m : Nat) (c : Nat → Nat) (Ds : List Nat) (f : α → Nat) (B : Nat) (hB : w.heap.size ≤ B) (hD : ∀ D ∈ Ds, D < B) : OwnFrom B (fun (pre : List α) V => JT w m c Ds (pre.map f) V) := by
  rintro s X Y row ⟨h1, h2, h3, h4⟩ hg hr
  refine ⟨Own.from (boxed_own _ _ (fun _ : Unit => .slice (some ⟨w.heap.size + 1, 0, none⟩) m m)) _ () X Y row h1 hg hr, own_TBox (β := Unit) B _ _ (fun _ p => c p + (s.map f).count p) () X Y row h2 hg hr, fun D hd => ⟨(h3 D hd).1, ?_⟩, h4.grown hg h4.size (fun r e => Nat.le_trans hB (hr r e).1)⟩
  exact ownFrom_block (β := Unit) _ (hD D hd) () X Y row (h3 D hd).2 hg hr

set_option maxRecDepth 100000 in
set_option maxHeartbeats 4000000 in
theorem tally_is (L : List Ru) (hL : OkL L) (kd most : Nat) (hmost : most ≤ 100000) (v : Value) (w : World) (h : RAt w v (toI L)) :
    Calls Try.prog 100 #[.agg #[v], .int .i64 (kd : Int), .int .i64 (most : Int)] w fun e w' => e = .returned (.slice (some ⟨w.heap.size + 1, 0, none⟩) (most + 1) (most + 1)) ∧ TBox w' (w.heap.size + 1) (most + 1) (cnt L kd) ∧ Below w.heap.size w w' := by
  obtain ⟨va, vcap, rfl⟩ := h.form
  obtain ⟨n, hn⟩ : ∃ n, L.length = n := ⟨_, rfl⟩
  have HN := Lib.hid hn
  have hn50 : n ≤ 50 := by have := hL.1; omega
  rw [toI_len, hn] at h
  rw [toI_len, hn]
  clear hn
  refine (callsIn_wide (n := 5)).1 ?_
  refine callsIn_of_wp_marks Try.func100 rfl trivial ?_ rfl
  simp only [Try.ntmps100, List.size_toArray, List.length_cons, List.length_nil, Nat.reduceAdd, Nat.reduceSub, Array.replicate_succ, Array.replicate_zero, List.push_toArray, List.append_toArray, List.nil_append, List.cons_append]
  have hf1 := wide_fn 103
  obtain ⟨W1, hW1⟩ : ∃ x, w.alloc (.cells #[.slice va n vcap] 24) = x := ⟨_, rfl⟩
  have hb1 : Below w.heap.size w W1 := by rw [← hW1]; exact (Below.refl _ _).alloc (Nat.le_refl _) _
  have hz1 : W1.heap.size = w.heap.size + 1 := by rw [← hW1]; simp
  have bP : Boxed W1 w.heap.size 24 (.slice va n vcap) := by rw [← hW1]; exact Boxed.new w _ _
  have hmk := run_make_tbl W1 (most + 1) (by omega)
  rw [show ((most + 1 : Nat) : Int) = (most : Int) + 1 by omega, hz1] at hmk
  have hP := bP.cell
  obtain ⟨W2, hW2⟩ : ∃ x, (W1.alloc (.cells (tbl (most + 1) fun _ => 0) 5)).alloc (.cells #[.slice (some ⟨w.heap.size + 1, 0, none⟩) (most + 1) (most + 1)] 56) = x := ⟨_, rfl⟩
  have hb2 : Below W1.heap.size W1 W2 := by rw [← hW2]; exact ((Below.refl _ _).alloc (Nat.le_refl _) _).alloc (by simp) _
  have hB2 : Below w.heap.size w W2 := hb1.trans (hb2.mono hb1.size)
  have bT : TBox W2 (w.heap.size + 1) (most + 1) (fun _ => 0) := by
    rw [← hW2, ← hz1]
    exact (Below.heap_alloc _ _ _ (by simp)).trans (World.alloc_heap_new W1 _)
  have bS : Boxed W2 (w.heap.size + 2) 56 (.slice (some ⟨w.heap.size + 1, 0, none⟩) (most + 1) (most + 1)) := by
    have := Boxed.new (W1.alloc (.cells (tbl (most + 1) fun _ => 0) 5)) 56 (.slice (some ⟨w.heap.size + 1, 0, none⟩) (most + 1) (most + 1))
    rw [World.size_alloc, hz1] at this
    rw [← hW2]; exact this
  have hP2 := (bP.kept (grown_of_below hb2) (by simp)).cell
  gi_wp2_with fail
  try rw [hW2]
  rw [show w.heap.size + 1 + 1 = w.heap.size + 2 from rfl]
  clear hW2 hW1 hmk
  refine wpIn_loop_ghost (IAt w L kd most n va vcap) (n + 1) ?_ ?_
  · exact ⟨0, [], _, _, _, _, _, _, _, _, _, _, _, _, _, _, _, _, _, _, _, _, _, _, ⟨by omega, Nat.zero_le _, bS, bT, List.nodup_nil, (fun D hD => by cases hD), hB2⟩, rfl⟩
  · rintro m a W ⟨k, Ds, u8, u9, u10, u18, u19, u20, u21, u22, u23, u24, u25, u26, u27, u28, u29, u30, u31, u32, u33, u34, u35, u36, ⟨hkm, hkn, hS, hT, hnd, hDs, hbel⟩, rfl⟩
    obtain ⟨j, rfl⟩ : ∃ j, m = j + 1 := ⟨m - 1, by omega⟩
    have hcS := hS.cell
    by_cases hlt : k < n
    · obtain ⟨r, hx⟩ : ∃ x, L[k]? = some x := ⟨_, List.getElem?_eq_getElem (by rw [HN.out]; exact hlt)⟩
      have hr := hL.get hx
      obtain ⟨b, off, rfl, _, k1, k2, k3, k4⟩ := h.at k _ (toI_some hx)
      replace k1 := cell_later hbel k1
      replace k2 := cell_later hbel k2
      replace k3 := cell_later hbel k3
      replace k4 := cell_later hbel k4
      have hi1 : (k : Int) < (n : Int) := by omega
      have hct := cnt_take L kd
      have HX := Lib.hid hx
      simp only [Ru.toI] at k1 k2 k3 k4
      have hsz := hbel.size
      have hSl := hS.lt
      by_cases hkd : r.k = kd
      · subst hkd
        have hq : ((r.k : Int) != (r.k : Int)) = false := by simp
        clear hx
        have HR := Lib.hid hr
        clear hr
        gi_wp2_with fail
        refine (calls_any 4 r.toI _ _).mono ?_
        rintro e w' ⟨rfl, rfl⟩
        obtain ⟨WA, hWA⟩ : ∃ x, W.alloc (.cells #[.int .i64 (r.k : Int), .int .i64 (r.f : Int), .int .i64 (r.e : Int), .int .i64 (r.t : Int)] 134) = x := ⟨_, rfl⟩
        have hbA : Below W.heap.size W WA := by rw [← hWA]; exact (Below.refl _ _).alloc (Nat.le_refl _) _
        have hzA : WA.heap.size = W.heap.size + 1 := by rw [← hWA]; simp
        obtain ⟨V, hV⟩ : ∃ x, (WA.alloc (.cells #[.int .i64 (r.k : Int), .int .i64 (r.f : Int), .int .i64 (r.e : Int), .int .i64 (r.t : Int)] 134)).alloc (.cells #[.int .i64 (most : Int)] 3) = x := ⟨_, rfl⟩
        have hbV : Below WA.heap.size WA V := by rw [← hV]; exact ((Below.refl _ _).alloc (Nat.le_refl _) _).alloc (by simp) _
        have hbWV : Below W.heap.size W V := hbA.trans (hbV.mono hbA.size)
        have bR : RBox V (W.heap.size + 1) r.toI := by rw [← hV, ← hzA]; exact (RBox.new WA r.toI).alloc _
        have bM : Boxed V (W.heap.size + 2) 3 (.int .i64 (most : Int)) := by
          have := Boxed.new (WA.alloc (.cells #[.int .i64 (r.k : Int), .int .i64 (r.f : Int), .int .i64 (r.e : Int), .int .i64 (r.t : Int)] 134)) 3 (.int .i64 (most : Int))
          rw [World.size_alloc, hzA] at this
          rw [← hV]; exact this
        have hzV : V.heap.size = W.heap.size + 3 := by rw [← hV]; simp [hzA]
        have hSV : Boxed V (w.heap.size + 2) 56 (.slice (some ⟨w.heap.size + 1, 0, none⟩) (most + 1) (most + 1)) := hS.kept (grown_of_below hbWV) (by simp)
        have hTV := hT.later hbWV
        have hBV : Below w.heap.size w V := hbel.trans (hbWV.mono hbel.size)
        have hDW : ∀ D ∈ Ds, D < W.heap.size := fun D hd => (Array.getElem?_eq_some_iff.1 (hDs D hd).2).1
        have hDV : ∀ D ∈ Ds, w.heap.size ≤ D ∧ V.heap[D]? = some (.deferred (some [])) := fun D hd => ⟨(hDs D hd).1, (hbWV.block D (hDW D hd)).trans (hDs D hd).2⟩
        simp only [Ru.toI]
        rw [hWA, hzA, hV]
        clear hWA hV
        gi_wp2_with fail
        rw [show W.heap.size + 1 + 1 = W.heap.size + 2 from rfl]
        refine range_g rfl (by decide) (gf := 105) (lb := #[.pointer (some ⟨W.heap.size + 1, 0, none⟩), .pointer (some ⟨W.heap.size + 2, 0, none⟩)]) rfl (wide_fn _) (enters_of Try.func105 (by kernel_rfl) rfl)
          (calls_g 4 (by decide) (W.heap.size + 1) (W.heap.size + 2) most hmost r HR.out (fun q => q = W.heap.size + 1 ∨ q = W.heap.size + 2) (.inl rfl) (.inr rfl) V bR bM) (fun h k => KC.trans h k) (fun _ V k o o' hk hc _ => KC.putObj V k o o' hk hc) (fun _ => rfl)
          (fun pre Y => JT w (most + 1) (cnt (L.take k) r.k) Ds (pre.map Subtype.val) Y) (fun _ _ _ => False)
          ?own (fun _ _ _ _ _ h _ _ => h) ?start (fun x => { tmps := #[.agg #[.slice (some ⟨b, off, none⟩) n vcap], .int .i64 (r.k : Int), .int .i64 (most : Int), .pointer (some ⟨w.heap.size, 0, none⟩), undef, undef, .slice none 0 0, .pointer (some ⟨w.heap.size + 2, 0, none⟩), u8, .pointer (some ⟨W.heap.size, 0, none⟩), .int .i64 (x.1 : Nat), .int .i64 (most : Int), .int .i64 ((most : Int) + 1), .slice (some ⟨w.heap.size + 1, 0, none⟩) (most + 1) (most + 1), .pointer (some ⟨w.heap.size, 0, none⟩), .slice (some ⟨b, off, none⟩) n vcap, .int .i64 (n : Int), .int .i64 (k : Int), .bool true, .pointer (some ⟨b, off + k * 4, none⟩), .agg #[.int .i64 (r.k : Int), .int .i64 (r.f : Int), .int .i64 (r.e : Int), .int .i64 (r.t : Int)], .pointer (some ⟨W.heap.size, 0, none⟩), .int .i64 (r.k : Int), .int .i64 (r.k : Int), .bool false, .agg #[.int .i64 (r.k : Int), .int .i64 (r.f : Int), .int .i64 (r.e : Int), .int .i64 (r.t : Int)], .int .i64 (most : Int), .func (.func 105) #[] #[.pointer (some ⟨W.heap.size + 1, 0, none⟩), .pointer (some ⟨W.heap.size + 2, 0, none⟩)], .int .i64 (x.1 : Nat), u29, u30, u31, u32, u33, u34, u35, u36], defers := [] }) ?assign ?body ?done ?stop
        case own => exact JT_own w _ _ Ds Subtype.val _ (by omega) (fun D hd => by have := hDW D hd; omega)
        case start => exact ⟨hSV, hTV.congr fun p _ => by simp, hDV, hBV⟩
        case assign =>
          intro l x Y K hK
          simp only [encN]
          gi_wp2
          exact hK
        case body =>
          rintro l pre x Y ⟨yS, yT, yD, yB⟩ hlen
          obtain ⟨x, hxm⟩ := x
          have ycS := yS.cell
          obtain ⟨c, hc⟩ : ∃ c, cnt (L.take k) r.k x + (pre.map Subtype.val).count x = c := ⟨_, rfl⟩
          have ycT := yT.cell x (by omega)
          have yfT := yT.frozen x
          rw [hc] at ycT
          obtain ⟨y, hy⟩ : ∃ y, c % 256 = y := ⟨_, rfl⟩
          obtain ⟨z, hz⟩ : ∃ z, (c + 1) % 256 = z := ⟨_, rfl⟩
          rw [hy] at ycT
          have hw8 : IntKind.u8.wrap ((y : Int) + 1) = (z : Int) := by rw [IntKind.wrap_u8]; omega
          have hx1 : (x : Int) < (most : Int) + 1 := by omega
          have hx2 : x < most + 1 := by omega
          have ySl := yS.lt
          have yTl := yT.lt
          have YT := Lib.hid yT
          have HC := Lib.hid hc
          have HZ := Lib.hid hz
          clear yT hc hy hz
          have hne : ∀ D ∈ Ds, D ≠ w.heap.size + 1 := fun D hd e => by
            have h1 := (yD D hd).2
            have h2 := YT.out
            unfold TBox at h2
            rw [e, h2] at h1; cases h1
          gi_wp2_with fail
          refine ⟨(KeepsOthers.setCell _ _ _).from _, KC.setCell _ _ _ (by show ¬ (w.heap.size + 1 = W.heap.size + 1 ∨ w.heap.size + 1 = W.heap.size + 2); omega), (Below.heap_setCell _ _ _ _ (by show w.heap.size + 2 ≠ w.heap.size + 1; omega)).trans yS, ?_, fun D hd => ⟨(yD D hd).1, (Below.heap_setCell _ _ _ _ (hne D hd)).trans (yD D hd).2⟩, yB.setCell (by dsimp only; omega) _⟩
          have h1 := YT.out.set x (c + 1)
          rw [HZ.out] at h1
          refine h1.congr fun p _ => ?_
          rw [List.map_append, List.map_singleton, List.count_append, ← Nat.add_assoc]
          by_cases hp : p = x
          · subst hp
            rw [if_pos rfl, HC.out]
            exact (congrArg (c + ·) (List.count_singleton_self : List.count p [p] = 1)).symm
          · rw [if_neg hp]
            exact (congrArg (cnt (L.take k) r.k p + List.count p (List.map Subtype.val pre) + ·) (List.count_eq_zero.2 (by rw [List.mem_singleton]; exact hp) : List.count p [x] = 0)).symm
        case done =>
          rintro D ys Y hD hys ⟨yS, yT, yD, yB⟩ hK
          have hT2 : TBox Y (w.heap.size + 1) (most + 1) (cnt (L.take (k + 1)) r.k) := yT.congr fun p hp => by
            rw [cnt_take L r.k p k r HX.out, hys, clL_count HR.out most p (by omega)]
            by_cases hp2 : r.ref p = true
            · rw [if_pos hp2, if_pos ⟨rfl, hp2⟩]
            · rw [if_neg hp2, if_neg (by intro h; exact hp2 h.2)]
          have hnd2 : (D :: Ds).Nodup := List.nodup_cons.2 ⟨fun hd => by have := hDW D hd; omega, hnd⟩
          have hD2 : ∀ D' ∈ D :: Ds, w.heap.size ≤ D' ∧ Y.heap[D']? = some (.deferred (some [])) := fun D' hd => by
            rcases List.mem_cons.1 hd with rfl | hd
            · exact ⟨by omega, hK⟩
            · exact yD D' hd
          clear yT
          gi_wp2_with fail
          exact ⟨j, Nat.lt_succ_self j, k + 1, D :: Ds, _, _, _, _, _, _, _, _, _, _, _, _, _, _, _, _, _, _, _, _, _, _, ⟨by omega, by omega, yS, hT2, hnd2, hD2, yB⟩, rfl⟩
        case stop => exact fun _ _ _ _ _ _ h _ => h.elim
      · have hq : ((r.k : Int) != (kd : Int)) = true := by simp; omega
        have hq2 : ¬ (r.k : Int) = (kd : Int) := by omega
        have hT2 : TBox W (w.heap.size + 1) (most + 1) (cnt (L.take (k + 1)) kd) := hT.congr fun p _ => by
          rw [cnt_take L kd p k r HX.out, if_neg (by intro h; exact hkd h.1)]; rfl
        clear hx
        gi_wp2_with fail
        have hbA : Below W.heap.size W (W.alloc (.cells #[.int .i64 (r.k : Int), .int .i64 (r.f : Int), .int .i64 (r.e : Int), .int .i64 (r.t : Int)] 134)) := (Below.refl _ _).alloc (Nat.le_refl _) _
        refine ⟨j, Nat.lt_succ_self j, k + 1, Ds, _, _, _, _, _, _, _, _, _, _, _, _, _, _, _, _, _, _, _, _, _, _, ⟨by omega, by omega, hS.kept (grown_of_below hbA) (by simp), hT2.later hbA, hnd, fun D hd => ⟨(hDs D hd).1, (hbA.block D (Array.getElem?_eq_some_iff.1 (hDs D hd).2).1).trans (hDs D hd).2⟩, hbel.trans (hbA.mono hbel.size)⟩, rfl⟩
    · have hi1 : ¬ ((k : Int) < (n : Int)) := by omega
      have hkn2 : k = n := by omega
      have hs : L.take k = L := by rw [hkn2, ← HN.out, List.take_length]
      rw [hs] at hT
      clear hs hkn2
      gi_wp2_with fail
      refine leaves_marks w.heap.size Ds W hnd hDs fun W' hk' hb' => ?_
      exact ⟨_, results_tmp rfl _ _ _, rfl, (hk' _ (by intro hd; have := (hDs _ hd).2; unfold TBox at hT; rw [hT] at this; cases this)).trans hT, hbel.trans hb'⟩
end Go.Proofs.Ytjplihljmohpjaa

/- How many calls are refused; the functions that ask a plan. -/
namespace Go.Proofs.Ytjplihljmohpjaa
open Go.RowKit Go.Shelf
attribute [local go_sem] Oper.semAt_some

set_option maxRecDepth 100000 in
set_option maxHeartbeats 2000000 in
theorem hits_is (L : List Ru) (hL : OkL L) (kd n : Nat) (hn : n ≤ 49708) (v : Value) (w : World) (h : RAt w v (toI L)) :
    Calls Try.prog 85 #[.agg #[v], .int .i64 (kd : Int), .int .i64 (n : Int)] w fun e w' => e = .returned (.int .i64 (hitN L kd n : Nat)) ∧ Below w.heap.size w w' := by
  have hb : Below w.heap.size w (w.alloc (.cells #[v] 24)) := (Below.refl _ _).alloc (Nat.le_refl _) _
  have h1 : ¬ (49708 : Int) < (n : Int) := by omega
  have hle := hitN_le L kd n hL.2
  have HT := Lib.hid (tally_is L hL kd n (by omega) v _ (h.later hb))
  have HL := Lib.hid hL
  go_enter Try.func85, Try.ntmps85
  go_wp2_with fail
  refine HT.out.mono ?_
  rintro e w1 ⟨rfl, hT, hB1⟩
  simp only [World.size_alloc] at hT hB1 ⊢
  have hB : Below w.heap.size w w1 := hb.trans (hB1.mono (by omega))
  go_wp2_with fail
  go_loopw [8, 38] (fun s i wr => ∃ k : Nat, k ≤ n + 1 ∧ i = .int .i64 k ∧ s = .int .i64 (hitB L kd k : Nat) ∧ w1 = wr) (fun _ i _ => n + 1 - (intOf i).toNat)
  case atStart => exact ⟨0, Nat.zero_le _, rfl, rfl, rfl⟩
  case round =>
    obtain ⟨k, hk, rfl, rfl, rfl⟩ := hrel
    by_cases hlt : k < n + 1
    · have hc := hT.cell k hlt
      have hc50 := cnt_le L kd k
      have hcp := cnt_pos L kd k
      have h50 := HL.out.1
      have hs : Hid (hitB L kd (k + 1) = hitB L kd k + if refP L kd k then 1 else 0) := rfl
      rw [Nat.mod_eq_of_lt (by omega)] at hc
      have hbk := hitB_le L kd k
      obtain ⟨c, hcc⟩ : ∃ c, cnt L kd k = c := ⟨_, rfl⟩
      obtain ⟨m, hm⟩ : ∃ m, hitB L kd k = m := ⟨_, rfl⟩
      rw [hcc] at hc hc50 hcp
      rw [hm] at hbk hs ⊢
      have hi1 : (k : Int) < (n : Int) + 1 := by omega
      have hTl := hT.lt
      by_cases hc0 : 0 < c
      · have hc1 : (0 : Int) < (c : Int) := by omega
        have hs2 : Hid (hitB L kd (k + 1) = m + 1) := by rw [hs.out, ← hcp, decide_eq_true hc0]; rfl
        clear hcc hm hcp hs hc0
        go_wp2
        go_roundw
        case rel => exact ⟨k + 1, by omega, by go_num, by rw [hs2.out]; go_num, by trivial⟩
        case measure => simp [intOf]; omega
      · have hc1 : ¬ (0 : Int) < (c : Int) := by omega
        have hs2 : Hid (hitB L kd (k + 1) = m) := by rw [hs.out, ← hcp, decide_eq_false hc0]; rfl
        clear hcc hm hcp hs hc0
        go_wp2
        go_roundw
        case rel => exact ⟨k + 1, by omega, by go_num, by rw [hs2.out], by trivial⟩
        case measure => simp [intOf]; omega
    · have hi1 : ¬ ((k : Int) < (n : Int) + 1) := by omega
      have hkn : k = n + 1 := by omega
      have hs : Hid (hitB L kd k = hitN L kd n) := by rw [hkn]; rfl
      rw [hs.out]
      clear hkn
      go_wp2
      go_ret
      exact ⟨rfl, hB⟩

end Go.Proofs.Ytjplihljmohpjaa
