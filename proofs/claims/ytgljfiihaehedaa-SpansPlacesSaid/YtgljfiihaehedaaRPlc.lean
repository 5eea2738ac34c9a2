/- The other way's First and Best. -/
import Derived.Test.YtgljfiihaehedaaLstM
import Derived.Test.YtgljfiihaehedaaRChk
namespace Go.Proofs.Ytgljfiihaehedaa
open Go.RowKit
attribute [local go_sem] Oper.semAt_some

theorem alB_pow : ((List.range 1025).all fun n => alB (n : Int) == (List.range 11).any fun k => decide (n = 2 ^ k)) = true := by kernel_rfl
theorem alB_iff (n : Int) : alB n = true ↔ ∃ k, k < 11 ∧ n = ((2 ^ k : Nat) : Int) := by
  have h0 := alB_pow
  rw [List.all_eq_true] at h0
  constructor
  · intro h
    obtain ⟨m, rfl, h1, h2⟩ := alB_nat h
    have h3 := h0 m (List.mem_range.2 (by omega))
    rw [h] at h3
    simp only [beq_iff_eq] at h3
    obtain ⟨k, hk, h4⟩ := List.any_eq_true.1 h3.symm
    exact ⟨k, List.mem_range.1 hk, by rw [of_decide_eq_true h4]⟩
  · rintro ⟨k, hk, rfl⟩
    have h5 : 2 ^ k ≤ 2 ^ 10 := Nat.pow_le_pow_right (by decide) (by omega)
    have h3 := h0 (2 ^ k) (List.mem_range.2 (Nat.lt_of_le_of_lt h5 (by decide)))
    simp only [beq_iff_eq] at h3
    rw [h3]
    exact List.any_eq_true.2 ⟨k, List.mem_range.2 hk, by simp⟩

set_option maxRecDepth 100000 in
set_option maxHeartbeats 1000000 in
theorem power_is (n : Int) (r : Bool) (hr : alB n = r) (w : World) :
    Calls Try.prog 80 #[.int .i64 n] w fun e w' => e = .returned (.bool r) ∧ Below w.heap.size w w' := by
  have HR := Lib.hid hr
  clear hr
  go_enter Try.func80, Try.ntmps80
  go_wp2_with fail
  go_loopw [3] (fun i wr => ∃ k p : Nat, k ≤ 11 ∧ Hid (2 ^ k = p) ∧ p ≤ 2048 ∧ (k < 11 → p ≤ 1024) ∧ (k = 11 → p = 2048) ∧ 1 ≤ p ∧ i = .int .i64 p ∧ Hid (∀ j, j < k → n ≠ ((2 ^ j : Nat) : Int)) ∧ Below w.heap.size w wr) (fun i _ => 2048 - (intOf i).toNat)
  case atStart => exact ⟨0, 1, by decide, rfl, by decide, by decide, by decide, by decide, rfl, fun j hj => by omega, Below.refl _ _⟩
  case round =>
    obtain ⟨k, p, hk, HP, hp1, hp2, hp4, hp3, rfl, HN, hB⟩ := hrel
    by_cases hlt : k < 11
    · have h1 : (p : Int) ≤ 1024 := by have := hp2 hlt; omega
      by_cases he : n = (p : Int)
      · have hb : (n == (p : Int)) = true := by simp [he]
        have hrt : r = true := by rw [← HR.out]; exact (alB_iff n).2 ⟨k, hlt, by rw [HP.out]; exact he⟩
        subst hrt
        clear hp2 hp4
        subst he
        go_wp2_with fail
        go_ret
        exact ⟨rfl, hB⟩
      · have hb : (n == (p : Int)) = false := by simp [he]
        have hw : IntKind.i64.wrap (2 * (p : Int)) = ((2 * p : Nat) : Int) := (IntWalk.i64_in _ (by omega)).trans (by omega)
        have HN2 : Hid (∀ j, j < k + 1 → n ≠ ((2 ^ j : Nat) : Int)) := fun j hj => by
          by_cases hjk : j = k
          · rw [hjk, HP.out]; exact he
          · exact HN.out j (by omega)
        have HP2 : Hid (2 ^ (k + 1) = 2 * p) := by unfold Hid; rw [Nat.pow_succ, HP.out]; omega
        have hp5 := hp2 hlt
        have hk10 : k + 1 < 11 → 2 * p ≤ 1024 := fun h => by
          have h6 : 2 ^ (k + 1) ≤ 2 ^ 10 := Nat.pow_le_pow_right (by decide) (by omega)
          rw [HP2.out] at h6; exact h6
        have hk11 : k + 1 = 11 → 2 * p = 2048 := fun h => by have h6 := HP2.out; rw [h] at h6; omega
        clear hp2 hp4
        go_wp2_with fail
        go_roundw
        case rel => exact ⟨k + 1, 2 * p, by omega, HP2, by omega, hk10, hk11, by omega, by go_num, HN2, hB⟩
        case measure => simp [intOf]; omega
    · have hk11 : k = 11 := by omega
      have hp5 := hp4 hk11
      have h1 : ¬ (p : Int) ≤ 1024 := by omega
      have hrf : r = false := by
        cases r with
        | false => rfl
        | true =>
          obtain ⟨j, hj, h2⟩ := (alB_iff n).1 HR.out
          exact absurd h2 (HN.out j (by omega))
      subst hrf
      clear hp2 hp4
      go_wp2_with fail
      go_ret
      exact ⟨rfl, hB⟩

def plI (m al : Nat) (x : Sp) : Int := if fits m al x = true then (algn x.1 al : Nat) else -1
set_option maxRecDepth 100000 in
set_option maxHeartbeats 1000000 in
theorem Place_is (p q m al : Nat) (hpq : 1 ≤ q ∧ p + q ≤ 1024) (hm1 : 1 ≤ m) (hm2 : m ≤ 1024) (ha1 : 1 ≤ al) (ha2 : al ≤ 1024) (w : World) :
    Calls Try.prog 81 #[.agg #[.int .i64 p, .int .i64 q], .int .i64 m, .int .i64 al] w fun e w' => e = .returned (.int .i64 (plI m al (p, q))) ∧ Below w.heap.size w w' := by
  obtain ⟨WX, hWX⟩ : ∃ y, w.alloc (.cells #[.int .i64 (p : Int), .int .i64 (q : Int)] 31) = y := ⟨_, rfl⟩
  have D0 : Below w.heap.size w WX := by rw [← hWX]; exact (Below.refl _ _).alloc (Nat.le_refl _) _
  have bx : XBox WX w.heap.size ((p : Int), (q : Int)) := by rw [← hWX]; exact XBox.new w ((p : Int), (q : Int))
  have HW := Lib.hid hWX
  obtain ⟨g, hg⟩ : ∃ g, algn p al = g := ⟨_, rfl⟩
  have HG := Lib.hid hg
  have hge := algn_ge p al ha1
  rw [hg] at hge
  have hpq1 : (p : Int) + (q : Int) ≤ 1024 := by omega
  obtain ⟨r, hr⟩ : ∃ r, plI m al (p, q) = r := ⟨_, rfl⟩
  have HR := Lib.hid hr
  rw [hr]
  have z0 := bx.c0
  have z1 := bx.c1
  have zl := bx.lt
  simp only at z0 z1
  clear hg hr hWX
  go_enter Try.func81, Try.ntmps81
  go_wp2_with fail
  try rw [HW.out]
  clear z0 z1 zl
  go_loopw [7] (fun i wr => ∃ a : Nat, p ≤ a ∧ a ≤ g ∧ a ≤ 1025 ∧ i = .int .i64 a ∧ XBox wr w.heap.size ((p : Int), (q : Int)) ∧ Below w.heap.size w wr) (fun i _ => 2000 - (intOf i).toNat)
  case atStart => exact ⟨p, Nat.le_refl _, hge, by omega, rfl, bx, D0⟩
  case round =>
    clear bx D0
    obtain ⟨a, ha, hag, ha5, rfl, bx, hB⟩ := hrel
    have z0 := bx.c0
    have z1 := bx.c1
    have zl := bx.lt
    simp only at z0 z1
    by_cases hlt : a + m ≤ p + q
    · have h1 : (a : Int) + (m : Int) ≤ (p : Int) + (q : Int) := by omega
      have h1d : decide ((a : Int) + (m : Int) ≤ (p : Int) + (q : Int)) = true := by simpa using h1
      by_cases hz : a % al = 0
      · have h2 : ((a : Int) % (al : Int) == 0) = true := by have : (a : Int) % (al : Int) = ((a % al : Nat) : Int) := rfl; rw [this, hz]; rfl
        have h3 : (a : Int) % (al : Int) = 0 := by have : (a : Int) % (al : Int) = ((a % al : Nat) : Int) := rfl; rw [this, hz]; rfl
        have hga := algn_least p al a ha1 hz ha
        rw [HG.out] at hga
        have hrr : r = (a : Int) := by rw [← HR.out]; unfold plI; rw [if_pos (by unfold fits; simp only; rw [HG.out]; simp; omega)]; simp only; rw [HG.out]; omega
        subst hrr
        clear hz
        go_wp2_with fail
        try (go_quiet (fail); go_wp2_with fail)
        go_ret
        first | exact ⟨rfl, hB⟩ | exact ⟨rfl, below_drewN hB _⟩
      · have h2 : ((a : Int) % (al : Int) == 0) = false := by have : (a : Int) % (al : Int) = ((a % al : Nat) : Int) := rfl; rw [this]; simp; omega
        have h3 : ¬ (a : Int) % (al : Int) = 0 := by have : (a : Int) % (al : Int) = ((a % al : Nat) : Int) := rfl; rw [this]; omega
        have hne : a ≠ g := by rintro rfl; have := algn_mod p al; rw [HG.out] at this; exact hz this
        clear hz
        go_wp2_with fail
        try (go_quiet (fail); go_wp2_with fail)
        go_roundw
        case rel => first | exact ⟨a + 1, by omega, by omega, by omega, by go_num, bx, hB⟩ | exact ⟨a + 1, by omega, by omega, by omega, by go_num, bx, below_drewN hB _⟩
        case measure => simp [intOf]; omega
    · have h1 : ¬ (a : Int) + (m : Int) ≤ (p : Int) + (q : Int) := by omega
      have h1d : decide ((a : Int) + (m : Int) ≤ (p : Int) + (q : Int)) = false := by simpa using h1
      have hrr : r = -1 := by rw [← HR.out]; unfold plI; rw [if_neg (by unfold fits; simp only; rw [HG.out]; simp; omega)]
      subst hrr
      go_wp2_with fail
      try (go_quiet (fail); go_wp2_with fail)
      go_ret
      first | exact ⟨rfl, hB⟩ | exact ⟨rfl, below_drewN hB _⟩
end Go.Proofs.Ytgljfiihaehedaa
