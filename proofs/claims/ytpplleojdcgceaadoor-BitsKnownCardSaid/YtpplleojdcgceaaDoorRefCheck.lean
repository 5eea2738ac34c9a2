/- The reference's Check. -/
import Derived.Test.YtpplleojdcgceaaDoorAwake
namespace Go.Proofs.YtpplleojdcgceaaDoor
open Go.RowKit Go.Shelf
attribute [local go_sem] Oper.semAt_some

theorem top_zero (x r : Nat) (hr : r < 64) : x &&& (18446744073709551615 - (2 ^ r - 1)) = 0 ↔ ∀ j, r ≤ j → j < 64 → x.testBit j = false := by
  have hp : 2 ^ r ≤ 2 ^ 63 := Nat.pow_le_pow_right (by decide) (by omega)
  have h1 : 2 ^ r - 1 < 2 ^ 64 := by omega
  have hb : ∀ j, (x &&& (18446744073709551615 - (2 ^ r - 1))).testBit j = (x.testBit j && (decide (j < 64) && !decide (j < r))) := fun j => by
    rw [Nat.testBit_and, not_bit _ h1, Nat.testBit_two_pow_sub_one]
  constructor
  · intro h j h2 h3
    have := hb j
    rw [h, Nat.zero_testBit] at this
    simpa [h3, show ¬ j < r by omega] using this.symm
  · intro h
    apply Nat.eq_of_testBit_eq
    intro j
    rw [hb, Nat.zero_testBit]
    by_cases h2 : j < 64
    · by_cases h3 : j < r
      · simp [h3]
      · simp [h2, h3, h j (by omega) h2]
    · simp [h2]
theorem chk_zero (n : Nat) (ws : List Nat) (hn : n ≤ 4096) (hl : ws.length = (n + 63) / 64) (h : ∀ j, n ≤ j → j < 64 * ws.length → btW ws j = false) : checkB n ws = 0 := by
  unfold checkB
  rw [if_neg (by omega), Int.toNat_natCast, if_neg (by omega), if_neg]
  rintro ⟨h1, h2⟩
  refine h2 ((top_zero _ _ (by omega)).2 fun j h3 h4 => ?_)
  have := h (64 * (ws.length - 1) + j) (by omega) (by omega)
  unfold btW at this
  rw [show (64 * (ws.length - 1) + j) / 64 = ws.length - 1 by omega, show (64 * (ws.length - 1) + j) % 64 = j by omega] at this
  exact this
theorem chk_six (n : Nat) (ws : List Nat) (hn : n ≤ 4096) (hl : ws.length = (n + 63) / 64) (j : Nat) (h1 : n ≤ j) (h2 : j < 64 * ws.length) (h : btW ws j = true) : checkB n ws = 6 := by
  unfold checkB
  rw [if_neg (by omega), Int.toNat_natCast, if_neg (by omega), if_pos]
  refine ⟨by omega, fun h0 => ?_⟩
  have := (top_zero _ _ (by omega)).1 h0 (j % 64) (by omega) (by omega)
  unfold btW at h
  rw [show j / 64 = ws.length - 1 by omega, this] at h
  cases h

set_option maxRecDepth 100000 in
set_option maxHeartbeats 1000000 in
theorem RefCheck_ok (n m : Nat) (v : Value) (ws : List Nat) (hf : Fit64 ws) (w : World) (h : WAt w v ws) (hn : n ≤ 4096) (hm : (n + 63) / 64 = m) (hl : ws.length = m) :
    Calls Tryd.prog 20 #[bv n v] w fun e w' => e = .returned (.int .i64 (checkB n ws)) ∧ Below w.heap.size w w' := by
  obtain ⟨a, c, rfl⟩ := h.form
  have HM := Lib.hid hm
  have hl' := hl.trans hm.symm
  have hnm : n ≤ 64 * m := by omega
  have hm64 : m ≤ 64 := by omega
  have HZ : Hid ((∀ j, n ≤ j → j < 64 * ws.length → btW ws j = false) → checkB n ws = 0) := chk_zero n ws hn hl'
  have H6 : Hid (∀ j, n ≤ j → j < 64 * ws.length → btW ws j = true → checkB n ws = 6) := chk_six n ws hn hl'
  have HL := Lib.hid hl
  have hq : ((ws.length : Int) != (m : Int)) = false := by simp [hl]
  have hlb : ws.length ≤ 64 := by omega
  clear hm hl' hl
  go_enter Tryd.func20, Tryd.ntmps20
  go_wp2_with fail
  go_quiet ((go_at_call 55; exact quietly (refWords_any n m (by omega) HM.out _)))
  go_wp2
  go_loop [3] (fun v => ∃ i : Nat, n ≤ i ∧ i ≤ 64 * ws.length ∧ v = .int .i64 i ∧ Hid (∀ j, n ≤ j → j < i → btW ws j = false)) (fun v => 64 * ws.length - (intOf v).toNat)
  case atStart => exact ⟨n, Nat.le_refl _, by rw [HL.out]; omega, rfl, fun j h1 h2 => by omega⟩
  case round =>
    obtain ⟨i, h1, h2, rfl, HR⟩ := hrel
    by_cases hlt : i < 64 * ws.length
    · have hkw : i / 64 < ws.length := by omega
      obtain ⟨b, off, rfl, hb, hcell⟩ := h.at (i / 64) hkw
      obtain ⟨x, hx⟩ : ∃ x, ws[i / 64] = x := ⟨_, rfl⟩
      have hx2 : x < 18446744073709551616 := by rw [← hx]; exact hf.get _ hkw
      rw [hx] at hcell
      have hbt : btW ws i = x.testBit (i % 64) := by unfold btW; rw [List.getElem?_eq_getElem hkw, hx]; rfl
      have HB := Lib.hid hbt
      have e1 : ((i : Int) / 64).toNat = i / 64 := by omega
      have e2 : (i : Int) / 64 < (ws.length : Int) := by omega
      have e3 : (0 : Int) ≤ (i : Int) / 64 := by omega
      clear hx hbt
      have hbe := bit_eq x (i % 64) hx2
      have hi4 : i ≤ 4096 := by omega
      cases hbt : x.testBit (i % 64) with
      | true =>
        rw [hbt] at hbe
        have hd := H6.out i h1 hlt (HB.out.trans hbt)
        have HD := Lib.hid hd
        clear hd hbt
        go_wp2
        go_ret
        exact ⟨ret_int HD.out.symm, below_drewN ((Below.refl _ _).alloc (Nat.le_refl _) _) _⟩
      | false =>
        rw [hbt] at hbe
        have HX := Lib.hid hbt
        clear hbt
        go_wp2
        refine ⟨⟨i + 1, by omega, by omega, by go_num, fun j h3 h4 => ?_⟩, by simp [intOf]; omega⟩
        by_cases hj : j < i
        · exact HR.out j h3 hj
        · rw [show j = i by omega]; exact HB.out.trans HX.out
    · have hi : i = 64 * ws.length := by omega
      have hd := HZ.out (by rw [← hi]; exact HR.out)
      have HD := Lib.hid hd
      clear hi hd
      go_wp2
      go_ret
      exact ⟨ret_int HD.out.symm, below_drewN ((Below.refl _ _).alloc (Nat.le_refl _) _) _⟩

set_option maxRecDepth 100000 in
set_option maxHeartbeats 1000000 in
theorem RefCheck_any (N : Int) (v : Value) (ws : List Nat) (hf : Fit64 ws) (w : World) (h : WAt w v ws) :
    Calls Tryd.prog 20 #[bv N v] w fun e w' => e = .returned (.int .i64 (checkB N ws)) ∧ Below w.heap.size w w' := by
  by_cases h0 : N < 0
  · have hd : Hid (checkB N ws = 7) := by unfold Hid checkB; rw [if_pos (.inl h0)]
    go_enter Tryd.func20, Tryd.ntmps20
    go_wp2
    go_ret
    exact ⟨ret_int hd.out.symm, (Below.refl _ _).alloc (Nat.le_refl _) _⟩
  by_cases h1 : 4096 < N
  · have hd : Hid (checkB N ws = 7) := by unfold Hid checkB; rw [if_pos (.inr h1)]
    go_enter Tryd.func20, Tryd.ntmps20
    go_wp2
    go_ret
    exact ⟨ret_int hd.out.symm, (Below.refl _ _).alloc (Nat.le_refl _) _⟩
  obtain ⟨n, rfl⟩ : ∃ n : Nat, N = (n : Int) := ⟨N.toNat, by omega⟩
  by_cases hl : ws.length = (n + 63) / 64
  · exact RefCheck_ok n _ v ws hf w h (by omega) rfl hl
  obtain ⟨m, hm⟩ : ∃ m, (n + 63) / 64 = m := ⟨_, rfl⟩
  obtain ⟨a, c, rfl⟩ := h.form
  have HM := Lib.hid hm
  have hd : Hid (checkB (n : Int) ws = 6) := by unfold Hid checkB; rw [if_neg (by omega), Int.toNat_natCast, if_pos hl]
  have hq : ((ws.length : Int) != (m : Int)) = true := by simp; omega
  have hn1 : n ≤ 4096 := by omega
  clear hm hl h0 h1
  go_enter Tryd.func20, Tryd.ntmps20
  go_wp2_with fail
  go_quiet ((go_at_call 55; exact quietly (refWords_any n m (by omega) HM.out _)))
  go_wp2
  go_ret
  exact ⟨ret_int hd.out.symm, below_drewN ((Below.refl _ _).alloc (Nat.le_refl _) _) _⟩
end Go.Proofs.YtpplleojdcgceaaDoor
