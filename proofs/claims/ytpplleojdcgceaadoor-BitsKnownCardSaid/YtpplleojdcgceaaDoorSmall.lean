/- The contracts of the functions on single words. -/
import Derived.Test.YtpplleojdcgceaaDoorBase
import Derived.Test.YtpplleojdcgceaaDoorPop
import Derived.Shelf.Spec.TrailingZeros
namespace Go.Proofs.YtpplleojdcgceaaDoor
open Go.RowKit

theorem ones_math : ∀ n : Fin 65, IntKind.u64.wrap (IntKind.u64.wrap ((2 : Int) ^ n.val) - 1) = ((2 ^ n.val - 1 : Nat) : Int) := by decide +kernel
theorem ones_any (n m : Nat) (hn : n ≤ 64) (hm : 2 ^ n - 1 = m) (w : World) : Calls Tryd.prog 54 #[.int .i64 n] w fun e w' => e = .returned (.int .u64 (m : Int)) ∧ w = w' := by
  have H := Lib.hid (ones_math ⟨n, by omega⟩)
  have HM := Lib.hid hm
  clear hm
  go_enter Tryd.func54, Tryd.ntmps54
  go_wp2
  go_ret
  exact ⟨ret_int (by rw [← HM.out]; exact H.out), rfl⟩
theorem ones_is (z : Int) (n m : Nat) (hz : z = (n : Int)) (hn : n ≤ 64) (hm : 2 ^ n - 1 = m) (w : World) : Calls Tryd.prog 54 #[.int .i64 z] w fun e w' => e = .returned (.int .u64 (m : Int)) ∧ w = w' := by
  subst hz; exact ones_any n m hn hm w
theorem wordsFor_any (n m : Nat) (hn : n ≤ 10000) (hm : (n + 63) / 64 = m) (w : World) : Calls Tryd.prog 51 #[.int .i64 n] w fun e w' => e = .returned (.int .i64 m) ∧ w = w' := by
  have HM := Lib.hid hm
  clear hm
  go_enter Tryd.func51, Tryd.ntmps51
  go_wp2
  go_ret
  exact ⟨ret_int (by have := HM.out; omega), rfl⟩
theorem refWords_any (n m : Nat) (hn : n ≤ 10000) (hm : (n + 63) / 64 = m) (w : World) : Calls Tryd.prog 55 #[.int .i64 n] w fun e w' => e = .returned (.int .i64 m) ∧ w = w' := by
  have HM := Lib.hid hm
  clear hm
  go_enter Tryd.func55, Tryd.ntmps55
  go_wp2
  go_ret
  exact ⟨ret_int (by have := HM.out; omega), rfl⟩

set_option maxHeartbeats 400000 in
theorem ones64_any (x m : Nat) (hx : x < 18446744073709551616) (hm : Lib.onesCount x = m) (w : World) : Calls Tryd.prog 60 #[.int .u64 x] w fun e w' => e = .returned (.int .i64 m) ∧ w = w' := by
  obtain ⟨a1, a2, x1, b1, b2, x2, c1, x3, x4, x5, x6, e1, e2, e3, e4, e5, e6, e7, e8, e9, e10, e11, e12⟩ := pop_steps x hx
  have HM := Lib.hid hm
  have H12 := Lib.hid e12
  clear hm hx e12
  go_enter Tryd.func60, Tryd.ntmps60
  go_wp2
  go_ret
  exact ⟨ret_int (by rw [← HM.out]; exact H12.out), rfl⟩

set_option maxHeartbeats 400000 in
theorem tz64_any (x m : Nat) (hx : x < 18446744073709551616) (h0 : x ≠ 0) (hm : Lib.ctz 64 x = m) (w : World) (hgd : Gd w) : Calls Tryd.prog 76 #[.int .u64 x] w fun e w' => e = .returned (.int .i64 m) ∧ w = w' := by
  obtain ⟨hlow, hk⟩ := Lib.lowest_bit 64 x h0 hx
  have key := tz64_key x _ hx h0 hlow
  obtain ⟨hi, htab⟩ := Lib.deBruijn64_at _ hk
  have hcell := hgd _ hi
  rw [htab, hm] at hcell
  rw [hm] at key hi hk
  obtain ⟨idx, hidx⟩ : ∃ i, 2 ^ m * 285870213051353865 % 18446744073709551616 / 288230376151711744 = i := ⟨_, rfl⟩
  rw [hidx] at key hi hcell
  have hx0 : ((x : Int) == 0) = false := by simp; omega
  clear hidx htab hlow hm h0
  go_enter Tryd.func76, Tryd.ntmps76
  go_wp2_with (simp only [key])
  go_ret
  exact ⟨rfl, rfl⟩

theorem pos_lt (f x j : Nat) (h : j ∈ pos f x) : j < f ∧ x.testBit j = true := by unfold pos at h; rw [List.mem_filter, List.mem_range] at h; exact h
set_option maxHeartbeats 400000 in
theorem bitAfter_any (x k j : Nat) (hx : x < 18446744073709551616) (hj : (pos 64 x)[k]? = some j) (w : World) (hgd : Gd w) : Calls Tryd.prog 61 #[.int .u64 x, .int .i64 k] w fun e w' => e = .returned (.int .i64 j) ∧ w = w' := by
  have hk : k < 64 := by
    have h1 : k < (pos 64 x).length := by
      rcases Nat.lt_or_ge k (pos 64 x).length with h | h
      · exact h
      · rw [List.getElem?_eq_none h] at hj; cases hj
    have h2 : (pos 64 x).length ≤ 64 := by unfold pos; exact Nat.le_trans (List.length_filter_le _ _) (by simp)
    omega
  have HJ := Lib.hid hj
  clear hj
  go_enter Tryd.func61, Tryd.ntmps61
  go_wp2
  go_loop [0, 6] (fun v i => ∃ (y m : Nat), m ≤ k ∧ i = .int .i64 m ∧ v = .int .u64 y ∧ y < 18446744073709551616 ∧ Hid (pos 64 y = (pos 64 x).drop m)) (fun _ i => k - (intOf i).toNat)
  case atStart => exact ⟨x, 0, Nat.zero_le _, rfl, rfl, hx, rfl⟩
  case round =>
    obtain ⟨y, m, hm, rfl, rfl, hy, HP⟩ := hrel
    have hgt := HJ.out
    have hy0 : y ≠ 0 := by
      intro h0
      subst h0
      have e0 : pos 64 0 = [] := by unfold pos; rw [List.filter_eq_nil_iff]; intro j _; simp
      have h1 := HP.out
      rw [e0] at h1
      have h2 : ((pos 64 x).drop m)[k - m]? = some j := by rw [List.getElem?_drop, show m + (k - m) = k by omega]; exact hgt
      rw [← h1] at h2
      cases h2
    clear hgt
    by_cases hlt : m < k
    · obtain ⟨z, hz⟩ : ∃ z, y - 1 = z := ⟨_, rfl⟩
      have e1 : IntKind.u64.wrap ((y : Int) - 1) = (z : Int) := by rw [IntKind.wrap_u64]; omega
      obtain ⟨u, hu⟩ : ∃ u, y &&& z = u := ⟨_, rfl⟩
      have e2 : bits .and .u64 (y : Int) (z : Int) = (u : Int) := by rw [bits_and_u64_nat _ _ hy (by omega), hu]
      have hu2 : u < 18446744073709551616 := by rw [← hu]; exact Nat.lt_of_le_of_lt Nat.and_le_left hy
      have HQ : Hid (pos 64 u = (pos 64 x).drop (m + 1)) := by
        unfold Hid
        rw [← hu, ← hz, clear_low 64 y hy, HP.out, List.tail_drop]
      clear hu hz
      go_wp2
      go_round
      case rel => exact ⟨u, m + 1, by omega, by go_num, rfl, hu2, HQ⟩
      case measure => simp [intOf]; omega
    · have hmk : m = k := by omega
      subst hmk
      have hc : Lib.ctz 64 y = j := by
        have h1 := ctz_head 64 y hy (by omega)
        have h2 : (pos 64 y).head? = some j := by rw [HP.out, List.head?_drop]; exact HJ.out
        unfold pos at h2
        rw [h1] at h2
        unfold Lib.ctz
        rw [if_neg hy0]
        exact Option.some.inj h2
      have HC := Lib.hid hc
      clear hc
      go_wp2_with (go_at_call 76; refine (tz64_any y j hy hy0 HC.out _ hgd).mono ?_; rintro e w' ⟨rfl, rfl⟩)
      go_ret
      exact ⟨rfl, rfl⟩
end Go.Proofs.YtpplleojdcgceaaDoor
