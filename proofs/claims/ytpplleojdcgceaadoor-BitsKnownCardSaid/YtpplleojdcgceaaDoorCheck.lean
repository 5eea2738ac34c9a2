/- Check, checkRun, checkSize. -/
import Derived.Test.YtpplleojdcgceaaDoorSmall
import Derived.Deep.QuietTactic
import Derived.BigQuiet
namespace Go.Proofs.YtpplleojdcgceaaDoor
open Go.RowKit

theorem below_drewN {B : Nat} {w w' : World} (h : Below B w w') (n : Nat) : Below B w (w'.drewN n) := h.trans ⟨rfl, rfl, rfl, Nat.le_refl _, fun _ _ => rfl⟩
theorem quietly {P : Program} {f : FuncId} {args : Array Value} {w : World} {n : Nat} {v : Value} (h : Calls P f args (w.drewN n) fun e w' => e = .returned v ∧ w.drewN n = w') : Calls P f args (w.drewN n) fun e w'' => e = .returned v ∧ ∃ m, w'' = w.drewN m :=
  Calls.quiet_of_same (h.mono fun _ _ ⟨h1, h2⟩ => ⟨h1, h2.symm⟩)

theorem quietly2 {P : Program} {f : FuncId} {args : Array Value} {w : World} {n a : Nat} {v : Value} (h : Calls P f args (w.drewN (n + a)) fun e w' => e = .returned v ∧ w.drewN (n + a) = w') : Calls P f args (w.drewN (n + a)) fun e w'' => e = .returned v ∧ ∃ m, w'' = w.drewN (n + m) :=
  h.mono fun _ _ ⟨h1, h2⟩ => ⟨h1, a, h2.symm⟩

/-- What Check answers. -/
def checkB (N : Int) (ws : List Nat) : Int :=
  if N < 0 ∨ 4096 < N then 7 else if ws.length ≠ (N.toNat + 63) / 64 then 6
  else if N.toNat % 64 ≠ 0 ∧ (ws[ws.length - 1]?.getD 0) &&& (18446744073709551615 - (2 ^ (N.toNat % 64) - 1)) ≠ 0 then 6 else 0

set_option maxRecDepth 100000 in
set_option maxHeartbeats 1000000 in
theorem Check_any (N : Int) (v : Value) (ws : List Nat) (hf : Fit64 ws) (w : World) (h : WAt w v ws) :
    Calls Tryd.prog 19 #[bv N v] w fun e w' => e = .returned (.int .i64 (checkB N ws)) ∧ Below w.heap.size w w' := by
  obtain ⟨a, c, rfl⟩ := h.form
  by_cases h0 : N < 0
  · have hd : Hid (checkB N ws = 7) := by unfold Hid checkB; rw [if_pos (.inl h0)]
    go_enter Tryd.func19, Tryd.ntmps19
    go_wp2
    go_ret
    exact ⟨ret_int hd.out.symm, (Below.refl _ _).alloc (Nat.le_refl _) _⟩
  by_cases h1 : 4096 < N
  · have hd : Hid (checkB N ws = 7) := by unfold Hid checkB; rw [if_pos (.inr h1)]
    go_enter Tryd.func19, Tryd.ntmps19
    go_wp2
    go_ret
    exact ⟨ret_int hd.out.symm, (Below.refl _ _).alloc (Nat.le_refl _) _⟩
  obtain ⟨n, rfl⟩ : ∃ n : Nat, N = (n : Int) := ⟨N.toNat, by omega⟩
  have hd : Hid (checkB (n : Int) ws = if ws.length ≠ (n + 63) / 64 then 6
      else if n % 64 ≠ 0 ∧ (ws[ws.length - 1]?.getD 0) &&& (18446744073709551615 - (2 ^ (n % 64) - 1)) ≠ 0 then 6 else 0) := by
    unfold Hid checkB; rw [if_neg (by omega), Int.toNat_natCast]
  obtain ⟨m, hm⟩ : ∃ m, (n + 63) / 64 = m := ⟨_, rfl⟩
  have HM := Lib.hid hm
  have hn1 : n ≤ 4096 := by omega
  clear hm h0 h1
  by_cases hl : ws.length = m
  case neg =>
    have hq : ((ws.length : Int) != (m : Int)) = true := by simp; omega
    have hd2 : Hid (checkB (n : Int) ws = 6) := by unfold Hid; rw [hd.out, HM.out, if_pos hl]
    clear hl
    go_enter Tryd.func19, Tryd.ntmps19
    go_wp2_with fail
    go_quiet ((go_at_call 51; exact quietly (wordsFor_any n m (by omega) HM.out _)))
    go_wp2
    go_ret
    exact ⟨ret_int hd2.out.symm, below_drewN ((Below.refl _ _).alloc (Nat.le_refl _) _) _⟩
  have hd2 : Hid (checkB (n : Int) ws = if n % 64 ≠ 0 ∧ (ws[ws.length - 1]?.getD 0) &&& (18446744073709551615 - (2 ^ (n % 64) - 1)) ≠ 0 then 6 else 0) := by
    unfold Hid; rw [hd.out, HM.out, if_neg (by simp [hl])]
  obtain ⟨r, hr⟩ : ∃ r, n % 64 = r := ⟨_, rfl⟩
  have hr1 : Hid (((n : Int) % 64) = (r : Int)) := by unfold Hid; omega
  have hr2 : r < 64 := by omega
  by_cases hr0 : r = 0
  · subst hr0
    have hq : ((ws.length : Int) != (m : Int)) = false := by simp [hl]
    have hd3 : Hid (checkB (n : Int) ws = 0) := by unfold Hid; rw [hd2.out, hr, if_neg (by simp)]
    have hg : ((n : Int) % 64 != 0) = false := by simp; have := hr1.out; omega
    clear hl hr
    go_enter Tryd.func19, Tryd.ntmps19
    go_wp2_with fail
    go_quiet ((go_at_call 51; exact quietly (wordsFor_any n m (by omega) HM.out _)))
    go_wp2_with fail
    go_quiet (fail)
    go_wp2
    go_ret
    exact ⟨ret_int hd3.out.symm, below_drewN (below_drewN ((Below.refl _ _).alloc (Nat.le_refl _) _) _) _⟩
  · obtain ⟨k, hk⟩ : ∃ k, ws.length = k + 1 := ⟨ws.length - 1, by have := HM.out; omega⟩
    have hq : ((k : Int) + 1 != (m : Int)) = false := by simp; omega
    have hg : ((n : Int) % 64 != 0) = true := by simp; have := hr1.out; omega
    obtain ⟨b, off, rfl, hb, hc⟩ := h.at k (by omega)
    obtain ⟨x, hx⟩ : ∃ x, ws[k]'(by omega) = x := ⟨_, rfl⟩
    have hx2 : x < 18446744073709551616 := by rw [← hx]; exact hf.get k (by omega)
    rw [hx] at hc
    obtain ⟨mo, hmo⟩ : ∃ mo, 2 ^ r - 1 = mo := ⟨_, rfl⟩
    have hmo2 : mo < 18446744073709551616 := by
      have : 2 ^ r ≤ 2 ^ 64 := Nat.pow_le_pow_right (by decide) (by omega)
      omega
    obtain ⟨u, hu⟩ : ∃ u, x &&& (18446744073709551615 - mo) = u := ⟨_, rfl⟩
    have e2 : bits .andNot .u64 (x : Int) (mo : Int) = (u : Int) := by rw [u64_andNot_nat _ _ hx2 hmo2, hu]
    have hd3 : Hid (checkB (n : Int) ws = if u ≠ 0 then 6 else 0) := by
      unfold Hid
      rw [hd2.out, hr, hk, show k + 1 - 1 = k by omega, List.getElem?_eq_getElem (by omega), hx]
      simp only [Option.getD_some, hmo, hu]
      by_cases hu0 : u = 0 <;> simp [hu0, hr0]
    have HMO := Lib.hid hmo
    have hi1 : (k : Int) < (k : Int) + 1 := by omega
    have hwk : IntKind.i64.wrap (k : Int) = (k : Int) := IntWalk.i64_in _ (by have := HM.out; omega)
    rw [hk]
    clear hl hr hx hu hmo hk hr0
    by_cases hu0 : u = 0
    · have hq2 : ((u : Int) != 0) = false := by simp [hu0]
      have hd4 : Hid (checkB (n : Int) ws = 0) := by unfold Hid; rw [hd3.out, if_neg (by simp [hu0])]
      clear hu0
      go_enter Tryd.func19, Tryd.ntmps19
      go_wp2_with fail
      go_quiet ((go_at_call 51; exact quietly (wordsFor_any n m (by omega) HM.out _)))
      go_wp2_with fail
      go_quiet ((go_at_call 54; exact quietly2 (ones_is _ r mo hr1.out (by omega) HMO.out _)))
      go_wp2
      go_ret
      exact ⟨ret_int hd4.out.symm, below_drewN (below_drewN ((Below.refl _ _).alloc (Nat.le_refl _) _) _) _⟩
    · have hq2 : ((u : Int) != 0) = true := by simp [hu0]
      have hd4 : Hid (checkB (n : Int) ws = 6) := by unfold Hid; rw [hd3.out, if_pos hu0]
      clear hu0
      go_enter Tryd.func19, Tryd.ntmps19
      go_wp2_with fail
      go_quiet ((go_at_call 51; exact quietly (wordsFor_any n m (by omega) HM.out _)))
      go_wp2_with fail
      go_quiet ((go_at_call 54; exact quietly2 (ones_is _ r mo hr1.out (by omega) HMO.out _)))
      go_wp2
      go_ret
      exact ⟨ret_int hd4.out.symm, below_drewN (below_drewN ((Below.refl _ _).alloc (Nat.le_refl _) _) _) _⟩
end Go.Proofs.YtpplleojdcgceaaDoor
