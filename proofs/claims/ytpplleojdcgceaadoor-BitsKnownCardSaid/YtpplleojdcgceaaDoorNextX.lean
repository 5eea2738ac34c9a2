/- Next, Get. -/
import Derived.Test.YtpplleojdcgceaaDoorCount
namespace Go.Proofs.YtpplleojdcgceaaDoor
open Go.RowKit

def nxB (ws : List Nat) (on : Bool) (a n : Nat) : Int × Int := if nextB ws on a n = n then (0, 4) else ((nextB ws on a n : Int), 0)
/-- What Next answers. -/
def nextX (N : Int) (ws : List Nat) (a : Int) (on : Bool) : Int × Int := if runB N ws a N ≠ 0 then (0, runB N ws a N) else nxB ws on a.toNat N.toNat
theorem next_is (n a m : Nat) (v : Value) (ws : List Nat) (on : Bool) (hm : nextB ws on a n = m) (hf : Fit64 ws) (hn : n ≤ 4096) (hl : ws.length = (n + 63) / 64) (w : World) (hgd : Gd w) (h : WAt w v ws) :
    Calls Tryd.prog 62 #[bv n v, .int .i64 a, .bool on] w fun e w' => e = .returned (.int .i64 (m : Nat)) ∧ Below w.heap.size w w' := by subst hm; exact next_any n a v ws on hf hn (by omega) (by omega) w hgd h

set_option maxRecDepth 100000 in
set_option maxHeartbeats 1000000 in
theorem Next_any (N a : Int) (v : Value) (on : Bool) (ws : List Nat) (hf : Fit64 ws) (w : World) (hgd : Gd w) (h : WAt w v ws) :
    Calls Tryd.prog 28 #[bv N v, .int .i64 a, .bool on] w fun e w' => e = .returned (.tuple #[.int .i64 (nextX N ws a on).1, .int .i64 (nextX N ws a on).2]) ∧ Below w.heap.size w w' := by
  obtain ⟨c, hc⟩ : ∃ c, runB N ws a N = c := ⟨_, rfl⟩
  have b0 : Below w.heap.size w (w.alloc (.cells #[.int .i64 N, v] 24)) := (Below.refl _ _).alloc (Nat.le_refl _) _
  by_cases h0 : c = 0
  case neg =>
    have hd : Hid (nextX N ws a on = (0, c)) := by unfold Hid nextX; rw [hc, if_pos h0]
    have HC := Lib.hid hc
    have hq : (c != 0) = true := by simp [h0]
    clear hc h0
    go_enter Tryd.func28, Tryd.ntmps28
    go_wp2_with fail
    refine (checkRun_is N v ws a N c HC.out hf _ (h.later b0)).mono ?_
    rintro e w1 ⟨rfl, hB⟩
    go_wp2
    go_ret2
    rw [hd.out]
    exact ⟨rfl, b0.trans (hB.mono b0.size)⟩
  subst h0
  obtain ⟨n, a', t', rfl, rfl, ht, hat, _, hn4, hlen⟩ := run_ok hc
  have hd : nextX (n : Int) ws a' on = nxB ws on a' n := by unfold nextX; rw [if_neg (by simp [hc])]; rfl
  rw [hd]
  obtain ⟨m, hm⟩ : ∃ m, nextB ws on a' n = m := ⟨_, rfl⟩
  have HC := Lib.hid hc
  have HM := Lib.hid hm
  have HL := Lib.hid hlen
  have hx : Hid (nxB ws on a' n = if m = n then (0, 4) else ((m : Int), 0)) := by unfold Hid nxB; rw [hm]
  clear hc hm hd ht hat hlen
  by_cases hmn : m = n
  · have hq : ((m : Int) == (n : Int)) = true := by simp [hmn]
    have hx2 : Hid (nxB ws on a' n = (0, 4)) := by unfold Hid; rw [hx.out, if_pos hmn]
    clear hmn
    go_enter Tryd.func28, Tryd.ntmps28
    go_wp2_with fail
    refine (checkRun_is n v ws a' n 0 HC.out hf _ (h.later b0)).mono ?_
    rintro e w1 ⟨rfl, hB⟩
    have hb1 : BBox w1 w.heap.size n v := (BBox.new w _ _).later hB
    have c0 := hb1.c0
    have c1 := hb1.c1
    have hB1 := b0.trans (hB.mono b0.size)
    go_wp2_with fail
    refine (next_is n a' m v ws on HM.out hf hn4 HL.out _ (hgd.later hB1) (h.later hB1)).mono ?_
    rintro e w2 ⟨rfl, hB2⟩
    have d0 := (hb1.later hB2).c0
    go_wp2
    go_ret2
    rw [hx2.out]
    exact ⟨rfl, hB1.trans (hB2.mono hB1.size)⟩
  · have hq : ((m : Int) == (n : Int)) = false := by simp; omega
    have hx2 : Hid (nxB ws on a' n = ((m : Int), 0)) := by unfold Hid; rw [hx.out, if_neg hmn]
    clear hmn
    go_enter Tryd.func28, Tryd.ntmps28
    go_wp2_with fail
    refine (checkRun_is n v ws a' n 0 HC.out hf _ (h.later b0)).mono ?_
    rintro e w1 ⟨rfl, hB⟩
    have hb1 : BBox w1 w.heap.size n v := (BBox.new w _ _).later hB
    have c0 := hb1.c0
    have c1 := hb1.c1
    have hB1 := b0.trans (hB.mono b0.size)
    go_wp2_with fail
    refine (next_is n a' m v ws on HM.out hf hn4 HL.out _ (hgd.later hB1) (h.later hB1)).mono ?_
    rintro e w2 ⟨rfl, hB2⟩
    have d0 := (hb1.later hB2).c0
    go_wp2
    go_ret2
    rw [hx2.out]
    exact ⟨rfl, hB1.trans (hB2.mono hB1.size)⟩

theorem bit_eq (x r : Nat) (hx : x < 18446744073709551616) : (bits .and .u64 ((x : Int) / 2 ^ r) 1 == 1) = x.testBit r := by
  have e : (x : Int) / 2 ^ r = ((x / 2 ^ r : Nat) : Int) := by rw [Int.natCast_ediv, Int.natCast_pow]; rfl
  have h1 : x / 2 ^ r < 18446744073709551616 := Nat.lt_of_le_of_lt (Nat.div_le_self _ _) hx
  have h2 : bits .and .u64 ((x / 2 ^ r : Nat) : Int) 1 = ((x / 2 ^ r % 2 : Nat) : Int) := by rw [← nat_mask1]; exact u64_and_nat _ 1 h1 (by decide)
  rw [e, h2, Nat.testBit_eq_decide_div_mod_eq]
  rcases Nat.mod_two_eq_zero_or_one (x / 2 ^ r) with h | h <;> rw [h] <;> rfl
/-- What Get answers. -/
def getB (N : Int) (ws : List Nat) (i : Int) : Bool × Int := if checkB N ws ≠ 0 then (false, checkB N ws) else if i < 0 ∨ N ≤ i then (false, 7) else (btW ws i.toNat, 0)
set_option maxRecDepth 100000 in
set_option maxHeartbeats 1000000 in
theorem Get_any (N i : Int) (v : Value) (ws : List Nat) (hf : Fit64 ws) (w : World) (h : WAt w v ws) :
    Calls Tryd.prog 17 #[bv N v, .int .i64 i] w fun e w' => e = .returned (.tuple #[.bool (getB N ws i).1, .int .i64 (getB N ws i).2]) ∧ Below w.heap.size w w' := by
  obtain ⟨c, hc⟩ : ∃ c, checkB N ws = c := ⟨_, rfl⟩
  have b0 : Below w.heap.size w (w.alloc (.cells #[.int .i64 N, v] 24)) := (Below.refl _ _).alloc (Nat.le_refl _) _
  have HC := Lib.hid hc
  by_cases h0 : c = 0
  case neg =>
    have hd : Hid (getB N ws i = (false, c)) := by unfold Hid getB; rw [hc, if_pos h0]
    have hq : (c != 0) = true := by simp [h0]
    clear hc h0
    go_enter Tryd.func17, Tryd.ntmps17
    go_wp2_with fail
    refine (Check_is N v ws c HC.out hf _ (h.later b0)).mono ?_
    rintro e w1 ⟨rfl, hB⟩
    go_wp2
    go_ret2
    rw [hd.out]
    exact ⟨rfl, b0.trans (hB.mono b0.size)⟩
  subst h0
  obtain ⟨n, rfl, hn4, hlen⟩ := check_ok hc
  by_cases hi : i < 0 ∨ (n : Int) ≤ i
  · have hd : Hid (getB n ws i = (false, 7)) := by unfold Hid getB; rw [if_neg (by simp [hc]), if_pos hi]
    clear hc hlen
    by_cases hi0 : i < 0 <;> by_cases hi1 : (n : Int) ≤ i
    all_goals first | (exfalso; omega) | skip
    all_goals
      clear hi
      go_enter Tryd.func17, Tryd.ntmps17
      go_wp2_with fail
      refine (Check_is n v ws 0 HC.out hf _ (h.later b0)).mono ?_
      rintro e w1 ⟨rfl, hB⟩
      have c0 := ((BBox.new w _ _).later hB).c0
      go_wp2
      go_ret2
      rw [hd.out]
      exact ⟨rfl, b0.trans (hB.mono b0.size)⟩
  · obtain ⟨k, rfl⟩ : ∃ k : Nat, i = k := ⟨i.toNat, by omega⟩
    have hd : Hid (getB n ws k = (btW ws k, 0)) := by unfold Hid getB; rw [if_neg (by simp [hc]), if_neg hi]; rfl
    obtain ⟨a, cap, rfl⟩ := h.form
    have hk1 : k < n := by omega
    have hkw : k / 64 < ws.length := by omega
    obtain ⟨b, off, rfl, hb, hcell⟩ := h.at (k / 64) hkw
    obtain ⟨x, hx⟩ : ∃ x, ws[k / 64] = x := ⟨_, rfl⟩
    have hx2 : x < 18446744073709551616 := by rw [← hx]; exact hf.get _ hkw
    rw [hx] at hcell
    have hi0 : ¬ ((k : Int) < 0) := by omega
    have hi1 : ¬ ((n : Int) ≤ (k : Int)) := by omega
    clear hc hi hlen
    go_enter Tryd.func17, Tryd.ntmps17
    go_wp2_with fail
    refine (Check_is n _ ws 0 HC.out hf _ (h.later b0)).mono ?_
    rintro e w1 ⟨rfl, hB⟩
    have c0 := ((BBox.new w _ _).later hB).c0
    have c1 := ((BBox.new w _ _).later hB).c1
    have hcell1 := cell_later (b0.trans (hB.mono b0.size)) hcell
    have e1 : ((k : Int) / 64).toNat = k / 64 := by omega
    have e2 : (k : Int) / 64 < (ws.length : Int) := by omega
    have e3 : (0 : Int) ≤ (k : Int) / 64 := by omega
    go_wp2
    go_ret2
    refine ⟨?_, b0.trans (hB.mono b0.size)⟩
    rw [hd.out, bit_eq x (k % 64) hx2]
    have : btW ws k = x.testBit (k % 64) := by unfold btW; rw [List.getElem?_eq_getElem hkw, hx]; rfl
    rw [this]
    rfl
end Go.Proofs.YtpplleojdcgceaaDoor
