/- The reference's Next and Last. -/
import Derived.Test.YtpplleojdcgceaaDoorRefFinds
namespace Go.Proofs.YtpplleojdcgceaaDoor
open Go.RowKit Go.Shelf
attribute [local go_sem] Oper.semAt_some

theorem hits_snoc' (ws : List Nat) (on : Bool) (a m : Nat) (h : a ≤ m) : hits ws on a (m + 1) = hits ws on a m ++ if btW ws m = on then [m] else [] := by
  rw [hits_split ws on a m (m + 1) h (by omega), hits_one]
theorem runB_flip (N : Int) (ws : List Nat) (a : Int) : runB N ws a N = runB N ws 0 a := by
  unfold runB
  by_cases h : checkB N ws = 0
  · simp only [h, ne_eq, not_true_eq_false, if_false]
    by_cases h1 : a < 0 ∨ N < a
    · rw [if_pos (by omega), if_pos (by omega)]
    · rw [if_neg (by omega), if_neg (by omega)]
  · rw [if_pos h, if_pos h]

set_option maxRecDepth 100000 in
set_option maxHeartbeats 4000000 in
theorem RefNext_ok (n a : Nat) (v : Value) (on : Bool) (ws : List Nat) (hf : Fit64 ws) (w : World) (h : WAt w v ws) (hc : checkB n ws = 0) (ha : a ≤ n) (x y : Int) (hx : nextX n ws a on = (x, y)) :
    Calls Tryd.prog 29 #[bv n v, .int .i64 a, .bool on] w fun e w' => e = .returned (.tuple #[.int .i64 x, .int .i64 y]) ∧ Below w.heap.size w w' := by
  obtain ⟨n', hn', hn4, hlen⟩ := check_ok hc
  obtain rfl : n = n' := by omega
  obtain ⟨wA, hwA⟩ : ∃ wA, w.alloc (.cells #[.int .i64 (n : Int), v] 24) = wA := ⟨_, rfl⟩
  have hAB : Below w.heap.size w wA := by rw [← hwA]; exact (Below.refl _ _).alloc (Nat.le_refl _) _
  have bA : BBox wA w.heap.size n v := by rw [← hwA]; exact BBox.new w n v
  have hA := h.later hAB
  have HW := Lib.hid hwA
  have HC := Lib.hid hc
  have HX := Lib.hid hx
  have HP : Hid (runB n ws 0 a = 0) := by have := runB_ok (a := 0) hc (Nat.zero_le a) ha; rw [Int.natCast_zero] at this; exact this
  have hl : n ≤ 64 * ws.length := by omega
  have HL := Lib.hid hl
  clear hwA hc hx hn' hlen hl
  go_enter Tryd.func29, Tryd.ntmps29
  go_wp2_with fail
  rw [HW.out]
  refine (RefPart_is n 0 a v ws 0 HP.out hf _ hA).mono ?_
  rintro e w1 ⟨rfl, hB1⟩
  have x0 := (bA.later hB1).c0
  have x1 := (bA.later hB1).c1
  go_wp2_with fail
  refine (RefList_any n v ws hf hn4 HL.out w1 (hA.later hB1)).mono ?_
  rintro e w2 ⟨u, rfl, hu, hB2⟩
  obtain ⟨aa, cap, rfl⟩ := own_form hu
  have D2 := hAB.trans ((hB1.trans (hB2.mono hB1.size)).mono hAB.size)
  clear x0 x1
  go_wp2_with fail
  go_loop [10] (fun i => ∃ m : Nat, a ≤ m ∧ m ≤ n ∧ i = .int .i64 m ∧ Hid (hits ws on a m = [])) (fun i => n - (intOf i).toNat)
  case atStart => exact ⟨a, Nat.le_refl _, ha, rfl, hits_nil _ _ _ _ (Nat.le_refl a)⟩
  case round =>
    obtain ⟨m, ham, hm, rfl, HQ⟩ := hrel
    by_cases hlt : m < n
    · obtain ⟨g, rfl, hcell⟩ := own_at hu m hlt _ (bitL_at ws n m hlt)
      obtain ⟨b, hb⟩ : ∃ b, btW ws m = b := ⟨_, rfl⟩
      rw [hb] at hcell
      have hi1 : (m : Int) < (n : Int) := by omega
      have hsn : hits ws on a (m + 1) = hits ws on a m ++ if b = on then [m] else [] := by rw [← hb]; exact hits_snoc' ws on a m ham
      by_cases hbo : b = on
      · have hxy : ((m : Int), (0 : Int)) = (x, y) := by
          rw [← HX.out]
          refine (nextX_some HC.out ha ?_).symm
          rw [hits_split ws on a (m + 1) n (by omega) (by omega), hsn, if_pos hbo, HQ.out]; rfl
        obtain ⟨rfl, rfl⟩ := Prod.mk.inj hxy
        clear hxy hsn hb
        subst hbo
        cases b
        all_goals
          go_wp2
          go_ret2
          exact ⟨rfl, D2⟩
      · have HS : Hid (hits ws on a (m + 1) = []) := by unfold Hid; rw [hsn, if_neg hbo, HQ.out]; rfl
        clear hb hsn
        cases b <;> cases on
        all_goals first | (exact absurd rfl hbo) | skip
        all_goals
          clear hbo
          go_wp2
          refine ⟨⟨m + 1, by omega, by omega, by go_num, HS⟩, by simp [intOf]; omega⟩
    · have hmn : m = n := by omega
      have hxy : ((0 : Int), (4 : Int)) = (x, y) := by
        rw [← HX.out]
        refine (nextX_none HC.out ha ?_).symm
        rw [← hmn, HQ.out]; rfl
      obtain ⟨rfl, rfl⟩ := Prod.mk.inj hxy
      clear hxy hmn
      go_wp2
      go_ret2
      exact ⟨rfl, D2⟩

set_option maxRecDepth 100000 in
set_option maxHeartbeats 1000000 in
theorem RefNext_is (N a : Int) (v : Value) (on : Bool) (ws : List Nat) (hf : Fit64 ws) (w : World) (h : WAt w v ws) (x y : Int) (hx : nextX N ws a on = (x, y)) :
    Calls Tryd.prog 29 #[bv N v, .int .i64 a, .bool on] w fun e w' => e = .returned (.tuple #[.int .i64 x, .int .i64 y]) ∧ Below w.heap.size w w' := by
  obtain ⟨c, hc⟩ : ∃ c, runB N ws 0 a = c := ⟨_, rfl⟩
  by_cases h0 : c = 0
  · subst h0
    obtain ⟨n, _, a', rfl, _, rfl, _, ha, _⟩ := run_ok hc
    have hck : checkB n ws = 0 := by
      unfold runB at hc
      split at hc
      · contradiction
      · rename_i h1; exact Classical.byContradiction h1
    exact RefNext_ok n a' v on ws hf w h hck ha x y hx
  · obtain ⟨wA, hwA⟩ : ∃ wA, w.alloc (.cells #[.int .i64 N, v] 24) = wA := ⟨_, rfl⟩
    have hAB : Below w.heap.size w wA := by rw [← hwA]; exact (Below.refl _ _).alloc (Nat.le_refl _) _
    have hA := h.later hAB
    have HW := Lib.hid hwA
    have HC := Lib.hid hc
    have hq : (c != 0) = true := by simp [h0]
    have hxy : ((0 : Int), c) = (x, y) := by rw [← hx]; unfold nextX; rw [runB_flip]; rw [hc, if_pos h0]
    obtain ⟨rfl, rfl⟩ := Prod.mk.inj hxy
    clear hwA hxy hx hc h0
    go_enter Tryd.func29, Tryd.ntmps29
    go_wp2_with fail
    rw [HW.out]
    refine (RefPart_is N 0 a v ws c HC.out hf _ hA).mono ?_
    rintro e w1 ⟨rfl, hB1⟩
    go_wp2
    go_ret2
    exact ⟨rfl, hAB.trans (hB1.mono hAB.size)⟩

set_option maxRecDepth 100000 in
set_option maxHeartbeats 4000000 in
theorem RefLast_ok (n a : Nat) (v : Value) (on : Bool) (ws : List Nat) (hf : Fit64 ws) (w : World) (h : WAt w v ws) (hc : checkB n ws = 0) (ha : a ≤ n) (x y : Int) (hx : lastB n ws a on = (x, y)) :
    Calls Tryd.prog 31 #[bv n v, .int .i64 a, .bool on] w fun e w' => e = .returned (.tuple #[.int .i64 x, .int .i64 y]) ∧ Below w.heap.size w w' := by
  obtain ⟨n', hn', hn4, hlen⟩ := check_ok hc
  obtain rfl : n = n' := by omega
  obtain ⟨wA, hwA⟩ : ∃ wA, w.alloc (.cells #[.int .i64 (n : Int), v] 24) = wA := ⟨_, rfl⟩
  have hAB : Below w.heap.size w wA := by rw [← hwA]; exact (Below.refl _ _).alloc (Nat.le_refl _) _
  have bA : BBox wA w.heap.size n v := by rw [← hwA]; exact BBox.new w n v
  have hA := h.later hAB
  have HW := Lib.hid hwA
  have HC := Lib.hid hc
  have HX := Lib.hid hx
  have HP : Hid (runB n ws 0 a = 0) := by have := runB_ok (a := 0) hc (Nat.zero_le a) ha; rw [Int.natCast_zero] at this; exact this
  have hl : n ≤ 64 * ws.length := by omega
  have HL := Lib.hid hl
  clear hwA hc hx hn' hlen hl
  go_enter Tryd.func31, Tryd.ntmps31
  go_wp2_with fail
  rw [HW.out]
  refine (RefPart_is n 0 a v ws 0 HP.out hf _ hA).mono ?_
  rintro e w1 ⟨rfl, hB1⟩
  have x0 := (bA.later hB1).c0
  have x1 := (bA.later hB1).c1
  go_wp2_with fail
  refine (RefList_any n v ws hf hn4 HL.out w1 (hA.later hB1)).mono ?_
  rintro e w2 ⟨u, rfl, hu, hB2⟩
  obtain ⟨aa, cap, rfl⟩ := own_form hu
  have D2 := hAB.trans ((hB1.trans (hB2.mono hB1.size)).mono hAB.size)
  clear x0 x1
  go_wp2_with fail
  go_loop [10] (fun i => ∃ m : Nat, m ≤ a ∧ i = .int .i64 ((m : Int) - 1) ∧ Hid (hits ws on m a = [])) (fun i => (intOf i + 1).toNat)
  case atStart => exact ⟨a, Nat.le_refl _, rfl, hits_nil _ _ _ _ (Nat.le_refl a)⟩
  case round =>
    obtain ⟨m, hm, rfl, HQ⟩ := hrel
    by_cases hlt : 0 < m
    · obtain ⟨r, rfl⟩ : ∃ r, m = r + 1 := ⟨m - 1, by omega⟩
      obtain ⟨g, rfl, hcell⟩ := own_at hu r (by omega) _ (bitL_at ws n r (by omega))
      obtain ⟨b, hb⟩ : ∃ b, btW ws r = b := ⟨_, rfl⟩
      rw [hb] at hcell
      have hi1 : (r : Int) < (n : Int) := by omega
      have hsn : hits ws on r a = if b = on then [r] else [] := by rw [← hb, hits_split ws on r (r + 1) a (by omega) (by omega), HQ.out, hits_one, List.append_nil]
      by_cases hbo : b = on
      · have hxy : ((r : Int), (0 : Int)) = (x, y) := by
          rw [← HX.out]
          refine (lastB_some HC.out ha ?_).symm
          rw [hits_split ws on 0 r a (by omega) (by omega), hsn, if_pos hbo]; simp
        obtain ⟨rfl, rfl⟩ := Prod.mk.inj hxy
        clear hxy hsn hb
        subst hbo
        cases b
        all_goals
          go_wp2
          go_ret2
          exact ⟨rfl, D2⟩
      · have HS : Hid (hits ws on r a = []) := by unfold Hid; rw [hsn, if_neg hbo]
        clear hb hsn
        cases b <;> cases on
        all_goals first | (exact absurd rfl hbo) | skip
        all_goals
          clear hbo
          go_wp2
          refine ⟨⟨r, by omega, by go_num, HS⟩, by simp [intOf]⟩
    · obtain rfl : m = 0 := by omega
      have hxy : ((0 : Int), (4 : Int)) = (x, y) := by
        rw [← HX.out]
        refine (lastB_none HC.out ha ?_).symm
        rw [HQ.out]; rfl
      obtain ⟨rfl, rfl⟩ := Prod.mk.inj hxy
      clear hxy
      go_wp2
      go_ret2
      exact ⟨rfl, D2⟩

set_option maxRecDepth 100000 in
set_option maxHeartbeats 1000000 in
theorem RefLast_is (N a : Int) (v : Value) (on : Bool) (ws : List Nat) (hf : Fit64 ws) (w : World) (h : WAt w v ws) (x y : Int) (hx : lastB N ws a on = (x, y)) :
    Calls Tryd.prog 31 #[bv N v, .int .i64 a, .bool on] w fun e w' => e = .returned (.tuple #[.int .i64 x, .int .i64 y]) ∧ Below w.heap.size w w' := by
  obtain ⟨c, hc⟩ : ∃ c, runB N ws 0 a = c := ⟨_, rfl⟩
  by_cases h0 : c = 0
  · subst h0
    obtain ⟨n, _, a', rfl, _, rfl, _, ha, _⟩ := run_ok hc
    have hck : checkB n ws = 0 := by
      unfold runB at hc
      split at hc
      · contradiction
      · rename_i h1; exact Classical.byContradiction h1
    exact RefLast_ok n a' v on ws hf w h hck ha x y hx
  · obtain ⟨wA, hwA⟩ : ∃ wA, w.alloc (.cells #[.int .i64 N, v] 24) = wA := ⟨_, rfl⟩
    have hAB : Below w.heap.size w wA := by rw [← hwA]; exact (Below.refl _ _).alloc (Nat.le_refl _) _
    have hA := h.later hAB
    have HW := Lib.hid hwA
    have HC := Lib.hid hc
    have hq : (c != 0) = true := by simp [h0]
    have hxy : ((0 : Int), c) = (x, y) := by rw [← hx]; unfold lastB; rw [hc, if_pos h0]
    obtain ⟨rfl, rfl⟩ := Prod.mk.inj hxy
    clear hwA hxy hx hc h0
    go_enter Tryd.func31, Tryd.ntmps31
    go_wp2_with fail
    rw [HW.out]
    refine (RefPart_is N 0 a v ws c HC.out hf _ hA).mono ?_
    rintro e w1 ⟨rfl, hB1⟩
    go_wp2
    go_ret2
    exact ⟨rfl, hAB.trans (hB1.mono hAB.size)⟩

end Go.Proofs.YtpplleojdcgceaaDoor
