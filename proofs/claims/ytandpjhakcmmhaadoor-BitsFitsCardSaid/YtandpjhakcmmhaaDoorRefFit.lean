/- The other way's Fit, Block. -/
import Derived.Test.YtandpjhakcmmhaaDoorRefFree
namespace Go.Proofs.YtandpjhakcmmhaaDoor
open Go.RowKit Go.Shelf
attribute [local go_sem] Oper.semAt_some

set_option maxRecDepth 100000 in
set_option maxHeartbeats 4000000 in
theorem RefFit_ok (n s a : Nat) (v : Value) (ws : List Nat) (hf : Fit64 ws) (w : World) (h : WAt w v ws) (hc : checkB n ws = 0) (hs : 1 ≤ s) (ha : a ≤ n) (x y : Int) (hx : fiB ws s a n = (x, y)) :
    Calls Tryd.prog 36 #[bv n v, .int .i64 s, .int .i64 a] w fun e w' => e = .returned (.tuple #[.int .i64 x, .int .i64 y]) ∧ Below w.heap.size w w' := by
  obtain ⟨n', hn', hn4, hlen⟩ := check_ok hc
  obtain rfl : n = n' := by omega
  obtain ⟨wA, hwA⟩ : ∃ wA, w.alloc (.cells #[.int .i64 (n : Int), v] 24) = wA := ⟨_, rfl⟩
  have hAB : Below w.heap.size w wA := by rw [← hwA]; exact (Below.refl _ _).alloc (Nat.le_refl _) _
  have bA : BBox wA w.heap.size n v := by rw [← hwA]; exact BBox.new w n v
  have hA := h.later hAB
  have HW := Lib.hid hwA
  have HC := Lib.hid hc
  have HX := Lib.hid hx
  have hl : n ≤ 64 * ws.length := by omega
  have HL := Lib.hid hl
  have hs1 : ¬ ((s : Int) < 1) := by omega
  have ha1 : ¬ ((n : Int) < (a : Int)) := by omega
  clear hwA hc hx hn' hlen hl
  go_enter Tryd.func36, Tryd.ntmps36
  go_wp2_with fail
  rw [HW.out]
  refine (RefCheck_is n v ws hf _ hA 0 HC.out).mono ?_
  rintro e w1 ⟨rfl, hB1⟩
  have x0 := (bA.later hB1).c0
  have x1 := (bA.later hB1).c1
  go_wp2_with fail
  refine (RefList_any n v ws hf hn4 HL.out w1 (hA.later hB1)).mono ?_
  rintro e w2 ⟨u, rfl, hu, hB2⟩
  obtain ⟨aa, cap, rfl⟩ := own_form hu
  have D2 := hAB.trans ((hB1.trans (hB2.mono hB1.size)).mono hAB.size)
  clear x0 x1
  go_wp2_with fail
  go_loopw [10] (fun i wr => ∃ m : Nat, a ≤ m ∧ m ≤ n ∧ i = .int .i64 m ∧ Hid (∀ x, a ≤ x → x < m → ¬ Clear ws n x s) ∧ Below w2.heap.size w2 wr) (fun i _ => n - (intOf i).toNat)
  case atStart => exact ⟨a, Nat.le_refl _, ha, rfl, fun x h1 h2 => by omega, Below.refl _ _⟩
  case round =>
    obtain ⟨m, hm1, hm2, rfl, HQ, hBr⟩ := hrel
    have Dr := D2.trans (hBr.mono D2.size)
    by_cases hlt : m < n
    · have hi1 : (m : Int) < (n : Int) := by omega
      by_cases hsn : s ≤ n
      · have hsn1 : (s : Int) ≤ (n : Int) := by omega
        obtain ⟨b, hb⟩ : ∃ b, freeB ws n m s = b := ⟨_, rfl⟩
        have HBB := Lib.hid hb
        clear hb
        go_wp2_with fail
        refine (Free_is _ n m s aa cap ws hn4 (by omega) (by omega) wr (hu.kept (grown_of_below hBr) (Classical.em _)) b HBB.out).mono ?_
        rintro e w3 ⟨rfl, hB3⟩
        cases b with
        | true =>
          have hxy : ((m : Int), (0 : Int)) = (x, y) := by rw [← HX.out]; exact (fiB_hit ha hs hm1 ((freeB_iff _ _ _ _).1 HBB.out) HQ.out).symm
          obtain ⟨rfl, rfl⟩ := Prod.mk.inj hxy
          clear hxy
          go_wp2
          go_ret2
          exact ⟨rfl, Dr.trans (hB3.mono Dr.size)⟩
        | false =>
          have HN : Hid (∀ x, a ≤ x → x < m + 1 → ¬ Clear ws n x s) := fun x h1 h2 hcl => by
            by_cases hxm : x < m
            · exact HQ.out x h1 hxm hcl
            · have := (freeB_iff ws n m s).2 (by rw [← show x = m by omega]; exact hcl)
              rw [HBB.out] at this; cases this
          go_wp2
          refine ⟨⟨m + 1, by omega, by omega, by go_num, HN, hBr.trans (hB3.mono hBr.size)⟩, by simp [intOf]; omega⟩
      · have hsn1 : ¬ ((s : Int) ≤ (n : Int)) := by omega
        have hxy : ((0 : Int), (4 : Int)) = (x, y) := by rw [← HX.out]; exact (fiB_miss ha hs (fun x _ _ hcl => by have := hcl.1; omega)).symm
        obtain ⟨rfl, rfl⟩ := Prod.mk.inj hxy
        clear hxy
        go_wp2
        go_ret2
        exact ⟨rfl, Dr⟩
    · have hmn : m = n := by omega
      have hi1 : ¬ ((m : Int) < (n : Int)) := by omega
      have hxy : ((0 : Int), (4 : Int)) = (x, y) := by rw [← HX.out]; exact (fiB_miss ha hs (fun x h1 h2 => HQ.out x h1 (by omega))).symm
      obtain ⟨rfl, rfl⟩ := Prod.mk.inj hxy
      clear hxy hmn
      go_wp2
      go_ret2
      exact ⟨rfl, Dr⟩

set_option maxRecDepth 100000 in
set_option maxHeartbeats 1000000 in
theorem RefFit_is (N s a : Int) (v : Value) (ws : List Nat) (hf : Fit64 ws) (w : World) (h : WAt w v ws) (x y : Int) (hx : fitB N ws s a = (x, y)) :
    Calls Tryd.prog 36 #[bv N v, .int .i64 s, .int .i64 a] w fun e w' => e = .returned (.tuple #[.int .i64 x, .int .i64 y]) ∧ Below w.heap.size w w' := by
  obtain ⟨c, hc⟩ : ∃ c, checkB N ws = c := ⟨_, rfl⟩
  obtain ⟨wA, hwA⟩ : ∃ wA, w.alloc (.cells #[.int .i64 N, v] 24) = wA := ⟨_, rfl⟩
  have hAB : Below w.heap.size w wA := by rw [← hwA]; exact (Below.refl _ _).alloc (Nat.le_refl _) _
  have bA : BBox wA w.heap.size N v := by rw [← hwA]; exact BBox.new w N v
  have hA := h.later hAB
  have HW := Lib.hid hwA
  have HC := Lib.hid hc
  clear hwA
  by_cases h0 : c = 0
  · subst h0
    obtain ⟨n, rfl, hn4, _⟩ := check_ok hc
    by_cases hs : s < 1
    · have hxy : ((0 : Int), (2 : Int)) = (x, y) := by
        rw [← hx]
        have : sizeB n ws s = 2 := by unfold sizeB; rw [if_neg (by simp [hc]), if_pos hs]
        unfold fitB; rw [this, if_pos (by decide)]
      obtain ⟨rfl, rfl⟩ := Prod.mk.inj hxy
      clear hxy hx hc
      go_enter Tryd.func36, Tryd.ntmps36
      go_wp2_with fail
      rw [HW.out]
      refine (RefCheck_is n v ws hf _ hA 0 HC.out).mono ?_
      rintro e w1 ⟨rfl, hB1⟩
      go_wp2
      go_ret2
      exact ⟨rfl, hAB.trans (hB1.mono hAB.size)⟩
    · have hz : sizeB n ws s = 0 := by unfold sizeB; rw [if_neg (by simp [hc]), if_neg hs]
      by_cases ha : a < 0 ∨ (n : Int) < a
      · have hxy : ((0 : Int), (7 : Int)) = (x, y) := by rw [← hx]; unfold fitB; rw [if_neg (by rw [hz]; simp), if_pos ha]
        obtain ⟨rfl, rfl⟩ := Prod.mk.inj hxy
        clear hxy hx hc hz
        by_cases q1 : a < 0 <;> by_cases q2 : (n : Int) < a
        all_goals first | (exfalso; omega) | skip
        all_goals
          clear ha
          go_enter Tryd.func36, Tryd.ntmps36
          go_wp2_with fail
          rw [HW.out]
          refine (RefCheck_is n v ws hf _ hA 0 HC.out).mono ?_
          rintro e w1 ⟨rfl, hB1⟩
          have x0 := (bA.later hB1).c0
          have x1 := (bA.later hB1).c1
          go_wp2
          go_ret2
          exact ⟨rfl, hAB.trans (hB1.mono hAB.size)⟩
      · obtain ⟨a', rfl⟩ : ∃ k : Nat, a = k := ⟨a.toNat, by omega⟩
        obtain ⟨s', rfl⟩ : ∃ k : Nat, s = k := ⟨s.toNat, by omega⟩
        refine RefFit_ok n s' a' v ws hf w h hc (by omega) (by omega) x y ?_
        rw [← hx]; unfold fitB; rw [if_neg (by rw [hz]; simp), if_neg ha]; rfl
  · have hq : (c != 0) = true := by simp [h0]
    have hxy : ((0 : Int), c) = (x, y) := by
      rw [← hx]
      have : sizeB N ws s = c := by unfold sizeB; rw [hc, if_pos h0]
      unfold fitB; rw [this, if_pos h0]
    obtain ⟨rfl, rfl⟩ := Prod.mk.inj hxy
    clear hxy hx hc h0
    go_enter Tryd.func36, Tryd.ntmps36
    go_wp2_with fail
    rw [HW.out]
    refine (RefCheck_is N v ws hf _ hA c HC.out).mono ?_
    rintro e w1 ⟨rfl, hB1⟩
    go_wp2
    go_ret2
    exact ⟨rfl, hAB.trans (hB1.mono hAB.size)⟩
end Go.Proofs.YtandpjhakcmmhaaDoor
