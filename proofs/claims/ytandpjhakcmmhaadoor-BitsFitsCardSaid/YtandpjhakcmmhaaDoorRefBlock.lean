/- The other way's Block. -/
import Derived.Test.YtandpjhakcmmhaaDoorRefFree
import Derived.Test.YtandpjhakcmmhaaDoorBlock
namespace Go.Proofs.YtandpjhakcmmhaaDoor
open Go.RowKit Go.Shelf
attribute [local go_sem] Oper.semAt_some

def ansB (T : Option Nat) : Int × Int := match T with | some j => ((j : Int), 0) | none => (0, 4)
theorem blB_ans (ws : List Nat) (k n : Nat) : blB ws k n = ansB (blkF ws (2 ^ k) n (n + 1) 0) := rfl

set_option maxRecDepth 100000 in
set_option maxHeartbeats 4000000 in
theorem RefBlock_ok (n k : Nat) (v : Value) (ws : List Nat) (hf : Fit64 ws) (w : World) (h : WAt w v ws) (hc : checkB n ws = 0) (hk : k ≤ 12) (x y : Int) (hx : blB ws k n = (x, y)) :
    Calls Tryd.prog 40 #[bv n v, .int .i64 k] w fun e w' => e = .returned (.tuple #[.int .i64 x, .int .i64 y]) ∧ Below w.heap.size w w' := by
  obtain ⟨n', hn', hn4, hlen⟩ := check_ok hc
  obtain rfl : n = n' := by omega
  obtain ⟨wA, hwA⟩ : ∃ wA, w.alloc (.cells #[.int .i64 (n : Int), v] 24) = wA := ⟨_, rfl⟩
  have hAB : Below w.heap.size w wA := by rw [← hwA]; exact (Below.refl _ _).alloc (Nat.le_refl _) _
  have bA : BBox wA w.heap.size n v := by rw [← hwA]; exact BBox.new w n v
  have hA := h.later hAB
  have HW := Lib.hid hwA
  have HC := Lib.hid hc
  obtain ⟨sz, hsz⟩ : ∃ z, 2 ^ k = z := ⟨_, rfl⟩
  have hsz1 : 1 ≤ sz ∧ sz ≤ 4096 := by
    rw [← hsz]
    exact ⟨Nat.one_le_two_pow, Nat.pow_le_pow_right (n := 2) (i := k) (j := 12) (by decide) (by omega)⟩
  obtain ⟨T, hT⟩ : ∃ T, blkF ws sz n (n + 1) 0 = T := ⟨_, rfl⟩
  have hx2 : ansB T = (x, y) := by rw [← hx, blB_ans, hsz, hT]
  have HX := Lib.hid hx2
  have HT := Lib.hid hT
  have hp : (2 : Int) ^ k = (sz : Int) := by rw [← hsz]; simp
  have hl : n ≤ 64 * ws.length := by omega
  have HL := Lib.hid hl
  have hk1 : ¬ ((12 : Int) < (k : Int)) := by omega
  clear hwA hc hx hn' hlen hl hT hx2 hsz
  go_enter Tryd.func40, Tryd.ntmps40
  go_wp2_with fail
  rw [HW.out]
  refine (RefCheck_is n v ws hf _ hA 0 HC.out).mono ?_
  rintro e w1 ⟨rfl, hB1⟩
  have x0 := (bA.later hB1).c0
  have x1 := (bA.later hB1).c1
  go_wp2_with fail
  refine (RefList_any n v ws hf hn4 HL.out w1 (hA.later hB1)).mono ?_
  rintro e w2 ⟨u, rfl, hu, hB2⟩
  obtain ⟨aa, cap, rfl⟩ := own_form hu
  have D2 := hAB.trans ((hB1.trans (hB2.mono hB1.size)).mono hAB.size)
  clear x0 x1
  go_wp2_with fail
  go_loopw [9] (fun i wr => ∃ m f : Nat, m ≤ n + sz ∧ i = .int .i64 m ∧ n < m + f ∧ Hid (blkF ws sz n f m = T) ∧ Below w2.heap.size w2 wr) (fun i _ => n - (intOf i).toNat)
  case atStart => exact ⟨0, n + 1, Nat.zero_le _, rfl, by omega, HT, Below.refl _ _⟩
  case round =>
    obtain ⟨m, f, hm, rfl, hfm, HQ, hBr⟩ := hrel
    have Dr := D2.trans (hBr.mono D2.size)
    by_cases hlt : m < n
    · have hi1 : (m : Int) < (n : Int) := by omega
      obtain ⟨b, hb⟩ : ∃ b, freeB ws n m sz = b := ⟨_, rfl⟩
      have HBB := Lib.hid hb
      clear hb
      obtain ⟨f, rfl⟩ : ∃ f', f = f' + 1 := ⟨f - 1, by omega⟩
      go_wp2_with fail
      refine (Free_is _ n m sz aa cap ws hn4 (by omega) (by omega) wr (hu.kept (grown_of_below hBr) (Classical.em _)) b HBB.out).mono ?_
      rintro e w3 ⟨rfl, hB3⟩
      cases b with
      | true =>
        have hTm : T = some m := by
          rw [← HQ.out]
          have h1 := HBB.out
          unfold freeB at h1
          rw [Bool.and_eq_true, decide_eq_true_eq] at h1
          unfold blkF; rw [if_pos h1.1, if_pos h1.2]
        have hxy : ((m : Int), (0 : Int)) = (x, y) := by rw [← HX.out, hTm]; rfl
        obtain ⟨rfl, rfl⟩ := Prod.mk.inj hxy
        clear hxy hTm
        go_wp2
        go_ret2
        exact ⟨rfl, Dr.trans (hB3.mono Dr.size)⟩
      | false =>
        have HN : Hid (∃ f', n < m + sz + f' ∧ blkF ws sz n f' (m + sz) = T) := by
          have h1 := HBB.out
          unfold freeB at h1
          have h2 := HQ.out
          unfold blkF at h2
          by_cases h3 : m + sz ≤ n
          · rw [if_pos h3] at h2
            rw [decide_eq_true h3, Bool.true_and] at h1
            rw [if_neg (by rw [h1]; simp)] at h2
            exact ⟨f, by omega, h2⟩
          · rw [if_neg h3] at h2
            exact ⟨0, by omega, by unfold blkF; exact h2⟩
        go_wp2
        obtain ⟨f', hf1, hf2⟩ := HN.out
        refine ⟨⟨m + sz, f', by omega, by go_num, hf1, hf2, hBr.trans (hB3.mono hBr.size)⟩, by simp [intOf]; omega⟩
    · have hi1 : ¬ ((m : Int) < (n : Int)) := by omega
      have hTn : T = none := by
        rw [← HQ.out]
        cases f with
        | zero => rfl
        | succ f => unfold blkF; rw [if_neg (by omega)]
      have hxy : ((0 : Int), (4 : Int)) = (x, y) := by rw [← HX.out, hTn]; rfl
      obtain ⟨rfl, rfl⟩ := Prod.mk.inj hxy
      clear hxy hTn
      go_wp2
      go_ret2
      exact ⟨rfl, Dr⟩

set_option maxRecDepth 100000 in
set_option maxHeartbeats 1000000 in
theorem RefBlock_is (N k : Int) (v : Value) (ws : List Nat) (hf : Fit64 ws) (w : World) (h : WAt w v ws) (x y : Int) (hx : blockB N ws k = (x, y)) :
    Calls Tryd.prog 40 #[bv N v, .int .i64 k] w fun e w' => e = .returned (.tuple #[.int .i64 x, .int .i64 y]) ∧ Below w.heap.size w w' := by
  obtain ⟨c, hc⟩ : ∃ c, checkB N ws = c := ⟨_, rfl⟩
  obtain ⟨wA, hwA⟩ : ∃ wA, w.alloc (.cells #[.int .i64 N, v] 24) = wA := ⟨_, rfl⟩
  have hAB : Below w.heap.size w wA := by rw [← hwA]; exact (Below.refl _ _).alloc (Nat.le_refl _) _
  have hA := h.later hAB
  have HW := Lib.hid hwA
  have HC := Lib.hid hc
  clear hwA
  by_cases h0 : c = 0
  · subst h0
    obtain ⟨n, rfl, hn4, _⟩ := check_ok hc
    by_cases hk : k < 0 ∨ 12 < k
    · have hxy : ((0 : Int), (7 : Int)) = (x, y) := by rw [← hx]; unfold blockB; rw [if_neg (by simp [hc]), if_pos hk]
      obtain ⟨rfl, rfl⟩ := Prod.mk.inj hxy
      clear hxy hx hc
      by_cases q1 : k < 0 <;> by_cases q2 : 12 < k
      all_goals first | (exfalso; omega) | skip
      all_goals
        clear hk
        go_enter Tryd.func40, Tryd.ntmps40
        go_wp2_with fail
        rw [HW.out]
        refine (RefCheck_is n v ws hf _ hA 0 HC.out).mono ?_
        rintro e w1 ⟨rfl, hB1⟩
        go_wp2
        go_ret2
        exact ⟨rfl, hAB.trans (hB1.mono hAB.size)⟩
    · obtain ⟨k', rfl⟩ : ∃ q : Nat, k = q := ⟨k.toNat, by omega⟩
      refine RefBlock_ok n k' v ws hf w h hc (by omega) x y ?_
      rw [← hx]; unfold blockB; rw [if_neg (by simp [hc]), if_neg hk]; rfl
  · have hq : (c != 0) = true := by simp [h0]
    have hxy : ((0 : Int), c) = (x, y) := by rw [← hx]; unfold blockB; rw [hc, if_pos h0]
    obtain ⟨rfl, rfl⟩ := Prod.mk.inj hxy
    clear hxy hx hc h0
    go_enter Tryd.func40, Tryd.ntmps40
    go_wp2_with fail
    rw [HW.out]
    refine (RefCheck_is N v ws hf _ hA c HC.out).mono ?_
    rintro e w1 ⟨rfl, hB1⟩
    go_wp2
    go_ret2
    exact ⟨rfl, hAB.trans (hB1.mono hAB.size)⟩
end Go.Proofs.YtandpjhakcmmhaaDoor
