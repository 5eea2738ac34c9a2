/- The reference's Get, Count. -/
import Derived.Test.YtpplleojdcgceaaDoorRefNew
import Derived.Test.YtpplleojdcgceaaDoorRefNL
namespace Go.Proofs.YtpplleojdcgceaaDoor
open Go.RowKit Go.Shelf
attribute [local go_sem] Oper.semAt_some

set_option maxRecDepth 100000 in
set_option maxHeartbeats 1000000 in
theorem RefGet_is (N i : Int) (u : Value) (va : List Nat) (hf : Fit64 va) (x : Bool) (y : Int) (hx : getB N va i = (x, y)) (w : World) (h : WAt w u va) :
    Calls Tryd.prog 18 #[bv N u, .int .i64 i] w fun e w' => e = .returned (.tuple #[.bool x, .int .i64 y]) ∧ Below w.heap.size w w' := by
  obtain ⟨r, hr⟩ : ∃ r, checkB N va = r := ⟨_, rfl⟩
  obtain ⟨wA, hwA⟩ : ∃ wA, w.alloc (.cells #[.int .i64 N, u] 24) = wA := ⟨_, rfl⟩
  have hAB : Below w.heap.size w wA := by rw [← hwA]; exact (Below.refl _ _).alloc (Nat.le_refl _) _
  have bA : BBox wA w.heap.size N u := by rw [← hwA]; exact BBox.new w N u
  have hA := h.later hAB
  have HW := Lib.hid hwA
  have HR := Lib.hid hr
  unfold getB at hx
  rw [hr] at hx
  clear hwA
  by_cases h0 : r = 0
  · rw [if_neg (by simp [h0])] at hx
    subst h0
    obtain ⟨n, rfl, hn4, hlen⟩ := check_ok hr
    have hl : n ≤ 64 * va.length := by omega
    have HL := Lib.hid hl
    clear hr hlen hl
    by_cases h1 : i < 0 ∨ (n : Int) ≤ i
    · rw [if_pos h1] at hx
      obtain ⟨rfl, rfl⟩ := Prod.mk.inj hx
      clear hx
      by_cases q1 : i < 0 <;> by_cases q2 : (n : Int) ≤ i
      all_goals first | (exfalso; omega) | skip
      all_goals
        clear h1
        go_enter Tryd.func18, Tryd.ntmps18
        go_wp2_with fail
        rw [HW.out]
        refine (RefCheck_is n u va hf _ hA 0 HR.out).mono ?_
        rintro e w1 ⟨rfl, B1⟩
        have c0 := (bA.later B1).c0
        have c1 := (bA.later B1).c1
        go_wp2
        go_ret2
        exact ⟨rfl, hAB.trans (B1.mono hAB.size)⟩
    · rw [if_neg h1] at hx
      obtain ⟨rfl, rfl⟩ := Prod.mk.inj hx
      obtain ⟨j, rfl⟩ : ∃ j : Nat, i = j := ⟨i.toNat, by omega⟩
      have hj : j < n := by omega
      have q1 : (j : Int) < (n : Int) := by omega
      simp only [Int.toNat_natCast]
      clear h1 hx
      go_enter Tryd.func18, Tryd.ntmps18
      go_wp2_with fail
      rw [HW.out]
      refine (RefCheck_is n u va hf _ hA 0 HR.out).mono ?_
      rintro e w1 ⟨rfl, B1⟩
      have c0 := (bA.later B1).c0
      have c1 := (bA.later B1).c1
      go_wp2_with fail
      refine (RefList_any n u va hf hn4 HL.out w1 (hA.later B1)).mono ?_
      rintro e w2 ⟨l, rfl, hl, B2'⟩
      obtain ⟨la, lc, rfl⟩ := own_form hl
      have B2 := B1.trans (B2'.mono B1.size)
      obtain ⟨g, rfl, hcell⟩ := own_at hl j hj _ (bitL_at va n j hj)
      go_wp2
      go_ret2
      exact ⟨rfl, hAB.trans (B2.mono hAB.size)⟩
  · rw [if_pos h0] at hx
    obtain ⟨rfl, rfl⟩ := Prod.mk.inj hx
    have hq : (r != 0) = true := by simp [h0]
    clear hx hr h0
    go_enter Tryd.func18, Tryd.ntmps18
    go_wp2_with fail
    rw [HW.out]
    refine (RefCheck_is N u va hf _ hA r HR.out).mono ?_
    rintro e w1 ⟨rfl, B1⟩
    go_wp2
    go_ret2
    exact ⟨rfl, hAB.trans (B1.mono hAB.size)⟩

set_option maxRecDepth 100000 in
set_option maxHeartbeats 1000000 in
theorem RefCount_is (N a t : Int) (u : Value) (va : List Nat) (hf : Fit64 va) (x y : Int) (hx : countB N va a t = (x, y)) (w : World) (h : WAt w u va) :
    Calls Tryd.prog 25 #[bv N u, .int .i64 a, .int .i64 t] w fun e w' => e = .returned (.tuple #[.int .i64 x, .int .i64 y]) ∧ Below w.heap.size w w' := by
  obtain ⟨r, hr⟩ : ∃ r, runB N va a t = r := ⟨_, rfl⟩
  obtain ⟨wA, hwA⟩ : ∃ wA, w.alloc (.cells #[.int .i64 N, u] 24) = wA := ⟨_, rfl⟩
  have hAB : Below w.heap.size w wA := by rw [← hwA]; exact (Below.refl _ _).alloc (Nat.le_refl _) _
  have bA : BBox wA w.heap.size N u := by rw [← hwA]; exact BBox.new w N u
  have hA := h.later hAB
  have HW := Lib.hid hwA
  have HR := Lib.hid hr
  unfold countB at hx
  rw [hr] at hx
  clear hwA
  by_cases h0 : r = 0
  · rw [if_neg (by simp [h0])] at hx
    subst h0
    obtain ⟨rfl, rfl⟩ := Prod.mk.inj hx
    obtain ⟨n, a', t', rfl, rfl, rfl, hat, htn, hn4, hlen⟩ := run_ok hr
    have hl : n ≤ 64 * va.length := by omega
    have HL := Lib.hid hl
    simp only [Int.toNat_natCast]
    clear hr hlen hl hx
    go_enter Tryd.func25, Tryd.ntmps25
    go_wp2_with fail
    rw [HW.out]
    refine (RefPart_is n a' t' u va 0 HR.out hf _ hA).mono ?_
    rintro e w1 ⟨rfl, B1⟩
    have c0 := (bA.later B1).c0
    have c1 := (bA.later B1).c1
    go_wp2_with fail
    refine (RefList_any n u va hf hn4 HL.out w1 (hA.later B1)).mono ?_
    rintro e w2 ⟨l, rfl, hl, B2'⟩
    obtain ⟨la, lc, rfl⟩ := own_form hl
    have B2 := B1.trans (B2'.mono B1.size)
    have hb2 := hAB.trans (B2.mono hAB.size)
    go_wp2_with fail
    go_loop [10, 11] (fun c i => ∃ k : Nat, a' ≤ k ∧ k ≤ t' ∧ i = .int .i64 k ∧ c = .int .i64 ((hits va true a' k).length : Nat)) (fun _ i => t' - (intOf i).toNat)
    case atStart => exact ⟨a', Nat.le_refl _, hat, rfl, by rw [hits_nil _ _ _ _ (Nat.le_refl a')]; rfl⟩
    case round =>
      obtain ⟨k, hak, hk, rfl, rfl⟩ := hrel
      by_cases hlt : k < t'
      · have hlt1 : (k : Int) < (t' : Int) := by omega
        have hkn : k < n := by omega
        obtain ⟨g, rfl, hcr⟩ := own_at hl k hkn _ (bitL_at va n k hkn)
        have hsn := hits_snoc' va true a' k hak
        have hlen : (hits va true a' k).length ≤ k - a' := by unfold hits; exact Nat.le_trans (List.length_filter_le _ _) (by simp)
        obtain ⟨x, hx⟩ : ∃ x, btW va k = x := ⟨_, rfl⟩
        rw [hx] at hcr hsn
        obtain ⟨q, hq⟩ : ∃ q, (hits va true a' k).length = q := ⟨_, rfl⟩
        have hsl := congrArg List.length hsn
        rw [List.length_append, hq] at hsl
        rw [hq] at hlen
        rw [hq]
        have HS := Lib.hid hsl
        clear hsl hsn hx hq
        cases x
        · go_wp2
          refine ⟨⟨k + 1, by omega, by omega, by go_num, ?_⟩, by simp [intOf]; omega⟩
          rw [HS.out]; simp
        · go_wp2
          refine ⟨⟨k + 1, by omega, by omega, by go_num, ?_⟩, by simp [intOf]; omega⟩
          rw [HS.out]; simp
      · have hkt : k = t' := by omega
        subst hkt
        go_wp2
        go_ret2
        exact ⟨rfl, hb2⟩
  · rw [if_pos h0] at hx
    obtain ⟨rfl, rfl⟩ := Prod.mk.inj hx
    have hq : (r != 0) = true := by simp [h0]
    clear hx hr h0
    go_enter Tryd.func25, Tryd.ntmps25
    go_wp2_with fail
    rw [HW.out]
    refine (RefPart_is N a t u va r HR.out hf _ hA).mono ?_
    rintro e w1 ⟨rfl, B1⟩
    go_wp2
    go_ret2
    exact ⟨rfl, hAB.trans (B1.mono hAB.size)⟩
end Go.Proofs.YtpplleojdcgceaaDoor
