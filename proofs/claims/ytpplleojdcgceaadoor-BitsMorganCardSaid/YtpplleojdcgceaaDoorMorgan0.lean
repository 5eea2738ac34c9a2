/- The law of Morgan. -/
import Derived.Test.YtpplleojdcgceaaDoorLens
import Derived.Test.YtpplleojdcgceaaDoorJoinsL
import Derived.Deep.RegionHeld3
namespace Go.Proofs.YtpplleojdcgceaaDoor
open Go.RowKit Go.Shelf
attribute [local go_sem] Oper.semAt_some

theorem flipB_ok {n : Nat} {ws : List Nat} (h : checkB n ws = 0) : flipB n ws = ((n : Int), mkW n fun i => !btW ws i, 0) := by unfold flipB; rw [if_neg (by simp [h])]; rfl
theorem opB_ok {q : Bool → Bool → Bool} {n : Nat} {va vb : List Nat} (ha : checkB n va = 0) (hb : checkB n vb = 0) : opB q n va n vb = ((n : Int), mkW n fun i => q (btW va i) (btW vb i), 0) := by
  unfold opB bothB; rw [ha, hb]; simp
theorem setB_ok {n a t : Nat} {on : Bool} {ws : List Nat} (h : checkB n ws = 0) (h1 : a ≤ t) (h2 : t ≤ n) : setB n ws a t on = ((n : Int), mkW n fun i => if a ≤ i ∧ i < t then on else btW ws i, 0) := by
  unfold setB; rw [if_neg (by simp [runB_ok h h1 h2])]; rfl
structure MM (n : Nat) (va vb : List Nat) (a t : Nat) (on : Bool) (P1 P2 U V D Z R S T O : List Nat) : Prop where
  h1 : opB (fun x y => x && y) n va n vb = ((n : Int), P1, 0)
  h2 : flipB n P1 = ((n : Int), P2, 0)
  h3 : flipB n va = ((n : Int), U, 0)
  h4 : flipB n vb = ((n : Int), V, 0)
  h5 : opB (fun x y => x || y) n U n V = ((n : Int), P2, 0)
  h6 : opB (fun x y => x && !y) n va n vb = ((n : Int), D, 0)
  h7 : opB (fun x y => x && y) n va n V = ((n : Int), D, 0)
  h8 : flipB n U = ((n : Int), va, 0)
  h9 : newB n false = ((n : Int), Z, 0)
  hA : setB n Z a t true = ((n : Int), R, 0)
  hB : setB n va a t on = ((n : Int), S, 0)
  hC : opB (fun x y => x && !y) n va n R = ((n : Int), T, 0)
  hD : opB (fun x y => x || y) n va n R = ((n : Int), O, 0)
  hE : S = if on then O else T
  f1 : Fit64 P1
  f2 : Fit64 U
  f3 : Fit64 V
  f4 : Fit64 Z
  f5 : Fit64 R
  l1 : va.length ≤ 1000000
theorem morgan_math (n : Nat) (va vb : List Nat) (fa : Fit64 va) (ca : checkB n va = 0) (cb : checkB n vb = 0) (a t : Nat) (on : Bool) (hat : a ≤ t) (htn : t ≤ n) : ∃ P1 P2 U V D Z R S T O, MM n va vb a t on P1 P2 U V D Z R S T O := by
  obtain ⟨n', hn', hn4, hl⟩ := check_ok ca
  obtain rfl : n = n' := by omega
  have c1 := fun f => chk_mk n f hn4
  refine ⟨_, _, _, _, _, _, _, _, _, _, opB_ok ca cb, flipB_ok (c1 _), flipB_ok ca, flipB_ok cb, ?_, opB_ok ca cb, ?_, ?_, (show newB n false = ((n : Int), mkW n fun _ => false, 0) by unfold newB; rw [if_neg (by omega)]; rfl), setB_ok (c1 _) hat htn, setB_ok ca hat htn, opB_ok ca (c1 _), opB_ok ca (c1 _), ?_, mkW_fit _ _, mkW_fit _ _, mkW_fit _ _, mkW_fit _ _, mkW_fit _ _, by omega⟩
  · rw [opB_ok (c1 _) (c1 _)]
    rw [mkW_congr (f := fun i => btW (mkW n fun i => !btW va i) i || btW (mkW n fun i => !btW vb i) i) (g := fun i => !btW (mkW n fun i => btW va i && btW vb i) i) (fun i hi => by simp [mkW_bit, hi])]
  · rw [opB_ok ca (c1 _)]
    rw [mkW_congr (f := fun i => btW va i && btW (mkW n fun i => !btW vb i) i) (g := fun i => btW va i && !btW vb i) (fun i hi => by simp [mkW_bit, hi])]
  · rw [flipB_ok (c1 _)]
    rw [mkW_congr (f := fun i => !btW (mkW n fun i => !btW va i) i) (g := btW va) (fun i hi => by simp [mkW_bit, hi]), ← valid_mk fa ca]
  · cases on
    · simp only [Bool.false_eq_true, if_false]
      exact mkW_congr fun i hi => by
        rw [mkW_bit, mkW_bit]
        by_cases h : a ≤ i ∧ i < t <;> simp [h, hi]
    · simp only [if_true]
      exact mkW_congr fun i hi => by
        rw [mkW_bit, mkW_bit]
        by_cases h : a ≤ i ∧ i < t <;> simp [h, hi]

theorem boxes_three (w : World) (M N : Int) (u v : Value) (a t : Int) (on : Bool) : ∃ wA, ((w.alloc (.cells #[.int .i64 M, u] 24)).alloc (.cells #[.int .i64 N, v] 24)).alloc (.cells #[.int .i64 a, .int .i64 t, .bool on] 26) = wA ∧ Below w.heap.size w wA ∧ BBox wA w.heap.size M u ∧ BBox wA (w.heap.size + 1) N v ∧ wA.heap[w.heap.size + 2]? = some (.cells #[.int .i64 a, .int .i64 t, .bool on] 26 (0, 0)) := by
  obtain ⟨w1, h1, h2, h3, h4⟩ := boxes_two w M N u v
  refine ⟨_, rfl, ?_, ?_, ?_, ?_⟩
  · rw [h1]; exact h2.alloc h2.size _
  · rw [h1]; exact h3.alloc _
  · rw [h1]; exact h4.alloc _
  · have hs : w1.heap.size = w.heap.size + 2 := by rw [← h1]; simp
    have := World.alloc_heap_new w1 (.cells #[.int .i64 a, .int .i64 t, .bool on] 26)
    rw [hs] at this
    rw [h1]; exact this

set_option maxRecDepth 100000 in
set_option maxHeartbeats 2000000 in
theorem morgan_skip (M N : Int) (u v : Value) (va vb : List Nat) (fa : Fit64 va) (fb : Fit64 vb) (a t : Int) (on : Bool) (w : World) (gd0 : Gd w) (ha : WAt w u va) (hb : WAt w v vb) (hno : ¬ (checkB M va = 0 ∧ checkB N vb = 0 ∧ M = N ∧ 0 ≤ a ∧ a ≤ t ∧ t ≤ M)) :
    Calls Tryd.prog 10 #[bv M u, bv N v, pv a t on] w fun e w' => e = .returned (.bool true) ∧ Below w.heap.size w w' := by
  obtain ⟨wA, hwA, hAB, bA, bB, pA⟩ := boxes_three w M N u v a t on
  have hA := ha.later hAB
  have hB := hb.later hAB
  have hgA := gd0.later hAB
  have HW := Lib.hid hwA
  clear hwA
  obtain ⟨ca, hca⟩ : ∃ x, checkB M va = x := ⟨_, rfl⟩
  obtain ⟨cb, hcb⟩ : ∃ x, checkB N vb = x := ⟨_, rfl⟩
  rw [hca, hcb] at hno
  have HA := Lib.hid hca
  have HB := Lib.hid hcb
  clear hca hcb
  by_cases h1 : ca = 0
  case neg =>
    have hq : (ca != 0) = true := by simp [h1]
    clear h1 hno
    go_enter Tryd.func10, Tryd.ntmps10
    go_wp2_with fail
    rw [HW.out]
    have xA0_0 := bA.c0
    have xA1_0 := bA.c1
    have xlA_0 := bA.lt
    have xfA0_0 := bA.fz 0
    have xfA1_0 := bA.fz 1
    have xB0_0 := bB.c0
    have xB1_0 := bB.c1
    have xlB_0 := bB.lt
    have xfB0_0 := bB.fz 0
    have xfB1_0 := bB.fz 1
    obtain ⟨pa_0, pb_0, pc_0⟩ := part_cells pA (Below.refl _ _)
    have pl_0 := (Array.getElem?_eq_some_iff.1 pA).1
    refine (RefCheck_is M u va fa _ hA ca HA.out).mono ?_
    rintro e w1 ⟨rfl, B1⟩
    clear xA0_0 xA1_0 xlA_0 xfA0_0 xfA1_0 xB0_0 xB1_0 xlB_0 xfB0_0 xfB1_0 pa_0 pb_0 pc_0 pl_0
    have D1 := hAB.trans (B1.mono hAB.size)
    have bA_1 := bA.later B1
    have bB_1 := bB.later B1
    have hA_1 := hA.later B1
    have hB_1 := hB.later B1
    have p_1 := (B1.block _ (Array.getElem?_eq_some_iff.1 pA).1).trans pA
    have gd_1 := hgA.later B1
    have xA0_1 := bA_1.c0
    have xA1_1 := bA_1.c1
    have xlA_1 := bA_1.lt
    have xfA0_1 := bA_1.fz 0
    have xfA1_1 := bA_1.fz 1
    have xB0_1 := bB_1.c0
    have xB1_1 := bB_1.c1
    have xlB_1 := bB_1.lt
    have xfB0_1 := bB_1.fz 0
    have xfB1_1 := bB_1.fz 1
    obtain ⟨pa_1, pb_1, pc_1⟩ := part_cells p_1 (Below.refl _ _)
    have pl_1 := (Array.getElem?_eq_some_iff.1 p_1).1
    go_wp2_with fail
    refine (awake_any _ gd_1).mono ?_
    rintro e w2 ⟨rfl, B2⟩
    clear xA0_1 xA1_1 xlA_1 xfA0_1 xfA1_1 xB0_1 xB1_1 xlB_1 xfB0_1 xfB1_1 pa_1 pb_1 pc_1 pl_1
    have D2 := D1.trans (B2.mono D1.size)
    have bA_2 := bA_1.later B2
    have bB_2 := bB_1.later B2
    have hA_2 := hA_1.later B2
    have hB_2 := hB_1.later B2
    have p_2 := (B2.block _ (Array.getElem?_eq_some_iff.1 p_1).1).trans p_1
    have gd_2 := gd_1.later B2
    have xA0_2 := bA_2.c0
    have xA1_2 := bA_2.c1
    have xlA_2 := bA_2.lt
    have xfA0_2 := bA_2.fz 0
    have xfA1_2 := bA_2.fz 1
    have xB0_2 := bB_2.c0
    have xB1_2 := bB_2.c1
    have xlB_2 := bB_2.lt
    have xfB0_2 := bB_2.fz 0
    have xfB1_2 := bB_2.fz 1
    obtain ⟨pa_2, pb_2, pc_2⟩ := part_cells p_2 (Below.refl _ _)
    have pl_2 := (Array.getElem?_eq_some_iff.1 p_2).1
    go_wp2
    go_ret
    exact ⟨rfl, D2⟩
  subst h1
  by_cases h2 : cb = 0
  case neg =>
    have hq : (cb != 0) = true := by simp [h2]
    clear h2 hno
    go_enter Tryd.func10, Tryd.ntmps10
    go_wp2_with fail
    rw [HW.out]
    have xA0_0 := bA.c0
    have xA1_0 := bA.c1
    have xlA_0 := bA.lt
    have xfA0_0 := bA.fz 0
    have xfA1_0 := bA.fz 1
    have xB0_0 := bB.c0
    have xB1_0 := bB.c1
    have xlB_0 := bB.lt
    have xfB0_0 := bB.fz 0
    have xfB1_0 := bB.fz 1
    obtain ⟨pa_0, pb_0, pc_0⟩ := part_cells pA (Below.refl _ _)
    have pl_0 := (Array.getElem?_eq_some_iff.1 pA).1
    refine (RefCheck_is M u va fa _ hA 0 HA.out).mono ?_
    rintro e w1 ⟨rfl, B1⟩
    clear xA0_0 xA1_0 xlA_0 xfA0_0 xfA1_0 xB0_0 xB1_0 xlB_0 xfB0_0 xfB1_0 pa_0 pb_0 pc_0 pl_0
    have D1 := hAB.trans (B1.mono hAB.size)
    have bA_1 := bA.later B1
    have bB_1 := bB.later B1
    have hA_1 := hA.later B1
    have hB_1 := hB.later B1
    have p_1 := (B1.block _ (Array.getElem?_eq_some_iff.1 pA).1).trans pA
    have gd_1 := hgA.later B1
    have xA0_1 := bA_1.c0
    have xA1_1 := bA_1.c1
    have xlA_1 := bA_1.lt
    have xfA0_1 := bA_1.fz 0
    have xfA1_1 := bA_1.fz 1
    have xB0_1 := bB_1.c0
    have xB1_1 := bB_1.c1
    have xlB_1 := bB_1.lt
    have xfB0_1 := bB_1.fz 0
    have xfB1_1 := bB_1.fz 1
    obtain ⟨pa_1, pb_1, pc_1⟩ := part_cells p_1 (Below.refl _ _)
    have pl_1 := (Array.getElem?_eq_some_iff.1 p_1).1
    go_wp2_with fail
    refine (RefCheck_is N v vb fb _ hB_1 cb HB.out).mono ?_
    rintro e w2 ⟨rfl, B2⟩
    clear xA0_1 xA1_1 xlA_1 xfA0_1 xfA1_1 xB0_1 xB1_1 xlB_1 xfB0_1 xfB1_1 pa_1 pb_1 pc_1 pl_1
    have D2 := D1.trans (B2.mono D1.size)
    have bA_2 := bA_1.later B2
    have bB_2 := bB_1.later B2
    have hA_2 := hA_1.later B2
    have hB_2 := hB_1.later B2
    have p_2 := (B2.block _ (Array.getElem?_eq_some_iff.1 p_1).1).trans p_1
    have gd_2 := gd_1.later B2
    have xA0_2 := bA_2.c0
    have xA1_2 := bA_2.c1
    have xlA_2 := bA_2.lt
    have xfA0_2 := bA_2.fz 0
    have xfA1_2 := bA_2.fz 1
    have xB0_2 := bB_2.c0
    have xB1_2 := bB_2.c1
    have xlB_2 := bB_2.lt
    have xfB0_2 := bB_2.fz 0
    have xfB1_2 := bB_2.fz 1
    obtain ⟨pa_2, pb_2, pc_2⟩ := part_cells p_2 (Below.refl _ _)
    have pl_2 := (Array.getElem?_eq_some_iff.1 p_2).1
    go_wp2_with fail
    refine (awake_any _ gd_2).mono ?_
    rintro e w3 ⟨rfl, B3⟩
    clear xA0_2 xA1_2 xlA_2 xfA0_2 xfA1_2 xB0_2 xB1_2 xlB_2 xfB0_2 xfB1_2 pa_2 pb_2 pc_2 pl_2
    have D3 := D2.trans (B3.mono D2.size)
    have bA_3 := bA_2.later B3
    have bB_3 := bB_2.later B3
    have hA_3 := hA_2.later B3
    have hB_3 := hB_2.later B3
    have p_3 := (B3.block _ (Array.getElem?_eq_some_iff.1 p_2).1).trans p_2
    have gd_3 := gd_2.later B3
    have xA0_3 := bA_3.c0
    have xA1_3 := bA_3.c1
    have xlA_3 := bA_3.lt
    have xfA0_3 := bA_3.fz 0
    have xfA1_3 := bA_3.fz 1
    have xB0_3 := bB_3.c0
    have xB1_3 := bB_3.c1
    have xlB_3 := bB_3.lt
    have xfB0_3 := bB_3.fz 0
    have xfB1_3 := bB_3.fz 1
    obtain ⟨pa_3, pb_3, pc_3⟩ := part_cells p_3 (Below.refl _ _)
    have pl_3 := (Array.getElem?_eq_some_iff.1 p_3).1
    go_wp2
    go_ret
    exact ⟨rfl, D3⟩
  subst h2
  by_cases h3 : M = N
  case neg =>
    have hq : (M != N) = true := by simp [h3]
    clear h3 hno
    go_enter Tryd.func10, Tryd.ntmps10
    go_wp2_with fail
    rw [HW.out]
    have xA0_0 := bA.c0
    have xA1_0 := bA.c1
    have xlA_0 := bA.lt
    have xfA0_0 := bA.fz 0
    have xfA1_0 := bA.fz 1
    have xB0_0 := bB.c0
    have xB1_0 := bB.c1
    have xlB_0 := bB.lt
    have xfB0_0 := bB.fz 0
    have xfB1_0 := bB.fz 1
    obtain ⟨pa_0, pb_0, pc_0⟩ := part_cells pA (Below.refl _ _)
    have pl_0 := (Array.getElem?_eq_some_iff.1 pA).1
    refine (RefCheck_is M u va fa _ hA 0 HA.out).mono ?_
    rintro e w1 ⟨rfl, B1⟩
    clear xA0_0 xA1_0 xlA_0 xfA0_0 xfA1_0 xB0_0 xB1_0 xlB_0 xfB0_0 xfB1_0 pa_0 pb_0 pc_0 pl_0
    have D1 := hAB.trans (B1.mono hAB.size)
    have bA_1 := bA.later B1
    have bB_1 := bB.later B1
    have hA_1 := hA.later B1
    have hB_1 := hB.later B1
    have p_1 := (B1.block _ (Array.getElem?_eq_some_iff.1 pA).1).trans pA
    have gd_1 := hgA.later B1
    have xA0_1 := bA_1.c0
    have xA1_1 := bA_1.c1
    have xlA_1 := bA_1.lt
    have xfA0_1 := bA_1.fz 0
    have xfA1_1 := bA_1.fz 1
    have xB0_1 := bB_1.c0
    have xB1_1 := bB_1.c1
    have xlB_1 := bB_1.lt
    have xfB0_1 := bB_1.fz 0
    have xfB1_1 := bB_1.fz 1
    obtain ⟨pa_1, pb_1, pc_1⟩ := part_cells p_1 (Below.refl _ _)
    have pl_1 := (Array.getElem?_eq_some_iff.1 p_1).1
    go_wp2_with fail
    refine (RefCheck_is N v vb fb _ hB_1 0 HB.out).mono ?_
    rintro e w2 ⟨rfl, B2⟩
    clear xA0_1 xA1_1 xlA_1 xfA0_1 xfA1_1 xB0_1 xB1_1 xlB_1 xfB0_1 xfB1_1 pa_1 pb_1 pc_1 pl_1
    have D2 := D1.trans (B2.mono D1.size)
    have bA_2 := bA_1.later B2
    have bB_2 := bB_1.later B2
    have hA_2 := hA_1.later B2
    have hB_2 := hB_1.later B2
    have p_2 := (B2.block _ (Array.getElem?_eq_some_iff.1 p_1).1).trans p_1
    have gd_2 := gd_1.later B2
    have xA0_2 := bA_2.c0
    have xA1_2 := bA_2.c1
    have xlA_2 := bA_2.lt
    have xfA0_2 := bA_2.fz 0
    have xfA1_2 := bA_2.fz 1
    have xB0_2 := bB_2.c0
    have xB1_2 := bB_2.c1
    have xlB_2 := bB_2.lt
    have xfB0_2 := bB_2.fz 0
    have xfB1_2 := bB_2.fz 1
    obtain ⟨pa_2, pb_2, pc_2⟩ := part_cells p_2 (Below.refl _ _)
    have pl_2 := (Array.getElem?_eq_some_iff.1 p_2).1
    go_wp2_with fail
    refine (awake_any _ gd_2).mono ?_
    rintro e w3 ⟨rfl, B3⟩
    clear xA0_2 xA1_2 xlA_2 xfA0_2 xfA1_2 xB0_2 xB1_2 xlB_2 xfB0_2 xfB1_2 pa_2 pb_2 pc_2 pl_2
    have D3 := D2.trans (B3.mono D2.size)
    have bA_3 := bA_2.later B3
    have bB_3 := bB_2.later B3
    have hA_3 := hA_2.later B3
    have hB_3 := hB_2.later B3
    have p_3 := (B3.block _ (Array.getElem?_eq_some_iff.1 p_2).1).trans p_2
    have gd_3 := gd_2.later B3
    have xA0_3 := bA_3.c0
    have xA1_3 := bA_3.c1
    have xlA_3 := bA_3.lt
    have xfA0_3 := bA_3.fz 0
    have xfA1_3 := bA_3.fz 1
    have xB0_3 := bB_3.c0
    have xB1_3 := bB_3.c1
    have xlB_3 := bB_3.lt
    have xfB0_3 := bB_3.fz 0
    have xfB1_3 := bB_3.fz 1
    obtain ⟨pa_3, pb_3, pc_3⟩ := part_cells p_3 (Below.refl _ _)
    have pl_3 := (Array.getElem?_eq_some_iff.1 p_3).1
    go_wp2
    go_ret
    exact ⟨rfl, D3⟩
  subst h3
  by_cases h4 : a < 0
  case pos =>
    clear hno
    go_enter Tryd.func10, Tryd.ntmps10
    go_wp2_with fail
    rw [HW.out]
    have xA0_0 := bA.c0
    have xA1_0 := bA.c1
    have xlA_0 := bA.lt
    have xfA0_0 := bA.fz 0
    have xfA1_0 := bA.fz 1
    have xB0_0 := bB.c0
    have xB1_0 := bB.c1
    have xlB_0 := bB.lt
    have xfB0_0 := bB.fz 0
    have xfB1_0 := bB.fz 1
    obtain ⟨pa_0, pb_0, pc_0⟩ := part_cells pA (Below.refl _ _)
    have pl_0 := (Array.getElem?_eq_some_iff.1 pA).1
    refine (RefCheck_is M u va fa _ hA 0 HA.out).mono ?_
    rintro e w1 ⟨rfl, B1⟩
    clear xA0_0 xA1_0 xlA_0 xfA0_0 xfA1_0 xB0_0 xB1_0 xlB_0 xfB0_0 xfB1_0 pa_0 pb_0 pc_0 pl_0
    have D1 := hAB.trans (B1.mono hAB.size)
    have bA_1 := bA.later B1
    have bB_1 := bB.later B1
    have hA_1 := hA.later B1
    have hB_1 := hB.later B1
    have p_1 := (B1.block _ (Array.getElem?_eq_some_iff.1 pA).1).trans pA
    have gd_1 := hgA.later B1
    have xA0_1 := bA_1.c0
    have xA1_1 := bA_1.c1
    have xlA_1 := bA_1.lt
    have xfA0_1 := bA_1.fz 0
    have xfA1_1 := bA_1.fz 1
    have xB0_1 := bB_1.c0
    have xB1_1 := bB_1.c1
    have xlB_1 := bB_1.lt
    have xfB0_1 := bB_1.fz 0
    have xfB1_1 := bB_1.fz 1
    obtain ⟨pa_1, pb_1, pc_1⟩ := part_cells p_1 (Below.refl _ _)
    have pl_1 := (Array.getElem?_eq_some_iff.1 p_1).1
    go_wp2_with fail
    refine (RefCheck_is M v vb fb _ hB_1 0 HB.out).mono ?_
    rintro e w2 ⟨rfl, B2⟩
    clear xA0_1 xA1_1 xlA_1 xfA0_1 xfA1_1 xB0_1 xB1_1 xlB_1 xfB0_1 xfB1_1 pa_1 pb_1 pc_1 pl_1
    have D2 := D1.trans (B2.mono D1.size)
    have bA_2 := bA_1.later B2
    have bB_2 := bB_1.later B2
    have hA_2 := hA_1.later B2
    have hB_2 := hB_1.later B2
    have p_2 := (B2.block _ (Array.getElem?_eq_some_iff.1 p_1).1).trans p_1
    have gd_2 := gd_1.later B2
    have xA0_2 := bA_2.c0
    have xA1_2 := bA_2.c1
    have xlA_2 := bA_2.lt
    have xfA0_2 := bA_2.fz 0
    have xfA1_2 := bA_2.fz 1
    have xB0_2 := bB_2.c0
    have xB1_2 := bB_2.c1
    have xlB_2 := bB_2.lt
    have xfB0_2 := bB_2.fz 0
    have xfB1_2 := bB_2.fz 1
    obtain ⟨pa_2, pb_2, pc_2⟩ := part_cells p_2 (Below.refl _ _)
    have pl_2 := (Array.getElem?_eq_some_iff.1 p_2).1
    go_wp2_with fail
    refine (awake_any _ gd_2).mono ?_
    rintro e w3 ⟨rfl, B3⟩
    clear xA0_2 xA1_2 xlA_2 xfA0_2 xfA1_2 xB0_2 xB1_2 xlB_2 xfB0_2 xfB1_2 pa_2 pb_2 pc_2 pl_2
    have D3 := D2.trans (B3.mono D2.size)
    have bA_3 := bA_2.later B3
    have bB_3 := bB_2.later B3
    have hA_3 := hA_2.later B3
    have hB_3 := hB_2.later B3
    have p_3 := (B3.block _ (Array.getElem?_eq_some_iff.1 p_2).1).trans p_2
    have gd_3 := gd_2.later B3
    have xA0_3 := bA_3.c0
    have xA1_3 := bA_3.c1
    have xlA_3 := bA_3.lt
    have xfA0_3 := bA_3.fz 0
    have xfA1_3 := bA_3.fz 1
    have xB0_3 := bB_3.c0
    have xB1_3 := bB_3.c1
    have xlB_3 := bB_3.lt
    have xfB0_3 := bB_3.fz 0
    have xfB1_3 := bB_3.fz 1
    obtain ⟨pa_3, pb_3, pc_3⟩ := part_cells p_3 (Below.refl _ _)
    have pl_3 := (Array.getElem?_eq_some_iff.1 p_3).1
    go_wp2
    go_ret
    exact ⟨rfl, D3⟩
  by_cases h5 : t < a
  case pos =>
    clear hno
    go_enter Tryd.func10, Tryd.ntmps10
    go_wp2_with fail
    rw [HW.out]
    have xA0_0 := bA.c0
    have xA1_0 := bA.c1
    have xlA_0 := bA.lt
    have xfA0_0 := bA.fz 0
    have xfA1_0 := bA.fz 1
    have xB0_0 := bB.c0
    have xB1_0 := bB.c1
    have xlB_0 := bB.lt
    have xfB0_0 := bB.fz 0
    have xfB1_0 := bB.fz 1
    obtain ⟨pa_0, pb_0, pc_0⟩ := part_cells pA (Below.refl _ _)
    have pl_0 := (Array.getElem?_eq_some_iff.1 pA).1
    refine (RefCheck_is M u va fa _ hA 0 HA.out).mono ?_
    rintro e w1 ⟨rfl, B1⟩
    clear xA0_0 xA1_0 xlA_0 xfA0_0 xfA1_0 xB0_0 xB1_0 xlB_0 xfB0_0 xfB1_0 pa_0 pb_0 pc_0 pl_0
    have D1 := hAB.trans (B1.mono hAB.size)
    have bA_1 := bA.later B1
    have bB_1 := bB.later B1
    have hA_1 := hA.later B1
    have hB_1 := hB.later B1
    have p_1 := (B1.block _ (Array.getElem?_eq_some_iff.1 pA).1).trans pA
    have gd_1 := hgA.later B1
    have xA0_1 := bA_1.c0
    have xA1_1 := bA_1.c1
    have xlA_1 := bA_1.lt
    have xfA0_1 := bA_1.fz 0
    have xfA1_1 := bA_1.fz 1
    have xB0_1 := bB_1.c0
    have xB1_1 := bB_1.c1
    have xlB_1 := bB_1.lt
    have xfB0_1 := bB_1.fz 0
    have xfB1_1 := bB_1.fz 1
    obtain ⟨pa_1, pb_1, pc_1⟩ := part_cells p_1 (Below.refl _ _)
    have pl_1 := (Array.getElem?_eq_some_iff.1 p_1).1
    go_wp2_with fail
    refine (RefCheck_is M v vb fb _ hB_1 0 HB.out).mono ?_
    rintro e w2 ⟨rfl, B2⟩
    clear xA0_1 xA1_1 xlA_1 xfA0_1 xfA1_1 xB0_1 xB1_1 xlB_1 xfB0_1 xfB1_1 pa_1 pb_1 pc_1 pl_1
    have D2 := D1.trans (B2.mono D1.size)
    have bA_2 := bA_1.later B2
    have bB_2 := bB_1.later B2
    have hA_2 := hA_1.later B2
    have hB_2 := hB_1.later B2
    have p_2 := (B2.block _ (Array.getElem?_eq_some_iff.1 p_1).1).trans p_1
    have gd_2 := gd_1.later B2
    have xA0_2 := bA_2.c0
    have xA1_2 := bA_2.c1
    have xlA_2 := bA_2.lt
    have xfA0_2 := bA_2.fz 0
    have xfA1_2 := bA_2.fz 1
    have xB0_2 := bB_2.c0
    have xB1_2 := bB_2.c1
    have xlB_2 := bB_2.lt
    have xfB0_2 := bB_2.fz 0
    have xfB1_2 := bB_2.fz 1
    obtain ⟨pa_2, pb_2, pc_2⟩ := part_cells p_2 (Below.refl _ _)
    have pl_2 := (Array.getElem?_eq_some_iff.1 p_2).1
    go_wp2_with fail
    refine (awake_any _ gd_2).mono ?_
    rintro e w3 ⟨rfl, B3⟩
    clear xA0_2 xA1_2 xlA_2 xfA0_2 xfA1_2 xB0_2 xB1_2 xlB_2 xfB0_2 xfB1_2 pa_2 pb_2 pc_2 pl_2
    have D3 := D2.trans (B3.mono D2.size)
    have bA_3 := bA_2.later B3
    have bB_3 := bB_2.later B3
    have hA_3 := hA_2.later B3
    have hB_3 := hB_2.later B3
    have p_3 := (B3.block _ (Array.getElem?_eq_some_iff.1 p_2).1).trans p_2
    have gd_3 := gd_2.later B3
    have xA0_3 := bA_3.c0
    have xA1_3 := bA_3.c1
    have xlA_3 := bA_3.lt
    have xfA0_3 := bA_3.fz 0
    have xfA1_3 := bA_3.fz 1
    have xB0_3 := bB_3.c0
    have xB1_3 := bB_3.c1
    have xlB_3 := bB_3.lt
    have xfB0_3 := bB_3.fz 0
    have xfB1_3 := bB_3.fz 1
    obtain ⟨pa_3, pb_3, pc_3⟩ := part_cells p_3 (Below.refl _ _)
    have pl_3 := (Array.getElem?_eq_some_iff.1 p_3).1
    go_wp2
    go_ret
    exact ⟨rfl, D3⟩
  have h6 : M < t := by
    rcases Int.lt_or_le M t with h | h
    · exact h
    · exact absurd ⟨rfl, rfl, rfl, by omega, by omega, h⟩ hno
  clear hno
  go_enter Tryd.func10, Tryd.ntmps10
  go_wp2_with fail
  rw [HW.out]
  have xA0_0 := bA.c0
  have xA1_0 := bA.c1
  have xlA_0 := bA.lt
  have xfA0_0 := bA.fz 0
  have xfA1_0 := bA.fz 1
  have xB0_0 := bB.c0
  have xB1_0 := bB.c1
  have xlB_0 := bB.lt
  have xfB0_0 := bB.fz 0
  have xfB1_0 := bB.fz 1
  obtain ⟨pa_0, pb_0, pc_0⟩ := part_cells pA (Below.refl _ _)
  have pl_0 := (Array.getElem?_eq_some_iff.1 pA).1
  refine (RefCheck_is M u va fa _ hA 0 HA.out).mono ?_
  rintro e w1 ⟨rfl, B1⟩
  clear xA0_0 xA1_0 xlA_0 xfA0_0 xfA1_0 xB0_0 xB1_0 xlB_0 xfB0_0 xfB1_0 pa_0 pb_0 pc_0 pl_0
  have D1 := hAB.trans (B1.mono hAB.size)
  have bA_1 := bA.later B1
  have bB_1 := bB.later B1
  have hA_1 := hA.later B1
  have hB_1 := hB.later B1
  have p_1 := (B1.block _ (Array.getElem?_eq_some_iff.1 pA).1).trans pA
  have gd_1 := hgA.later B1
  have xA0_1 := bA_1.c0
  have xA1_1 := bA_1.c1
  have xlA_1 := bA_1.lt
  have xfA0_1 := bA_1.fz 0
  have xfA1_1 := bA_1.fz 1
  have xB0_1 := bB_1.c0
  have xB1_1 := bB_1.c1
  have xlB_1 := bB_1.lt
  have xfB0_1 := bB_1.fz 0
  have xfB1_1 := bB_1.fz 1
  obtain ⟨pa_1, pb_1, pc_1⟩ := part_cells p_1 (Below.refl _ _)
  have pl_1 := (Array.getElem?_eq_some_iff.1 p_1).1
  go_wp2_with fail
  refine (RefCheck_is M v vb fb _ hB_1 0 HB.out).mono ?_
  rintro e w2 ⟨rfl, B2⟩
  clear xA0_1 xA1_1 xlA_1 xfA0_1 xfA1_1 xB0_1 xB1_1 xlB_1 xfB0_1 xfB1_1 pa_1 pb_1 pc_1 pl_1
  have D2 := D1.trans (B2.mono D1.size)
  have bA_2 := bA_1.later B2
  have bB_2 := bB_1.later B2
  have hA_2 := hA_1.later B2
  have hB_2 := hB_1.later B2
  have p_2 := (B2.block _ (Array.getElem?_eq_some_iff.1 p_1).1).trans p_1
  have gd_2 := gd_1.later B2
  have xA0_2 := bA_2.c0
  have xA1_2 := bA_2.c1
  have xlA_2 := bA_2.lt
  have xfA0_2 := bA_2.fz 0
  have xfA1_2 := bA_2.fz 1
  have xB0_2 := bB_2.c0
  have xB1_2 := bB_2.c1
  have xlB_2 := bB_2.lt
  have xfB0_2 := bB_2.fz 0
  have xfB1_2 := bB_2.fz 1
  obtain ⟨pa_2, pb_2, pc_2⟩ := part_cells p_2 (Below.refl _ _)
  have pl_2 := (Array.getElem?_eq_some_iff.1 p_2).1
  go_wp2_with fail
  refine (awake_any _ gd_2).mono ?_
  rintro e w3 ⟨rfl, B3⟩
  clear xA0_2 xA1_2 xlA_2 xfA0_2 xfA1_2 xB0_2 xB1_2 xlB_2 xfB0_2 xfB1_2 pa_2 pb_2 pc_2 pl_2
  have D3 := D2.trans (B3.mono D2.size)
  have bA_3 := bA_2.later B3
  have bB_3 := bB_2.later B3
  have hA_3 := hA_2.later B3
  have hB_3 := hB_2.later B3
  have p_3 := (B3.block _ (Array.getElem?_eq_some_iff.1 p_2).1).trans p_2
  have gd_3 := gd_2.later B3
  have xA0_3 := bA_3.c0
  have xA1_3 := bA_3.c1
  have xlA_3 := bA_3.lt
  have xfA0_3 := bA_3.fz 0
  have xfA1_3 := bA_3.fz 1
  have xB0_3 := bB_3.c0
  have xB1_3 := bB_3.c1
  have xlB_3 := bB_3.lt
  have xfB0_3 := bB_3.fz 0
  have xfB1_3 := bB_3.fz 1
  obtain ⟨pa_3, pb_3, pc_3⟩ := part_cells p_3 (Below.refl _ _)
  have pl_3 := (Array.getElem?_eq_some_iff.1 p_3).1
  go_wp2
  go_ret
  exact ⟨rfl, D3⟩
end Go.Proofs.YtpplleojdcgceaaDoor
