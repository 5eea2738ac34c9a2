/- The law on finding. -/
import Derived.Test.YtpplleojdcgceaaDoorRefNL
namespace Go.Proofs.YtpplleojdcgceaaDoor
open Go.RowKit Go.Shelf
attribute [local go_sem] Oper.semAt_some

theorem far_is (N : Int) (v : Value) (ws : List Nat) (w : World) (h : WAt w v ws) (b : Bool) (hb : decide (100 < ws.length) = b) :
    Calls Tryd.prog 13 #[bv N v] w fun e w' => e = .returned (.bool b) ∧ Below w.heap.size w w' := by
  obtain ⟨a, c, rfl⟩ := h.form
  have hb2 : Hid (decide ((100 : Int) < (ws.length : Int)) = b) := by unfold Hid; rw [← hb, decide_eq_decide]; omega
  clear hb
  go_enter Tryd.func13, Tryd.ntmps13
  go_wp2
  go_ret
  exact ⟨ret_bool hb2.out, (Below.refl _ _).alloc (Nat.le_refl _) _⟩

abbrev pv (a t : Int) (on : Bool) : Value := .agg #[.int .i64 a, .int .i64 t, .bool on]

theorem two_boxes (w : World) (N : Int) (v : Value) (a t : Int) (on : Bool) : ∃ wA, (w.alloc (.cells #[.int .i64 N, v] 24)).alloc (.cells #[.int .i64 a, .int .i64 t, .bool on] 26) = wA ∧ Below w.heap.size w wA ∧ BBox wA w.heap.size N v ∧
    wA.heap[w.heap.size + 1]? = some (.cells #[.int .i64 a, .int .i64 t, .bool on] 26 (0, 0)) := by
  refine ⟨_, rfl, ((Below.refl _ _).alloc (Nat.le_refl _) _).alloc (by simp) _, (BBox.new w N v).alloc _, ?_⟩
  have := World.alloc_heap_new (w.alloc (.cells #[.int .i64 N, v] 24)) (.cells #[.int .i64 a, .int .i64 t, .bool on] 26)
  rw [World.size_alloc] at this
  exact this
theorem part_cells {W V : World} {k : Nat} {a t : Int} {on : Bool} (h : W.heap[k]? = some (.cells #[.int .i64 a, .int .i64 t, .bool on] 26 (0, 0))) (hb : Below W.heap.size W V) :
    V.cell? ⟨k, 0, none⟩ = some (.int .i64 a) ∧ V.cell? ⟨k, 1, none⟩ = some (.int .i64 t) ∧ V.cell? ⟨k, 2, none⟩ = some (.bool on) := by
  have h1 := (hb.block k (Array.getElem?_eq_some_iff.1 h).1).trans h
  simp [World.cell?, h1]

set_option maxRecDepth 100000 in
set_option maxHeartbeats 4000000 in
theorem law_finds (N : Int) (v : Value) (ws : List Nat) (hf : Fit64 ws) (a t : Int) (on : Bool) (k : Int) (w : World) (hgd : Gd w) (h : WAt w v ws) (hk : k ≤ 9223372036854775807) :
    Calls Tryd.prog 4 #[bv N v, pv a t on, .int .i64 k] w fun e w' => e = .returned (.bool true) ∧ Below w.heap.size w w' := by
  obtain ⟨wA, hwA, hAB, bA, pA⟩ := two_boxes w N v a t on
  have hA := h.later hAB
  have hgA := hgd.later hAB
  have HW := Lib.hid hwA
  clear hwA
  cases hfar : decide (100 < ws.length) with
  | true =>
    have HF := Lib.hid hfar
    clear hfar
    go_enter Tryd.func4, Tryd.ntmps4
    go_wp2_with fail
    rw [HW.out]
    refine (far_is N v ws _ hA true HF.out).mono ?_
    rintro e w1 ⟨rfl, hB1⟩
    have D1 := hB1
    have x1 := (bA.later D1).c0
    have y1 := (bA.later D1).c1
    obtain ⟨pa1, pb1, pc1⟩ := part_cells pA D1
    go_wp2_with fail
    refine (awake_any _ (hgA.later D1)).mono ?_
    rintro e w2 ⟨rfl, hB2⟩
    have D2 := D1.trans (hB2.mono D1.size)
    have x2 := (bA.later D2).c0
    have y2 := (bA.later D2).c1
    obtain ⟨pa2, pb2, pc2⟩ := part_cells pA D2
    go_wp2
    go_ret
    exact ⟨rfl, hAB.trans (D2.mono hAB.size)⟩
  | false =>
    have HF := Lib.hid hfar
    clear hfar
    obtain ⟨s1, s2, hs⟩ : ∃ x y, selectB N ws k on = (x, y) := ⟨_, _, rfl⟩
    obtain ⟨n1, n2, hn⟩ : ∃ x y, nextX N ws a on = (x, y) := ⟨_, _, rfl⟩
    obtain ⟨l1, l2, hl⟩ : ∃ x y, lastB N ws t on = (x, y) := ⟨_, _, rfl⟩
    have HS := Lib.hid hs
    have HN := Lib.hid hn
    have HL := Lib.hid hl
    clear hs hn hl
    go_enter Tryd.func4, Tryd.ntmps4
    go_wp2_with fail
    rw [HW.out]
    refine (far_is N v ws _ hA false HF.out).mono ?_
    rintro e w1 ⟨rfl, hB1⟩
    have D1 := hB1
    have x1 := (bA.later D1).c0
    have y1 := (bA.later D1).c1
    obtain ⟨pa1, pb1, pc1⟩ := part_cells pA D1
    go_wp2_with fail
    refine (Select_is N v ws hf _ (hA.later D1) (hgA.later D1) _ _ _ _ hk HS.out).mono ?_
    rintro e w2 ⟨rfl, hB2⟩
    have D2 := D1.trans (hB2.mono D1.size)
    have x2 := (bA.later D2).c0
    have y2 := (bA.later D2).c1
    obtain ⟨pa2, pb2, pc2⟩ := part_cells pA D2
    go_wp2_with fail
    refine (RefSelect_is N k v on ws hf _ (hA.later D2) hk _ _ HS.out).mono ?_
    rintro e w3 ⟨rfl, hB3⟩
    have D3 := D2.trans (hB3.mono D2.size)
    have x3 := (bA.later D3).c0
    have y3 := (bA.later D3).c1
    obtain ⟨pa3, pb3, pc3⟩ := part_cells pA D3
    go_wp2_with fail
    refine (NextX_is N v ws hf _ (hA.later D3) (hgA.later D3) _ _ _ _ HN.out).mono ?_
    rintro e w4 ⟨rfl, hB4⟩
    have D4 := D3.trans (hB4.mono D3.size)
    have x4 := (bA.later D4).c0
    have y4 := (bA.later D4).c1
    obtain ⟨pa4, pb4, pc4⟩ := part_cells pA D4
    go_wp2_with fail
    refine (RefNext_is N a v on ws hf _ (hA.later D4) _ _ HN.out).mono ?_
    rintro e w5 ⟨rfl, hB5⟩
    have D5 := D4.trans (hB5.mono D4.size)
    have x5 := (bA.later D5).c0
    have y5 := (bA.later D5).c1
    obtain ⟨pa5, pb5, pc5⟩ := part_cells pA D5
    go_wp2_with fail
    refine (Last_is N v ws hf _ (hA.later D5) _ _ _ _ HL.out).mono ?_
    rintro e w6 ⟨rfl, hB6⟩
    have D6 := D5.trans (hB6.mono D5.size)
    have x6 := (bA.later D6).c0
    have y6 := (bA.later D6).c1
    obtain ⟨pa6, pb6, pc6⟩ := part_cells pA D6
    go_wp2_with fail
    refine (RefLast_is N t v on ws hf _ (hA.later D6) _ _ HL.out).mono ?_
    rintro e w7 ⟨rfl, hB7⟩
    have D7 := D6.trans (hB7.mono D6.size)
    have x7 := (bA.later D7).c0
    have y7 := (bA.later D7).c1
    obtain ⟨pa7, pb7, pc7⟩ := part_cells pA D7
    go_wp2_with fail
    refine (awake_any _ (hgA.later D7)).mono ?_
    rintro e w8 ⟨rfl, hB8⟩
    have D8 := D7.trans (hB8.mono D7.size)
    have x8 := (bA.later D8).c0
    have y8 := (bA.later D8).c1
    obtain ⟨pa8, pb8, pc8⟩ := part_cells pA D8
    go_wp2
    go_ret
    exact ⟨rfl, hAB.trans (D8.mono hAB.size)⟩
end Go.Proofs.YtpplleojdcgceaaDoor
