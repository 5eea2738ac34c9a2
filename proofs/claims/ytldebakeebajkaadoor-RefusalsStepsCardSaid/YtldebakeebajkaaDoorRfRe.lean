/- wide; RefusalsRests. -/
import Derived.Test.YtldebakeebajkaaDoorRfRs
import Derived.Test.YtldebakeebajkaaDoorRfPr
namespace Go.Proofs.YtldebakeebajkaaDoor
open Go.RowKit Go.Shelf
attribute [local go_sem] Oper.semAt_some

def wdB (c : Nat → Int) : Bool := (List.range 7).any fun k => decide (3000 < c k) && decide (c k ≤ 1000000)
theorem wdB_false {c : Nat → Int} (h : wdB c = false) (k : Nat) (hk : k < 7) : c k ≤ 3000 ∨ 1000000 < c k := by
  unfold wdB at h
  rw [List.any_eq_false] at h
  have := h k (List.mem_range.2 hk)
  simp at this
  omega
theorem wdB_true {c : Nat → Int} (k : Nat) (hk : k < 7) (h1 : 3000 < c k) (h2 : c k ≤ 1000000) : wdB c = true := by
  unfold wdB
  rw [List.any_eq_true]
  exact ⟨k, List.mem_range.2 hk, by simp [h1, h2]⟩
theorem wdB_none {c : Nat → Int} (h : ∀ k, k < 7 → ¬ (3000 < c k ∧ c k ≤ 1000000)) : wdB c = false := by
  unfold wdB
  rw [List.any_eq_false]
  intro k hk
  have := h k (List.mem_range.1 hk)
  simp
  omega
set_option maxRecDepth 100000 in
set_option maxHeartbeats 2000000 in
theorem wide_is (v : Value) (l : List RlI) (c h : Nat → Int) (b : Bool) (hb0 : (wdB c || farB l.length) = b) (w : World) (hr : RAt w v l) :
    Calls Tryd.prog 27 #[stV v c h] w fun e w' => e = .returned (.bool b) ∧ Below w.heap.size w w' := by
  obtain ⟨WL, hWL⟩ : ∃ x, w.alloc (.cells (stA v c h) 40) = x := ⟨_, rfl⟩
  have hb : Below w.heap.size w WL := by rw [← hWL]; exact (Below.refl _ _).alloc (Nat.le_refl _) _
  have sS : SBox WL w.heap.size v c h := by rw [← hWL]; exact SBox.new w v c h
  have HB := Lib.hid hb0
  clear hb0
  go_enter Tryd.func27, Tryd.ntmps27
  go_wp2_with fail
  try rw [hWL]
  go_loopw [3] (fun i wr => ∃ k : Nat, k ≤ 7 ∧ i = .int .i64 k ∧ Hid (∀ j, j < k → ¬ (3000 < c j ∧ c j ≤ 1000000)) ∧ Below WL.heap.size WL wr) (fun i _ => 7 - (intOf i).toNat)
  case atStart => exact ⟨0, Nat.zero_le _, rfl, (fun j hj => by omega), Below.refl _ _⟩
  case round =>
    obtain ⟨k, hk, rfl, HO, hB⟩ := hrel
    have s1 := sS.later hB
    by_cases hlt : k < 7
    · have hck := s1.c k hlt
      have hi1 : (k : Int) < 7 := by omega
      have har := arr7
      obtain ⟨ck, hc⟩ : ∃ x, c k = x := ⟨_, rfl⟩
      rw [hc] at hck
      by_cases h1 : 3000 < ck
      · by_cases h2 : ck ≤ 1000000
        · have hbt : b = true := by rw [← HB.out, wdB_true k hlt (by rw [hc]; exact h1) (by rw [hc]; exact h2), Bool.true_or]
          clear hc
          go_wp2_with fail
          go_ret
          exact ⟨ret_bool hbt.symm, hb.trans (hB.mono hb.size)⟩
        · have HO2 : Hid (∀ j, j < k + 1 → ¬ (3000 < c j ∧ c j ≤ 1000000)) := fun j hj => by
            by_cases hjk : j < k
            · exact HO.out j hjk
            · obtain rfl : j = k := by omega
              rw [hc]; omega
          clear hc HO
          go_wp2_with fail
          go_roundw
          case rel => exact ⟨k + 1, by omega, by go_num, HO2, hB⟩
          case measure => simp [intOf]; omega
      · have HO2 : Hid (∀ j, j < k + 1 → ¬ (3000 < c j ∧ c j ≤ 1000000)) := fun j hj => by
          by_cases hjk : j < k
          · exact HO.out j hjk
          · obtain rfl : j = k := by omega
            rw [hc]; omega
        clear hc HO
        go_wp2_with fail
        go_roundw
        case rel => exact ⟨k + 1, by omega, by go_num, HO2, hB⟩
        case measure => simp [intOf]; omega
    · have hi1 : ¬ ((k : Int) < 7) := by omega
      have q1 := s1.v
      have hfb : farB l.length = b := by rw [← HB.out, wdB_none fun j hj => HO.out j (by omega), Bool.false_or]
      have HF := Lib.hid (far_is v l b hfb wr ((hr.later hb).later hB))
      clear hfb HB
      go_wp2_with fail
      refine HF.out.mono ?_
      rintro e w2 ⟨rfl, B2⟩
      go_wp2_with fail
      go_ret
      exact ⟨rfl, hb.trans ((hB.trans (B2.mono hB.size)).mono hb.size)⟩

set_option maxRecDepth 100000 in
set_option maxHeartbeats 2000000 in
theorem rests_wide (v : Value) (l : List RlI) (c h : Nat → Int) (hwd : (wdB c || farB l.length) = true) (y1 y2 : Nat) (w : World) (hw : Gd w) (hr : RAt w v l) :
    Calls Tryd.prog 10 #[stV v c h, .int .u8 (y1 : Int), .int .u16 (y2 : Int)] w fun e w' => e = .returned (.bool true) ∧ Below w.heap.size w w' := by
  obtain ⟨WL, hWL⟩ : ∃ x, w.alloc (.cells (stA v c h) 40) = x := ⟨_, rfl⟩
  have hb : Below w.heap.size w WL := by rw [← hWL]; exact (Below.refl _ _).alloc (Nat.le_refl _) _
  have sS : SBox WL w.heap.size v c h := by rw [← hWL]; exact SBox.new w v c h
  have HF := Lib.hid (wide_is v l c h true hwd WL (hr.later hb))
  clear hwd
  go_enter Tryd.func10, Tryd.ntmps10
  go_wp2_with (refine wpList_load_row rfl 40 _ rfl w.heap.size rfl 40 _ (0, 0) _ sS Tryd.underlying40 rfl (st_i _ _ _) ?_)
  try rw [hWL]
  refine HF.out.mono ?_
  rintro e w1 ⟨rfl, B1⟩
  have hB1 := hb.trans (B1.mono hb.size)
  clear hWL
  go_wp2_with fail
  refine (shown_is _ (hw.later hB1)).mono ?_
  rintro e w2 ⟨rfl, B2⟩
  go_wp2
  go_ret
  exact ⟨rfl, hB1.trans (B2.mono hB1.size)⟩
theorem SBox.cells0 {W : World} {b : Nat} {v : Value} {c h : Nat → Int} (s : SBox W b v c h) : W.cell? ⟨b, 0, none⟩ = some v ∧ (W.cell? ⟨b, 1, none⟩ = some (.int .i64 (c 0)) ∧ W.cell? ⟨b, 2, none⟩ = some (.int .i64 (c 1)) ∧ W.cell? ⟨b, 3, none⟩ = some (.int .i64 (c 2)) ∧ W.cell? ⟨b, 4, none⟩ = some (.int .i64 (c 3)) ∧ W.cell? ⟨b, 5, none⟩ = some (.int .i64 (c 4)) ∧ W.cell? ⟨b, 6, none⟩ = some (.int .i64 (c 5)) ∧ W.cell? ⟨b, 7, none⟩ = some (.int .i64 (c 6))) ∧
    (W.cell? ⟨b, 8, none⟩ = some (.int .i64 (h 0)) ∧ W.cell? ⟨b, 9, none⟩ = some (.int .i64 (h 1)) ∧ W.cell? ⟨b, 10, none⟩ = some (.int .i64 (h 2)) ∧ W.cell? ⟨b, 11, none⟩ = some (.int .i64 (h 3)) ∧ W.cell? ⟨b, 12, none⟩ = some (.int .i64 (h 4)) ∧ W.cell? ⟨b, 13, none⟩ = some (.int .i64 (h 5)) ∧ W.cell? ⟨b, 14, none⟩ = some (.int .i64 (h 6))) :=
  ⟨s.cell 0, ⟨s.cell 1, s.cell 2, s.cell 3, s.cell 4, s.cell 5, s.cell 6, s.cell 7⟩, s.cell 8, s.cell 9, s.cell 10, s.cell 11, s.cell 12, s.cell 13, s.cell 14⟩

set_option maxRecDepth 100000 in
set_option maxHeartbeats 2000000 in
theorem rests_bad (v : Value) (l : List RlI) (c h : Nat → Int) (hwd : (wdB c || farB l.length) = false) (x : Int) (hx : x ≠ 0) (y1 y2 : Nat) (w : World) (hw : Gd w) (hr : RAt w v l)
    (hC : ∀ W, Below w.heap.size w W → Calls Tryd.prog 31 #[stV v c h] W fun e w' => e = .returned (.int .i64 x) ∧ Below W.heap.size W w') :
    Calls Tryd.prog 10 #[stV v c h, .int .u8 (y1 : Int), .int .u16 (y2 : Int)] w fun e w' => e = .returned (.bool true) ∧ Below w.heap.size w w' := by
  obtain ⟨WL, hWL⟩ : ∃ x, w.alloc (.cells (stA v c h) 40) = x := ⟨_, rfl⟩
  have hb : Below w.heap.size w WL := by rw [← hWL]; exact (Below.refl _ _).alloc (Nat.le_refl _) _
  have sS : SBox WL w.heap.size v c h := by rw [← hWL]; exact SBox.new w v c h
  have HF := Lib.hid (wide_is v l c h false hwd WL (hr.later hb))
  have HC := Lib.hid hC
  have HX := Lib.hid hx
  have hq : (x != 0) = true := by simp [hx]
  clear hwd hC hx
  go_enter Tryd.func10, Tryd.ntmps10
  go_wp2_with (refine wpList_load_row rfl 40 _ rfl w.heap.size rfl 40 _ (0, 0) _ sS Tryd.underlying40 rfl (st_i _ _ _) ?_)
  try rw [hWL]
  refine HF.out.mono ?_
  rintro e w1 ⟨rfl, B1⟩
  have hB1 := hb.trans (B1.mono hb.size)
  have s1 := sS.later B1
  clear hWL
  go_wp2_with (refine wpList_load_row rfl 40 _ rfl w.heap.size rfl 40 _ (0, 0) _ s1 Tryd.underlying40 rfl (st_i _ _ _) ?_)
  refine (Rest_bad v c h x HX.out w1 (fun W hW => HC.out W (hB1.trans (hW.mono hB1.size)))).mono ?_
  rintro e w2 ⟨rfl, B2⟩
  have hB2 := hB1.trans (B2.mono hB1.size)
  have s2 := s1.later B2
  obtain ⟨W3, hW3⟩ : ∃ x, w2.alloc (.cells #[.slice none 0 0] 24) = x := ⟨_, rfl⟩
  have l3 : Boxed W3 w2.heap.size 24 (.slice none 0 0) := by rw [← hW3]; exact Boxed.new w2 _ _
  have b3 : Below w2.heap.size w2 W3 := by rw [← hW3]; exact (Below.refl _ _).alloc (Nat.le_refl _) _
  have f3 := l3.frozen
  have q3 := l3.cell
  have l4 := l3.set (.slice none 0 0)
  have q4 := l4.cell
  have b4 : Below w2.heap.size w2 (W3.setCell ⟨w2.heap.size, 0, none⟩ (.slice none 0 0)) := b3.setCell (Nat.le_refl _) _
  obtain ⟨z0, ⟨z1, z2, z3, z4, z5, z6, z7⟩, z8, z9, z10, z11, z12, z13, z14⟩ := (s2.later b4).cells0
  have hB4 := hB2.trans (b4.mono hB2.size)
  go_wp2_with fail
  try rw [hW3]
  refine (HC.out _ hB4).mono ?_
  rintro e w5 ⟨rfl, B5⟩
  have hB5 := hB4.trans (B5.mono hB4.size)
  clear q3 q4 z0 z1 z2 z3 z4 z5 z6 z7 z8 z9 z10 z11 z12 z13 z14
  go_wp2_with fail
  refine (shown_is _ (hw.later hB5)).mono ?_
  rintro e w6 ⟨rfl, B6⟩
  go_wp2
  go_ret
  exact ⟨rfl, hB5.trans (B6.mono hB5.size)⟩

theorem csF_ok {L : List Ru} {c h : Nat → Int} (hf : csF L c h = 0) (k : Nat) (hk : k < 7) : okS L c h k = true := by
  cases ho : okS L c h k with
  | true => rfl
  | false => rw [csF_cut hk ho] at hf; cases hf
end Go.Proofs.YtldebakeebajkaaDoor
