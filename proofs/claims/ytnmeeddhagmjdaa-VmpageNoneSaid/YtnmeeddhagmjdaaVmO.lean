/- VmpageNone: every call. -/
import Derived.Test.YtnmeeddhagmjdaaVmN
namespace Go.Proofs.Ytnmeeddhagmjdaa
open Go.RowKit Go.Shelf
attribute [local go_sem] Oper.semAt_some

theorem zero_sys (W : World) : ∃ V, W.alloc (.cells #[nilS, nilS, .int .i64 0, .int .i64 0, .int .i64 0, .int .i64 0, .int .i64 0, .int .i64 0, .int .i64 0, .int .i64 0, .int .i64 0, .int .i64 0, .int .i64 0, .int .i64 0, .int .i64 0, .int .i64 0] 79) = V ∧ Below W.heap.size W V ∧ Unmade V (.pointer (some ⟨W.heap.size, 0, none⟩)) := by
  refine ⟨_, rfl, (Below.refl _ _).alloc (Nat.le_refl _) _, .inr ⟨_, rfl, ?_⟩⟩
  have := World.alloc_heap_new W (.cells #[nilS, nilS, .int .i64 0, .int .i64 0, .int .i64 0, .int .i64 0, .int .i64 0, .int .i64 0, .int .i64 0, .int .i64 0, .int .i64 0, .int .i64 0, .int .i64 0, .int .i64 0, .int .i64 0, .int .i64 0] 79)
  simp only [World.cell?, this]; rfl
set_option maxRecDepth 100000 in
set_option maxHeartbeats 8000000 in
theorem law_none (q a n t b : Int) (h0 : 0 ≤ q) (h1 : q < 256) (r : Value) (w : World) :
    Calls Try.prog 10 #[.agg (acA q a n t b r)] w fun e w' => e = .returned (.bool true) ∧ Below w.heap.size w w' := by
  obtain ⟨W1, hW1⟩ : ∃ x, w.alloc (.cells (acA q a n t b r) 38) = x := ⟨_, rfl⟩
  have hb1 : Below w.heap.size w W1 := by rw [← hW1]; exact (Below.refl _ _).alloc (Nat.le_refl _) _
  have bA : ABx W1 w.heap.size q a n t b r := by rw [← hW1]; exact World.alloc_heap_new w _
  have HC := Lib.hid (fun s w hs => call_no s q a n t b h0 h1 r w hs)
  clear h0 h1
  go_enter Try.func10, Try.ntmps10
  go_wp2_with fail
  try rw [hW1]
  clear hW1
  go_loopw [3, 4, 5, 6, 7, 8, 9, 10, 11] (fun i _ _ _ _ _ _ _ _ wr => ∃ k : Nat, k ≤ 2 ∧ i = .int .i64 k ∧ Below W1.heap.size W1 wr) (fun i _ _ _ _ _ _ _ _ _ => 2 - (intOf i).toNat)
  case atStart => exact ⟨0, by omega, rfl, Below.refl _ _⟩
  case round =>
    obtain ⟨k, hk, rfl, hB⟩ := hrel
    have bA1 := bA.later hB
    have hk3 : k = 0 ∨ k = 1 ∨ k = 2 := by omega
    rcases hk3 with rfl | rfl | rfl
    · have hU0 : Unmade wr (.pointer none) := .inl rfl
      have hB2 := hB
      have bA2 := bA1
      have a1 := bA2.c1
      have a3 := bA2.c3
      have a0 := bA2.c0
      go_wp2_with fail
      refine (Read_no (.pointer none) t wr hU0).mono ?_
      rintro e w' ⟨rfl, rfl⟩
      go_wp2_with fail
      refine (Kind_no (.pointer none) a wr hU0).mono ?_
      rintro e w' ⟨rfl, rfl⟩
      go_wp2_with fail
      refine (Counts_no (.pointer none) wr hU0).mono ?_
      rintro e w3 ⟨rfl, B3⟩
      obtain ⟨W4, hW4⟩ : ∃ x, w3.alloc (.cells #[.int .i64 0, .int .i64 0, .int .i64 0, .int .i64 0, .int .i64 0] 67) = x := ⟨_, rfl⟩
      have hb4 : Below w3.heap.size w3 W4 := by rw [← hW4]; exact (Below.refl _ _).alloc (Nat.le_refl _) _
      have hB4 := B3.trans (hb4.mono B3.size)
      have n4 : NBx W4 w3.heap.size 0 0 0 0 0 := by rw [← hW4]; exact World.alloc_heap_new w3 _
      have hone : (v5 0 0 0 0 0).all (·.oneCell') = true := by kernel_rfl
      have hB5 : Below wr.heap.size wr (W4.setRow w3.heap.size (v5 0 0 0 0 0)) := below_row hB4 _ B3.size _
      have U4 := hU0.later hB5
      have bA4 := bA2.later hB5
      have n5 : NBx (W4.setRow w3.heap.size (v5 0 0 0 0 0)) w3.heap.size 0 0 0 0 0 := setRow_heap W4 _ _ _ _ _ n4
      have x0 := bA4.c0
      have x1 := bA4.c1
      have x2 := bA4.c2
      have x3 := bA4.c3
      have x4 := bA4.c4
      have x5 := bA4.c5
      have y0 := n5.c0
      have y1 := n5.c1
      have y2 := n5.c2
      have y3 := n5.c3
      have y4 := n5.c4
      have hne := neq5 0 0 0 0 0
      clear a0 a1 a3
      go_wp2_with (first | rw [hW4] | refine wpList_store_row rfl 67 _ _ rfl w3.heap.size (v5 0 0 0 0 0) rfl rfl 67 _ n4 (n5_i _ _ _ _ _) rfl hone ?_)
      clear x0 x1 x2 x3 x4 x5 y0 y1 y2 y3 y4 hne
      refine (HC.out (.pointer none) _ U4).mono ?_
      rintro e w6 ⟨rfl, B6⟩
      go_wp2_with fail
      refine (Save_no (.pointer none) _ (U4.later B6)).mono ?_
      rintro e w7 ⟨rfl, B7⟩
      go_wp2_with fail
      refine (Same_zero _).mono ?_
      rintro e w8 ⟨rfl, B8⟩
      go_wp2_with fail
      go_roundw
      case rel => exact ⟨1, by omega, by rfl, hB2.trans ((hB5.trans ((B6.trans ((B7.trans (B8.mono B7.size)).mono B6.size)).mono hB5.size)).mono hB2.size)⟩
      case measure => simp [intOf]
    · obtain ⟨W2, hW2, hb2, hU0⟩ := zero_sys wr
      have hB2 := hB.trans (hb2.mono hB.size)
      have bA2 := bA1.later hb2
      have a1 := bA2.c1
      have a3 := bA2.c3
      have a0 := bA2.c0
      go_wp2_with fail
      try rw [hW2]
      refine (Read_no (.pointer (some ⟨wr.heap.size, 0, none⟩)) t W2 hU0).mono ?_
      rintro e w' ⟨rfl, rfl⟩
      go_wp2_with fail
      refine (Kind_no (.pointer (some ⟨wr.heap.size, 0, none⟩)) a W2 hU0).mono ?_
      rintro e w' ⟨rfl, rfl⟩
      go_wp2_with fail
      refine (Counts_no (.pointer (some ⟨wr.heap.size, 0, none⟩)) W2 hU0).mono ?_
      rintro e w3 ⟨rfl, B3⟩
      obtain ⟨W4, hW4⟩ : ∃ x, w3.alloc (.cells #[.int .i64 0, .int .i64 0, .int .i64 0, .int .i64 0, .int .i64 0] 67) = x := ⟨_, rfl⟩
      have hb4 : Below w3.heap.size w3 W4 := by rw [← hW4]; exact (Below.refl _ _).alloc (Nat.le_refl _) _
      have hB4 := B3.trans (hb4.mono B3.size)
      have n4 : NBx W4 w3.heap.size 0 0 0 0 0 := by rw [← hW4]; exact World.alloc_heap_new w3 _
      have hone : (v5 0 0 0 0 0).all (·.oneCell') = true := by kernel_rfl
      have hB5 : Below W2.heap.size W2 (W4.setRow w3.heap.size (v5 0 0 0 0 0)) := below_row hB4 _ B3.size _
      have U4 := hU0.later hB5
      have bA4 := bA2.later hB5
      have n5 : NBx (W4.setRow w3.heap.size (v5 0 0 0 0 0)) w3.heap.size 0 0 0 0 0 := setRow_heap W4 _ _ _ _ _ n4
      have x0 := bA4.c0
      have x1 := bA4.c1
      have x2 := bA4.c2
      have x3 := bA4.c3
      have x4 := bA4.c4
      have x5 := bA4.c5
      have y0 := n5.c0
      have y1 := n5.c1
      have y2 := n5.c2
      have y3 := n5.c3
      have y4 := n5.c4
      have hne := neq5 0 0 0 0 0
      clear a0 a1 a3
      go_wp2_with (first | rw [hW4] | refine wpList_store_row rfl 67 _ _ rfl w3.heap.size (v5 0 0 0 0 0) rfl rfl 67 _ n4 (n5_i _ _ _ _ _) rfl hone ?_)
      clear x0 x1 x2 x3 x4 x5 y0 y1 y2 y3 y4 hne
      refine (HC.out (.pointer (some ⟨wr.heap.size, 0, none⟩)) _ U4).mono ?_
      rintro e w6 ⟨rfl, B6⟩
      go_wp2_with fail
      refine (Save_no (.pointer (some ⟨wr.heap.size, 0, none⟩)) _ (U4.later B6)).mono ?_
      rintro e w7 ⟨rfl, B7⟩
      go_wp2_with fail
      refine (Same_zero _).mono ?_
      rintro e w8 ⟨rfl, B8⟩
      go_wp2_with fail
      go_roundw
      case rel => exact ⟨2, by omega, by rfl, hB2.trans ((hB5.trans ((B6.trans ((B7.trans (B8.mono B7.size)).mono B6.size)).mono hB5.size)).mono hB2.size)⟩
      case measure => simp [intOf]
    · go_wp2_with fail
      refine (shown_is _).mono ?_
      rintro e w2 ⟨rfl, B2⟩
      go_wp2_with fail
      go_ret
      exact ⟨rfl, hb1.trans ((hB.trans (B2.mono hB.size)).mono hb1.size)⟩
end Go.Proofs.Ytnmeeddhagmjdaa
