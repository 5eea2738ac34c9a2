/- The law on searching: the stage's theorem. -/
import Derived.Test.YtandpjhakcmmhaaDoorSearchM
namespace Go.Proofs.YtandpjhakcmmhaaDoor
open Go.RowKit Go.Shelf
attribute [local go_sem] Oper.semAt_some

set_option maxRecDepth 100000 in
set_option maxHeartbeats 4000000 in
theorem law_search (N : Int) (v : Value) (ws : List Nat) (hf : Fit64 ws) (size order : Nat) (w : World) (hgd : Gd w) (h : WAt w v ws) (hs : size < 65536) (ho : order < 256) :
    Calls Tryd.prog 11 #[bv N v, .int .u16 size, .int .u8 order] w fun e w' => e = .returned (.bool true) ∧ Below w.heap.size w w' := by
  obtain ⟨c, hc⟩ : ∃ c, checkB N ws = c := ⟨_, rfl⟩
  have HC := Lib.hid hc
  obtain ⟨wA, hwA⟩ : ∃ wA, w.alloc (.cells #[.int .i64 N, v] 24) = wA := ⟨_, rfl⟩
  have hAB : Below w.heap.size w wA := by rw [← hwA]; exact (Below.refl _ _).alloc (Nat.le_refl _) _
  have bA : BBox wA w.heap.size N v := by rw [← hwA]; exact BBox.new w N v
  have hA := h.later hAB
  have hgA := hgd.later hAB
  have HW := Lib.hid hwA
  clear hwA
  by_cases h0 : c = 0
  · subst h0
    obtain ⟨n, rfl, hn4, hlen⟩ := check_ok hc
    clear hlen
    obtain ⟨k, hk⟩ : ∃ k, order % 13 = k := ⟨_, rfl⟩
    have hk13 : k < 13 := by omega
    have hki : (order : Int) % 13 = k := by omega
    have HK := Lib.hid hki
    have hkn : order % 13 = k := hk
    clear hk hki
    have hz : sizeB n ws ((1 + size : Nat) : Int) = 0 := by unfold sizeB; rw [if_neg (by simp [hc]), if_neg (by omega)]
    have hf1 : fitB n ws ((1 + size : Nat) : Int) 0 = fiB ws (1 + size) 0 n := by unfold fitB; rw [if_neg (by rw [hz]; simp), if_neg (by omega)]; rfl
    have hb1 : bestB n ws ((1 + size : Nat) : Int) = beB ws (1 + size) n := by unfold bestB; rw [if_neg (by rw [hz]; simp)]; rfl
    have hk1 : blockB n ws k = blB ws k n := by unfold blockB; rw [if_neg (by simp [hc]), if_neg (by omega)]; rfl
    obtain ⟨sz, hsz⟩ : ∃ z, 2 ^ k = z := ⟨_, rfl⟩
    have hsz1 : 1 ≤ sz ∧ sz ≤ 4096 := by
      rw [← hsz]
      exact ⟨Nat.one_le_two_pow, Nat.pow_le_pow_right (n := 2) (i := k) (j := 12) (by decide) (by omega)⟩
    have hp : (2 : Int) ^ (order % 13) = (sz : Int) := by rw [hkn, ← hsz]; simp
    have HS := Lib.hid hp
    have hblk : ((∃ _u : Unit, blockB n ws ((order : Int) % 13) = (0, 4)) ∨ ∃ b : Nat, blockB n ws ((order : Int) % 13) = ((b : Int), 0) ∧ b % sz = 0 ∧ Clear ws n b sz) := by
      rw [HK.out, hk1]; unfold blB
      rw [hsz]
      cases hbk : blkF ws sz n (n + 1) 0 with
      | none => exact .inl ⟨(), rfl⟩
      | some b => exact .inr ⟨b, rfl, block_some hsz1.1 (n + 1) 0 b (Nat.zero_mod _) hbk⟩
    clear hk1 hsz hkn hp
    have hp := HS.out
    cases hft : fitL (runsL ws false 0 n) (1 + size) with
    | none =>
      have f1 : fitB n ws ((1 + size : Nat) : Int) 0 = (0, 4) := by rw [hf1]; unfold fiB; rw [hft]
      have f2 : bestB n ws ((1 + size : Nat) : Int) = (0, 4) := by
        rw [hb1]; unfold beB
        by_cases hlt : 4096 < (bfold (1 + size) (runsL ws false 0 n)).2
        · rw [if_pos hlt]
        · exact absurd (best_some hn4 (by omega) hlt) (fit_none (by omega) hft _)
      have H1 := Lib.hid f1
      have H2 := Lib.hid f2
      rcases hblk with ⟨_, hb3⟩ | ⟨b, hb3, hb4, hb5⟩
      · have H3 := Lib.hid hb3
        clear hf1 hb1 f1 f2 hz hft hc hb3
        go_enter Tryd.func11, Tryd.ntmps11
        go_wp2_with fail
        rw [HW.out]
        refine (RefCheck_is n v ws hf _ hA 0 HC.out).mono ?_
        rintro e w1 ⟨rfl, hB1⟩
        have D1 := hB1
        have x1 := (bA.later D1).c0
        have y1 := (bA.later D1).c1
        go_wp2_with fail
        refine (Fit_is n v ws hf _ (hA.later D1) (hgA.later D1) _ _ _ _ H1.out).mono ?_
        rintro e w2 ⟨rfl, hB2⟩
        have D2 := D1.trans (hB2.mono D1.size)
        have x2 := (bA.later D2).c0
        have y2 := (bA.later D2).c1
        go_wp2_with fail
        refine (Best_is n v ws hf _ (hA.later D2) (hgA.later D2) _ _ _ H2.out).mono ?_
        rintro e w3 ⟨rfl, hB3⟩
        have D3 := D2.trans (hB3.mono D2.size)
        have x3 := (bA.later D3).c0
        have y3 := (bA.later D3).c1
        go_wp2_with fail
        refine (Block_is n v ws hf _ (hA.later D3) _ _ _ H3.out).mono ?_
        rintro e w4 ⟨rfl, hB4⟩
        have D4 := D3.trans (hB4.mono D3.size)
        have x4 := (bA.later D4).c0
        have y4 := (bA.later D4).c1
        go_wp2_with fail
        refine (awake_any _ (hgA.later D4)).mono ?_
        rintro e w5 ⟨rfl, hB5⟩
        have D5 := D4.trans (hB5.mono D4.size)
        have x5 := (bA.later D5).c0
        have y5 := (bA.later D5).c1
        go_wp2
        go_ret
        exact ⟨rfl, hAB.trans (D5.mono hAB.size)⟩
      · have H3 := Lib.hid hb3
        have hbm : (b : Int) % (sz : Int) = 0 := by omega
        have hb6 := hb5.1
        have hb7 : countB n ws b ((b + sz : Nat) : Int) = (0, 0) := by rw [countB_ok (ws := ws) hc (a := b) (t := b + sz) (by omega) hb5.1, hb5.hits]; rfl
        have H4 := Lib.hid hb7
        have hz2 : sizeB n ws (sz : Int) = 0 := by unfold sizeB; rw [if_neg (by simp [hc]), if_neg (by omega)]
        have hf2 : fitB n ws (sz : Int) 0 = fiB ws sz 0 n := by unfold fitB; rw [if_neg (by simp [hz2]), if_neg (by omega)]; rfl
        obtain ⟨j, hj1, hj2⟩ : ∃ j : Nat, fitB n ws (sz : Int) 0 = ((j : Int), 0) ∧ j ≤ b := by
          rw [hf2]; unfold fiB
          cases hfj : fitL (runsL ws false 0 n) sz with
          | none => exact absurd hb5 (fit_none hsz1.1 hfj b)
          | some j =>
            refine ⟨j, rfl, ?_⟩
            rcases Nat.lt_or_ge b j with hlt | hge
            · exact absurd hb5 ((fit_some hsz1.1 hfj).2 b hlt)
            · exact hge
        have H5 := Lib.hid hj1
        clear hf1 hb1 f1 f2 hz hft hc hb3 hb4 hb5 hb7 hz2 hf2 hj1
        go_enter Tryd.func11, Tryd.ntmps11
        go_wp2_with fail
        rw [HW.out]
        refine (RefCheck_is n v ws hf _ hA 0 HC.out).mono ?_
        rintro e w1 ⟨rfl, hB1⟩
        have D1 := hB1
        have x1 := (bA.later D1).c0
        have y1 := (bA.later D1).c1
        go_wp2_with fail
        refine (Fit_is n v ws hf _ (hA.later D1) (hgA.later D1) _ _ _ _ H1.out).mono ?_
        rintro e w2 ⟨rfl, hB2⟩
        have D2 := D1.trans (hB2.mono D1.size)
        have x2 := (bA.later D2).c0
        have y2 := (bA.later D2).c1
        go_wp2_with fail
        refine (Best_is n v ws hf _ (hA.later D2) (hgA.later D2) _ _ _ H2.out).mono ?_
        rintro e w3 ⟨rfl, hB3⟩
        have D3 := D2.trans (hB3.mono D2.size)
        have x3 := (bA.later D3).c0
        have y3 := (bA.later D3).c1
        go_wp2_with fail
        refine (Block_is n v ws hf _ (hA.later D3) _ _ _ H3.out).mono ?_
        rintro e w4 ⟨rfl, hB4⟩
        have D4 := D3.trans (hB4.mono D3.size)
        have x4 := (bA.later D4).c0
        have y4 := (bA.later D4).c1
        go_wp2_with fail
        refine (Count_is n v ws hf _ (hA.later D4) _ _ _ _ H4.out).mono ?_
        rintro e w5 ⟨rfl, hB5⟩
        have D5 := D4.trans (hB5.mono D4.size)
        have x5 := (bA.later D5).c0
        have y5 := (bA.later D5).c1
        go_wp2_with fail
        refine (Fit_is n v ws hf _ (hA.later D5) (hgA.later D5) _ _ _ _ H5.out).mono ?_
        rintro e w6 ⟨rfl, hB6⟩
        have D6 := D5.trans (hB6.mono D5.size)
        have x6 := (bA.later D6).c0
        have y6 := (bA.later D6).c1
        go_wp2_with fail
        refine (awake_any _ (hgA.later D6)).mono ?_
        rintro e w7 ⟨rfl, hB7⟩
        have D7 := D6.trans (hB7.mono D6.size)
        have x7 := (bA.later D7).c0
        have y7 := (bA.later D7).c1
        go_wp2
        go_ret
        exact ⟨rfl, hAB.trans (D7.mono hAB.size)⟩
    | some a =>
      obtain ⟨fa1, fa2⟩ := fit_some (by omega) hft
      have f1 : fitB n ws ((1 + size : Nat) : Int) 0 = ((a : Int), 0) := by rw [hf1]; unfold fiB; rw [hft]
      obtain ⟨c, hc2, hc3, hc4⟩ : ∃ c : Nat, bestB n ws ((1 + size : Nat) : Int) = ((c : Int), 0) ∧ Clear ws n c (1 + size) ∧ a ≤ c := by
        rw [hb1]; unfold beB
        by_cases hlt : 4096 < (bfold (1 + size) (runsL ws false 0 n)).2
        · have := best_none hn4 (by omega) hlt
          rw [hft] at this; cases this
        · rw [if_neg hlt]
          have hcl := best_some hn4 (by omega) hlt
          refine ⟨_, rfl, hcl, ?_⟩
          rcases Nat.lt_or_ge (bfold (1 + size) (runsL ws false 0 n)).1 a with hlt2 | hge
          · exact absurd hcl (fa2 _ hlt2)
          · exact hge
      have f3 : countB n ws a ((a + (1 + size) : Nat) : Int) = (0, 0) := by rw [countB_ok (ws := ws) hc (a := a) (t := a + (1 + size)) (by omega) fa1.1, fa1.hits]; rfl
      have f4 : countB n ws c ((c + (1 + size) : Nat) : Int) = (0, 0) := by rw [countB_ok (ws := ws) hc (a := c) (t := c + (1 + size)) (by omega) hc3.1, hc3.hits]; rfl
      have ha1 := fa1.1
      have hca : decide (c < a) = false := by simp; omega
      have hca1 : ¬ ((c : Int) < (a : Int)) := by omega
      have hc5 := hc3.1
      have f5 : ∀ x : Nat, x < a → ∃ y : Nat, nextX n ws x true = ((y : Int), 0) ∧ y < x + (1 + size) := fun x hx => next_hit hc (by omega) (fa2 x hx)
      have H1 := Lib.hid f1
      have H2 := Lib.hid hc2
      have H6 := Lib.hid f3
      have H7 := Lib.hid f4
      have H8 := Lib.hid f5
      rcases hblk with ⟨_, hb3⟩ | ⟨b, hb3, hb4, hb5⟩
      · have H3 := Lib.hid hb3
        clear hf1 hb1 f1 f3 f4 f5 hz hft hc hb3 hc2 hc3 fa1 fa2
        go_enter Tryd.func11, Tryd.ntmps11
        go_wp2_with fail
        rw [HW.out]
        refine (RefCheck_is n v ws hf _ hA 0 HC.out).mono ?_
        rintro e w1 ⟨rfl, hB1⟩
        have D1 := hB1
        have x1 := (bA.later D1).c0
        have y1 := (bA.later D1).c1
        go_wp2_with fail
        refine (Fit_is n v ws hf _ (hA.later D1) (hgA.later D1) _ _ _ _ H1.out).mono ?_
        rintro e w2 ⟨rfl, hB2⟩
        have D2 := D1.trans (hB2.mono D1.size)
        have x2 := (bA.later D2).c0
        have y2 := (bA.later D2).c1
        go_wp2_with fail
        refine (Best_is n v ws hf _ (hA.later D2) (hgA.later D2) _ _ _ H2.out).mono ?_
        rintro e w3 ⟨rfl, hB3⟩
        have D3 := D2.trans (hB3.mono D2.size)
        have x3 := (bA.later D3).c0
        have y3 := (bA.later D3).c1
        go_wp2_with fail
        refine (Count_is n v ws hf _ (hA.later D3) _ _ _ _ H6.out).mono ?_
        rintro e w4 ⟨rfl, hB4⟩
        have D4 := D3.trans (hB4.mono D3.size)
        have x4 := (bA.later D4).c0
        have y4 := (bA.later D4).c1
        go_wp2_with fail
        refine (Count_is n v ws hf _ (hA.later D4) _ _ _ _ H7.out).mono ?_
        rintro e w5 ⟨rfl, hB5⟩
        have D5 := D4.trans (hB5.mono D4.size)
        have x5 := (bA.later D5).c0
        have y5 := (bA.later D5).c1
        go_wp2_with fail
        have Dw := Lib.hid D5
        go_loopw [17] (fun u wr => ∃ x : Nat, x ≤ a ∧ u = .int .i64 x ∧ Below wA.heap.size wA wr) (fun u _ => a - (intOf u).toNat)
        case atStart => exact ⟨0, Nat.zero_le _, rfl, D5⟩
        case round =>
          obtain ⟨x, hxa, rfl, E0⟩ := hrel
          have z0 := (bA.later E0).c0
          have z0q := (bA.later E0).c1
          by_cases hlt : x < a
          · obtain ⟨y, hy, hy2⟩ := H8.out x hlt
            have HY := Lib.hid hy
            have hi1 : (x : Int) < (a : Int) := by omega
            have hi2 : ¬ ((x : Int) + (1 + (size : Int)) ≤ (y : Int)) := by omega
            clear hy
            go_wp2_with fail
            refine (NextX_is n v ws hf _ (hA.later E0) (hgA.later E0) _ _ _ _ HY.out).mono ?_
            rintro e v1 ⟨rfl, hE1⟩
            have F1 := E0.trans (hE1.mono E0.size)
            have z1 := (bA.later F1).c0
            have z1q := (bA.later F1).c1
            go_wp2
            go_roundw
            case rel => exact ⟨x + 1, by omega, by go_num, F1⟩
            case measure => simp [intOf]; omega
          · have hxe : x = a := by omega
            subst hxe
            go_wp2_with fail
            refine (Block_is n v ws hf _ (hA.later E0) _ _ _ H3.out).mono ?_
            rintro e v1 ⟨rfl, hE1⟩
            have E1 := E0.trans (hE1.mono E0.size)
            have z1 := (bA.later E1).c0
            have z1q := (bA.later E1).c1
            go_wp2_with fail
            refine (awake_any _ (hgA.later E1)).mono ?_
            rintro e v2 ⟨rfl, hE2⟩
            have E2 := E1.trans (hE2.mono E1.size)
            have z2 := (bA.later E2).c0
            have z2q := (bA.later E2).c1
            go_wp2
            go_ret
            exact ⟨rfl, hAB.trans (E2.mono hAB.size)⟩
      · have H3 := Lib.hid hb3
        have hbm : (b : Int) % (sz : Int) = 0 := by omega
        have hb6 := hb5.1
        have hb7 : countB n ws b ((b + sz : Nat) : Int) = (0, 0) := by rw [countB_ok (ws := ws) hc (a := b) (t := b + sz) (by omega) hb5.1, hb5.hits]; rfl
        have H4 := Lib.hid hb7
        have hz2 : sizeB n ws (sz : Int) = 0 := by unfold sizeB; rw [if_neg (by simp [hc]), if_neg (by omega)]
        have hf2 : fitB n ws (sz : Int) 0 = fiB ws sz 0 n := by unfold fitB; rw [if_neg (by simp [hz2]), if_neg (by omega)]; rfl
        obtain ⟨j, hj1, hj2⟩ : ∃ j : Nat, fitB n ws (sz : Int) 0 = ((j : Int), 0) ∧ j ≤ b := by
          rw [hf2]; unfold fiB
          cases hfj : fitL (runsL ws false 0 n) sz with
          | none => exact absurd hb5 (fit_none hsz1.1 hfj b)
          | some j =>
            refine ⟨j, rfl, ?_⟩
            rcases Nat.lt_or_ge b j with hlt | hge
            · exact absurd hb5 ((fit_some hsz1.1 hfj).2 b hlt)
            · exact hge
        have H5 := Lib.hid hj1
        clear hf1 hb1 f1 f3 f4 f5 hz hft hc hb3 hb4 hb5 hb7 hz2 hf2 hj1 hc2 hc3 fa1 fa2
        go_enter Tryd.func11, Tryd.ntmps11
        go_wp2_with fail
        rw [HW.out]
        refine (RefCheck_is n v ws hf _ hA 0 HC.out).mono ?_
        rintro e w1 ⟨rfl, hB1⟩
        have D1 := hB1
        have x1 := (bA.later D1).c0
        have y1 := (bA.later D1).c1
        go_wp2_with fail
        refine (Fit_is n v ws hf _ (hA.later D1) (hgA.later D1) _ _ _ _ H1.out).mono ?_
        rintro e w2 ⟨rfl, hB2⟩
        have D2 := D1.trans (hB2.mono D1.size)
        have x2 := (bA.later D2).c0
        have y2 := (bA.later D2).c1
        go_wp2_with fail
        refine (Best_is n v ws hf _ (hA.later D2) (hgA.later D2) _ _ _ H2.out).mono ?_
        rintro e w3 ⟨rfl, hB3⟩
        have D3 := D2.trans (hB3.mono D2.size)
        have x3 := (bA.later D3).c0
        have y3 := (bA.later D3).c1
        go_wp2_with fail
        refine (Count_is n v ws hf _ (hA.later D3) _ _ _ _ H6.out).mono ?_
        rintro e w4 ⟨rfl, hB4⟩
        have D4 := D3.trans (hB4.mono D3.size)
        have x4 := (bA.later D4).c0
        have y4 := (bA.later D4).c1
        go_wp2_with fail
        refine (Count_is n v ws hf _ (hA.later D4) _ _ _ _ H7.out).mono ?_
        rintro e w5 ⟨rfl, hB5⟩
        have D5 := D4.trans (hB5.mono D4.size)
        have x5 := (bA.later D5).c0
        have y5 := (bA.later D5).c1
        go_wp2_with fail
        have Dw := Lib.hid D5
        go_loopw [17] (fun u wr => ∃ x : Nat, x ≤ a ∧ u = .int .i64 x ∧ Below wA.heap.size wA wr) (fun u _ => a - (intOf u).toNat)
        case atStart => exact ⟨0, Nat.zero_le _, rfl, D5⟩
        case round =>
          obtain ⟨x, hxa, rfl, E0⟩ := hrel
          have z0 := (bA.later E0).c0
          have z0q := (bA.later E0).c1
          by_cases hlt : x < a
          · obtain ⟨y, hy, hy2⟩ := H8.out x hlt
            have HY := Lib.hid hy
            have hi1 : (x : Int) < (a : Int) := by omega
            have hi2 : ¬ ((x : Int) + (1 + (size : Int)) ≤ (y : Int)) := by omega
            clear hy
            go_wp2_with fail
            refine (NextX_is n v ws hf _ (hA.later E0) (hgA.later E0) _ _ _ _ HY.out).mono ?_
            rintro e v1 ⟨rfl, hE1⟩
            have F1 := E0.trans (hE1.mono E0.size)
            have z1 := (bA.later F1).c0
            have z1q := (bA.later F1).c1
            go_wp2
            go_roundw
            case rel => exact ⟨x + 1, by omega, by go_num, F1⟩
            case measure => simp [intOf]; omega
          · have hxe : x = a := by omega
            subst hxe
            go_wp2_with fail
            refine (Block_is n v ws hf _ (hA.later E0) _ _ _ H3.out).mono ?_
            rintro e v1 ⟨rfl, hE1⟩
            have E1 := E0.trans (hE1.mono E0.size)
            have z1 := (bA.later E1).c0
            have z1q := (bA.later E1).c1
            go_wp2_with fail
            refine (Count_is n v ws hf _ (hA.later E1) _ _ _ _ H4.out).mono ?_
            rintro e v2 ⟨rfl, hE2⟩
            have E2 := E1.trans (hE2.mono E1.size)
            have z2 := (bA.later E2).c0
            have z2q := (bA.later E2).c1
            go_wp2_with fail
            refine (Fit_is n v ws hf _ (hA.later E2) (hgA.later E2) _ _ _ _ H5.out).mono ?_
            rintro e v3 ⟨rfl, hE3⟩
            have E3 := E2.trans (hE3.mono E2.size)
            have z3 := (bA.later E3).c0
            have z3q := (bA.later E3).c1
            go_wp2_with fail
            refine (awake_any _ (hgA.later E3)).mono ?_
            rintro e v4 ⟨rfl, hE4⟩
            have E4 := E3.trans (hE4.mono E3.size)
            have z4 := (bA.later E4).c0
            have z4q := (bA.later E4).c1
            go_wp2
            go_ret
            exact ⟨rfl, hAB.trans (E4.mono hAB.size)⟩
  · have hq : (c != 0) = true := by simp [h0]
    clear hc h0
    go_enter Tryd.func11, Tryd.ntmps11
    go_wp2_with fail
    rw [HW.out]
    refine (RefCheck_is N v ws hf _ hA c HC.out).mono ?_
    rintro e w1 ⟨rfl, hB1⟩
    have D1 := hB1
    have x1 := (bA.later D1).c0
    have y1 := (bA.later D1).c1
    go_wp2_with fail
    refine (awake_any _ (hgA.later D1)).mono ?_
    rintro e w2 ⟨rfl, hB2⟩
    have D2 := D1.trans (hB2.mono D1.size)
    have x2 := (bA.later D2).c0
    have y2 := (bA.later D2).c1
    go_wp2
    go_ret
    exact ⟨rfl, hAB.trans (D2.mono hAB.size)⟩
end Go.Proofs.YtandpjhakcmmhaaDoor
