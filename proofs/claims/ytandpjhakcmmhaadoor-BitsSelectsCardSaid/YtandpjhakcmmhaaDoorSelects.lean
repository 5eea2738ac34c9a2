/- The law on selecting. -/
import Derived.Test.YtandpjhakcmmhaaDoorIs
namespace Go.Proofs.YtandpjhakcmmhaaDoor
open Go.RowKit Go.Shelf
attribute [local go_sem] Oper.semAt_some

set_option maxRecDepth 100000 in
set_option maxHeartbeats 4000000 in
theorem law_selects (N : Int) (v : Value) (ws : List Nat) (hf : Fit64 ws) (k : Nat) (on : Bool) (w : World) (hgd : Gd w) (h : WAt w v ws) (hk : k < 65536) :
    Calls Tryd.prog 8 #[bv N v, .int .u16 k, .bool on] w fun e w' => e = .returned (.bool true) ∧ Below w.heap.size w w' := by
  obtain ⟨c, hc⟩ : ∃ c, checkB N ws = c := ⟨_, rfl⟩
  have HC := Lib.hid hc
  obtain ⟨wA, hwA⟩ : ∃ wA, w.alloc (.cells #[.int .i64 N, v] 24) = wA := ⟨_, rfl⟩
  have hAB : Below w.heap.size w wA := by rw [← hwA]; exact (Below.refl _ _).alloc (Nat.le_refl _) _
  have bA : BBox wA w.heap.size N v := by rw [← hwA]; exact BBox.new w N v
  have hA := h.later hAB
  have hgA := hgd.later hAB
  have HW := Lib.hid hwA
  clear hwA
  by_cases h0 : c = 0
  · subst h0
    obtain ⟨n, rfl, hn4, hlen⟩ := check_ok hc
    clear hlen
    obtain ⟨q, hq⟩ : ∃ q, (hits ws true 0 n).length = q := ⟨_, rfl⟩
    obtain ⟨r, hr⟩ : ∃ r, (hits ws false 0 n).length = r := ⟨_, rfl⟩
    have hqr : q + r = n := by rw [← hq, ← hr, hits_len]; omega
    have h1 : countB n ws 0 n = ((q : Int), 0) := by have := countB_ok hc (Nat.zero_le n) (Nat.le_refl n); rw [hq] at this; exact this
    cases hs : (hits ws on 0 n)[k]? with
    | none =>
      have h2 : selectB n ws k on = (0, 4) := selectB_none hc hs
      have H1 := Lib.hid h1
      have H2 := Lib.hid h2
      have hl : (if on then q else r) ≤ k := by
        have := List.getElem?_eq_none_iff.1 hs
        cases on
        · rw [hr] at this; exact this
        · rw [hq] at this; exact this
      clear hs h1 h2 hc hq hr
      cases on
      all_goals
        simp only [if_true, Bool.false_eq_true, if_false] at hl
        go_enter Tryd.func8, Tryd.ntmps8
        go_wp2_with fail
        rw [HW.out]
        refine (RefCheck_is n v ws hf _ hA 0 HC.out).mono ?_
        rintro e w1 ⟨rfl, hB1⟩
        have D1 := hB1
        have x1 := (bA.later D1).c0
        have y1 := (bA.later D1).c1
        go_wp2_with fail
        refine (Select_is n v ws hf _ (hA.later D1) (hgA.later D1) _ _ _ _ (by omega) H2.out).mono ?_
        rintro e w2 ⟨rfl, hB2⟩
        have D2 := D1.trans (hB2.mono D1.size)
        have x2 := (bA.later D2).c0
        have y2 := (bA.later D2).c1
        go_wp2_with fail
        refine (Count_is n v ws hf _ (hA.later D2) _ _ _ _ H1.out).mono ?_
        rintro e w3 ⟨rfl, hB3⟩
        have D3 := D2.trans (hB3.mono D2.size)
        have x3 := (bA.later D3).c0
        have y3 := (bA.later D3).c1
        go_wp2_with fail
        refine (awake_any _ (hgA.later D3)).mono ?_
        rintro e w4 ⟨rfl, hB4⟩
        have D4 := D3.trans (hB4.mono D3.size)
        have x4 := (bA.later D4).c0
        have y4 := (bA.later D4).c1
        go_wp2
        go_ret
        exact ⟨rfl, hAB.trans (D4.mono hAB.size)⟩
    | some i =>
      obtain ⟨hi, hbt, hb1, hb2, hb3⟩ := hits_around ws on n k i hs
      have h2 : selectB n ws k on = ((i : Int), 0) := selectB_some hc hs
      have h3 : getB n ws i = (on, 0) := by have := getB_ok (ws := ws) hc hi; rw [hbt] at this; exact this
      obtain ⟨p, hp⟩ : ∃ p, (hits ws true 0 i).length = p := ⟨_, rfl⟩
      have h4 : countB n ws 0 i = ((p : Int), 0) := by have := countB_ok hc (Nat.zero_le i) (Nat.le_of_lt hi); rw [hp] at this; exact this
      have hl := (List.getElem?_eq_some_iff.1 hs).1
      have hp2 : (hits ws on 0 i).length = k := by rw [hb1, List.length_take]; omega
      have hpk : if on then p = k ∧ k < q else i - p = k ∧ p ≤ i ∧ k < r := by
        have := hits_len ws 0 i
        cases on
        · rw [hp, hp2] at this; rw [hr] at hl; simp; omega
        · rw [hp] at hp2; rw [hq] at hl; exact ⟨hp2, hl⟩
      have H1 := Lib.hid h1
      have H2 := Lib.hid h2
      have H3 := Lib.hid h3
      have H4 := Lib.hid h4
      cases k with
      | zero =>
        have h5 : lastB n ws i on = (0, 4) := lastB_none hc (Nat.le_of_lt hi) (by rw [hb1]; rfl)
        have h6 : nextX n ws 0 on = ((i : Int), 0) := nextX_some (a := 0) hc (Nat.zero_le n) (by rw [List.head?_eq_getElem?]; exact hs)
        have H5 := Lib.hid h5
        have H6 := Lib.hid h6
        clear hs h1 h2 h3 h4 h5 h6 hc hq hr hp hp2 hl hb1 hb2 hb3 hbt
        cases on
        all_goals
          simp only [if_true, Bool.false_eq_true, if_false] at hpk
          first | (have hz : (0 : Int) < (n : Int) - (q : Int) := (by omega); have hz1 : (q : Int) < (n : Int) := (by omega); have hz2 : q < n := (by omega)) | (have hz : (0 : Int) < (q : Int) := by omega)
          go_enter Tryd.func8, Tryd.ntmps8
          go_wp2_with fail
          rw [HW.out]
          refine (RefCheck_is n v ws hf _ hA 0 HC.out).mono ?_
          rintro e w1 ⟨rfl, hB1⟩
          have D1 := hB1
          have x1 := (bA.later D1).c0
          have y1 := (bA.later D1).c1
          go_wp2_with fail
          refine (Select_is n v ws hf _ (hA.later D1) (hgA.later D1) _ _ _ _ (by omega) H2.out).mono ?_
          rintro e w2 ⟨rfl, hB2⟩
          have D2 := D1.trans (hB2.mono D1.size)
          have x2 := (bA.later D2).c0
          have y2 := (bA.later D2).c1
          go_wp2_with fail
          refine (Count_is n v ws hf _ (hA.later D2) _ _ _ _ H1.out).mono ?_
          rintro e w3 ⟨rfl, hB3⟩
          have D3 := D2.trans (hB3.mono D2.size)
          have x3 := (bA.later D3).c0
          have y3 := (bA.later D3).c1
          go_wp2_with fail
          refine (Get_is n v ws hf _ (hA.later D3) _ _ _ H3.out).mono ?_
          rintro e w4 ⟨rfl, hB4⟩
          have D4 := D3.trans (hB4.mono D3.size)
          have x4 := (bA.later D4).c0
          have y4 := (bA.later D4).c1
          go_wp2_with fail
          refine (Count_is n v ws hf _ (hA.later D4) _ _ _ _ H4.out).mono ?_
          rintro e w5 ⟨rfl, hB5⟩
          have D5 := D4.trans (hB5.mono D4.size)
          have x5 := (bA.later D5).c0
          have y5 := (bA.later D5).c1
          go_wp2_with fail
          refine (Last_is n v ws hf _ (hA.later D5) _ _ _ _ H5.out).mono ?_
          rintro e w6 ⟨rfl, hB6⟩
          have D6 := D5.trans (hB6.mono D5.size)
          have x6 := (bA.later D6).c0
          have y6 := (bA.later D6).c1
          go_wp2_with fail
          refine (NextX_is n v ws hf _ (hA.later D6) (hgA.later D6) _ _ _ _ H6.out).mono ?_
          rintro e w7 ⟨rfl, hB7⟩
          have D7 := D6.trans (hB7.mono D6.size)
          have x7 := (bA.later D7).c0
          have y7 := (bA.later D7).c1
          go_wp2_with fail
          refine (awake_any _ (hgA.later D7)).mono ?_
          rintro e w8 ⟨rfl, hB8⟩
          have D8 := D7.trans (hB8.mono D7.size)
          have x8 := (bA.later D8).c0
          have y8 := (bA.later D8).c1
          go_wp2
          go_ret
          exact ⟨rfl, hAB.trans (D8.mono hAB.size)⟩
      | succ k =>
        obtain ⟨b, hb⟩ : ∃ b, (hits ws on 0 n)[k]? = some b := ⟨_, List.getElem?_eq_getElem (by omega)⟩
        obtain ⟨hbi, _, _, _, hb4⟩ := hits_around ws on n k b hb
        have h5 : lastB n ws i on = ((b : Int), 0) := lastB_some hc (Nat.le_of_lt hi) (by rw [hb1, List.getLast?_eq_getElem?, List.length_take, List.getElem?_take, show min (k + 1) (hits ws on 0 n).length - 1 = k by omega, if_pos (by omega)]; exact hb)
        have h6 : selectB n ws k on = ((b : Int), 0) := selectB_some hc hb
        have h7 : nextX n ws ((b + 1 : Nat) : Int) on = ((i : Int), 0) := nextX_some (a := b + 1) hc (by omega) (by rw [hb4, List.head?_eq_getElem?, List.getElem?_drop, Nat.add_zero]; exact hs)
        have H5 := Lib.hid h5
        have H6 := Lib.hid h6
        have H7 := Lib.hid h7
        clear hs h1 h2 h3 h4 h5 h6 h7 hc hq hr hp hp2 hl hb1 hb2 hb3 hbt hb hb4
        cases on
        all_goals
          simp only [if_true, Bool.false_eq_true, if_false] at hpk
          first | (have hz : (k : Int) + 1 < (n : Int) - (q : Int) := by omega) | (have hz : (k : Int) + 1 < (q : Int) := by omega)
          go_enter Tryd.func8, Tryd.ntmps8
          go_wp2_with fail
          rw [HW.out]
          refine (RefCheck_is n v ws hf _ hA 0 HC.out).mono ?_
          rintro e w1 ⟨rfl, hB1⟩
          have D1 := hB1
          have x1 := (bA.later D1).c0
          have y1 := (bA.later D1).c1
          go_wp2_with fail
          refine (Select_is n v ws hf _ (hA.later D1) (hgA.later D1) _ _ _ _ (by omega) H2.out).mono ?_
          rintro e w2 ⟨rfl, hB2⟩
          have D2 := D1.trans (hB2.mono D1.size)
          have x2 := (bA.later D2).c0
          have y2 := (bA.later D2).c1
          go_wp2_with fail
          refine (Count_is n v ws hf _ (hA.later D2) _ _ _ _ H1.out).mono ?_
          rintro e w3 ⟨rfl, hB3⟩
          have D3 := D2.trans (hB3.mono D2.size)
          have x3 := (bA.later D3).c0
          have y3 := (bA.later D3).c1
          go_wp2_with fail
          refine (Get_is n v ws hf _ (hA.later D3) _ _ _ H3.out).mono ?_
          rintro e w4 ⟨rfl, hB4⟩
          have D4 := D3.trans (hB4.mono D3.size)
          have x4 := (bA.later D4).c0
          have y4 := (bA.later D4).c1
          go_wp2_with fail
          refine (Count_is n v ws hf _ (hA.later D4) _ _ _ _ H4.out).mono ?_
          rintro e w5 ⟨rfl, hB5⟩
          have D5 := D4.trans (hB5.mono D4.size)
          have x5 := (bA.later D5).c0
          have y5 := (bA.later D5).c1
          go_wp2_with fail
          refine (Last_is n v ws hf _ (hA.later D5) _ _ _ _ H5.out).mono ?_
          rintro e w6 ⟨rfl, hB6⟩
          have D6 := D5.trans (hB6.mono D5.size)
          have x6 := (bA.later D6).c0
          have y6 := (bA.later D6).c1
          go_wp2_with fail
          refine (Select_is n v ws hf _ (hA.later D6) (hgA.later D6) _ _ _ _ (by omega) H6.out).mono ?_
          rintro e w7 ⟨rfl, hB7⟩
          have D7 := D6.trans (hB7.mono D6.size)
          have x7 := (bA.later D7).c0
          have y7 := (bA.later D7).c1
          go_wp2_with fail
          refine (NextX_is n v ws hf _ (hA.later D7) (hgA.later D7) _ _ _ _ H7.out).mono ?_
          rintro e w8 ⟨rfl, hB8⟩
          have D8 := D7.trans (hB8.mono D7.size)
          have x8 := (bA.later D8).c0
          have y8 := (bA.later D8).c1
          go_wp2_with fail
          refine (awake_any _ (hgA.later D8)).mono ?_
          rintro e w9 ⟨rfl, hB9⟩
          have D9 := D8.trans (hB9.mono D8.size)
          have x9 := (bA.later D9).c0
          have y9 := (bA.later D9).c1
          go_wp2
          go_ret
          exact ⟨rfl, hAB.trans (D9.mono hAB.size)⟩
  · have hq : (c != 0) = true := by simp [h0]
    clear hc h0
    go_enter Tryd.func8, Tryd.ntmps8
    go_wp2_with fail
    rw [HW.out]
    refine (RefCheck_is N v ws hf _ hA c HC.out).mono ?_
    rintro e w1 ⟨rfl, hB1⟩
    have D1 := hB1
    have x1 := (bA.later D1).c0
    have y1 := (bA.later D1).c1
    go_wp2_with fail
    refine (awake_any _ (hgA.later D1)).mono ?_
    rintro e w2 ⟨rfl, hB2⟩
    have D2 := D1.trans (hB2.mono D1.size)
    have x2 := (bA.later D2).c0
    have y2 := (bA.later D2).c1
    go_wp2
    go_ret
    exact ⟨rfl, hAB.trans (D2.mono hAB.size)⟩
end Go.Proofs.YtandpjhakcmmhaaDoor
