/- The examples' sets, and the calls that wake the layer. -/
import Derived.Test.YtgljfiihaehedaaColl
import Derived.Test.YtgljfiihaehedaaSame
import Derived.Test.YtgljfiihaehedaaHas
namespace Go.Proofs.Ytgljfiihaehedaa
open Go.RowKit
attribute [local go_sem] Oper.semAt_some

theorem sat_one (w : World) (a b : Int) : SAt (w.alloc (.cells #[.int .i64 a, .int .i64 b] 31)) (.slice (some ⟨w.heap.size, 0, none⟩) 1 1) [(a, b)] :=
  .inr ⟨w.heap.size, 0, 1, rfl, by simp, by decide, fun j x hx => by
    match j with
    | 0 => simp at hx; subst hx; exact ⟨by simp, by simp⟩
    | j + 1 => simp at hx⟩
theorem sat_two (w : World) (a b c d : Int) : SAt (w.alloc (.cells #[.int .i64 a, .int .i64 b, .int .i64 c, .int .i64 d] 31)) (.slice (some ⟨w.heap.size, 0, none⟩) 2 2) [(a, b), (c, d)] :=
  .inr ⟨w.heap.size, 0, 2, rfl, by simp, by decide, fun j x hx => by
    match j with
    | 0 => simp at hx; subst hx; exact ⟨by simp, by simp⟩
    | 1 => simp at hx; subst hx; exact ⟨by simp, by simp⟩
    | j + 2 => simp at hx⟩
theorem sat_three (w : World) (a b c d e f : Int) : SAt (w.alloc (.cells #[.int .i64 a, .int .i64 b, .int .i64 c, .int .i64 d, .int .i64 e, .int .i64 f] 31)) (.slice (some ⟨w.heap.size, 0, none⟩) 3 3) [(a, b), (c, d), (e, f)] :=
  .inr ⟨w.heap.size, 0, 3, rfl, by simp, by decide, fun j x hx => by
    match j with
    | 0 => simp at hx; subst hx; exact ⟨by simp, by simp⟩
    | 1 => simp at hx; subst hx; exact ⟨by simp, by simp⟩
    | 2 => simp at hx; subst hx; exact ⟨by simp, by simp⟩
    | j + 3 => simp at hx⟩
def exL : List Sp := [(4, 4), (16, 20)]
theorem exL_set : SetL 0 exL := by unfold exL; simp [SetL]

set_option maxRecDepth 100000 in
theorem ex_is (w : World) : Calls Try.prog 45 #[] w fun e w' => ∃ a c, e = .returned (.slice a 2 c) ∧ SAt w' (.slice a 2 c) (toI exL) ∧ Below w.heap.size w w' := by
  go_enter Try.func45, Try.ntmps45
  go_wp2_with fail
  go_ret
  exact ⟨_, _, rfl, sat_two w 4 4 16 20, (Below.refl _ _).alloc (Nat.le_refl _) _⟩
set_option maxRecDepth 100000 in
theorem one_is (a b : Int) (w : World) : Calls Try.prog 46 #[.int .i64 a, .int .i64 b] w fun e w' => ∃ x c, e = .returned (.slice x 1 c) ∧ SAt w' (.slice x 1 c) [(a, b)] ∧ Below w.heap.size w w' := by
  go_enter Try.func46, Try.ntmps46
  go_wp2_with fail
  go_ret
  exact ⟨_, _, rfl, sat_one w a b, (Below.refl _ _).alloc (Nat.le_refl _) _⟩
theorem one_set {p q : Nat} (h1 : 1 ≤ q) (h2 : p + q ≤ 1024) : SetL 0 [(p, q)] := ⟨Nat.zero_le _, h1, h2, trivial⟩
/-- Two sets are the same if they have the same pages. -/
theorem set_eq {M N : List Sp} (hM : SetL 0 M) (hN : SetL 0 N) (h : ∀ p, p < 1024 → inS M p = inS N p) : M = N := set_ext M N 0 hM hN fun p _ hp => h p hp
theorem Same_eq (L : List Sp) (hl : L.length ≤ 5000) (u v : Value) (w : World) (h : SAt w u (toI L)) (h2 : SAt w v (toI L)) :
    Calls Try.prog 17 #[u, v] w fun e w' => e = .returned (.bool true) ∧ Below w.heap.size w w' :=
  Same_is (toI L) (toI L) true (by simp) (by rw [toI_len]; omega) u v w h h2

set_option maxRecDepth 100000 in
set_option maxHeartbeats 4000000 in
theorem awake_is (w : World) : Calls Try.prog 12 #[] w fun e w' => e = .returned (.bool true) ∧ Below w.heap.size w w' := by
  go_enter Try.func12, Try.ntmps12
  go_wp2_with fail
  have hA0 : Below w.heap.size w (w.alloc (.cells #[.int .i64 6, .int .i64 4, .int .i64 2, .int .i64 3, .int .i64 5, .int .i64 1] 31)) := (Below.refl _ _).alloc (Nat.le_refl _) _
  refine (Of_ok [(6, 4), (2, 3), (5, 1)] (by intro x hx; simp at hx; rcases hx with rfl | rfl | rfl <;> decide) (by decide) _ _ (sat_three w 6 4 2 3 5 1)).mono ?_
  rintro e w1 ⟨M1, hM1, hp1, u1, rfl, h1, B1⟩
  obtain rfl : M1 = [(2, 8)] := set_eq hM1 (one_set (by decide) (by decide)) fun p _ => by rw [hp1, Bool.eq_iff_iff]; simp [inS]; omega
  have D1 := hA0.trans (B1.mono hA0.size)
  obtain ⟨a1, c1, rfl⟩ := h1.form
  clear hp1 hM1
  go_wp2_with fail
  refine (ex_is _).mono ?_
  rintro e w2 ⟨a2, c2, rfl, h2, B2⟩
  have D2 := D1.trans (B2.mono D1.size)
  have h1 := h1.later B2
  go_wp2_with fail
  refine (one_is 6 12 _).mono ?_
  rintro e w3 ⟨a3, c3, rfl, h3, B3⟩
  have D3 := D2.trans (B3.mono D2.size)
  have h1 := h1.later B3
  have h2 := h2.later B3
  go_wp2_with fail
  refine (Meet_ok exL [(6, 12)] exL_set (one_set (by decide) (by decide)) _ _ _ h2 h3).mono ?_
  rintro e w4 ⟨M4, hM4, hp4, u4, rfl, h4, B4⟩
  obtain rfl : M4 = [(6, 2), (16, 2)] := set_eq hM4 (by simp [SetL]) fun p hp => by rw [hp4 p hp, Bool.eq_iff_iff]; simp [inS, exL]; omega
  have D4 := D3.trans (B4.mono D3.size)
  obtain ⟨a4, c4, rfl⟩ := h4.form
  have h1 := h1.later B4
  clear hp4 hM4 h2 h3
  go_wp2_with fail
  refine (ex_is _).mono ?_
  rintro e w5 ⟨a5, c5, rfl, h5, B5⟩
  have D5 := D4.trans (B5.mono D4.size)
  replace h1 := h1.later B5
  replace h4 := h4.later B5
  go_wp2_with fail
  refine (Not_ok exL exL_set 0 16 (by decide) _ _ h5).mono ?_
  rintro e w6 ⟨M6, hM6, hp6, u6, rfl, h6, B6⟩
  have D6 := D5.trans (B6.mono D5.size)
  replace h1 := h1.later B6
  replace h4 := h4.later B6
  replace h5 := h5.later B6
  obtain rfl : M6 = [(0, 4), (8, 8)] := set_eq hM6 (by simp [SetL]) fun p hp => by rw [hp6, Bool.eq_iff_iff]; simp [inS, exL]; omega
  obtain ⟨a6, c6, rfl⟩ := h6.form
  clear hp6 hM6
  clear h5
  go_wp2_with fail
  refine (ex_is _).mono ?_
  rintro e w7 ⟨a7, c7, rfl, h7, B7⟩
  have D7 := D6.trans (B7.mono D6.size)
  replace h1 := h1.later B7
  replace h4 := h4.later B7
  replace h6 := h6.later B7
  go_wp2_with fail
  refine (Count_ok exL exL_set _ _ h7).mono ?_
  rintro e w8 ⟨rfl, B8⟩
  have D8 := D7.trans (B8.mono D7.size)
  replace h1 := h1.later B8
  replace h4 := h4.later B8
  replace h6 := h6.later B8
  replace h7 := h7.later B8
  rw [show cntL exL = 24 from rfl]
  clear h7
  go_wp2_with fail
  refine (ex_is _).mono ?_
  rintro e w9 ⟨a9, c9, rfl, h9, B9⟩
  have D9 := D8.trans (B9.mono D8.size)
  replace h1 := h1.later B9
  replace h4 := h4.later B9
  replace h6 := h6.later B9
  go_wp2_with fail
  refine (First_ok exL exL_set 4 32 (by decide) (by decide) (by decide) (16, 20) [] (by decide) _ _ h9).mono ?_
  rintro e w10 ⟨rfl, B10⟩
  have D10 := D9.trans (B10.mono D9.size)
  replace h1 := h1.later B10
  replace h4 := h4.later B10
  replace h6 := h6.later B10
  replace h9 := h9.later B10
  rw [show algn (16, 20).1 32 = 32 from rfl]
  clear h9
  go_wp2_with fail
  refine (ex_is _).mono ?_
  rintro e w11 ⟨a11, c11, rfl, h11, B11⟩
  have D11 := D10.trans (B11.mono D10.size)
  replace h1 := h1.later B11
  replace h4 := h4.later B11
  replace h6 := h6.later B11
  go_wp2_with fail
  refine (Pieces_ok exL exL_set 16 (by decide) (by decide) _ _ h11).mono ?_
  rintro e w12 ⟨ba, bk, rfl, bA, ⟨uk, bK, hK⟩, B12⟩
  have D12 := D11.trans (B12.mono D11.size)
  replace h1 := h1.later B12
  replace h4 := h4.later B12
  replace h6 := h6.later B12
  replace h11 := h11.later B12
  clear h11
  go_wp2_with fail
  refine (pieces_is exL exL_set 16 (by decide) (by decide) 10 (by decide) (by decide) bk ba uk _ bK hK bA).mono ?_
  rintro e w13 ⟨u13, rfl, h13, B13⟩
  have D13 := D12.trans (B13.mono D12.size)
  replace h1 := h1.later B13
  replace h4 := h4.later B13
  replace h6 := h6.later B13
  replace h13 := SOwn.at h13
  rw [show pcL 16 exL = [(4, 4), (16, 16), (32, 4)] by decide] at h13
  obtain ⟨a13, c13, rfl⟩ := h13.form
  clear bK hK bA
  go_wp2_with fail
  refine (one_is 2 8 _).mono ?_
  rintro e w14 ⟨a14, c14, rfl, h14, B14⟩
  have D14 := D13.trans (B14.mono D13.size)
  replace h1 := h1.later B14
  replace h4 := h4.later B14
  replace h6 := h6.later B14
  replace h13 := h13.later B14
  go_wp2_with fail
  refine (Same_eq [(2, 8)] (by decide) _ _ _ h1 h14).mono ?_
  rintro e w15 ⟨rfl, B15⟩
  have D15 := D14.trans (B15.mono D14.size)
  replace h1 := h1.later B15
  replace h4 := h4.later B15
  replace h6 := h6.later B15
  replace h13 := h13.later B15
  replace h14 := h14.later B15
  clear h1 h14
  go_wp2_with fail
  have A101 : Below w15.heap.size w15 (w15.alloc (.cells #[.int .i64 6, .int .i64 2, .int .i64 16, .int .i64 2] 31)) := (Below.refl _ _).alloc (Nat.le_refl _) _
  have D101 := D15.trans (A101.mono D15.size)
  replace h4 := h4.later A101
  replace h6 := h6.later A101
  replace h13 := h13.later A101
  refine (Same_eq [(6, 2), (16, 2)] (by decide) _ _ _ h4 (sat_two w15 6 2 16 2)).mono ?_
  rintro e w16 ⟨rfl, B16⟩
  have D16 := D101.trans (B16.mono D101.size)
  replace h4 := h4.later B16
  replace h6 := h6.later B16
  replace h13 := h13.later B16
  clear h4
  go_wp2_with fail
  have A102 : Below w16.heap.size w16 (w16.alloc (.cells #[.int .i64 0, .int .i64 4, .int .i64 8, .int .i64 8] 31)) := (Below.refl _ _).alloc (Nat.le_refl _) _
  have D102 := D16.trans (A102.mono D16.size)
  replace h6 := h6.later A102
  replace h13 := h13.later A102
  refine (Same_eq [(0, 4), (8, 8)] (by decide) _ _ _ h6 (sat_two w16 0 4 8 8)).mono ?_
  rintro e w17 ⟨rfl, B17⟩
  have D17 := D102.trans (B17.mono D102.size)
  replace h6 := h6.later B17
  replace h13 := h13.later B17
  clear h6
  go_wp2_with fail
  have A103 : Below w17.heap.size w17 (w17.alloc (.cells #[.int .i64 4, .int .i64 4, .int .i64 16, .int .i64 16, .int .i64 32, .int .i64 4] 31)) := (Below.refl _ _).alloc (Nat.le_refl _) _
  have D103 := D17.trans (A103.mono D17.size)
  replace h13 := h13.later A103
  refine (Same_eq [(4, 4), (16, 16), (32, 4)] (by decide) _ _ _ h13 (sat_three w17 4 4 16 16 32 4)).mono ?_
  rintro e w18 ⟨rfl, B18⟩
  have D18 := D103.trans (B18.mono D103.size)
  replace h13 := h13.later B18
  clear h13
  go_wp2_with fail
  go_ret
  exact ⟨rfl, D18⟩
end Go.Proofs.Ytgljfiihaehedaa
