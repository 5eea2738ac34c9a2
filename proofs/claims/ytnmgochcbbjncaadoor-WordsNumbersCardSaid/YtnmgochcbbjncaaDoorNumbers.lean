/- The law of the numbers: its walk. -/
import Derived.Test.YtnmgochcbbjncaaDoorShown
import Derived.Test.YtnmgochcbbjncaaDoorRefI
namespace Go.Proofs.YtnmgochcbbjncaaDoor
open Go.RowKit

theorem Int_e (s : BA) (mn mx a e : Int) (w : World) (hw : Gd w) (hs : s.size ≤ 281474976710656) (hmn : -9223372036854775808 ≤ mn) (hmx : mx ≤ 9223372036854775807) (ha : (intB s.data.toList mn mx).1 = a) (he : (intB s.data.toList mn mx).2 = e) :
    Calls Tryd.prog 15 #[.string s, .int .i64 mn, .int .i64 mx] w fun x w' => x = .returned (.tuple #[.int .i64 a, .int .i64 e]) ∧ Below w.heap.size w w' := by
  subst ha; subst he; exact Int_any s mn mx w hw hs hmn hmx
theorem refInt_e (s : BA) (mn mx a e : Int) (w : World) (hs : s.size ≤ maxLen) (hmn : -9223372036854775808 ≤ mn) (hmx : mx ≤ 9223372036854775807) (ha : (intB s.data.toList mn mx).1 = a) (he : (intB s.data.toList mn mx).2 = e) :
    Calls Tryd.prog 16 #[.string s, .int .i64 mn, .int .i64 mx] w fun x w' => x = .returned (.tuple #[.int .i64 a, .int .i64 e]) ∧ Below w.heap.size w w' := by
  subst ha; subst he; exact refInt_any s mn mx w hs hmn hmx
theorem Int_back (n : Int) (D : BA) (hD : (⟨(Lib.itoa n).toArray⟩ : BA) = D) (h0 : -9223372036854775808 ≤ n) (h1 : n ≤ 9223372036854775807) :
    (intB D.data.toList (-9223372036854775808) 9223372036854775807).1 = n ∧ (intB D.data.toList (-9223372036854775808) 9223372036854775807).2 = 0 ∧ D.size ≤ 281474976710656 := by
  subst hD
  have e : (⟨(Lib.itoa n).toArray⟩ : BA).data.toList = Lib.itoa n := rfl
  obtain ⟨i1, i2⟩ := numV_itoa n
  have hI : intB (Lib.itoa n) (-9223372036854775808) 9223372036854775807 = (n, 0) := by
    unfold intB
    rw [if_neg (by omega), if_neg (by rw [i2]; decide), i1, if_neg (by omega)]
  rw [e, hI]
  refine ⟨rfl, rfl, ?_⟩
  rw [Lib.size_eq, e]
  have := Lib.itoa_length_le n h0 h1
  omega
theorem Digits_e (n : Int) (D : BA) (w : World) (hw : Gd w) (h0 : -9223372036854775808 ≤ n) (h1 : n ≤ 9223372036854775807) (hD : (⟨(Lib.itoa n).toArray⟩ : BA) = D) :
    Calls Tryd.prog 17 #[.int .i64 n] w fun e w' => e = .returned (.string D) ∧ Below w.heap.size w w' := by
  subst hD; exact Digits_any n w hw h0 h1
theorem refDigits_e (n : Int) (D : BA) (w : World) (h0 : -9223372036854775808 ≤ n) (h1 : n ≤ 9223372036854775807) (hD : (⟨(Lib.itoa n).toArray⟩ : BA) = D) :
    Calls Tryd.prog 18 #[.int .i64 n] w fun e w' => e = .returned (.string D) ∧ Below w.heap.size w w' := by
  subst hD; exact refDigits_any n w h0 h1

set_option maxRecDepth 100000 in
set_option maxHeartbeats 8000000 in
theorem law_numbers (n mn mx : Int) (s : BA) (w : World) (hgd : Gd w) (hs : s.size ≤ maxLen) (hn0 : -9223372036854775808 ≤ n) (hn1 : n ≤ 9223372036854775807) (hmn : -9223372036854775808 ≤ mn) (hmx : mx ≤ 9223372036854775807) :
    Calls Tryd.prog 4 #[.int .i64 n, .agg #[.string s, .int .i64 mn, .int .i64 mx]] w fun e w' => e = .returned (.bool true) ∧ Below w.heap.size w w' := by
  have hs' := hs
  unfold maxLen at hs'
  have b0 := (Below.refl w.heap.size w).alloc (Nat.le_refl _) (.cells #[.string s, .int .i64 mn, .int .i64 mx] 25)
  have g0 := hgd.later b0
  by_cases hb : 20000 < s.size
  · go_enter Tryd.func4, Tryd.ntmps4
    go_wp2_with (first | (go_at_call 10; refine (shown_any _ g0).mono ?_; rintro e w1 ⟨rfl, hB⟩))
    go_ret
    exact ⟨rfl, b0.trans (hB.mono b0.size)⟩
  · obtain ⟨a, HA⟩ : ∃ a : Int, Hid ((intB s.data.toList mn mx).1 = a) := ⟨_, rfl⟩
    obtain ⟨e1, HE⟩ : ∃ a : Int, Hid ((intB s.data.toList mn mx).2 = a) := ⟨_, rfl⟩
    obtain ⟨D, HD⟩ : ∃ D : BA, Hid ((⟨(Lib.itoa n).toArray⟩ : BA) = D) := ⟨_, rfl⟩
    have hback := Int_back n D HD.out hn0 hn1
    have HBK := Lib.hid hback
    clear hback hs'
    obtain ⟨W1, hW1⟩ : ∃ W1, w.alloc (.cells #[.string s, .int .i64 mn, .int .i64 mx] 25) = W1 := ⟨_, rfl⟩
    have c0 : W1.cell? ⟨w.heap.size, 0, none⟩ = some (.string s) := by rw [← hW1]; simp
    have c1 : W1.cell? ⟨w.heap.size, 1, none⟩ = some (.int .i64 mn) := by rw [← hW1]; simp
    have c2 : W1.cell? ⟨w.heap.size, 2, none⟩ = some (.int .i64 mx) := by rw [← hW1]; simp
    rw [hW1] at g0 b0
    go_enter Tryd.func4, Tryd.ntmps4
    go_wp2_with fail
    refine (Int_e s mn mx a e1 _ g0 (by omega) hmn hmx HA.out HE.out).mono ?_
    rintro e w1 ⟨rfl, hB1⟩
    have b1 := b0.trans (hB1.mono b0.size)
    have g1 := hgd.later b1
    have d0 := cell_later hB1 c0
    have d1 := cell_later hB1 c1
    have d2 := cell_later hB1 c2
    clear hB1
    go_wp2_with fail
    refine (refInt_e s mn mx a e1 _ hs hmn hmx HA.out HE.out).mono ?_
    rintro e w2 ⟨rfl, hB2⟩
    have b2 := b1.trans (hB2.mono b1.size)
    have g2 := hgd.later b2
    clear hB2 b1 g1
    go_wp2_with fail
    refine (Digits_e n D _ g2 hn0 hn1 HD.out).mono ?_
    rintro e w3 ⟨rfl, hB3⟩
    have b3 := b2.trans (hB3.mono b2.size)
    have g3 := hgd.later b3
    clear hB3 b2 g2
    go_wp2_with fail
    refine (Int_e D _ _ n 0 _ g3 HBK.out.2.2 (by omega) (by omega) HBK.out.1 HBK.out.2.1).mono ?_
    rintro e w4 ⟨rfl, hB4⟩
    have b4 := b3.trans (hB4.mono b3.size)
    have g4 := hgd.later b4
    clear hB4 b3 g3
    go_wp2_with fail
    refine (Digits_e n D _ g4 hn0 hn1 HD.out).mono ?_
    rintro e w5 ⟨rfl, hB5⟩
    have b5 := b4.trans (hB5.mono b4.size)
    have g5 := hgd.later b5
    clear hB5 b4 g4
    go_wp2_with fail
    refine (refDigits_e n D _ hn0 hn1 HD.out).mono ?_
    rintro e w6 ⟨rfl, hB6⟩
    have b6 := b5.trans (hB6.mono b5.size)
    have g6 := hgd.later b6
    clear hB6 b5 g5
    go_wp2_with (first | (go_at_call 10; refine (shown_any _ g6).mono ?_; rintro e w7 ⟨rfl, hB7⟩))
    go_ret
    exact ⟨rfl, b6.trans (hB7.mono b6.size)⟩
end Go.Proofs.YtnmgochcbbjncaaDoor
