/- First and Best: both ways answer the same; the law SpansPlaces. -/
import Derived.Test.YtgljfiihaehedaaRFind
import Derived.Test.YtgljfiihaehedaaAsksL
namespace Go.Proofs.Ytgljfiihaehedaa
open Go.RowKit
attribute [local go_sem] Oper.semAt_some

theorem find_two (l : List SpI) (fl : Fit l) (m a : Int) (fa : I64 a) : ∃ (r1 r2 c : Int), (∀ u w, SAt w u l → Calls Try.prog 32 #[u, .int .i64 m, .int .i64 a] w fun e w' => RetI w r1 c e w') ∧ (∀ u w, SAt w u l → Calls Try.prog 34 #[u, .int .i64 m, .int .i64 a] w fun e w' => RetI w r2 c e w') ∧
    (∀ u w, SAt w u l → Calls Try.prog 65 #[u, .int .i64 m, .int .i64 a, .bool false] w fun e w' => RetI w r1 c e w') ∧ (∀ u w, SAt w u l → Calls Try.prog 65 #[u, .int .i64 m, .int .i64 a, .bool true] w fun e w' => RetI w r2 c e w') := by
  by_cases hc : fitE l m a = 0
  · obtain ⟨L, m', al, rfl, hL, rfl, rfl, q1, q2, q3, q4, q5⟩ := fitE_ok hc
    cases hF : L.filter (fits m' al) with
    | nil =>
      refine ⟨0, 0, 4, fun u w h => First_none L hL m' al q1 q2 q5 hF u w h, fun u w h => Best_none L hL m' al q1 q2 q5 hF u w h, fun u w h => ?_, fun u w h => ?_⟩
      · have := find_ok L hL m' al q1 q2 q3 q4 q5 false u w h
        rw [hF] at this; exact this
      · have := find_ok L hL m' al q1 q2 q3 q4 q5 true u w h
        rw [hF] at this; exact this
    | cons x F =>
      refine ⟨(algn x.1 al : Nat), (algn (F.foldl minS x).1 al : Nat), 0, fun u w h => First_ok L hL m' al q1 q2 q5 x F hF u w h, fun u w h => Best_ok L hL m' al q1 q2 q5 x F hF u w h, fun u w h => ?_, fun u w h => ?_⟩
      · have := find_ok L hL m' al q1 q2 q3 q4 q5 false u w h
        rw [hF] at this; exact this
      · have := find_ok L hL m' al q1 q2 q3 q4 q5 true u w h
        rw [hF] at this; exact this
  · exact ⟨0, 0, fitE l m a, fun u w h => First_bad l fl m a fa _ rfl hc u w h, fun u w h => Best_bad l fl m a fa _ rfl hc u w h, fun u w h => find_bad l fl m a false _ rfl hc u w h, fun u w h => find_bad l fl m a true _ rfl hc u w h⟩

set_option maxRecDepth 100000 in
theorem RFirst_is (l : List SpI) (m a r c : Int) (hf : ∀ u w, SAt w u l → Calls Try.prog 65 #[u, .int .i64 m, .int .i64 a, .bool false] w fun e w' => RetI w r c e w') (u : Value) (w : World) (h : SAt w u l) :
    Calls Try.prog 33 #[u, .int .i64 m, .int .i64 a] w fun e w' => RetI w r c e w' := by
  have HF := Lib.hid (hf u w h)
  clear hf
  go_enter Try.func33, Try.ntmps33
  go_wp2_with fail
  refine HF.out.mono ?_
  rintro e w1 ⟨rfl, B1⟩
  go_wp2
  go_ret2
  exact ⟨rfl, B1⟩
set_option maxRecDepth 100000 in
theorem RBest_is (l : List SpI) (m a r c : Int) (hf : ∀ u w, SAt w u l → Calls Try.prog 65 #[u, .int .i64 m, .int .i64 a, .bool true] w fun e w' => RetI w r c e w') (u : Value) (w : World) (h : SAt w u l) :
    Calls Try.prog 35 #[u, .int .i64 m, .int .i64 a] w fun e w' => RetI w r c e w' := by
  have HF := Lib.hid (hf u w h)
  clear hf
  go_enter Try.func35, Try.ntmps35
  go_wp2_with fail
  refine HF.out.mono ?_
  rintro e w1 ⟨rfl, B1⟩
  go_wp2
  go_ret2
  exact ⟨rfl, B1⟩

set_option maxRecDepth 100000 in
set_option maxHeartbeats 4000000 in
theorem law_places (u : Value) (l : List SpI) (fl : Fit l) (m a : Int) (fa : I64 a) (w : World) (h : SAt w u l) :
    Calls Try.prog 6 #[u, .int .i64 m, .int .i64 a] w fun e w' => e = .returned (.bool true) ∧ Below w.heap.size w w' := by
  obtain ⟨r1, r2, c, h1, h2, h3, h4⟩ := find_two l fl m a fa
  have O1 := Lib.hid h1
  have O2 := Lib.hid h2
  have R1 := Lib.hid (RFirst_is l m a r1 c h3)
  have R2 := Lib.hid (RBest_is l m a r2 c h4)
  have D0 : Below w.heap.size w w := Below.refl _ _
  clear h1 h2 h3 h4
  cases hg : decide (2100 < l.length)
  · have HG := Lib.hid hg
    clear hg
    go_enter Try.func6, Try.ntmps6
    go_wp2_with fail
    refine (long_is l false HG.out _ _ h).mono ?_
    rintro e w1 ⟨rfl, B1⟩
    have D1 := D0.trans (B1.mono D0.size)
    replace h := h.later B1
    go_wp2_with fail
    refine (O1.out _ _ h).mono ?_
    rintro e w2 ⟨rfl, B2⟩
    have D2 := D1.trans (B2.mono D1.size)
    replace h := h.later B2
    go_wp2_with fail
    refine (R1.out _ _ h).mono ?_
    rintro e w3 ⟨rfl, B3⟩
    have D3 := D2.trans (B3.mono D2.size)
    replace h := h.later B3
    go_wp2_with fail
    refine (O2.out _ _ h).mono ?_
    rintro e w4 ⟨rfl, B4⟩
    have D4 := D3.trans (B4.mono D3.size)
    replace h := h.later B4
    go_wp2_with fail
    refine (R2.out _ _ h).mono ?_
    rintro e w5 ⟨rfl, B5⟩
    have D5 := D4.trans (B5.mono D4.size)
    replace h := h.later B5
    go_wp2_with fail
    refine (awake_is _).mono ?_
    rintro e w6 ⟨rfl, B6⟩
    have D6 := D5.trans (B6.mono D5.size)
    replace h := h.later B6
    go_wp2_with fail
    go_ret
    exact ⟨rfl, D6⟩
  · have HG := Lib.hid hg
    clear hg
    go_enter Try.func6, Try.ntmps6
    go_wp2_with fail
    refine (long_is l true HG.out _ _ h).mono ?_
    rintro e w1 ⟨rfl, B1⟩
    have D1 := D0.trans (B1.mono D0.size)
    replace h := h.later B1
    go_wp2_with fail
    refine (awake_is _).mono ?_
    rintro e w2 ⟨rfl, B2⟩
    have D2 := D1.trans (B2.mono D1.size)
    replace h := h.later B2
    go_wp2_with fail
    go_ret
    exact ⟨rfl, D2⟩
end Go.Proofs.Ytgljfiihaehedaa
