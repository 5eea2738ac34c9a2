/- RefusalsAsks. -/
import Derived.Test.YtldebakeebajkaaDoorRfAk
import Derived.Test.YtldebakeebajkaaDoorRfHf
import Derived.Test.YtldebakeebajkaaDoorRfFar
import Derived.Test.YtldebakeebajkaaDoorRfPr
namespace Go.Proofs.YtldebakeebajkaaDoor
open Go.RowKit Go.Shelf
attribute [local go_sem] Oper.semAt_some

set_option maxRecDepth 100000 in
set_option maxHeartbeats 2000000 in
theorem asks_far (v : Value) (l : List RlI) (hfar : farB l.length = true) (k n : Int) (w : World) (hw : Gd w) (hr : RAt w v l) :
    Calls Tryd.prog 3 #[.agg #[v], .int .i64 k, .int .i64 n] w fun e w' => e = .returned (.bool true) ∧ Below w.heap.size w w' := by
  have hb1 : Below w.heap.size w (w.alloc (.cells #[v] 24)) := (Below.refl _ _).alloc (Nat.le_refl _) _
  have HF := Lib.hid (far_is v l true hfar _ (hr.later hb1))
  clear hfar
  go_enter Tryd.func3, Tryd.ntmps3
  go_wp2_with fail
  refine HF.out.mono ?_
  rintro e w1 ⟨rfl, B1⟩
  have hB1 := hb1.trans (B1.mono hb1.size)
  go_wp2_with fail
  refine (shown_is _ (hw.later hB1)).mono ?_
  rintro e w2 ⟨rfl, B2⟩
  go_wp2
  go_ret
  exact ⟨rfl, hB1.trans (B2.mono hB1.size)⟩
set_option maxRecDepth 100000 in
set_option maxHeartbeats 4000000 in
theorem asks_any (v : Value) (l : List RlI) (hfar : farB l.length = false) (k n : Int) (w : World) (hw : Gd w) (hr : RAt w v l) (b : Bool) (e1 x e2 y e3 : Int)
    (hR : ∀ W, RAt W v l → Calls Tryd.prog 16 #[.agg #[v], .int .i64 k, .int .i64 n] W fun e w' => e = .returned (.tuple #[.bool b, .int .i64 e1]) ∧ Below W.heap.size W w')
    (hRR : ∀ W, RAt W v l → Calls Tryd.prog 17 #[.agg #[v], .int .i64 k, .int .i64 n] W fun e w' => e = .returned (.tuple #[.bool b, .int .i64 e1]) ∧ Below W.heap.size W w')
    (hH : ∀ W, RAt W v l → Calls Tryd.prog 18 #[.agg #[v], .int .i64 k, .int .i64 n] W fun e w' => e = .returned (.tuple #[.int .i64 x, .int .i64 e2]) ∧ Below W.heap.size W w')
    (hRH : ∀ W, RAt W v l → Calls Tryd.prog 19 #[.agg #[v], .int .i64 k, .int .i64 n] W fun e w' => e = .returned (.tuple #[.int .i64 x, .int .i64 e2]) ∧ Below W.heap.size W w')
    (hA : ∀ W, RAt W v l → Calls Tryd.prog 20 #[.agg #[v], .int .i64 k, .int .i64 n] W fun e w' => e = .returned (.tuple #[.int .i64 y, .int .i64 e3]) ∧ Below W.heap.size W w')
    (hRA : ∀ W, RAt W v l → Calls Tryd.prog 21 #[.agg #[v], .int .i64 k, .int .i64 n] W fun e w' => e = .returned (.tuple #[.int .i64 y, .int .i64 e3]) ∧ Below W.heap.size W w') :
    Calls Tryd.prog 3 #[.agg #[v], .int .i64 k, .int .i64 n] w fun e w' => e = .returned (.bool true) ∧ Below w.heap.size w w' := by
  have hb1 : Below w.heap.size w (w.alloc (.cells #[v] 24)) := (Below.refl _ _).alloc (Nat.le_refl _) _
  have hbx := Boxed.new w 24 v
  have HF := Lib.hid (far_is v l false hfar _ (hr.later hb1))
  obtain ⟨i, c, hc⟩ : ∃ i c, chkP l = (i, c) := ⟨_, _, rfl⟩
  have HC := Lib.hid (fun W hW => Check_is v l i c hc W hW)
  have HRC := Lib.hid (fun W hW => RCheck_is v l i c hc W hW)
  have HR := Lib.hid hR
  have HRR := Lib.hid hRR
  have HH := Lib.hid hH
  have HRH := Lib.hid hRH
  have HA := Lib.hid hA
  have HRA := Lib.hid hRA
  have hcc : (c != c) = false := by simp
  have hii : (((i : Nat) : Int) != ((i : Nat) : Int)) = false := by simp
  clear hfar hc hR hRR hH hRH hA hRA
  go_enter Tryd.func3, Tryd.ntmps3
  go_wp2_with fail
  refine HF.out.mono ?_
  rintro e w1 ⟨rfl, B1⟩
  have hB1 := hb1.trans (B1.mono hb1.size)
  have l1 := hbx.kept (grown_of_below B1) (by simp)
  have q1 := l1.cell
  go_wp2_with fail
  refine (HC.out _ (hr.later hB1)).mono ?_
  rintro e w2 ⟨rfl, B2⟩
  have hB2 := hB1.trans (B2.mono hB1.size)
  have l2 := l1.kept (grown_of_below B2) (by simp)
  have q2 := l2.cell
  go_wp2_with fail
  refine (HRC.out _ (hr.later hB2)).mono ?_
  rintro e w3 ⟨rfl, B3⟩
  have hB3 := hB2.trans (B3.mono hB2.size)
  have l3 := l2.kept (grown_of_below B3) (by simp)
  have q3 := l3.cell
  go_wp2_with fail
  refine (HR.out _ (hr.later hB3)).mono ?_
  rintro e w4 ⟨rfl, B4⟩
  have hB4 := hB3.trans (B4.mono hB3.size)
  have l4 := l3.kept (grown_of_below B4) (by simp)
  have q4 := l4.cell
  go_wp2_with fail
  refine (HRR.out _ (hr.later hB4)).mono ?_
  rintro e w5 ⟨rfl, B5⟩
  have hB5 := hB4.trans (B5.mono hB4.size)
  have l5 := l4.kept (grown_of_below B5) (by simp)
  have q5 := l5.cell
  go_wp2_with fail
  refine (HH.out _ (hr.later hB5)).mono ?_
  rintro e w6 ⟨rfl, B6⟩
  have hB6 := hB5.trans (B6.mono hB5.size)
  have l6 := l5.kept (grown_of_below B6) (by simp)
  have q6 := l6.cell
  go_wp2_with fail
  refine (HRH.out _ (hr.later hB6)).mono ?_
  rintro e w7 ⟨rfl, B7⟩
  have hB7 := hB6.trans (B7.mono hB6.size)
  have l7 := l6.kept (grown_of_below B7) (by simp)
  have q7 := l7.cell
  go_wp2_with fail
  refine (HA.out _ (hr.later hB7)).mono ?_
  rintro e w8 ⟨rfl, B8⟩
  have hB8 := hB7.trans (B8.mono hB7.size)
  have l8 := l7.kept (grown_of_below B8) (by simp)
  have q8 := l8.cell
  go_wp2_with fail
  refine (HRA.out _ (hr.later hB8)).mono ?_
  rintro e w9 ⟨rfl, B9⟩
  have hB9 := hB8.trans (B9.mono hB8.size)
  go_wp2_with fail
  refine (shown_is _ (hw.later hB9)).mono ?_
  rintro e w10 ⟨rfl, B10⟩
  go_wp2
  go_ret
  exact ⟨rfl, hB9.trans (B10.mono hB9.size)⟩
theorem law_asks (v : Value) (l : List RlI) (k n : Int) (w : World) (hw : Gd w) (hr : RAt w v l) :
    Calls Tryd.prog 3 #[.agg #[v], .int .i64 k, .int .i64 n] w fun e w' => e = .returned (.bool true) ∧ Below w.heap.size w w' := by
  cases hf : farB l.length
  · obtain ⟨c0, h0⟩ : ∃ c, callE l k n 0 = c := ⟨_, rfl⟩
    obtain ⟨c1, h1⟩ : ∃ c, callE l k n 1 = c := ⟨_, rfl⟩
    by_cases hc0 : c0 = 0
    · subst hc0
      obtain ⟨L, kd, rfl, hL, rfl, hk, hn0, hn6⟩ := callE_ok h0
      obtain ⟨m, rfl⟩ : ∃ m : Nat, n = (m : Int) := ⟨n.toNat, by omega⟩
      have hm6 : m ≤ 1000000 := by omega
      by_cases hc1 : c1 = 0
      · subst hc1
        obtain ⟨_, _, _, _, _, _, hn1, _⟩ := callE_ok h1
        exact asks_any v _ hf kd m w hw hr _ _ _ _ _ _
          (fun W hW => Refused_ok L hL kd m hk (by omega) hm6 v W hW) (fun W hW => RRefused_ok L hL kd m hk (by omega) hm6 v W hW)
          (fun W hW => Hits_all L hL kd m hk hm6 v W hW) (fun W hW => RHits_ok L hL kd m hk hm6 v W hW)
          (fun W hW => After_ok L hL kd m hk hm6 v W hW) (fun W hW => RAfter_ok L hL kd m hk hm6 v W hW)
      · exact asks_any v _ hf kd m w hw hr _ _ _ _ _ _
          (fun W hW => Refused_bad v _ kd m c1 h1 hc1 W hW) (fun W hW => RRefused_bad v _ kd m c1 h1 hc1 W hW)
          (fun W hW => Hits_all L hL kd m hk hm6 v W hW) (fun W hW => RHits_ok L hL kd m hk hm6 v W hW)
          (fun W hW => After_ok L hL kd m hk hm6 v W hW) (fun W hW => RAfter_ok L hL kd m hk hm6 v W hW)
    · have hc1 : c1 ≠ 0 := by
        intro e
        subst e
        obtain ⟨L, kd, rfl, hL, rfl, hk, hn1, hn6⟩ := callE_ok h1
        rw [callE_of hL kd hk n 0 (by omega) hn6] at h0
        exact hc0 h0.symm
      exact asks_any v l hf k n w hw hr _ _ _ _ _ _
        (fun W hW => Refused_bad v l k n c1 h1 hc1 W hW) (fun W hW => RRefused_bad v l k n c1 h1 hc1 W hW)
        (fun W hW => Hits_bad v l k n c0 h0 hc0 W hW) (fun W hW => RHits_bad v l k n c0 h0 hc0 W hW)
        (fun W hW => After_bad v l k n c0 h0 hc0 W hW) (fun W hW => RAfter_bad v l k n c0 h0 hc0 W hW)
  · exact asks_far v l hf k n w hw hr
end Go.Proofs.YtldebakeebajkaaDoor
