/- The reference: Rest. -/
import Derived.Test.YtldebakeebajkaaDoorRfRr
namespace Go.Proofs.YtldebakeebajkaaDoor
open Go.RowKit Go.Shelf
attribute [local go_sem] Oper.semAt_some

set_option maxRecDepth 100000 in
set_option maxHeartbeats 2000000 in
theorem RRest_bad (v : Value) (c h : Nat → Int) (x : Int) (hx : x ≠ 0) (w : World) (hC : ∀ W, Below w.heap.size w W → Calls Tryd.prog 32 #[stV v c h] W fun e w' => e = .returned (.int .i64 x) ∧ Below W.heap.size W w') :
    Calls Tryd.prog 36 #[stV v c h] w fun e w' => e = .returned (.tuple #[.agg #[.slice none 0 0], .int .i64 x]) ∧ Below w.heap.size w w' := by
  obtain ⟨WL, hWL, hb, sS, sR⟩ := rest_world w v c h
  have HC := Lib.hid (hC WL hb)
  have hq : (x != 0) = true := by simp [hx]
  clear hx hC
  go_enter Tryd.func36, Tryd.ntmps36
  go_wp2_with (refine wpList_load_row rfl 40 _ rfl w.heap.size rfl 40 _ (0, 0) _ sS Tryd.underlying40 rfl (st_i _ _ _) ?_)
  try rw [hWL]
  refine HC.out.mono ?_
  rintro e w1 ⟨rfl, B1⟩
  have r1 : Boxed w1 (w.heap.size + 1) 24 (.slice none 0 0) := sR.kept (grown_of_below B1) (by simp)
  have hB1 := hb.trans (B1.mono hb.size)
  have f1 := r1.frozen
  have c1 := r1.cell
  clear hWL
  go_wp2_with fail
  have r2 : Boxed (w1.setCell ⟨w.heap.size + 1, 0, none⟩ (.slice none 0 0)) (w.heap.size + 1) 24 (.slice none 0 0) := r1.set _
  have c2 := r2.cell
  refine bodyPost_ret (v := .tuple #[.agg #[.slice none 0 0], .int .i64 x]) (by simp [results, Tryd.results36, go_sem, c2]) rfl ⟨rfl, hB1.setCell (by dsimp only; omega) _⟩

set_option maxRecDepth 100000 in
set_option maxHeartbeats 4000000 in
theorem RRest_ok (v : Value) (L : List Ru) (hL : OkL L) (c h : Nat → Int) (hrs : csF L c h = 0) (md : Nat → Nat) (hmd : ∀ k, k < 7 → c k = (md k : Int)) (hmd2 : ∀ k, k < 7 → md k ≤ 1000000) (w : World) (hr : RAt w v (toI L)) :
    Calls Tryd.prog 36 #[stV v c h] w fun e w' => ∃ u, e = .returned (.tuple #[.agg #[u], .int .i64 0]) ∧ RAt w' u (toI (restL L md)) ∧ Below w.heap.size w w' := by
  obtain ⟨WL, hWL, hb, sS, sR⟩ := rest_world w v c h
  have HC := Lib.hid (RCheckState_is v L hL c h 0 hrs WL (hr.later hb))
  have HL := Lib.hid hL
  obtain ⟨va, vc, rfl⟩ := hr.form
  obtain ⟨n, hn⟩ : ∃ n, L.length = n := ⟨_, rfl⟩
  have HN := Lib.hid hn
  have hn50 : n ≤ 50 := by have := hL.1; omega
  have HLN : Hid ((toI L).length = n) := by unfold Hid; rw [toI_len, hn]
  rw [HLN.out] at hr hWL sS HC ⊢
  obtain ⟨i0, hi, hz0, hz1, hz2⟩ := info_parts Tryd.infoRl
  have Hhi := Lib.hid hi
  have Hz0 := Lib.hid hz0
  have Hz1 := Lib.hid hz1
  have Hz2 := Lib.hid hz2
  clear hrs hn hi hz0 hz1 hz2
  go_enter Tryd.func36, Tryd.ntmps36
  go_wp2_with (refine wpList_load_row rfl 40 _ rfl w.heap.size rfl 40 _ (0, 0) _ sS Tryd.underlying40 rfl (st_i _ _ _) ?_)
  try rw [hWL]
  refine HC.out.mono ?_
  rintro e w1 ⟨rfl, B1⟩
  have s1 := sS.later B1
  have r1 : Boxed w1 (w.heap.size + 1) 24 (.slice none 0 0) := sR.kept (grown_of_below B1) (by simp)
  have hB1 := hb.trans (B1.mono hb.size)
  have r1l := r1.lt
  obtain ⟨W2, hW2⟩ : ∃ x, w1.alloc (.cells #[.slice none 0 0] 24) = x := ⟨_, rfl⟩
  have B2 : Below w1.heap.size w1 W2 := by rw [← hW2]; exact (Below.refl _ _).alloc (Nat.le_refl _) _
  have l2 : Boxed W2 w1.heap.size 24 (.slice none 0 0) := by rw [← hW2]; exact Boxed.new w1 _ _
  have s2 := s1.later B2
  have r2 : Boxed W2 (w.heap.size + 1) 24 (.slice none 0 0) := r1.kept (grown_of_below B2) (by simp)
  have hB2 := hB1.trans (B2.mono hB1.size)
  have q2 := s2.v
  obtain ⟨Q, hQ⟩ : ∃ x, w1.heap.size = x := ⟨_, rfl⟩
  clear hWL
  go_wp2_with fail
  try rw [hW2]
  rw [hQ] at l2 r1l
  have hz2 : W2.heap.size = Q + 1 := by rw [← hW2, World.size_alloc, hQ]
  clear hW2 hQ
  go_loopw [6] (fun i wr => ∃ (k : Nat) (u : Value), k ≤ n ∧ i = .int .i64 k ∧ Boxed wr Q 24 u ∧ wr.ownsRow (Q + 1) 61 4 u (toI (restL (L.take k) md)).length (rowU (toI (restL (L.take k) md))) ∧ SBox wr w.heap.size (.slice va n vc) c h ∧ Boxed wr (w.heap.size + 1) 24 (.slice none 0 0) ∧ Below w.heap.size w wr ∧ Q + 1 ≤ wr.heap.size) (fun i _ => n - (intOf i).toNat)
  case atStart => exact ⟨0, _, Nat.zero_le _, rfl, l2, World.ownsRow_nil _ _ _ _, s2, r2, hB2, by omega⟩
  case round =>
    clear l2 s2 r2 hB2 q2
    obtain ⟨k, u, hk, rfl, hl, ho, hS, hR, hB, hQ1⟩ := hrel
    have qv := hS.v
    by_cases hlt : k < n
    · obtain ⟨r, hx⟩ : ∃ x, L[k]? = some x := ⟨_, List.getElem?_eq_getElem (by rw [HN.out]; exact hlt)⟩
      have hrk := HL.out.get hx
      obtain ⟨b, off, rfl, _, k1, k2, k3, k4⟩ := hr.at k _ (toI_some hx)
      replace k1 := cell_later hB k1
      replace k2 := cell_later hB k2
      replace k3 := cell_later hB k3
      replace k4 := cell_later hB k4
      simp only [Ru.toI] at k1 k2 k3 k4
      have hi1 : (k : Int) < (n : Int) := by omega
      have hk7 := hrk.k
      have hck := hS.c r.k hk7
      rw [hmd r.k hk7] at hck
      obtain ⟨m, hm⟩ : ∃ m, md r.k = m := ⟨_, rfl⟩
      have hm6 : m ≤ 1000000 := by rw [← hm]; exact hmd2 r.k hk7
      rw [hm] at hck
      have hk7i : (r.k : Int) < 7 := by omega
      have hst := restL_take L md k r hx
      have har := arr7
      have hsz := hB.size
      have hSl := hS.lt
      have hrk1 := hrk.f1; have hrk2 := hrk.f2; have hrk3 := hrk.e2; have hrk4 := hrk.t2; have hrk5 := hrk.et
      obtain ⟨rk, rf, re, rt⟩ := r
      simp only at k1 k2 k3 k4 hk7 hck hm hk7i hrk1 hrk2 hrk3 hrk4 hrk5
      have HRK := Lib.hid hrk
      have HST : Hid (restL (L.take (k + 1)) md = restL (L.take k) md ++ rest1 md ⟨rk, rf, re, rt⟩) := hst
      have HM := Lib.hid hm
      have S4 := hS.c rk hk7
      rw [hmd rk hk7, hm] at S4
      clear hst hx hm hrk
      go_wp2_with fail
      obtain ⟨V, rfl⟩ : ∃ V, V = wr := ⟨_, rfl⟩
      have x4 : RBox (V.alloc (.cells #[.int .i64 (rk : Int), .int .i64 (rf : Int), .int .i64 (re : Int), .int .i64 (rt : Int)] 61)) V.heap.size ⟨rk, rf, re, rt⟩ := RBox.new V ⟨rk, rf, re, rt⟩
      have b4 : Below V.heap.size V (V.alloc (.cells #[.int .i64 (rk : Int), .int .i64 (rf : Int), .int .i64 (re : Int), .int .i64 (rt : Int)] 61)) := (Below.refl _ _).alloc (Nat.le_refl _) _
      go_loopw [9] (fun b wr => ∃ (fi ti : Nat) (lb : Bool), b = .bool lb ∧ RBox wr V.heap.size ⟨rk, fi, re, ti⟩ ∧ Below V.heap.size V wr ∧ fi ≤ 1020000 ∧ ti ≤ 1000 ∧ Hid (if lb = true then ∃ i, fi = rf + i * re ∧ ti = rt - i ∧ Stp rf re rt m i else later ⟨rk, rf, re, rt⟩ m = none)) (fun b wr => lfm b wr V.heap.size m)
      case atStart => exact ⟨rf, rt, true, rfl, x4, b4, by omega, by omega, ⟨0, by simp, by simp, .inl rfl⟩⟩
      case round =>
        obtain ⟨fi, ti, lb, rfl, hX, hBi, hfi, hti, HI⟩ := hrel
        clear x4 b4
        have x1 := hX.c1; have x2 := hX.c2; have x3 := hX.c3; have xf := hX.frozen 1
        have xlt := hX.lt
        simp only at x1 x2 x3
        cases lb with
        | true =>
          by_cases hle : fi ≤ m
          · have hle2 : (fi : Int) ≤ (m : Int) := by omega
            have Y := hX.setf ((fi : Int) + (re : Int))
            have y3 := Y.c3; have yf := Y.frozen 3
            simp only at y3
            have bY : Below V.heap.size V (wr.setCell ⟨V.heap.size, 1, none⟩ (.int .i64 ((fi : Int) + (re : Int)))) := hBi.setCell (Nat.le_refl _) _
            have hXm := lfm_is hX true m
            have hYm := fun b => lfm_is Y b m
            by_cases he : 0 < re
            · have he2 : (0 : Int) < (re : Int) := by omega
              by_cases ht1 : ti = 1
              · have ht2 : ((ti : Int) != 1) = false := by simp [ht1]
                have ht3 : ¬ (1 : Int) < (ti : Int) := by omega
                have HI2 : Hid (later ⟨rk, rf, re, rt⟩ m = none) := by
                  obtain ⟨i, h1, h2, h3⟩ := HI.out
                  exact stp_none HRK.out h3 (by omega) (.inr (by omega))
                clear hle ht1 HI
                go_wp2_with fail
                go_roundw
                case rel => exact ⟨fi + re, ti, false, by trivial, by rw [show ((fi + re : Nat) : Int) = (fi : Int) + (re : Int) by omega]; exact Y, bY, by omega, hti, by rw [if_neg (by simp)]; exact HI2⟩
                case measure => rw [hXm, hYm]; simp; omega
              · have ht2 : ((ti : Int) != 1) = true := by simp; omega
                have HI2 : Hid (∃ i, fi + re = rf + i * re ∧ ti - 1 = rt - i ∧ Stp rf re rt m i) := by
                  obtain ⟨i, h1, h2, h3⟩ := HI.out
                  exact ⟨i + 1, by rw [Nat.add_mul, Nat.one_mul]; omega, by omega, stp_next h3 (by omega) he (by omega)⟩
                by_cases htp : 1 < ti
                · have ht3 : (1 : Int) < (ti : Int) := by omega
                  have Z := Y.sett ((ti : Int) - 1)
                  have bZ : Below V.heap.size V ((wr.setCell ⟨V.heap.size, 1, none⟩ (.int .i64 ((fi : Int) + (re : Int)))).setCell ⟨V.heap.size, 3, none⟩ (.int .i64 ((ti : Int) - 1))) := bY.setCell (Nat.le_refl _) _
                  have hZm := fun b => lfm_is Z b m
                  clear hle ht1 HI
                  go_wp2_with fail
                  go_roundw
                  case rel => exact ⟨fi + re, ti - 1, true, by trivial, by rw [show ((fi + re : Nat) : Int) = (fi : Int) + (re : Int) by omega, show ((ti - 1 : Nat) : Int) = (ti : Int) - 1 by omega]; exact Z, bZ, by omega, by omega, by rw [if_pos rfl]; exact HI2⟩
                  case measure => rw [hXm, hZm]; simp; omega
                · have ht3 : ¬ (1 : Int) < (ti : Int) := by omega
                  rw [show ti - 1 = ti by omega] at HI2
                  clear hle ht1 HI
                  go_wp2_with fail
                  go_roundw
                  case rel => exact ⟨fi + re, ti, true, by trivial, by rw [show ((fi + re : Nat) : Int) = (fi : Int) + (re : Int) by omega]; exact Y, bY, by omega, by omega, by rw [if_pos rfl]; exact HI2⟩
                  case measure => rw [hXm, hYm]; simp; omega
            · have he2 : ¬ (0 : Int) < (re : Int) := by omega
              have HI2 : Hid (later ⟨rk, rf, re, rt⟩ m = none) := by
                obtain ⟨i, h1, h2, h3⟩ := HI.out
                exact stp_none HRK.out h3 (by omega) (.inl (by omega))
              have ht3 : ¬ (1 : Int) < (ti : Int) := by
                obtain ⟨i, h1, h2, h3⟩ := HI.out
                have := hrk5 (by omega)
                omega
              clear hle HI
              go_wp2_with fail
              go_roundw
              case rel => exact ⟨fi + re, ti, false, by trivial, by rw [show ((fi + re : Nat) : Int) = (fi : Int) + (re : Int) by omega]; exact Y, bY, by omega, hti, by rw [if_neg (by simp)]; exact HI2⟩
              case measure => rw [hXm, hYm]; simp; omega
          · have hle2 : ¬ (fi : Int) ≤ (m : Int) := by omega
            obtain ⟨d, hd⟩ : ∃ d, fi - m = d := ⟨_, rfl⟩
            have hdi : (fi : Int) - (m : Int) = (d : Int) := by omega
            have HS : Hid (restL (L.take (k + 1)) md = restL (L.take k) md ++ [⟨rk, d, re, ti⟩]) := by
              obtain ⟨i, h1, h2, h3⟩ := HI.out
              unfold Hid
              rw [HST.out]
              unfold rest1
              simp only
              rw [HM.out, stp_end h3 (by omega)]
              simp only
              rw [← h1, ← h2, hd]
            have Y := hX.setf (d : Int)
            obtain ⟨w3, hw3⟩ : ∃ x, wr.setCell ⟨V.heap.size, 1, none⟩ (.int .i64 (d : Int)) = x := ⟨_, rfl⟩
            have bA : Below V.heap.size V w3 := by rw [← hw3]; exact hBi.setCell (Nat.le_refl _) _
            rw [hw3] at Y
            have y0 := Y.c0; have y1 := Y.c1; have y2 := Y.c2; have y3 := Y.c3
            simp only at y0 y1 y2 y3
            have hl3 : Boxed w3 Q 24 u := hl.kept (grown_of_below bA) (by simp)
            have ho3 := ho.kept (grown_of_below bA) (Classical.em _)
            obtain ⟨nr, hnr⟩ : ∃ nr, (toI (restL (L.take k) md)).length = nr := ⟨_, rfl⟩
            have hnr50 : nr ≤ 50 := by rw [← hnr, toI_len]; have h1 := (restL_ok ⟨by have := HL.out.1; rw [List.length_take]; omega, fun x hx => HL.out.2 x (List.mem_of_mem_take hx)⟩ md : OkL (restL (L.take k) md)).1; exact h1
            rw [hnr] at ho3
            obtain ⟨ua, uc, rfl⟩ : ∃ a c, u = .slice a nr c := by
              obtain ⟨_, ⟨rfl, rfl⟩ | ⟨g, cap, _, rfl, _⟩⟩ := ho3
              · exact ⟨_, _, rfl⟩
              · exact ⟨_, _, rfl⟩
            have ho4 := ho3.alloc (.cells #[.int .i64 (rk : Int), .int .i64 (d : Int), .int .i64 (re : Int), .int .i64 (ti : Int)] 61)
            have HO4 := Lib.hid ho4
            have c3 := hl3.cell
            have f3 := hl3.frozen
            have hz3 := bA.size
            have hl3l := hl3.lt
            clear ho3 ho4 hd hle HI x2 x3
            go_wp2_with (at_builtin; refine wpList_append_own _ rfl _ _ 22 rfl (Q + 1) 61 i0 (.agg #[.int .i64 0, .int .i64 0, .int .i64 0, .int .i64 0]) 4 32 Tryd.underlying22 Hhi.out Hz0.out Hz1.out Hz2.out rfl (by decide) _ _ _ rfl HO4.out ⟨w3.heap.size, 0, none⟩ 1 1 [.int .i64 (rk : Int), .int .i64 (d : Int), .int .i64 (re : Int), .int .i64 (ti : Int)] rfl rfl ?c1 ?c2 ?c3 ?c4 ?c5 ?_)
            case c2 => exact ⟨rfl, rfl, rfl, rfl⟩
            case c3 => unfold maxLen; omega
            case c4 => omega
            case c5 => omega
            intro v' w5 hown hgrow _
            obtain ⟨g, cap, rfl⟩ : ∃ g cap, v' = .slice (some ⟨g, 0, none⟩) (nr + 1) cap := by
              obtain ⟨_, ⟨_, h0⟩ | ⟨g, cap, _, hv, _⟩⟩ := hown
              · omega
              · exact ⟨g, cap, hv⟩
            have hrow := fun k e => (HO4.out.lt k e).1
            have hl5 : Boxed w5 Q 24 (.slice ua nr uc) := (hl3.alloc _).kept hgrow (fun e => by have := hrow _ e.symm; omega)
            have hS5 : SBox w5 w.heap.size (.slice (some ⟨b, off, none⟩) n vc) c h := (hgrow.block _ (by simp; omega) (fun e => by have := hrow _ e.symm; omega)).trans ((hS.later bA).alloc _)
            have hR5 : Boxed w5 (w.heap.size + 1) 24 (.slice none 0 0) := ((hR.kept (grown_of_below bA) (by simp)).alloc _).kept hgrow (fun e => by have := hrow _ e.symm; omega)
            have hB5 : Below w.heap.size w w5 := ((hB.trans (bA.mono hB.size)).alloc (by omega) _).grown hgrow (by simp; omega) (fun k e => by have := hrow k e; omega)
            have hsz5 := hgrow.size
            simp only [World.size_alloc] at hsz5
            have hgl := World.ownsRow.lt hown g rfl
            have HOw := Lib.hid hown
            have c5 := hl5.cell
            have f5 := hl5.frozen
            clear hown hgrow c3 f3 k1 k2 k3 k4 hck HO4 y0 y1 y2 y3 hw3
            go_wp2_with fail
            go_roundw
            case rel =>
              refine ⟨k + 1, _, by omega, by go_num, hl5.set _, ?_, hS5.other (by show w.heap.size ≠ Q; omega) _, boxed_set5 hR5 (by show w.heap.size + 1 ≠ Q; omega) _, hB5.setCell (by dsimp only; omega) _, by rw [size_setCell5]; omega⟩
              have h6 := World.ownsRow.kept HOw.out (grownBy_setCell' w5 Q (.slice (some ⟨g, 0, none⟩) (nr + 1) cap)) (.inr (fun e => by simp [Value.ownBlock] at e; omega))
              rw [HS.out]
              unfold toI
              rw [List.map_append, List.map_singleton, List.length_append, List.length_singleton, rowU_snoc]
              rw [show (List.map Ru.toI (restL (L.take k) md)).length = nr from hnr]
              exact h6
            case measure => simp [intOf]; omega
        | false =>
          have HS : Hid (restL (L.take (k + 1)) md = restL (L.take k) md) := by
            have h1 := HI.out
            rw [if_neg (by simp)] at h1
            unfold Hid
            rw [HST.out]
            unfold rest1
            simp only
            rw [HM.out, h1]
            simp
          clear HI
          go_wp2_with fail
          go_roundw
          case rel =>
            refine ⟨k + 1, u, by omega, by go_num, hl.kept (grown_of_below hBi) (by simp), ?_, hS.later hBi, hR.kept (grown_of_below hBi) (by simp), hB.trans (hBi.mono hB.size), Nat.le_trans hQ1 hBi.size⟩
            rw [HS.out]
            exact ho.kept (grown_of_below hBi) (Classical.em _)
          case measure => simp [intOf]; omega
    · have hi1 : ¬ ((k : Int) < (n : Int)) := by omega
      have hkn : k = n := by omega
      have hs : L.take k = L := by rw [hkn, ← HN.out, List.take_length]
      rw [hs] at ho
      clear hs hkn
      obtain ⟨ua, uc, rfl⟩ : ∃ a c, u = .slice a (toI (restL L md)).length c := by
        obtain ⟨_, ⟨rfl, h0⟩ | ⟨g, cap, _, rfl, _⟩⟩ := ho
        · rw [h0]; exact ⟨_, _, rfl⟩
        · exact ⟨_, _, rfl⟩
      have c1 := hl.cell
      have c2 := hR.cell
      have f2 := hR.frozen
      have hRl := hR.lt
      have hoA := UOwn.at ho
      go_wp2_with fail
      have r3 : Boxed (wr.setCell ⟨w.heap.size + 1, 0, none⟩ (.slice ua (toI (restL L md)).length uc)) (w.heap.size + 1) 24 (.slice ua (toI (restL L md)).length uc) := hR.set _
      have c3 := r3.cell
      refine bodyPost_ret (v := .tuple #[.agg #[.slice ua (toI (restL L md)).length uc], .int .i64 0]) (by simp [results, Tryd.results36, go_sem, c3]) rfl ⟨_, rfl, ?_, hB.setCell (by dsimp only; omega) _⟩
      exact UOwn.at (World.ownsRow.kept ho (grownBy_setCell' wr (w.heap.size + 1) _) (.inr (fun e => by have := (World.ownsRow.lt ho _ e).1; omega)))
end Go.Proofs.YtldebakeebajkaaDoor
