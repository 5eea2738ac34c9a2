/- Best. -/
import Derived.Test.YtpplleojdcgceaaDoorFit
namespace Go.Proofs.YtpplleojdcgceaaDoor
open Go.RowKit Go.Shelf
attribute [local go_sem] Oper.semAt_some

/-- The best run so far: where it begins, how long it is. -/
def bstep (s : Nat) (st : Nat × Nat) (r : Nat × Nat) : Nat × Nat := if s ≤ r.2 - r.1 ∧ r.2 - r.1 < st.2 then (r.1, r.2 - r.1) else st
def bfold (s : Nat) (l : List (Nat × Nat)) : Nat × Nat := l.foldl (bstep s) (0, 4097)
theorem bfold_snoc (s : Nat) (l : List (Nat × Nat)) (r : Nat × Nat) : bfold s (l ++ [r]) = bstep s (bfold s l) r := by unfold bfold; rw [List.foldl_append]; rfl
def beB (ws : List Nat) (s n : Nat) : Int × Int := if 4096 < (bfold s (runsL ws false 0 n)).2 then (0, 4) else (((bfold s (runsL ws false 0 n)).1 : Int), 0)
/-- What Best answers. -/
def bestB (N : Int) (ws : List Nat) (s : Int) : Int × Int := if sizeB N ws s ≠ 0 then (0, sizeB N ws s) else beB ws s.toNat N.toNat

set_option maxRecDepth 100000 in
set_option maxHeartbeats 4000000 in
theorem Best_ok (n s : Nat) (v : Value) (ws : List Nat) (hf : Fit64 ws) (w : World) (hgd : Gd w) (h : WAt w v ws) (hr : sizeB n ws s = 0) :
    Calls Tryd.prog 37 #[bv n v, .int .i64 s] w fun e w' => e = .returned (.tuple #[.int .i64 (beB ws s n).1, .int .i64 (beB ws s n).2]) ∧ Below w.heap.size w w' := by
  obtain ⟨hck, _⟩ := size_ok hr
  obtain ⟨n', hn', hn4, hlen⟩ := check_ok hck
  obtain rfl : n = n' := by omega
  have HR := Lib.hid hr
  have HL := Lib.hid hlen
  clear hr hn' hlen hck
  refine (callsIn_wide (n := 5)).1 ?_
  refine callsIn_of_wp_marks Tryd.func37 rfl trivial ?_ rfl
  simp only [Tryd.ntmps37, List.size_toArray, List.length_cons, List.length_nil, Nat.reduceAdd, Nat.reduceSub, Array.replicate_succ, Array.replicate_zero, List.push_toArray, List.append_toArray, List.nil_append, List.cons_append]
  have hf1 := wide_fn 67
  have hf2 := wide_fn 65
  gi_wp2_with fail
  obtain ⟨wA, hwA⟩ : ∃ x, (w.alloc (.cells #[.int .i64 (n : Int), v] 24)).alloc (.cells #[.int .i64 (s : Int)] 3) = x := ⟨_, rfl⟩
  have a0 : BBox wA w.heap.size n v := by rw [← hwA]; exact (BBox.new w _ _).alloc _
  have a1 : Boxed wA (w.heap.size + 1) 3 (.int .i64 s) := by
    have := Boxed.new (w.alloc (.cells #[.int .i64 (n : Int), v] 24)) 3 (.int .i64 (s : Int))
    rw [World.size_alloc] at this
    rw [← hwA]; exact this
  have hbA : Below w.heap.size w wA := by rw [← hwA]; exact ((Below.refl _ w).alloc (Nat.le_refl _) _).alloc (by simp) _
  have hzA : wA.heap.size = w.heap.size + 2 := by rw [← hwA]; simp
  rw [hwA]
  clear hwA
  refine (callsIn_wide.2 (checkSize_is n v ws s 0 HR.out hf _ (h.later hbA))).mono ?_
  rintro e w1 ⟨rfl, hB⟩
  have b0 := a0.later hB
  have b1 : Boxed w1 (w.heap.size + 1) 3 (.int .i64 s) := a1.kept (grown_of_below hB) (by simp)
  have hB1 : Below w.heap.size w w1 := hbA.trans (hB.mono hbA.size)
  have hz1 : w.heap.size + 2 ≤ w1.heap.size := by have := hB.size; omega
  have c0 := b0.c0
  have c0' := b0.c1
  have z0 := b0.lt
  clear hB a0 a1
  gi_wp2_with fail
  refine (runsFrom_any 4 _ _ _ _ _).mono ?_
  rintro e w' ⟨rfl, rfl⟩
  gi_wp2_with fail
  obtain ⟨wC, hwC⟩ : ∃ x, (w1.alloc (.cells #[.int .i64 0] 3)).alloc (.cells #[.int .i64 4097] 3) = x := ⟨_, rfl⟩
  have e1 : Boxed wC w1.heap.size 3 (.int .i64 ((bfold s []).1 : Nat)) := by rw [← hwC]; exact (Boxed.new w1 _ _).alloc _
  have e2 : Boxed wC (w1.heap.size + 1) 3 (.int .i64 ((bfold s []).2 : Nat)) := by
    have := Boxed.new (w1.alloc (.cells #[.int .i64 0] 3)) 3 (.int .i64 4097)
    rw [World.size_alloc] at this
    rw [← hwC]; exact this
  have hbC : Below w1.heap.size w1 wC := by rw [← hwC]; exact ((Below.refl _ w1).alloc (Nat.le_refl _) _).alloc (by simp) _
  have hzC : wC.heap.size = w1.heap.size + 1 + 1 := by rw [← hwC]; simp
  rw [hwC]
  clear hwC
  obtain ⟨WL, hWL, hbW, hzL, f0, f1, f2⟩ := boxes3 wC n v 0 false
  rw [hWL]
  clear hWL
  rw [hzC] at f0 f1 f2
  have g1 : Boxed WL (w.heap.size + 1) 3 (.int .i64 s) := (b1.kept (grown_of_below hbC) (by simp)).kept (grown_of_below hbW) (by simp)
  have g2 : Boxed WL w1.heap.size 3 (.int .i64 ((bfold s []).1 : Nat)) := e1.kept (grown_of_below hbW) (by simp)
  have g3 : Boxed WL (w1.heap.size + 1) 3 (.int .i64 ((bfold s []).2 : Nat)) := e2.kept (grown_of_below hbW) (by simp)
  have hbL : Below w.heap.size w WL := hB1.trans ((hbC.trans (hbW.mono hbC.size)).mono hB1.size)
  have hwL := h.later hbL
  have hw1 := h.later hB1
  have hgd1 := hgd.later hB1
  have hKB : ∀ j, w1.heap.size ≤ j → j < w1.heap.size + 2 → ¬ RK (w1.heap.size + 1 + 1) v ws j := by
    rintro j hj1 hj2 (⟨h1, _⟩ | ⟨hne, ho⟩ | h1)
    · omega
    · have := hw1.own_lt hne _ ho; omega
    · have := hgd1.lt; omega
  clear hbW c0 c0' b0 b1 hbA hzA z0 e1 e2 hbC
  refine range_w rfl (by decide) (gf := 78) (lb := #[.pointer (some ⟨w1.heap.size + 1 + 1, 0, none⟩), .pointer (some ⟨w1.heap.size + 1 + 1 + 1, 0, none⟩), .pointer (some ⟨w1.heap.size + 1 + 1 + 2, 0, none⟩)]) rfl (wide_fn _) (enters_of Tryd.func78 (by kernel_rfl) rfl)
    (runs_g 4 (by decide) (w1.heap.size + 1 + 1) n 0 v ws hf hn4 HL.out (Nat.zero_le _) false WL f0 f1 f2 hwL (hgd.later hbL)) (fun h k => KC.trans h k) (fun _ V k o o' hk hc _ => KC.putObj V k o o' hk hc) (fun _ => rfl)
    (fun pre V => (Boxed V (w.heap.size + 1) 3 (.int .i64 s) ∧ (Boxed V w1.heap.size 3 (.int .i64 ((bfold s (pre.map Subtype.val)).1 : Nat)) ∧ Boxed V (w1.heap.size + 1) 3 (.int .i64 ((bfold s (pre.map Subtype.val)).2 : Nat)))) ∧ Below w.heap.size w V)
    (fun _ _ _ => False)
    ?own ?ownx ?start (fun x a' V => ∃ k, a' = { tmps := #[bv n v, .int .i64 (s : Int), .pointer (some ⟨w.heap.size, 0, none⟩), .pointer (some ⟨w.heap.size + 1, 0, none⟩), .int .i64 0, .int .i64 0, .int .i64 0, .pointer (some ⟨w1.heap.size, 0, none⟩), .pointer (some ⟨w1.heap.size + 1, 0, none⟩), .pointer (some ⟨k, 0, none⟩), undef, .agg #[.int .i64 (n : Int), v], .int .i64 (s : Int), .int .i64 0, .int .i64 0, .bool false, undef, .agg #[.int .i64 (n : Int), v], .func (.func 78) #[] #[.pointer (some ⟨w1.heap.size + 1 + 1, 0, none⟩), .pointer (some ⟨w1.heap.size + 1 + 1 + 1, 0, none⟩), .pointer (some ⟨w1.heap.size + 1 + 1 + 2, 0, none⟩)], .agg #[.int .i64 (x.1.1 : Nat), .int .i64 (x.1.2 : Nat)], undef, undef, undef, undef, undef, undef, undef, undef, undef, undef, undef, undef, undef, undef, undef, undef, undef, undef, undef], defers := [] } ∧ RBox V k x.1.1 x.1.2) ?ownA ?assign ?body ?done ?stop
  case own => exact OwnFrom.and (OwnFrom.and (Own.from (boxed_own _ _ (fun _ => .int .i64 (s : Int))) _) (OwnFrom.and (Own.from (boxed_own _ _ (fun pre : List (Rn n) => .int .i64 ((bfold s (pre.map Subtype.val)).1 : Nat))) _) (Own.from (boxed_own _ _ (fun pre : List (Rn n) => .int .i64 ((bfold s (pre.map Subtype.val)).2 : Nat))) _))) (ownFrom_below (Nat.le_refl _) hbL.size)
  case ownx => exact fun _ _ _ _ _ h => h.elim
  case start => exact ⟨⟨g1, g2, g3⟩, hbL⟩
  case ownA =>
    rintro x a' _ A C row ⟨k, ha, hb⟩ hg hr
    exact ⟨k, ha, own_cells (β := Unit) _ _ _ rfl () A C row hb hg hr⟩
  case assign =>
    rintro l pre x V K ⟨⟨h1, h2, h3⟩, hB⟩ hK
    simp only [encR]
    gi_wp2
    exact hK _ _ (keepsFrom_alloc _ _ _) (KC_alloc _ _ _) ⟨⟨h1.alloc _, h2.alloc _, h3.alloc _⟩, hB.alloc hB.size _⟩ ⟨V.heap.size, rfl, World.alloc_heap_new V _⟩
  case body =>
    rintro l pre x a' V ⟨⟨h1, h2, h3⟩, hB⟩ ⟨k, rfl, hrb⟩ hlen
    obtain ⟨x, hx1, hx2⟩ := x
    obtain ⟨p, e⟩ := x
    simp only at hx1 hx2 hrb
    obtain ⟨st, hst⟩ : ∃ st, bfold s (pre.map Subtype.val) = st := ⟨_, rfl⟩
    have hF : bfold s ((pre ++ [(⟨(p, e), hx1, hx2⟩ : Rn n)]).map Subtype.val) = if s ≤ e - p ∧ e - p < st.2 then (p, e - p) else st := by
      rw [List.map_append, List.map_singleton, bfold_snoc, hst]; rfl
    rw [hst] at h2 h3
    obtain ⟨u, y⟩ := st
    simp only at h2 h3 hF
    have r0 := hrb.c0
    have r1 := hrb.c1
    have c1 := h1.cell
    have c2 := h2.cell
    have c2' := h2.frozen
    have c3 := h3.cell
    have c3' := h3.frozen
    have hk0 := hKB w1.heap.size (by omega) (by omega)
    have hk1 := hKB (w1.heap.size + 1) (by omega) (by omega)
    have hep : Hid ((e : Int) - (p : Int) = ((e - p : Nat) : Int)) := by unfold Hid; omega
    clear hst
    by_cases hge : s ≤ e - p
    · have hge1 : (s : Int) ≤ (e : Int) - (p : Int) := by omega
      by_cases hlt : e - p < y
      · rw [if_pos ⟨hge, hlt⟩] at hF
        have HF := Lib.hid hF
        have hlt1 : (e : Int) - (p : Int) < (y : Int) := by omega
        clear hF hge hlt
        gi_wp2_with fail
        refine ⟨((KeepsOthers.setCell _ _ _).trans (KeepsOthers.setCell _ _ _)).from _, (KC.setCell V w1.heap.size _ hk0).trans (KC.setCell _ (w1.heap.size + 1) _ hk1), ⟨(h1.other (by omega) _).other (by omega) _, ?_, ?_⟩, (hB.setCell (by dsimp only; omega) _).setCell (by dsimp only; omega) _⟩
        · rw [HF.out]; exact (h2.set _).other (by omega) _
        · rw [HF.out]
          have := (h3.other (show w1.heap.size + 1 ≠ w1.heap.size by omega) (.int .i64 (p : Int))).set (.int .i64 ((e : Int) - (p : Int)))
          rwa [hep.out] at this ⊢
      · rw [if_neg (fun h => hlt h.2)] at hF
        have HF := Lib.hid hF
        have hlt1 : ¬ ((e : Int) - (p : Int) < (y : Int)) := by omega
        clear hF hge hlt
        gi_wp2_with fail
        exact ⟨KeepsFrom.refl _ _, KC.refl _ _, ⟨h1, by rw [HF.out]; exact h2, by rw [HF.out]; exact h3⟩, hB⟩
    · rw [if_neg (fun h => hge h.1)] at hF
      have HF := Lib.hid hF
      have hge1 : ¬ ((s : Int) ≤ (e : Int) - (p : Int)) := by omega
      clear hF hge
      gi_wp2_with fail
      exact ⟨KeepsFrom.refl _ _, KC.refl _ _, ⟨h1, by rw [HF.out]; exact h2, by rw [HF.out]; exact h3⟩, hB⟩
  case done =>
    rintro D ys V hD hys ⟨⟨h1, h2, h3⟩, hB⟩ hK
    rw [hys] at h2 h3
    have hBD := hB.trans (belowK_b (w := w) (Nat.le_refl _) V D _ (.deferred none) (by have := hbL.size; omega) hK rfl rfl)
    obtain ⟨st, hst⟩ : ∃ st, bfold s (runsL ws false 0 n) = st := ⟨_, rfl⟩
    have hx : Hid (beB ws s n = if 4096 < st.2 then (0, 4) else ((st.1 : Int), 0)) := by unfold Hid beB; rw [hst]
    rw [hst] at h2 h3
    obtain ⟨u, y⟩ := st
    simp only at h2 h3 hx
    clear hst
    have c2 := h2.cell
    have c3 := h3.cell
    by_cases hy : 4096 < y
    · have hy1 : (4096 : Int) < (y : Int) := by omega
      have hx2 : Hid (beB ws s n = (0, 4)) := by unfold Hid; rw [hx.out, if_pos hy]
      clear hy
      gi_wp2_with fail
      refine ⟨by simp, .inl ⟨D, _, rfl, run_takeDeferred hK, ?_⟩⟩
      exact ⟨.tuple #[.int .i64 0, .int .i64 4], by simp [results, Tryd.results37, go_sem], by rw [hx2.out], hBD⟩
    · have hy1 : ¬ ((4096 : Int) < (y : Int)) := by omega
      have hx2 : Hid (beB ws s n = ((u : Int), 0)) := by unfold Hid; rw [hx.out, if_neg hy]
      clear hy
      gi_wp2_with fail
      refine ⟨by simp, .inl ⟨D, _, rfl, run_takeDeferred hK, ?_⟩⟩
      exact ⟨.tuple #[.int .i64 (u : Int), .int .i64 0], by simp [results, Tryd.results37, go_sem], by rw [hx2.out], hBD⟩
  case stop =>
    rintro D c pre V hD hSp h hK
    exact h.elim

set_option maxRecDepth 100000 in
set_option maxHeartbeats 1000000 in
theorem Best_any (N s : Int) (v : Value) (ws : List Nat) (hf : Fit64 ws) (w : World) (hgd : Gd w) (h : WAt w v ws) :
    Calls Tryd.prog 37 #[bv N v, .int .i64 s] w fun e w' => e = .returned (.tuple #[.int .i64 (bestB N ws s).1, .int .i64 (bestB N ws s).2]) ∧ Below w.heap.size w w' := by
  obtain ⟨c, hc⟩ : ∃ c, sizeB N ws s = c := ⟨_, rfl⟩
  have HC := Lib.hid hc
  by_cases h0 : c = 0
  · subst h0
    obtain ⟨hck, hs1⟩ := size_ok hc
    obtain ⟨n, rfl, hn4, hlen⟩ := check_ok hck
    obtain ⟨s', rfl⟩ : ∃ s' : Nat, s = s' := ⟨s.toNat, by omega⟩
    have hd : bestB (n : Int) ws s' = beB ws s' n := by unfold bestB; rw [if_neg (by simp [hc])]; rfl
    rw [hd]
    exact Best_ok n s' v ws hf w hgd h hc
  · have hd : Hid (bestB N ws s = (0, c)) := by unfold Hid bestB; rw [hc, if_pos h0]
    have hq : (c != 0) = true := by simp [h0]
    have b0 : Below w.heap.size w ((w.alloc (.cells #[.int .i64 N, v] 24)).alloc (.cells #[.int .i64 s] 3)) := ((Below.refl _ _).alloc (Nat.le_refl _) _).alloc (by simp) _
    clear hc h0
    go_enter Tryd.func37, Tryd.ntmps37
    go_wp2_with fail
    refine (checkSize_is N v ws s c HC.out hf _ (h.later b0)).mono ?_
    rintro e w1 ⟨rfl, hB⟩
    go_wp2
    go_ret2
    rw [hd.out]
    exact ⟨rfl, b0.trans (hB.mono b0.size)⟩
end Go.Proofs.YtpplleojdcgceaaDoor
