/- Fit. -/
import Derived.Test.YtpplleojdcgceaaDoorRuns1
import Derived.Test.YtpplleojdcgceaaDoorSelect
import Derived.Test.YtpplleojdcgceaaDoorRangeW
namespace Go.Proofs.YtpplleojdcgceaaDoor
open Go.RowKit Go.Shelf
attribute [local go_sem] Oper.semAt_some

/-- The box of a run. -/
def RBox (W : World) (k : Nat) (a b : Nat) : Prop := W.heap[k]? = some (.cells #[.int .i64 (a : Int), .int .i64 (b : Int)] 53 (0, 0))
theorem RBox.c0 {W : World} {k a b : Nat} (h : RBox W k a b) : W.cell? ⟨k, 0, none⟩ = some (.int .i64 (a : Int)) := by unfold RBox at h; simp [World.cell?, h]
theorem RBox.c1 {W : World} {k a b : Nat} (h : RBox W k a b) : W.cell? ⟨k, 1, none⟩ = some (.int .i64 (b : Int)) := by unfold RBox at h; simp [World.cell?, h]
theorem keepsFrom_alloc (B : Nat) (W : World) (o : Obj) : KeepsFrom B W (W.alloc o) := (KeepsOthers.alloc W o).from B
theorem KC_alloc (p : Nat → Prop) (W : World) (o : Obj) : KC p W (W.alloc o) := KC.of_below ((Below.refl _ W).alloc (Nat.le_refl _) _)

/-- The first run that is long enough. -/
def fitL (l : List (Nat × Nat)) (s : Nat) : Option Nat := (l.find? fun r => decide (s ≤ r.2 - r.1)).map (·.1)
def fiB (ws : List Nat) (s a n : Nat) : Int × Int := match fitL (runsL ws false a n) s with | some j => ((j : Int), 0) | none => (0, 4)
/-- What Fit answers. -/
def fitB (N : Int) (ws : List Nat) (s a : Int) : Int × Int := if sizeB N ws s ≠ 0 then (0, sizeB N ws s) else if a < 0 ∨ N < a then (0, 7) else fiB ws s.toNat a.toNat N.toNat
theorem fitL_append (l r : List (Nat × Nat)) (s : Nat) : fitL (l ++ r) s = (fitL l s).or (fitL r s) := by
  unfold fitL; rw [List.find?_append]; cases l.find? _ <;> rfl
theorem size_ok {N : Int} {ws : List Nat} {s : Int} (h : sizeB N ws s = 0) : checkB N ws = 0 ∧ 1 ≤ s := by
  unfold sizeB at h
  split at h
  · contradiction
  · rename_i hc
    split at h
    · cases h
    · exact ⟨by simpa using hc, by omega⟩

set_option maxRecDepth 100000 in
set_option maxHeartbeats 4000000 in
theorem Fit_ok (n s t : Nat) (v : Value) (ws : List Nat) (hf : Fit64 ws) (w : World) (hgd : Gd w) (h : WAt w v ws) (hr : sizeB n ws s = 0) (htn : t ≤ n) :
    Calls Tryd.prog 35 #[bv n v, .int .i64 s, .int .i64 t] w fun e w' => e = .returned (.tuple #[.int .i64 (fiB ws s t n).1, .int .i64 (fiB ws s t n).2]) ∧ Below w.heap.size w w' := by
  obtain ⟨hck, _⟩ := size_ok hr
  obtain ⟨n', hn', hn4, hlen⟩ := check_ok hck
  obtain rfl : n = n' := by omega
  have HR := Lib.hid hr
  have HL := Lib.hid hlen
  have htn1 : (t : Int) ≤ (n : Int) := by omega
  clear hr hn' hlen hck
  refine (callsIn_wide (n := 5)).1 ?_
  refine callsIn_of_wp_marks Tryd.func35 rfl trivial ?_ rfl
  simp only [Tryd.ntmps35, List.size_toArray, List.length_cons, List.length_nil, Nat.reduceAdd, Nat.reduceSub, Array.replicate_succ, Array.replicate_zero, List.push_toArray, List.append_toArray, List.nil_append, List.cons_append]
  have hf1 := wide_fn 67
  have hf2 := wide_fn 65
  gi_wp2_with fail
  obtain ⟨wA, hwA, hbA, hzA, a0, a1, a2, a3⟩ := boxesS w n v s
  rw [hwA]
  clear hwA
  refine (callsIn_wide.2 (checkSize_is n v ws s 0 HR.out hf _ (h.later hbA))).mono ?_
  rintro e w1 ⟨rfl, hB⟩
  have b0 := a0.later hB
  have b1 : Boxed w1 (w.heap.size + 1) 3 (.int .i64 s) := a1.kept (grown_of_below hB) (by simp)
  have b2 : Boxed w1 (w.heap.size + 1 + 1) 3 (.int .i64 0) := a2.kept (grown_of_below hB) (by simp)
  have b3 : Boxed w1 (w.heap.size + 1 + 1 + 1) 29 (.int .i64 0) := a3.kept (grown_of_below hB) (by simp)
  have hB1 : Below w.heap.size w w1 := hbA.trans (hB.mono hbA.size)
  have hz1 : w.heap.size + 4 ≤ w1.heap.size := by have := hB.size; omega
  have c0 := b0.c0
  have c0' := b0.c1
  have z0 := b0.lt
  clear hB a0 a1 a2 a3
  gi_wp2_with fail
  refine (runsFrom_any 4 _ _ _ _ _).mono ?_
  rintro e w' ⟨rfl, rfl⟩
  gi_wp2_with fail
  obtain ⟨WL, hWL, hbW, hzL, f0, f1, f2⟩ := boxes3 w1 n v t false
  rw [hWL]
  clear hWL
  have g1 : Boxed WL (w.heap.size + 1) 3 (.int .i64 s) := b1.kept (grown_of_below hbW) (by simp)
  have g2 : Boxed WL (w.heap.size + 1 + 1) 3 (.int .i64 0) := b2.kept (grown_of_below hbW) (by simp)
  have g3 : Boxed WL (w.heap.size + 1 + 1 + 1) 29 (.int .i64 0) := b3.kept (grown_of_below hbW) (by simp)
  have hbL : Below w.heap.size w WL := hB1.trans (hbW.mono hB1.size)
  have hwL := h.later hbL
  clear hbW c0 c0' b0 b1 b2 b3 hbA hzA z0
  refine range_w rfl (by decide) (gf := 78) (lb := #[.pointer (some ⟨w1.heap.size, 0, none⟩), .pointer (some ⟨w1.heap.size + 1, 0, none⟩), .pointer (some ⟨w1.heap.size + 2, 0, none⟩)]) rfl (wide_fn _) (enters_of Tryd.func78 (by kernel_rfl) rfl)
    (runs_g 4 (by decide) w1.heap.size n t v ws hf hn4 HL.out htn false WL f0 f1 f2 hwL (hgd.later hbL)) (fun h k => KC.trans h k) (fun _ V k o o' hk hc _ => KC.putObj V k o o' hk hc) (fun _ => rfl)
    (fun pre V => (fitL (pre.map Subtype.val) s = none ∧ (Boxed V (w.heap.size + 1) 3 (.int .i64 s) ∧ (Boxed V (w.heap.size + 1 + 1) 3 (.int .i64 0) ∧ Boxed V (w.heap.size + 1 + 1 + 1) 29 (.int .i64 0)))) ∧ Below w.heap.size w V)
    (fun c pre V => (c = .ret ∧ ∃ j : Nat, fitL (pre.map Subtype.val) s = some j ∧ Boxed V (w.heap.size + 1 + 1) 3 (.int .i64 j)) ∧ Boxed V (w.heap.size + 1 + 1 + 1) 29 (.int .i64 0) ∧ Below w.heap.size w V)
    ?own ?ownx ?start (fun x a' V => ∃ k, a' = { tmps := #[bv n v, .int .i64 (s : Int), .int .i64 (t : Int), .pointer (some ⟨w.heap.size, 0, none⟩), .pointer (some ⟨w.heap.size + 1, 0, none⟩), undef, .pointer (some ⟨w.heap.size + 1 + 1, 0, none⟩), .pointer (some ⟨w.heap.size + 1 + 1 + 1, 0, none⟩), .int .i64 0, .pointer (some ⟨k, 0, none⟩), .agg #[.int .i64 (n : Int), v], .int .i64 (s : Int), .int .i64 0, .int .i64 0, .bool false, undef, .int .i64 (t : Int), .bool (decide ((t : Int) < 0)), .bool (decide ((t : Int) < 0)), .int .i64 (t : Int), .pointer (some ⟨w.heap.size, 0, none⟩), .int .i64 (n : Int), .bool false, .bool (decide ((t : Int) < 0)), .agg #[.int .i64 (n : Int), v], .int .i64 (t : Int), .func (.func 78) #[] #[.pointer (some ⟨w1.heap.size, 0, none⟩), .pointer (some ⟨w1.heap.size + 1, 0, none⟩), .pointer (some ⟨w1.heap.size + 2, 0, none⟩)], .agg #[.int .i64 (x.1.1 : Nat), .int .i64 (x.1.2 : Nat)], undef, undef, undef, undef, undef, undef, undef, undef, undef], defers := [] } ∧ RBox V k x.1.1 x.1.2) ?ownA ?assign ?body ?done ?stop
  case own => exact OwnFrom.and (OwnFrom.and (ownFrom_pure _ (fun pre : List (Rn n) => fitL (pre.map Subtype.val) s = none)) (OwnFrom.and (Own.from (boxed_own _ _ (fun _ => .int .i64 (s : Int))) _) (OwnFrom.and (Own.from (boxed_own _ _ (fun _ => .int .i64 0)) _) (Own.from (boxed_own _ _ (fun _ => .int .i64 0)) _)))) (ownFrom_below (Nat.le_refl _) hbL.size)
  case ownx =>
    intro c
    refine OwnFrom.and ?_ (OwnFrom.and (Own.from (boxed_own _ _ (fun _ => .int .i64 0)) _) (ownFrom_below (Nat.le_refl _) hbL.size))
    rintro pre A C row ⟨hc, j, hj, hb⟩ hg hr
    exact ⟨hc, j, hj, Own.from (boxed_own (β := Unit) _ _ (fun _ => .int .i64 (j : Int))) _ () A C row hb hg hr⟩
  case start => exact ⟨⟨rfl, g1, g2, g3⟩, hbL⟩
  case ownA =>
    rintro x a' _ A C row ⟨k, ha, hb⟩ hg hr
    exact ⟨k, ha, own_cells (β := Unit) _ _ _ rfl () A C row hb hg hr⟩
  case assign =>
    rintro l pre x V K ⟨⟨hn0, h1, h2, h3⟩, hB⟩ hK
    simp only [encR]
    gi_wp2
    exact hK _ _ (keepsFrom_alloc _ _ _) (KC_alloc _ _ _) ⟨⟨hn0, h1.alloc _, h2.alloc _, h3.alloc _⟩, hB.alloc hB.size _⟩ ⟨V.heap.size, rfl, World.alloc_heap_new V _⟩
  case body =>
    rintro l pre x a' V ⟨⟨hn0, h1, h2, h3⟩, hB⟩ ⟨k, rfl, hrb⟩ hlen
    obtain ⟨x, hx1, hx2⟩ := x
    obtain ⟨p, e⟩ := x
    simp only at hx1 hx2 hrb
    have hF : fitL ((pre ++ [(⟨(p, e), hx1, hx2⟩ : Rn n)]).map Subtype.val) s = if s ≤ e - p then some p else none := by
      rw [List.map_append, fitL_append, hn0, Option.none_or]
      show fitL [(p, e)] s = _
      unfold fitL
      rw [List.find?_singleton]
      by_cases hge : s ≤ e - p <;> simp [hge]
    have r0 := hrb.c0
    have r1 := hrb.c1
    have c1 := h1.cell
    have c2 := h2.cell
    have c2' := h2.frozen
    have c3 := h3.cell
    have c3' := h3.frozen
    by_cases hge : s ≤ e - p
    · rw [if_pos hge] at hF
      have HF := Lib.hid hF
      have hge1 : (s : Int) ≤ (e : Int) - (p : Int) := by omega
      clear hF hge hn0
      gi_wp2_with fail
      exact ⟨((KeepsOthers.setCell _ _ _).trans (KeepsOthers.setCell _ _ _)).from _, ⟨rfl, p, HF.out, (h2.set _).other (by omega) _⟩, (h3.other (by omega) _).set _, (hB.setCell (by dsimp only; omega) _).setCell (by dsimp only; omega) _⟩
    · rw [if_neg hge] at hF
      have HF := Lib.hid hF
      have hge1 : ¬ ((s : Int) ≤ (e : Int) - (p : Int)) := by omega
      clear hF hge hn0
      gi_wp2_with fail
      exact ⟨KeepsFrom.refl _ _, KC.refl _ _, ⟨HF.out, h1, h2, h3⟩, hB⟩
  case done =>
    rintro D ys V hD hys ⟨⟨hn0, h1, h2, h3⟩, hB⟩ hK
    rw [hys] at hn0
    have hd : Hid (fiB ws s t n = (0, 4)) := by unfold Hid fiB; rw [hn0]
    clear hn0
    have c2 := h2.cell
    have c2' := h2.frozen
    have c3 := h3.cell
    have c3' := h3.frozen
    gi_wp2_with fail
    have q2 := (h2.set (.int .i64 0)).other (show w.heap.size + 1 + 1 ≠ w.heap.size + 1 + 1 + 1 by omega) (.int .i64 4)
    have q3 := (h3.other (show w.heap.size + 1 + 1 + 1 ≠ w.heap.size + 1 + 1 by omega) (.int .i64 0)).set (.int .i64 4)
    have cK : ((V.setCell ⟨w.heap.size + 1 + 1, 0, none⟩ (.int .i64 0)).setCell ⟨w.heap.size + 1 + 1 + 1, 0, none⟩ (.int .i64 4)).heap[D]? = some (.deferred (some [])) := by
      rw [Below.heap_setCell _ _ _ _ (by simp; omega), Below.heap_setCell _ _ _ _ (by simp; omega)]; exact hK
    have cB : Below w.heap.size w ((V.setCell ⟨w.heap.size + 1 + 1, 0, none⟩ (.int .i64 0)).setCell ⟨w.heap.size + 1 + 1 + 1, 0, none⟩ (.int .i64 4)) := (hB.setCell (by dsimp only; omega) _).setCell (by dsimp only; omega) _
    have k2 := (q2.kept (grownBy_putObj' _ D (.deferred none)) (by simp; omega)).cell
    have k3 := (q3.kept (grownBy_putObj' _ D (.deferred none)) (by simp; omega)).cell
    refine ⟨by simp, .inl ⟨D, _, rfl, run_takeDeferred cK, ?_⟩⟩
    exact ⟨.tuple #[.int .i64 0, .int .i64 4], by simp [results, Tryd.results35, go_sem, k2, k3], by rw [hd.out], cB.trans (belowK_b (w := w) (Nat.le_refl _) _ D _ _ (by have := hbL.size; omega) cK rfl rfl)⟩
  case stop =>
    rintro D c pre V hD hSp ⟨⟨rfl, j, hj, h2⟩, h3, hB⟩ hK
    have hd : Hid (fiB ws s t n = ((j : Int), 0)) := by
      obtain ⟨r, hr⟩ := hSp
      unfold Hid fiB
      rw [← hr, fitL_append, hj]; rfl
    have c2 := h2.cell
    have c3 := h3.cell
    gi_wp2_with fail
    have k2 := (h2.kept (grownBy_putObj' V D (.deferred none)) (by simp; omega)).cell
    have k3 := (h3.kept (grownBy_putObj' V D (.deferred none)) (by simp; omega)).cell
    refine ⟨by simp, .inl ⟨D, _, rfl, run_takeDeferred hK, ?_⟩⟩
    exact ⟨.tuple #[.int .i64 (j : Int), .int .i64 0], by simp [results, Tryd.results35, go_sem, k2, k3], by rw [hd.out], hB.trans (belowK_b (w := w) (Nat.le_refl _) V D _ _ (by have := hbL.size; omega) hK rfl rfl)⟩

set_option maxRecDepth 100000 in
set_option maxHeartbeats 1000000 in
theorem Fit_any (N s t : Int) (v : Value) (ws : List Nat) (hf : Fit64 ws) (w : World) (hgd : Gd w) (h : WAt w v ws) :
    Calls Tryd.prog 35 #[bv N v, .int .i64 s, .int .i64 t] w fun e w' => e = .returned (.tuple #[.int .i64 (fitB N ws s t).1, .int .i64 (fitB N ws s t).2]) ∧ Below w.heap.size w w' := by
  obtain ⟨c, hc⟩ : ∃ c, sizeB N ws s = c := ⟨_, rfl⟩
  obtain ⟨wA, hwA, hbA, hzA, a0, a1, a2, a3⟩ := boxesS w N v s
  have HW := Lib.hid hwA
  clear hwA
  have HC := Lib.hid hc
  by_cases h0 : c = 0
  · subst h0
    obtain ⟨hck, hs1⟩ := size_ok hc
    obtain ⟨n, rfl, hn4, hlen⟩ := check_ok hck
    by_cases ht : t < 0 ∨ (n : Int) < t
    · have hd : Hid (fitB n ws s t = (0, 7)) := by unfold Hid fitB; rw [if_neg (by simp [hc]), if_pos ht]
      clear hc
      by_cases ht0 : t < 0 <;> by_cases ht1 : (n : Int) < t
      all_goals first | (exfalso; omega) | skip
      all_goals
        clear ht
        go_enter Tryd.func35, Tryd.ntmps35
        go_wp2_with fail
        rw [HW.out]
        refine (checkSize_is n v ws s 0 HC.out hf _ (h.later hbA)).mono ?_
        rintro e w1 ⟨rfl, hB⟩
        have c0 := (a0.later hB).c0
        have b2 : Boxed w1 (w.heap.size + 1 + 1) 3 (.int .i64 0) := a2.kept (grown_of_below hB) (by simp)
        have b3 : Boxed w1 (w.heap.size + 1 + 1 + 1) 29 (.int .i64 0) := a3.kept (grown_of_below hB) (by simp)
        have c2 := b2.cell
        have c2' := b2.frozen
        have c3 := b3.cell
        have c3' := b3.frozen
        have hB1 := hbA.trans (hB.mono hbA.size)
        go_wp2
        have q2 := ((b2.set (.int .i64 0)).other (show w.heap.size + 1 + 1 ≠ w.heap.size + 1 + 1 + 1 by omega) (.int .i64 7)).cell
        have q3 := ((b3.other (show w.heap.size + 1 + 1 + 1 ≠ w.heap.size + 1 + 1 by omega) (.int .i64 0)).set (.int .i64 7)).cell
        refine bodyPost_ret (v := .tuple #[.int .i64 0, .int .i64 7]) (by simp [results, Tryd.results35, go_sem, q2, q3]) rfl ⟨by rw [hd.out], ?_⟩
        exact (hB1.setCell (by dsimp only; omega) _).setCell (by dsimp only; omega) _
    · obtain ⟨t', rfl⟩ : ∃ t' : Nat, t = t' := ⟨t.toNat, by omega⟩
      obtain ⟨s', rfl⟩ : ∃ s' : Nat, s = s' := ⟨s.toNat, by omega⟩
      have hd : fitB (n : Int) ws s' t' = fiB ws s' t' n := by unfold fitB; rw [if_neg (by simp [hc]), if_neg ht]; rfl
      rw [hd]
      exact Fit_ok n s' t' v ws hf w hgd h hc (by omega)
  · have hd : Hid (fitB N ws s t = (0, c)) := by unfold Hid fitB; rw [hc, if_pos h0]
    have hq : (c != 0) = true := by simp [h0]
    clear hc h0
    go_enter Tryd.func35, Tryd.ntmps35
    go_wp2_with fail
    rw [HW.out]
    refine (checkSize_is N v ws s c HC.out hf _ (h.later hbA)).mono ?_
    rintro e w1 ⟨rfl, hB⟩
    have b2 : Boxed w1 (w.heap.size + 1 + 1) 3 (.int .i64 0) := a2.kept (grown_of_below hB) (by simp)
    have b3 : Boxed w1 (w.heap.size + 1 + 1 + 1) 29 (.int .i64 0) := a3.kept (grown_of_below hB) (by simp)
    have c2 := b2.cell
    have c2' := b2.frozen
    have c3 := b3.cell
    have c3' := b3.frozen
    have hB1 := hbA.trans (hB.mono hbA.size)
    go_wp2
    have q2 := ((b2.set (.int .i64 0)).other (show w.heap.size + 1 + 1 ≠ w.heap.size + 1 + 1 + 1 by omega) (.int .i64 c)).cell
    have q3 := ((b3.other (show w.heap.size + 1 + 1 + 1 ≠ w.heap.size + 1 + 1 by omega) (.int .i64 0)).set (.int .i64 c)).cell
    refine bodyPost_ret (v := .tuple #[.int .i64 0, .int .i64 c]) (by simp [results, Tryd.results35, go_sem, q2, q3]) rfl ⟨by rw [hd.out], ?_⟩
    exact (hB1.setCell (by dsimp only; omega) _).setCell (by dsimp only; omega) _
end Go.Proofs.YtpplleojdcgceaaDoor
