/- The runs, gathered. -/
import Derived.Test.YtpplleojdcgceaaDoorRefList
import Derived.OwnWalkIn
import Derived.Test.YtpplleojdcgceaaDoorFit
namespace Go.Proofs.YtpplleojdcgceaaDoor
open Go.RowKit Go.Shelf
attribute [local go_sem] Oper.semAt_some

theorem Tryd.infoRun : (Tryd.prog.info? 53).map (fun i => (i.zero, i.size, i.bytes)) = some (some (.agg #[.int .i64 0, .int .i64 0]), 2, 16) := by kernel_rfl
def rowR (l : List (Nat × Nat)) : List Value := l.flatMap fun r => [.int .i64 (r.1 : Int), .int .i64 (r.2 : Int)]
theorem rowR_snoc (l : List (Nat × Nat)) (r : Nat × Nat) : rowR (l ++ [r]) = rowR l ++ [.int .i64 (r.1 : Int), .int .i64 (r.2 : Int)] := by unfold rowR; rw [List.flatMap_append, List.flatMap_singleton]

theorem cell_two_new (w : World) (a b : Value) (t : TypeId) : ∀ j u, [a, b][j]? = some u → (w.alloc (.cells #[a, b] t)).cell? ((⟨w.heap.size, 0, none⟩ : Addr).add j) = some u := by
  intro j u hj
  match j with
  | 0 => simp at hj; subst hj; simp [Addr.add]
  | 1 => simp at hj; subst hj; simp [Addr.add]
  | j + 2 => simp at hj
theorem ownsRow_formR {W : World} {base : Nat} {e : TypeId} {size : Nat} {v : Value} {n : Nat} {xs : List Value} (h : W.ownsRow base e size v n xs) : ∃ a cap, v = .slice a n cap := by
  obtain ⟨_, ⟨rfl, rfl⟩ | ⟨g, cap, _, rfl, _⟩⟩ := h
  · exact ⟨_, _, rfl⟩
  · exact ⟨_, _, rfl⟩
theorem own_down {W : World} {b b' : Nat} {e : TypeId} {size : Nat} {v : Value} {n : Nat} {xs : List Value} (h : W.ownsRow b e size v n xs) (hb : b' ≤ b) : W.ownsRow b' e size v n xs := by
  obtain ⟨h1, h2 | ⟨g, cap, cur, h2, h3, h4⟩⟩ := h
  · exact ⟨h1, .inl h2⟩
  · exact ⟨h1, .inr ⟨g, cap, cur, h2, by omega, h4⟩⟩
def IR (w : World) {n : Nat} (pre : List (Rn n)) (V : World) : Prop :=
  (∃ u, Boxed V w.heap.size 41 u ∧ V.ownsRow w.heap.size 53 2 u (pre.map Subtype.val).length (rowR (pre.map Subtype.val)) ∧ True) ∧ Below w.heap.size w V
theorem IR_own (w : World) {n : Nat} (B : Nat) (hB : w.heap.size ≤ B) : OwnFrom B (IR w (n := n)) :=
  OwnFrom.and (Own.from (holdsRow_own w.heap.size w.heap.size _ _ 2 (fun pre : List (Rn n) => (pre.map Subtype.val).length) (fun pre => rowR (pre.map Subtype.val)) (fun _ _ => True)) _) (ownFrom_below (Nat.le_refl _) hB)
theorem KC_mid {p : Nat → Prop} {w A C : World} (hA : Below w.heap.size w A) (hC : Below w.heap.size w C) (hp : ∀ k, p k → k < w.heap.size) : KC p A C := fun k o hk h1 _ => by
  have h2 := hp k hk
  rw [hC.block k h2, ← hA.block k h2]; exact h1

set_option maxRecDepth 100000 in
set_option maxHeartbeats 4000000 in
theorem AppendSeq_in (n : Nat) (B0 : Nat) (v : Value) (ws : List Nat) (hf : Fit64 ws) (on : Bool) (hn4 : n ≤ 4096) (hlen : ws.length = (n + 63) / 64) (w : World) (f0 : BBox w B0 n v) (f1 : Boxed w (B0 + 1) 3 (.int .i64 0)) (f2 : Boxed w (B0 + 2) 4 (.bool on)) (hw : WAt w v ws) (hgd : Gd w) :
    CallsIn Fence.wide 5 Tryd.prog 77 #[.slice none 0 0, .func (.func 78) #[] #[.pointer (some ⟨B0, 0, none⟩), .pointer (some ⟨B0 + 1, 0, none⟩), .pointer (some ⟨B0 + 2, 0, none⟩)]] w fun e w' =>
      ∃ u, e = .returned u ∧ w'.ownsRow w.heap.size 53 2 u (runsL ws on 0 n).length (rowR (runsL ws on 0 n)) ∧ Below w.heap.size w w' := by
  have hB2 := f2.lt
  have hgl := hgd.lt
  have hRK : ∀ k, RK B0 v ws k → k < w.heap.size := by
    rintro k (⟨_, h1⟩ | ⟨hne, ho⟩ | rfl)
    · omega
    · exact hw.own_lt hne k ho
    · exact hgl
  obtain ⟨i0, hi, hz0, hz1, hz2⟩ := info_parts Tryd.infoRun
  refine callsIn_of_wp_marks Tryd.func77 rfl trivial ?_ rfl
  simp only [Tryd.ntmps77, List.size_toArray, List.length_cons, List.length_nil, Nat.reduceAdd, Nat.reduceSub, Array.replicate_succ, Array.replicate_zero, List.push_toArray, List.append_toArray, List.nil_append, List.cons_append]
  gi_wp2_with fail
  obtain ⟨WL, hWL⟩ : ∃ V, w.alloc (.cells #[.slice none 0 0] 41) = V := ⟨_, rfl⟩
  have hbL : Below w.heap.size w WL := by rw [← hWL]; exact (Below.refl _ _).alloc (Nat.le_refl _) _
  have hbx : Boxed WL w.heap.size 41 (.slice none 0 0) := by rw [← hWL]; exact Boxed.new w _ _
  rw [hWL]
  clear hWL
  refine range_w rfl (by decide) (gf := 78) (lb := #[.pointer (some ⟨B0, 0, none⟩), .pointer (some ⟨B0 + 1, 0, none⟩), .pointer (some ⟨B0 + 2, 0, none⟩)]) rfl (wide_fn _) (enters_of Tryd.func78 (by kernel_rfl) rfl)
    (runs_g 4 (by decide) B0 n 0 v ws hf hn4 hlen (Nat.zero_le _) on WL (f0.later hbL) (f1.kept (grown_of_below hbL) (by simp)) (f2.kept (grown_of_below hbL) (by simp)) (hw.later hbL) (hgd.later hbL)) (fun h k => KC.trans h k) (fun _ V k o o' hk hc _ => KC.putObj V k o o' hk hc) (fun _ => rfl)
    (IR w) (fun _ _ _ => False) (IR_own w _ hbL.size) (fun _ _ _ _ _ h _ _ => h) ⟨⟨_, hbx, World.ownsRow_nil _ _ _ _, trivial⟩, hbL⟩
    (fun x a' V => ∃ k, a' = { tmps := #[.slice none 0 0, .func (.func 78) #[] #[.pointer (some ⟨B0, 0, none⟩), .pointer (some ⟨B0 + 1, 0, none⟩), .pointer (some ⟨B0 + 2, 0, none⟩)], .pointer (some ⟨w.heap.size, 0, none⟩), undef, .slice none 0 0, .pointer (some ⟨k, 0, none⟩), .func (.func 78) #[] #[.pointer (some ⟨B0, 0, none⟩), .pointer (some ⟨B0 + 1, 0, none⟩), .pointer (some ⟨B0 + 2, 0, none⟩)], .agg #[.int .i64 (x.1.1 : Nat), .int .i64 (x.1.2 : Nat)], undef, undef, undef, undef, undef], defers := [] } ∧ RBox V k x.1.1 x.1.2) ?ownA ?assign ?body ?done ?stop
  case ownA =>
    rintro x a' _ A C row ⟨k, ha, hb⟩ hg hr
    exact ⟨k, ha, own_cells (β := Unit) _ _ _ rfl () A C row hb hg hr⟩
  case assign =>
    rintro l pre x V K ⟨⟨u, h1, h2, _⟩, hB⟩ hK
    simp only [encR]
    gi_wp2
    exact hK _ _ (keepsFrom_alloc _ _ _) (KC_alloc _ _ _) ⟨⟨u, h1.alloc _, h2.alloc _, trivial⟩, hB.alloc hB.size _⟩ ⟨V.heap.size, rfl, World.alloc_heap_new V _⟩
  case body =>
    rintro l pre x a' V ⟨⟨u, h1, h2, _⟩, hB⟩ ⟨k, rfl, hrb⟩ hlen5
    obtain ⟨x, hx1, hx2⟩ := x
    obtain ⟨p, e⟩ := x
    simp only at hx1 hx2 hrb
    have r0 := hrb.c0
    have r1 := hrb.c1
    have c1 := h1.cell
    have c1' := h1.frozen
    have hrow7 := h2.alloc (.cells #[.int .i64 (p : Int), .int .i64 (e : Int)] 53)
    have hsz := hB.size
    have hpl : (pre.map Subtype.val).length < 5000 := by simpa using hlen5
    gi_wp2_with (gi_at_builtin; refine wpListIn_append_own _ rfl _ _ 41 rfl w.heap.size 53 i0 (.agg #[.int .i64 0, .int .i64 0]) 2 16 Tryd.underlying41 hi hz0 hz1 hz2 rfl (by decide) _ _ _ rfl hrow7 ⟨V.heap.size, 0, none⟩ 1 1 [.int .i64 (p : Int), .int .i64 (e : Int)] rfl rfl ?c1 ?c2 ?c3 ?c4 ?c5 ?_)
    case c1 => exact cell_two_new V _ _ _
    case c2 => intro u hu; simp at hu; rcases hu with rfl | rfl <;> rfl
    case c3 => unfold maxLen; omega
    case c4 => omega
    case c5 => simp; omega
    intro v' w1 hown' hgrow _
    obtain ⟨g', cap', rfl⟩ := ownsRow_succ hown'
    obtain ⟨a1, a2, a3, a4, a5⟩ := h1.appended (by decide) h2 hsz (Nat.le_refl _) hown' hgrow
    have hc1 := a1.cell
    have hfz1 := a1.frozen
    have A2 := Lib.hid a2
    have A3 := Lib.hid a3
    have A4 := Lib.hid a4
    have A5 := Lib.hid (hB.trans (a5.mono (Nat.le_refl _)))
    clear a1 a2 a3 a4 a5 hown' hgrow
    gi_wp2_with fail
    refine ⟨A4.out.from _, KC_mid hB A5.out hRK, ⟨⟨_, A2.out, ?_, trivial⟩, A5.out⟩⟩
    rw [List.map_append, List.map_singleton, List.length_append, List.length_singleton, rowR_snoc, List.length_map]
    exact A3.out
  case done =>
    rintro D ys V hD hys ⟨⟨u, h1, h2, _⟩, hB⟩ hK
    rw [hys] at h2
    have c1 := h1.cell
    have c1' := h1.frozen
    gi_wp2_with fail
    refine ⟨by simp, .inl ⟨D, _, rfl, run_takeDeferred hK, ?_⟩⟩
    exact ⟨u, by simp [results, Tryd.results77, go_sem], u, rfl, ownsRow_putObj h2 _ hK rfl, hB.trans (belowK_b (w := w) (Nat.le_refl _) V D _ _ (by have := hbL.size; omega) hK rfl rfl)⟩
  case stop =>
    rintro D c pre V hD hSp h hK
    exact h.elim

set_option maxRecDepth 100000 in
set_option maxHeartbeats 4000000 in
theorem Collect_in (n : Nat) (B0 : Nat) (v : Value) (ws : List Nat) (hf : Fit64 ws) (on : Bool) (hn4 : n ≤ 4096) (hlen : ws.length = (n + 63) / 64) (w : World) (f0 : BBox w B0 n v) (f1 : Boxed w (B0 + 1) 3 (.int .i64 0)) (f2 : Boxed w (B0 + 2) 4 (.bool on)) (hw : WAt w v ws) (hgd : Gd w) :
    CallsIn Fence.wide 6 Tryd.prog 64 #[.func (.func 78) #[] #[.pointer (some ⟨B0, 0, none⟩), .pointer (some ⟨B0 + 1, 0, none⟩), .pointer (some ⟨B0 + 2, 0, none⟩)]] w fun e w' =>
      ∃ u, e = .returned u ∧ w'.ownsRow w.heap.size 53 2 u (runsL ws on 0 n).length (rowR (runsL ws on 0 n)) ∧ Below w.heap.size w w' := by
  refine callsIn_of_wp Tryd.func64 rfl trivial ?_ rfl
  simp only [Tryd.ntmps64, List.size_toArray, List.length_cons, List.length_nil, Nat.reduceAdd, Nat.reduceSub, Array.replicate_succ, Array.replicate_zero, List.push_toArray, List.append_toArray, List.nil_append, List.cons_append]
  have hf1 := wide_fn 77
  gi_wp2_with fail
  refine (AppendSeq_in n B0 v ws hf on hn4 hlen w f0 f1 f2 hw hgd).mono ?_
  rintro e w1 ⟨u, rfl, hu, hB⟩
  gi_wp2
  go_ret
  exact ⟨u, rfl, hu, hB⟩

set_option maxRecDepth 100000 in
set_option maxHeartbeats 4000000 in
theorem Runs_ok (n : Nat) (v : Value) (on : Bool) (ws : List Nat) (hf : Fit64 ws) (w : World) (hgd : Gd w) (h : WAt w v ws) (hc : checkB n ws = 0) :
    Calls Tryd.prog 32 #[bv n v, .bool on] w fun e w' => ∃ u, e = .returned (.tuple #[u, .int .i64 0]) ∧ w'.ownsRow w.heap.size 53 2 u (runsL ws on 0 n).length (rowR (runsL ws on 0 n)) ∧ Below w.heap.size w w' := by
  obtain ⟨n', hn', hn4, hlen⟩ := check_ok hc
  obtain rfl : n = n' := by omega
  obtain ⟨wA, hwA⟩ : ∃ wA, w.alloc (.cells #[.int .i64 (n : Int), v] 24) = wA := ⟨_, rfl⟩
  have hAB : Below w.heap.size w wA := by rw [← hwA]; exact (Below.refl _ _).alloc (Nat.le_refl _) _
  have bA : BBox wA w.heap.size n v := by rw [← hwA]; exact BBox.new w n v
  have hA := h.later hAB
  have HW := Lib.hid hwA
  have HC := Lib.hid hc
  have HL := Lib.hid hlen
  clear hwA hc hn' hlen
  refine (callsIn_wide (n := 7)).1 ?_
  refine callsIn_of_wp Tryd.func32 rfl trivial ?_ rfl
  simp only [Tryd.ntmps32, List.size_toArray, List.length_cons, List.length_nil, Nat.reduceAdd, Nat.reduceSub, Array.replicate_succ, Array.replicate_zero, List.push_toArray, List.append_toArray, List.nil_append, List.cons_append]
  have hf1 := wide_fn 19
  have hf2 := wide_fn 65
  have hf3 := wide_fn 64
  gi_wp2_with fail
  rw [HW.out]
  refine (callsIn_wide.2 (Check_is n v ws 0 HC.out hf _ hA)).mono ?_
  rintro e w1 ⟨rfl, hB⟩
  have x0 := (bA.later hB).c0
  have x1 := (bA.later hB).c1
  have D1 := hAB.trans (hB.mono hAB.size)
  gi_wp2_with fail
  refine (runsFrom_any 6 _ _ _ _ _).mono ?_
  rintro e w' ⟨rfl, rfl⟩
  gi_wp2_with fail
  obtain ⟨WL, hWL, hbW, hzL, f0, f1, f2⟩ := boxes3 w1 n v 0 on
  rw [hWL]
  have D2 := D1.trans (hbW.mono D1.size)
  refine (Collect_in n w1.heap.size v ws hf on hn4 HL.out WL f0 f1 f2 (h.later D2) (hgd.later D2)).mono ?_
  rintro e w3 ⟨u, rfl, hu, hB3⟩
  obtain ⟨ua, uc, rfl⟩ := ownsRow_formR hu
  gi_wp2_with fail
  go_ret2
  exact ⟨_, rfl, own_down hu D2.size, D2.trans (hB3.mono D2.size)⟩

set_option maxRecDepth 100000 in
theorem Runs_bad (N : Int) (v : Value) (on : Bool) (ws : List Nat) (hf : Fit64 ws) (w : World) (h : WAt w v ws) (c : Int) (hc : checkB N ws = c) (h0 : c ≠ 0) :
    Calls Tryd.prog 32 #[bv N v, .bool on] w fun e w' => e = .returned (.tuple #[.slice none 0 0, .int .i64 c]) ∧ Below w.heap.size w w' := by
  obtain ⟨wA, hwA⟩ : ∃ wA, w.alloc (.cells #[.int .i64 N, v] 24) = wA := ⟨_, rfl⟩
  have hAB : Below w.heap.size w wA := by rw [← hwA]; exact (Below.refl _ _).alloc (Nat.le_refl _) _
  have hA := h.later hAB
  have HW := Lib.hid hwA
  have HC := Lib.hid hc
  have hq : (c != 0) = true := by simp [h0]
  clear hwA hc h0
  go_enter Tryd.func32, Tryd.ntmps32
  go_wp2_with fail
  rw [HW.out]
  refine (Check_is N v ws c HC.out hf _ hA).mono ?_
  rintro e w1 ⟨rfl, hB⟩
  go_wp2
  go_ret2
  exact ⟨rfl, hAB.trans (hB.mono hAB.size)⟩
end Go.Proofs.YtpplleojdcgceaaDoor
