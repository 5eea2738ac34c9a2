/- next, Next: the first bit from one on that is set (clear). -/
import Derived.Test.YtpplleojdcgceaaDoorRuns0
import Derived.Test.YtpplleojdcgceaaDoorMatches
namespace Go.Proofs.YtpplleojdcgceaaDoor
open Go.RowKit Go.Shelf
attribute [local go_sem] Oper.semAt_some

theorem checkRun_is (N : Int) (v : Value) (ws : List Nat) (a t c : Int) (hc : runB N ws a t = c) (hf : Fit64 ws) (w : World) (h : WAt w v ws) :
    Calls Tryd.prog 56 #[bv N v, .int .i64 a, .int .i64 t] w fun e w' => e = .returned (.int .i64 c) ∧ Below w.heap.size w w' := by subst hc; exact checkRun_any N v ws a t hf w h
theorem checkSize_is (N : Int) (v : Value) (ws : List Nat) (s c : Int) (hc : sizeB N ws s = c) (hf : Fit64 ws) (w : World) (h : WAt w v ws) :
    Calls Tryd.prog 67 #[bv N v, .int .i64 s] w fun e w' => e = .returned (.int .i64 c) ∧ Below w.heap.size w w' := by subst hc; exact checkSize_any N v ws s hf w h

theorem own_cells {β : Type} (B k : Nat) (o : Obj) (hc : o.isCells = true) : OwnFrom B (fun (_ : β) W => W.heap[k]? = some o) := fun _ A C row hs hg hr =>
  (hg.block k (Array.getElem?_eq_some_iff.1 hs).1 (fun e => by
    obtain ⟨_, o', h1, h2⟩ := hr k e.symm
    rw [hs] at h1; cases h1; rw [hc] at h2; cases h2)).trans hs
/-- The box of bits. -/
def BBox (W : World) (k : Nat) (N : Int) (v : Value) : Prop := W.heap[k]? = some (.cells #[.int .i64 N, v] 24 (0, 0))
theorem BBox.new (W : World) (N : Int) (v : Value) : BBox (W.alloc (.cells #[.int .i64 N, v] 24)) W.heap.size N v := World.alloc_heap_new W _
theorem BBox.alloc {W : World} {k : Nat} {N : Int} {v : Value} (h : BBox W k N v) (o : Obj) : BBox (W.alloc o) k N v := (Below.heap_alloc W o k (Array.getElem?_eq_some_iff.1 h).1).trans h
theorem BBox.later {W V : World} {k : Nat} {N : Int} {v : Value} (h : BBox W k N v) (hb : Below W.heap.size W V) : BBox V k N v := (hb.block k (Array.getElem?_eq_some_iff.1 h).1).trans h
theorem BBox.lt {W : World} {k : Nat} {N : Int} {v : Value} (h : BBox W k N v) : k < W.heap.size := (Array.getElem?_eq_some_iff.1 h).1
theorem BBox.c0 {W : World} {k : Nat} {N : Int} {v : Value} (h : BBox W k N v) : W.cell? ⟨k, 0, none⟩ = some (.int .i64 N) := by unfold BBox at h; simp [World.cell?, h]
theorem BBox.c1 {W : World} {k : Nat} {N : Int} {v : Value} (h : BBox W k N v) : W.cell? ⟨k, 1, none⟩ = some v := by unfold BBox at h; simp [World.cell?, h]
theorem BBox.setFar {W : World} {k j : Nat} {N : Int} {v : Value} (h : BBox W k N v) (hne : k ≠ j) (u : Value) : BBox (W.setCell ⟨j, 0, none⟩ u) k N v := (Below.heap_setCell _ _ _ _ (by simpa using hne)).trans h
theorem BBox.put {W : World} {k D : Nat} {N : Int} {v : Value} (h : BBox W k N v) (hne : k ≠ D) (o : Obj) : BBox (W.putObj D o) k N v := (World.putObj_heap_other (by omega)).trans h
theorem own_bbox {β : Type} (B k : Nat) (N : Int) (v : Value) : OwnFrom B (fun (_ : β) W => BBox W k N v) := own_cells B k _ rfl

/-- The first bit from a on, below n, that is set (clear); n if there is none. -/
def nextB (ws : List Nat) (on : Bool) (a n : Nat) : Nat := (hits ws on a n).head?.getD n

set_option maxRecDepth 100000 in
set_option maxHeartbeats 4000000 in
theorem next_any (n a : Nat) (v : Value) (ws : List Nat) (on : Bool) (hf : Fit64 ws) (hn : n ≤ 4096) (hl : n ≤ 64 * ws.length) (hL : ws.length ≤ 64) (w : World) (hgd : Gd w) (h : WAt w v ws) :
    Calls Tryd.prog 62 #[bv n v, .int .i64 a, .bool on] w fun e w' => e = .returned (.int .i64 (nextB ws on a n : Nat)) ∧ Below w.heap.size w w' := by
  refine (callsIn_wide (n := 5)).1 ?_
  refine callsIn_of_wp_marks Tryd.func62 rfl trivial ?_ rfl
  simp only [Tryd.ntmps62, List.size_toArray, List.length_cons, List.length_nil, Nat.reduceAdd, Nat.reduceSub, Array.replicate_succ, Array.replicate_zero, List.push_toArray, List.append_toArray, List.nil_append, List.cons_append]
  have hf2 := wide_fn 59
  gi_wp2_with fail
  refine (matches_any 4 _ _ _ _ _ _).mono ?_
  rintro e w' ⟨rfl, rfl⟩
  gi_wp2_with fail
  have e1 : BBox (w.alloc (.cells #[.int .i64 (n : Int), v] 24)) w.heap.size n v := BBox.new w _ _
  have e2 : Boxed ((w.alloc (.cells #[.int .i64 (n : Int), v] 24)).alloc (.cells #[.int .i64 0] 3)) (w.heap.size + 1) 3 (.int .i64 0) := by
    have := Boxed.new (w.alloc (.cells #[.int .i64 (n : Int), v] 24)) 3 (.int .i64 0)
    rwa [World.size_alloc] at this
  obtain ⟨wA, hwA⟩ : ∃ x, (w.alloc (.cells #[.int .i64 (n : Int), v] 24)).alloc (.cells #[.int .i64 0] 3) = x := ⟨_, rfl⟩
  have hzA : wA.heap.size = w.heap.size + 1 + 1 := by rw [← hwA]; simp
  have e1A : BBox wA w.heap.size n v := by rw [← hwA]; exact e1.alloc _
  have hbA : Below w.heap.size w wA := by rw [← hwA]; exact ((Below.refl _ w).alloc (Nat.le_refl _) _).alloc (by simp) _
  rw [hwA] at e2 ⊢
  clear hwA e1
  have hbW : Below wA.heap.size wA ((((wA.alloc (.cells #[.int .i64 (n : Int), v] 24)).alloc (.cells #[.int .i64 (a : Int)] 3)).alloc (.cells #[.int .i64 (n : Int)] 3)).alloc (.cells #[.bool on] 4)) := ((((Below.refl _ wA).alloc (Nat.le_refl _) _).alloc (by simp) _).alloc (by simp; omega) _).alloc (by simp; omega) _
  have f0 : BBox ((((wA.alloc (.cells #[.int .i64 (n : Int), v] 24)).alloc (.cells #[.int .i64 (a : Int)] 3)).alloc (.cells #[.int .i64 (n : Int)] 3)).alloc (.cells #[.bool on] 4)) wA.heap.size n v := (((BBox.new wA _ _).alloc _).alloc _).alloc _
  have f1 : Boxed ((((wA.alloc (.cells #[.int .i64 (n : Int), v] 24)).alloc (.cells #[.int .i64 (a : Int)] 3)).alloc (.cells #[.int .i64 (n : Int)] 3)).alloc (.cells #[.bool on] 4)) (wA.heap.size + 1) 3 (.int .i64 a) := by
    have := Boxed.new (wA.alloc (.cells #[.int .i64 (n : Int), v] 24)) 3 (.int .i64 (a : Int))
    rw [World.size_alloc] at this
    exact (this.alloc _).alloc _
  have f2 : Boxed ((((wA.alloc (.cells #[.int .i64 (n : Int), v] 24)).alloc (.cells #[.int .i64 (a : Int)] 3)).alloc (.cells #[.int .i64 (n : Int)] 3)).alloc (.cells #[.bool on] 4)) (wA.heap.size + 2) 3 (.int .i64 n) := by
    have := Boxed.new ((wA.alloc (.cells #[.int .i64 (n : Int), v] 24)).alloc (.cells #[.int .i64 (a : Int)] 3)) 3 (.int .i64 (n : Int))
    simp only [World.size_alloc] at this
    exact this.alloc _
  have f3 : Boxed ((((wA.alloc (.cells #[.int .i64 (n : Int), v] 24)).alloc (.cells #[.int .i64 (a : Int)] 3)).alloc (.cells #[.int .i64 (n : Int)] 3)).alloc (.cells #[.bool on] 4)) (wA.heap.size + 3) 4 (.bool on) := by
    have := Boxed.new (((wA.alloc (.cells #[.int .i64 (n : Int), v] 24)).alloc (.cells #[.int .i64 (a : Int)] 3)).alloc (.cells #[.int .i64 (n : Int)] 3)) 4 (.bool on)
    simp only [World.size_alloc] at this
    exact this
  obtain ⟨WL, hWL⟩ : ∃ x, ((((wA.alloc (.cells #[.int .i64 (n : Int), v] 24)).alloc (.cells #[.int .i64 (a : Int)] 3)).alloc (.cells #[.int .i64 (n : Int)] 3)).alloc (.cells #[.bool on] 4)) = x := ⟨_, rfl⟩
  have hzL : WL.heap.size = w.heap.size + 6 := by rw [← hWL]; simp; omega
  rw [hWL] at hbW f0 f1 f2 f3 ⊢
  clear hWL
  have hbL : Below w.heap.size w WL := hbA.trans (hbW.mono hbA.size)
  have g1 : BBox WL w.heap.size n v := e1A.later hbW
  have g2 : Boxed WL (w.heap.size + 1) 3 (.int .i64 0) := e2.kept (grown_of_below hbW) (by simp)
  rw [hzA] at f0 f1 f2 f3
  clear e1A e2 hbA hbW
  refine range_g rfl (by decide) (gf := 75) (lb := #[.pointer (some ⟨w.heap.size + 1 + 1 + 1, 0, none⟩), .pointer (some ⟨w.heap.size + 1 + 1 + 2, 0, none⟩), .pointer (some ⟨w.heap.size + 1 + 1, 0, none⟩), .pointer (some ⟨w.heap.size + 1 + 1 + 3, 0, none⟩)]) rfl (wide_fn _) (enters_of Tryd.func75 (by kernel_rfl) rfl)
    (matches_g 4 (by decide) (w.heap.size + 1 + 1) ws.length a n n v ws hf rfl hl hL on WL f0 f1 f2 f3 (h.later hbL)) (fun h k => KC.trans h k) (fun _ V k o o' hk hc _ => KC.putObj V k o o' hk hc) (fun _ => rfl)
    (fun pre V => ((pre.map Subtype.val).flatMap posW = [] ∧ (BBox V w.heap.size n v ∧ Boxed V (w.heap.size + 1) 3 (.int .i64 0))) ∧ Below w.heap.size w V)
    (fun c pre V => (c = .ret ∧ ∃ j : Nat, ((pre.map Subtype.val).flatMap posW).head? = some j ∧ Boxed V (w.heap.size + 1) 3 (.int .i64 j)) ∧ Below w.heap.size w V)
    ?own ?ownx ?start (fun x => { tmps := #[bv n v, .int .i64 (a : Int), .bool on, .pointer (some ⟨w.heap.size, 0, none⟩), undef, undef, .pointer (some ⟨w.heap.size + 1, 0, none⟩), .int .i64 (x.1.1 : Nat), .int .u64 (x.1.2 : Nat), .agg #[.int .i64 (n : Int), v], .int .i64 (a : Int), .pointer (some ⟨w.heap.size, 0, none⟩), .int .i64 (n : Int), .bool on, .func (.func 75) #[] #[.pointer (some ⟨w.heap.size + 1 + 1 + 1, 0, none⟩), .pointer (some ⟨w.heap.size + 1 + 1 + 2, 0, none⟩), .pointer (some ⟨w.heap.size + 1 + 1, 0, none⟩), .pointer (some ⟨w.heap.size + 1 + 1 + 3, 0, none⟩)], .int .i64 (x.1.1 : Nat), .int .u64 (x.1.2 : Nat), undef, undef, undef, undef, undef, undef, undef, undef, undef], defers := [] }) ?assign ?body ?done ?stop
  case own => exact OwnFrom.and (OwnFrom.and (ownFrom_pure _ (fun pre : List (Pw ws.length) => (pre.map Subtype.val).flatMap posW = [])) (OwnFrom.and (own_bbox _ _ _ _) (Own.from (boxed_own _ _ (fun _ => .int .i64 0)) _))) (ownFrom_below (Nat.le_refl _) hbL.size)
  case ownx =>
    intro c
    refine OwnFrom.and ?_ (ownFrom_below (Nat.le_refl _) hbL.size)
    rintro pre A C row ⟨hc, j, hj, hb⟩ hg hr
    exact ⟨hc, j, hj, Own.from (boxed_own (β := Unit) _ _ (fun _ => .int .i64 (j : Int))) _ () A C row hb hg hr⟩
  case start => exact ⟨⟨rfl, g1, g2⟩, hbL⟩
  case assign =>
    intro l x V K hK
    simp only [encW]
    gi_wp2
    exact hK
  case body =>
    rintro l pre x V ⟨⟨hz, hb1, hb2⟩, hB⟩ hlen
    obtain ⟨x, hx1, hx2⟩ := x
    obtain ⟨i, m⟩ := x
    simp only at hx1 hx2
    have hmap : ((pre ++ [(⟨(i, m), hx1, hx2⟩ : Pw ws.length)]).map Subtype.val).flatMap posW = posW (i, m) := by
      rw [List.map_append, List.map_singleton, List.flatMap_append, hz, List.nil_append, List.flatMap_singleton]
    have HM := Lib.hid hmap
    clear hmap hz
    by_cases hm0 : m = 0
    · have hq : ((m : Int) != 0) = false := by simp [hm0]
      have HP : Hid (posW (i, m) = []) := by unfold Hid; rw [hm0]; exact posW_zero i
      clear hm0
      gi_wp2_with fail
      exact ⟨KeepsFrom.refl _ _, KC.refl _ _, ⟨by rw [HM.out, HP.out], hb1, hb2⟩, hB⟩
    · have hq : ((m : Int) != 0) = true := by simp [hm0]
      obtain ⟨j, hj⟩ : ∃ j, Lib.ctz 64 m = j := ⟨_, rfl⟩
      have HP : Hid ((posW (i, m)).head? = some (64 * i + j)) := by unfold Hid; rw [← hj]; exact posW_head i m hx2 (by omega)
      have hj64 : j < 64 := by rw [← hj]; exact ctz_lt m hx2 (by omega)
      have HJ := Lib.hid hj
      have hi64 : i < 64 := by omega
      clear hj
      have hc2 := hb2.cell
      have hfz := hb2.frozen
      have hf4 := wide_fn 76
      have hf3 : (Fence.wide.inRound l).fn 76 := hf4
      gi_wp2_with fail
      refine (CallsIn.inRound l (callsIn_wide.2 (tz64_any m j hx2 hm0 HJ.out _ (hgd.later hB)))).mono ?_
      rintro e W1 ⟨rfl, rfl⟩
      gi_wp2_with fail
      refine ⟨(KeepsOthers.setCell _ _ _).from _, ⟨rfl, 64 * i + j, by rw [HM.out]; exact HP.out, ?_⟩, hB.setCell (by simp) _⟩
      have := hb2.set (.int .i64 ((i : Int) * 64 + (j : Int)))
      rwa [show (i : Int) * 64 + (j : Int) = ((64 * i + j : Nat) : Int) by omega] at this ⊢
  case done =>
    rintro D ys V hD hys ⟨⟨hz, hb1, hb2⟩, hB⟩ hK
    rw [hys, mt_hits ws hf on a n hn] at hz
    have hd : Hid (nextB ws on a n = n) := by unfold Hid nextB; rw [hz]; rfl
    clear hz
    have hc1 := hb1.c0
    have hc2 := hb2.cell
    have hfz := hb2.frozen
    gi_wp2_with fail
    have k2 := ((hb2.set (.int .i64 (n : Int))).kept (grownBy_putObj' _ D (.deferred none)) (by simp; omega)).cell
    have cK : (V.setCell ⟨w.heap.size + 1, 0, none⟩ (.int .i64 (n : Int))).heap[D]? = some (.deferred (some [])) := by rw [Below.heap_setCell _ _ _ _ (by simp; omega)]; exact hK
    refine ⟨by simp, .inl ⟨D, _, rfl, run_takeDeferred cK, ?_⟩⟩
    exact ⟨.int .i64 (n : Int), by simp [results, Tryd.results62, go_sem, k2], by rw [hd.out], (hB.setCell (by simp) _).trans (belowK_b (w := w) (Nat.le_refl _) _ D _ _ (by omega) cK rfl rfl)⟩
  case stop =>
    rintro D c pre V hD hSp ⟨⟨rfl, j, hj, hb2⟩, hB⟩ hK
    have hd : Hid (nextB ws on a n = j) := by
      obtain ⟨r, hr⟩ := hSp
      unfold Hid nextB
      rw [← mt_hits ws hf on a n hn, ← hr, List.flatMap_append, List.head?_append, hj]; rfl
    have hc2 := hb2.cell
    gi_wp2_with fail
    have k2 := (hb2.kept (grownBy_putObj' V D (.deferred none)) (by simp; omega)).cell
    refine ⟨by simp, .inl ⟨D, _, rfl, run_takeDeferred hK, ?_⟩⟩
    exact ⟨.int .i64 (j : Int), by simp [results, Tryd.results62, go_sem, k2], by rw [hd.out], hB.trans (belowK_b (w := w) (Nat.le_refl _) V D _ _ (by omega) hK rfl rfl)⟩
end Go.Proofs.YtpplleojdcgceaaDoor
