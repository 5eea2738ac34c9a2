/- put: a part of words of the call's own, set (cleared). -/
import Derived.Test.YtpplleojdcgceaaDoorWordsM
import Derived.Test.YtpplleojdcgceaaDoorRefFinds
namespace Go.Proofs.YtpplleojdcgceaaDoor
open Go.RowKit Go.Shelf
attribute [local go_sem] Oper.semAt_some

def wv (ws : List Nat) : List Value := ws.map fun (x : Nat) => Value.int .u64 (x : Int)
abbrev WOwn (W : World) (B : Nat) (u : Value) (ws : List Nat) : Prop := W.ownsRow B 58 1 u ws.length (wv ws)
theorem wv_at (ws : List Nat) (k : Nat) (h : k < ws.length) : (wv ws)[k]? = some (.int .u64 (ws[k] : Nat)) := by unfold wv; rw [List.getElem?_map, List.getElem?_eq_getElem h]; rfl
theorem own_setv {W : World} {base : Nat} {e : TypeId} {g k n cap : Nat} {xs : List Value} (h : W.ownsRow base e 1 (.slice (some ⟨g, 0, none⟩) n cap) n xs) (x : Value) :
    (W.setCell ⟨g, k, none⟩ x).ownsRow base e 1 (.slice (some ⟨g, 0, none⟩) n cap) n (xs.set k x) ∧ W.frozen? ⟨g, k, none⟩ = false ∧ base ≤ g ∧ g < W.heap.size := by
  obtain ⟨hl, ⟨hv, _⟩ | ⟨g', cap', cur, hv, hb, hg, h1, h2, h3, ht⟩⟩ := h
  · cases hv
  · cases hv
    refine ⟨⟨by simpa using hl, .inr ⟨g, cap, cur.setIfInBounds k x, rfl, hb, heap_setCell_same W g _ cur e _ hg, h1, h2, by simpa using h3, ?_⟩⟩, by simp [World.frozen?, hg], hb, (Array.getElem?_eq_some_iff.1 hg).1⟩
    rw [Array.toList_setIfInBounds, List.take_set, ht]
theorem KC.setAt {p : Nat → Prop} (W : World) (k o : Nat) (u : Value) (hk : ¬ p k) : KC p W (W.setCell ⟨k, o, none⟩ u) := fun i _ hp h1 _ => (Below.heap_setCell _ _ _ _ (by intro e; exact hk (by rw [← show i = k from e]; exact hp))).trans h1
theorem wv_put (on : Bool) (ws : List Nat) (k m x u : Nat) (h : k < ws.length) (hx : ws[k] = x) (hu : u = if on then x ||| m else x &&& (18446744073709551615 - m)) : (wv ws).set k (.int .u64 (u : Int)) = wv (putW on ws (k, m)) := by
  unfold wv putW
  rw [List.getElem?_eq_getElem h, hx]
  simp only [Option.getD_some, ← hu]
  rw [List.map_set]
theorem WOwn.at {W : World} {B : Nat} {u : Value} {ws : List Nat} (h : WOwn W B u ws) : WAt W u ws := by
  obtain ⟨hl, ⟨hv, h0⟩ | ⟨g, cap, cur, hv, _, hg, h1, h2, h3, ht⟩⟩ := h
  · exact .inl ⟨hv, List.eq_nil_of_length_eq_zero h0⟩
  · refine .inr ⟨g, 0, cap, hv, h1, h2, fun j hj => ?_⟩
    have h4 := wv_at ws j hj
    rw [← ht, List.getElem?_take, if_pos (by omega)] at h4
    simp only [World.cell?, hg]
    simpa using h4
theorem own_ownR {β : Type} (B0 B : Nat) (e : TypeId) (u : Value) (n : Nat) (f : β → List Value) (hf : ∀ k, u.ownBlock = some k → k < B) : OwnFrom B (fun (s : β) W => W.ownsRow B0 e 1 u n (f s)) := by
  rintro s W W' row h hg hr
  obtain ⟨hl, h | ⟨g, cap, cur, hv, hb, hg2, h1, h2, h3, ht⟩⟩ := h
  · exact ⟨hl, .inl h⟩
  · refine ⟨hl, .inr ⟨g, cap, cur, hv, hb, ?_, h1, h2, h3, ht⟩⟩
    have hlt := hf g (by rw [hv]; rfl)
    exact (hg.block g (Array.getElem?_eq_some_iff.1 hg2).1 (fun e2 => by have := (hr g e2.symm).1; omega)).trans hg2

theorem grownBy_setAt (W : World) (b o : Nat) (v : Value) : W.grownBy (W.setCell ⟨b, o, none⟩ v) (some b) :=
  ⟨rfl, rfl, rfl, (KeepsWalks.setCell W _ v).size, fun k _ hk => Below.heap_setCell _ _ _ k (fun e => hk (by rw [e]))⟩
theorem BBox.fz {W : World} {k : Nat} {N : Int} {v : Value} (h : BBox W k N v) (o : Nat) : W.frozen? ⟨k, o, none⟩ = false := by unfold BBox at h; simp [World.frozen?, h]
/-- A box of bits, written anew. -/
theorem BBox.write {W : World} {k : Nat} {N M : Int} {v u : Value} (h : BBox W k N v) : BBox ((W.setCell ⟨k, 0, none⟩ (.int .i64 M)).setCell ⟨k, 1, none⟩ u) k M u := by
  have h1 := heap_setCell_same W k 0 _ _ (.int .i64 M) h
  exact heap_setCell_same _ k 1 _ _ u h1
theorem write_grown (W : World) (k : Nat) (M : Int) (u : Value) : W.grownBy ((W.setCell ⟨k, 0, none⟩ (.int .i64 M)).setCell ⟨k, 1, none⟩ u) (some k) :=
  let a := grownBy_setAt W k 0 (.int .i64 M)
  let b := grownBy_setAt (W.setCell ⟨k, 0, none⟩ (.int .i64 M)) k 1 u
  ⟨b.os.trans a.os, b.tape.trans a.tape, b.output.trans a.output, Nat.le_trans a.size b.size, fun j hj hne => (b.block j (Nat.lt_of_lt_of_le hj a.size) hne).trans (a.block j hj hne)⟩

set_option maxRecDepth 100000 in
set_option maxHeartbeats 4000000 in
theorem put_any (N : Int) (a t : Nat) (on : Bool) (u : Value) (ws : List Nat) (hf : Fit64 ws) (ht : t ≤ 64 * ws.length) (hL : ws.length ≤ 64) (B : Nat) (w : World) (hB : B ≤ w.heap.size) (h : WOwn w B u ws) :
    Calls Tryd.prog 50 #[bv N u, .int .i64 a, .int .i64 t, .bool on] w fun e w' => e = .returned (bv N u) ∧ WOwn w' B u (putL on ws (pcL a t)) ∧ Below B w w' := by
  obtain ⟨ua, ucap, rfl⟩ := own_form h
  refine (callsIn_wide (n := 5)).1 ?_
  refine callsIn_of_wp_marks Tryd.func50 rfl trivial ?_ rfl
  simp only [Tryd.ntmps50, List.size_toArray, List.length_cons, List.length_nil, Nat.reduceAdd, Nat.reduceSub, Array.replicate_succ, Array.replicate_zero, List.push_toArray, List.append_toArray, List.nil_append, List.cons_append]
  have hf2 := wide_fn 69
  obtain ⟨wA, hwA⟩ : ∃ wA, w.alloc (.cells #[.int .i64 N, .slice ua ws.length ucap] 24) = wA := ⟨_, rfl⟩
  have hbA : Below w.heap.size w wA := by rw [← hwA]; exact (Below.refl _ _).alloc (Nat.le_refl _) _
  have bA : BBox wA w.heap.size N (.slice ua ws.length ucap) := by rw [← hwA]; exact BBox.new w N _
  have hzA : wA.heap.size = w.heap.size + 1 := by rw [← hwA]; simp
  have HW := Lib.hid hwA
  clear hwA
  gi_wp2_with fail
  rw [HW.out]
  refine (pieces_any 4 _ _ _).mono ?_
  rintro e w' ⟨rfl, rfl⟩
  gi_wp2_with fail
  obtain ⟨WL, hWL⟩ : ∃ x, (((wA.alloc (.cells #[.bool on] 4)).alloc (.cells #[.int .i64 0, .slice none 0 0] 24)).alloc (.cells #[.int .i64 (a : Int)] 3)).alloc (.cells #[.int .i64 (t : Int)] 3) = x := ⟨_, rfl⟩
  have hbW : Below wA.heap.size wA WL := by rw [← hWL]; exact ((((Below.refl _ wA).alloc (Nat.le_refl _) _).alloc (by simp) _).alloc (by simp; omega) _).alloc (by simp; omega) _
  have hzL : WL.heap.size = w.heap.size + 5 := by rw [← hWL]; simp; omega
  have f1 : Boxed WL (w.heap.size + 1) 4 (.bool on) := by
    have := Boxed.new wA 4 (.bool on)
    rw [hzA] at this
    rw [← hWL]; exact ((this.alloc _).alloc _).alloc _
  have f2 : BBox WL (w.heap.size + 1 + 1) 0 (.slice none 0 0) := by
    have := BBox.new (wA.alloc (.cells #[.bool on] 4)) 0 (.slice none 0 0)
    rw [World.size_alloc, hzA] at this
    rw [← hWL]; exact (this.alloc _).alloc _
  have f3 : Boxed WL (w.heap.size + 1 + 1 + 1) 3 (.int .i64 a) := by
    have := Boxed.new ((wA.alloc (.cells #[.bool on] 4)).alloc (.cells #[.int .i64 0, .slice none 0 0] 24)) 3 (.int .i64 (a : Int))
    simp only [World.size_alloc, hzA] at this
    rw [← hWL]; exact this.alloc _
  have f4 : Boxed WL (w.heap.size + 1 + 1 + 1 + 1) 3 (.int .i64 t) := by
    have := Boxed.new (((wA.alloc (.cells #[.bool on] 4)).alloc (.cells #[.int .i64 0, .slice none 0 0] 24)).alloc (.cells #[.int .i64 (a : Int)] 3)) 3 (.int .i64 (t : Int))
    simp only [World.size_alloc, hzA] at this
    rw [← hWL]; exact this
  rw [hWL]
  have bL : BBox WL w.heap.size N (.slice ua ws.length ucap) := bA.later hbW
  have hbL : Below w.heap.size w WL := hbA.trans (hbW.mono hbA.size)
  have hOL : WOwn WL B (.slice ua ws.length ucap) ws := h.kept (grown_of_below hbL) (Classical.em _)
  have hlt : ∀ k, (Value.slice ua ws.length ucap).ownBlock = some k → k < w.heap.size := fun k hk => (h.lt k hk).2
  have hfp : ∀ pre : List (Pw ws.length), Fit64 (putL on ws (pre.map Subtype.val)) := fun pre => putL_fit on _ _ hf fun x hx => by
    obtain ⟨y, _, rfl⟩ := List.mem_map.1 hx
    exact y.2.2
  have HFP := Lib.hid hfp
  clear hWL hfp
  refine range_g rfl (by decide) (gf := 79) (lb := #[.pointer (some ⟨w.heap.size + 1 + 1 + 1, 0, none⟩), .pointer (some ⟨w.heap.size + 1 + 1 + 1 + 1, 0, none⟩)]) rfl (wide_fn _) (enters_of Tryd.func79 (by kernel_rfl) rfl)
    (pieces_g 4 (by decide) (w.heap.size + 1 + 1 + 1) (w.heap.size + 1 + 1 + 1 + 1) ws.length a t ht hL (fun _ k => k = w.heap.size + 1 + 1 + 1 + 1) (fun _ => rfl) WL f3 f4) (fun h k => KC.trans h k) (fun _ V k o o' hk hc _ => KC.putObj V k o o' hk hc) (fun _ => rfl)
    (fun pre V => V.ownsRow B 58 1 (.slice ua ws.length ucap) ws.length (wv (putL on ws (pre.map Subtype.val))) ∧ (BBox V w.heap.size N (.slice ua ws.length ucap) ∧ (Boxed V (w.heap.size + 1) 4 (.bool on) ∧ (BBox V (w.heap.size + 1 + 1) 0 (.slice none 0 0) ∧ Below B w V))))
    (fun _ _ _ => False)
    ?own ?ownx ?start (fun x => { tmps := #[bv N (.slice ua ws.length ucap), .int .i64 (a : Int), .int .i64 (t : Int), .bool on, .pointer (some ⟨w.heap.size, 0, none⟩), undef, undef, .pointer (some ⟨w.heap.size + 1, 0, none⟩), .pointer (some ⟨w.heap.size + 1 + 1, 0, none⟩), .int .i64 (x.1.1 : Nat), .int .u64 (x.1.2 : Nat), .int .i64 (a : Int), .int .i64 (t : Int), .func (.func 79) #[] #[.pointer (some ⟨w.heap.size + 1 + 1 + 1, 0, none⟩), .pointer (some ⟨w.heap.size + 1 + 1 + 1 + 1, 0, none⟩)], .int .i64 (x.1.1 : Nat), .int .u64 (x.1.2 : Nat), undef, undef, undef, undef, undef, undef, undef, undef, undef, undef, undef, undef, undef, undef, undef, undef, undef, undef], defers := [] }) ?assign ?body ?done ?stop
  case own => exact OwnFrom.and (own_ownR _ _ _ _ _ _ (fun k hk => by have := hlt k hk; omega)) (OwnFrom.and (own_bbox _ _ _ _) (OwnFrom.and (Own.from (boxed_own _ _ (fun _ : List (Pw ws.length) => .bool on)) _) (OwnFrom.and (own_bbox _ _ _ _) (ownFrom_below hB (by omega)))))
  case ownx => exact fun _ _ _ _ _ h => h.elim
  case start => exact ⟨hOL, bL, f1, f2, hbL.mono hB⟩
  case assign =>
    intro l x V K hK
    simp only [encW]
    gi_wp2
    exact hK
  case body =>
    rintro l pre x V ⟨hO, hbx, hon, hrs, hBl⟩ hlen
    obtain ⟨x, hx1, hx2⟩ := x
    obtain ⟨i, m⟩ := x
    simp only at hx1 hx2
    have hfit := HFP.out pre
    have hl1 : (putL on ws (pre.map Subtype.val)).length = ws.length := putL_len _ _ _
    have hsn : putL on ws ((pre ++ [(⟨(i, m), hx1, hx2⟩ : Pw ws.length)]).map Subtype.val) = putW on (putL on ws (pre.map Subtype.val)) (i, m) := by rw [List.map_append, List.map_singleton, putL_snoc]
    obtain ⟨w1, hw1⟩ : ∃ z, putL on ws (pre.map Subtype.val) = z := ⟨_, rfl⟩
    rw [hw1] at hO hfit hl1 hsn
    have hi1' : i < w1.length := by omega
    obtain ⟨g, rfl, hcell⟩ := own_at hO i hx1 _ (wv_at w1 i hi1')
    obtain ⟨y, hy⟩ : ∃ y, w1[i] = y := ⟨_, rfl⟩
    have hy2 : y < 18446744073709551616 := by rw [← hy]; exact hfit.get i hi1'
    rw [hy] at hcell
    obtain ⟨u1, hu1⟩ : ∃ u, y ||| m = u := ⟨_, rfl⟩
    obtain ⟨u2, hu2⟩ : ∃ u, y &&& (18446744073709551615 - m) = u := ⟨_, rfl⟩
    have k1 : bits .or .u64 (y : Int) (m : Int) = (u1 : Int) := by rw [u64_or_nat _ _ hy2 hx2, hu1]
    have k2 : bits .andNot .u64 (y : Int) (m : Int) = (u2 : Int) := by rw [u64_andNot_nat _ _ hy2 hx2, hu2]
    have hi1 : (i : Int) < (ws.length : Int) := by omega
    have c1 := hbx.c1
    have c2 := hon.cell
    have hS : Hid (∀ u : Nat, u = (if on then u1 else u2) → (V.setCell ⟨g, i, none⟩ (.int .u64 (u : Int))).ownsRow B 58 1 (.slice (some ⟨g, 0, none⟩) ws.length ucap) ws.length (wv (putL on ws ((pre ++ [(⟨(i, m), hx1, hx2⟩ : Pw ws.length)]).map Subtype.val)))) := by
      intro u hu
      have h1 := (own_setv (k := i) hO (.int .u64 (u : Int))).1
      rw [wv_put on w1 i m y u hi1' hy (by rw [hu, hu1, hu2])] at h1
      rw [hsn]; exact h1
    obtain ⟨_, hfz, hBg, hgl⟩ := own_setv (k := i) hO (.int .u64 0)
    have hgw := hlt g rfl
    have HK := Lib.hid hBl
    clear hsn hw1 hfit hl1 hy hu1 hu2 hBl hi1'
    cases on
    · gi_wp2_with fail
      refine ⟨(KeepsOthers.setCell _ _ _).from _, KC.setAt V g i _ (by omega), hS.out u2 rfl, (Below.heap_setCell _ _ _ _ (by simp; omega)).trans hbx, hon.kept (grownBy_setAt V g i _) (by simp; omega), (Below.heap_setCell _ _ _ _ (by simp; omega)).trans hrs, HK.out.setCell hBg _⟩
    · gi_wp2_with fail
      refine ⟨(KeepsOthers.setCell _ _ _).from _, KC.setAt V g i _ (by omega), hS.out u1 rfl, (Below.heap_setCell _ _ _ _ (by simp; omega)).trans hbx, hon.kept (grownBy_setAt V g i _) (by simp; omega), (Below.heap_setCell _ _ _ _ (by simp; omega)).trans hrs, HK.out.setCell hBg _⟩
  case done =>
    rintro D ys V hD hys ⟨hO, hbx, hon, hrs, hBl⟩ hK
    rw [hys] at hO
    have c0 := hbx.c0
    have c1 := hbx.c1
    have d0 := hrs.c0
    have d1 := hrs.c1
    have z0 := hrs.fz 0
    have z1 := hrs.fz 1
    have HO := Lib.hid hO
    clear hO
    gi_wp2_with fail
    have hW := hrs.write (M := N) (u := .slice ua ws.length ucap)
    have hG := write_grown V (w.heap.size + 1 + 1) N (.slice ua ws.length ucap)
    obtain ⟨VW, hVW⟩ : ∃ x, (V.setCell ⟨w.heap.size + 1 + 1, 0, none⟩ (.int .i64 N)).setCell ⟨w.heap.size + 1 + 1, 1, none⟩ (.slice ua ws.length ucap) = x := ⟨_, rfl⟩
    rw [hVW] at hW hG ⊢
    have hK2 : VW.heap[D]? = some (.deferred (some [])) := (hG.block D (Array.getElem?_eq_some_iff.1 hK).1 (by simp; omega)).trans hK
    have hP := grownBy_putObj' VW D (.deferred none)
    have hW2 : BBox (VW.putObj D (.deferred none)) (w.heap.size + 1 + 1) N (.slice ua ws.length ucap) := (hP.block _ (Array.getElem?_eq_some_iff.1 hW).1 (by simp; omega)).trans hW
    have e0 := hW2.c0
    have e1 := hW2.c1
    refine ⟨by simp, .inl ⟨D, _, rfl, run_takeDeferred hK2, ?_⟩⟩
    refine ⟨bv N (.slice ua ws.length ucap), by simp [results, Tryd.results50, go_sem, e0, e1], rfl, ?_, ?_⟩
    · have h1 := (HO.out.kept hG ?_).kept hP ?_
      · show World.ownsRow _ B 58 1 _ _ _
        rw [show (putL on ws (pcL a t)).length = ws.length from putL_len _ _ _]
        exact h1
      · exact .inr fun e => by have := hlt _ e; omega
      · exact .inr fun e => by have := hlt _ e; omega
    · have hBV : B ≤ V.heap.size := Nat.le_trans hB hBl.size
      exact (hBl.grown hG hBV (fun k e => by cases e; omega)).grown hP (Nat.le_trans hBV hG.size) (fun k e => by cases e; omega)
  case stop =>
    rintro D c pre V hD hSp h hK
    exact h.elim
end Go.Proofs.YtpplleojdcgceaaDoor
