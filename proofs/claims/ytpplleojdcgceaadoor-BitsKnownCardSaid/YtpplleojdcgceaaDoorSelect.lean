/- Select. -/
import Derived.Test.YtpplleojdcgceaaDoorCount
namespace Go.Proofs.YtpplleojdcgceaaDoor
open Go.RowKit Go.Shelf
attribute [local go_sem] Oper.semAt_some

theorem boxesS (W : World) (N : Int) (v : Value) (k : Int) : ∃ WL, (((W.alloc (.cells #[.int .i64 N, v] 24)).alloc (.cells #[.int .i64 k] 3)).alloc (.cells #[.int .i64 0] 3)).alloc (.cells #[.int .i64 0] 29) = WL ∧
    Below W.heap.size W WL ∧ WL.heap.size = W.heap.size + 4 ∧ BBox WL W.heap.size N v ∧ Boxed WL (W.heap.size + 1) 3 (.int .i64 k) ∧ Boxed WL (W.heap.size + 1 + 1) 3 (.int .i64 0) ∧ Boxed WL (W.heap.size + 1 + 1 + 1) 29 (.int .i64 0) := by
  refine ⟨_, rfl, ((((Below.refl _ W).alloc (Nat.le_refl _) _).alloc (by simp) _).alloc (by simp; omega) _).alloc (by simp; omega) _, by simp, (((BBox.new W _ _).alloc _).alloc _).alloc _, ?_, ?_, ?_⟩
  · have := Boxed.new (W.alloc (.cells #[.int .i64 N, v] 24)) 3 (.int .i64 k)
    rw [World.size_alloc] at this
    exact (this.alloc _).alloc _
  · have := Boxed.new ((W.alloc (.cells #[.int .i64 N, v] 24)).alloc (.cells #[.int .i64 k] 3)) 3 (.int .i64 0)
    simp only [World.size_alloc] at this
    exact this.alloc _
  · have := Boxed.new (((W.alloc (.cells #[.int .i64 N, v] 24)).alloc (.cells #[.int .i64 k] 3)).alloc (.cells #[.int .i64 0] 3)) 29 (.int .i64 0)
    simp only [World.size_alloc] at this
    exact this
theorem ones_le (i m : Nat) : Lib.onesCount m ≤ 64 := by
  rw [← posW_length i m]
  have := flat_len [(i, m)]
  rw [List.flatMap_singleton] at this
  simpa using this
theorem flat_snoc {L : Nat} (pre : List (Pw L)) (x : Pw L) : ((pre ++ [x]).map Subtype.val).flatMap posW = (pre.map Subtype.val).flatMap posW ++ posW x.1 := by
  rw [List.map_append, List.map_singleton, List.flatMap_append, List.flatMap_singleton]

/-- What Select answers. -/
def selB (ws : List Nat) (on : Bool) (k n : Nat) : Int × Int := match (hits ws on 0 n)[k]? with | some j => ((j : Int), 0) | none => (0, 4)
def selectB (N : Int) (ws : List Nat) (k : Int) (on : Bool) : Int × Int := if checkB N ws ≠ 0 then (0, checkB N ws) else if k < 0 then (0, 7) else selB ws on k.toNat N.toNat

set_option maxRecDepth 100000 in
set_option maxHeartbeats 4000000 in
theorem Select_ok (n k : Nat) (v : Value) (on : Bool) (ws : List Nat) (hf : Fit64 ws) (w : World) (hgd : Gd w) (h : WAt w v ws) (hr : checkB n ws = 0) (hk64 : k ≤ 9223372036854775807) :
    Calls Tryd.prog 26 #[bv n v, .int .i64 k, .bool on] w fun e w' => e = .returned (.tuple #[.int .i64 (selB ws on k n).1, .int .i64 (selB ws on k n).2]) ∧ Below w.heap.size w w' := by
  obtain ⟨n', hn', hn4, hlen⟩ := check_ok hr
  obtain rfl : n = n' := by omega
  have HR := Lib.hid hr
  have HL := Lib.hid hlen
  clear hr hn' hlen
  refine (callsIn_wide (n := 5)).1 ?_
  refine callsIn_of_wp_marks Tryd.func26 rfl trivial ?_ rfl
  simp only [Tryd.ntmps26, List.size_toArray, List.length_cons, List.length_nil, Nat.reduceAdd, Nat.reduceSub, Array.replicate_succ, Array.replicate_zero, List.push_toArray, List.append_toArray, List.nil_append, List.cons_append]
  have hf1 := wide_fn 19
  have hf2 := wide_fn 59
  have hk0 : ¬ ((k : Int) < 0) := by omega
  gi_wp2_with fail
  obtain ⟨wA, hwA, hbA, hzA, a0, a1, a2, a3⟩ := boxesS w n v k
  rw [hwA]
  clear hwA
  refine (callsIn_wide.2 (Check_is n v ws 0 HR.out hf _ (h.later hbA))).mono ?_
  rintro e w1 ⟨rfl, hB⟩
  have b0 := a0.later hB
  have b1 : Boxed w1 (w.heap.size + 1) 3 (.int .i64 k) := a1.kept (grown_of_below hB) (by simp)
  have b2 : Boxed w1 (w.heap.size + 1 + 1) 3 (.int .i64 0) := a2.kept (grown_of_below hB) (by simp)
  have b3 : Boxed w1 (w.heap.size + 1 + 1 + 1) 29 (.int .i64 0) := a3.kept (grown_of_below hB) (by simp)
  have hB1 : Below w.heap.size w w1 := hbA.trans (hB.mono hbA.size)
  have hw1 := h.later hB1
  have hz1 : w.heap.size + 4 ≤ w1.heap.size := by have := hB.size; omega
  have c0 := b0.c0
  have c0' := b0.c1
  have c1 := b1.cell
  clear hB a0 a1 a2 a3
  gi_wp2_with fail
  refine (matches_any 4 _ _ _ _ _ _).mono ?_
  rintro e w' ⟨rfl, rfl⟩
  gi_wp2_with fail
  obtain ⟨WL, hWL, hbW, hzL, f0, f1, f2, f3⟩ := boxes4 w1 n v 0 n on
  rw [hWL]
  clear hWL
  have g1 : Boxed WL (w.heap.size + 1) 3 (.int .i64 k) := b1.kept (grown_of_below hbW) (by simp)
  have g2 : Boxed WL (w.heap.size + 1 + 1) 3 (.int .i64 0) := b2.kept (grown_of_below hbW) (by simp)
  have g3 : Boxed WL (w.heap.size + 1 + 1 + 1) 29 (.int .i64 0) := b3.kept (grown_of_below hbW) (by simp)
  have hbL : Below w.heap.size w WL := hB1.trans (hbW.mono hB1.size)
  have hwL := h.later hbL
  have hKB : ∀ j, j < w1.heap.size → w.heap.size ≤ j → ¬ MK w1.heap.size v ws (WL.heap.size + 2) j := by
    rintro j hj1 hj2 (⟨h1, _⟩ | ⟨hne, ho⟩ | h1)
    · omega
    · have := h.own_lt hne _ ho; omega
    · omega
  clear hbW c0 c0' c1 b0 b1 b2 b3 hbA hzA
  refine range_g rfl (by decide) (gf := 75) (lb := #[.pointer (some ⟨w1.heap.size + 1, 0, none⟩), .pointer (some ⟨w1.heap.size + 2, 0, none⟩), .pointer (some ⟨w1.heap.size, 0, none⟩), .pointer (some ⟨w1.heap.size + 3, 0, none⟩)]) rfl (wide_fn _) (enters_of Tryd.func75 (by kernel_rfl) rfl)
    (matches_g 4 (by decide) w1.heap.size ws.length 0 n n v ws hf rfl (by have := HL.out; omega) (by have := HL.out; omega) on WL f0 f1 f2 f3 hwL) (fun h k => KC.trans h k) (fun _ V k o o' hk hc _ => KC.putObj V k o o' hk hc) (fun _ => rfl)
    (fun pre V => (((pre.map Subtype.val).flatMap posW).length ≤ k ∧ (Boxed V (w.heap.size + 1) 3 (.int .i64 ((k - ((pre.map Subtype.val).flatMap posW).length : Nat) : Int)) ∧ (Boxed V (w.heap.size + 1 + 1) 3 (.int .i64 0) ∧ Boxed V (w.heap.size + 1 + 1 + 1) 29 (.int .i64 0)))) ∧ Below w.heap.size w V)
    (fun c pre V => (c = .ret ∧ ∃ j : Nat, ((pre.map Subtype.val).flatMap posW)[k]? = some j ∧ Boxed V (w.heap.size + 1 + 1) 3 (.int .i64 j)) ∧ Boxed V (w.heap.size + 1 + 1 + 1) 29 (.int .i64 0) ∧ Below w.heap.size w V)
    ?own ?ownx ?start (fun x => { tmps := #[bv n v, .int .i64 (k : Int), .bool on, .pointer (some ⟨w.heap.size, 0, none⟩), .pointer (some ⟨w.heap.size + 1, 0, none⟩), undef, .pointer (some ⟨w.heap.size + 1 + 1, 0, none⟩), .pointer (some ⟨w.heap.size + 1 + 1 + 1, 0, none⟩), .int .i64 0, .int .i64 (x.1.1 : Nat), .int .u64 (x.1.2 : Nat), undef, .agg #[.int .i64 (n : Int), v], .int .i64 0, .int .i64 0, .bool false, undef, .int .i64 (k : Int), .bool (decide ((k : Int) < 0)), .agg #[.int .i64 (n : Int), v], .pointer (some ⟨w.heap.size, 0, none⟩), .int .i64 (n : Int), .bool on, .func (.func 75) #[] #[.pointer (some ⟨w1.heap.size + 1, 0, none⟩), .pointer (some ⟨w1.heap.size + 2, 0, none⟩), .pointer (some ⟨w1.heap.size, 0, none⟩), .pointer (some ⟨w1.heap.size + 3, 0, none⟩)], .int .i64 (x.1.1 : Nat), .int .u64 (x.1.2 : Nat), undef, undef, undef, undef, undef, undef, undef, undef, undef, undef, undef, undef, undef, undef], defers := [] }) ?assign ?body ?done ?stop
  case own => exact OwnFrom.and (OwnFrom.and (ownFrom_pure _ (fun pre : List (Pw ws.length) => ((pre.map Subtype.val).flatMap posW).length ≤ k)) (OwnFrom.and (Own.from (boxed_own _ _ (fun pre : List (Pw ws.length) => .int .i64 ((k - ((pre.map Subtype.val).flatMap posW).length : Nat) : Int))) _) (OwnFrom.and (Own.from (boxed_own _ _ (fun _ => .int .i64 0)) _) (Own.from (boxed_own _ _ (fun _ => .int .i64 0)) _)))) (ownFrom_below (Nat.le_refl _) hbL.size)
  case ownx =>
    intro c
    refine OwnFrom.and ?_ (OwnFrom.and (Own.from (boxed_own _ _ (fun _ => .int .i64 0)) _) (ownFrom_below (Nat.le_refl _) hbL.size))
    rintro pre A C row ⟨hc, j, hj, hb⟩ hg hr
    exact ⟨hc, j, hj, Own.from (boxed_own (β := Unit) _ _ (fun _ => .int .i64 (j : Int))) _ () A C row hb hg hr⟩
  case start => exact ⟨⟨Nat.zero_le _, g1, g2, g3⟩, hbL⟩
  case assign =>
    intro l x V K hK
    simp only [encW]
    gi_wp2
    exact hK
  case body =>
    rintro l pre x V ⟨⟨hle, h1, h2, h3⟩, hB⟩ hlen
    have hsn := flat_snoc pre x
    obtain ⟨x, hx1, hx2⟩ := x
    obtain ⟨i, m⟩ := x
    simp only at hx1 hx2 hsn
    obtain ⟨fl, hfl⟩ : ∃ fl, (pre.map Subtype.val).flatMap posW = fl := ⟨_, rfl⟩
    rw [hfl] at hle h1 hsn
    obtain ⟨q, hq⟩ : ∃ q, Lib.onesCount m = q := ⟨_, rfl⟩
    have HQ := Lib.hid hq
    have hpl : Hid ((posW (i, m)).length = q) := by unfold Hid; rw [posW_length, hq]
    have hq64 : q ≤ 64 := by rw [← hq]; exact ones_le i m
    obtain ⟨k', hk'⟩ : ∃ k', k - fl.length = k' := ⟨_, rfl⟩
    rw [hk'] at h1
    have HK := Lib.hid hk'
    have HS := Lib.hid hsn
    clear hsn hq hfl hk'
    have hi64 : i < 64 := by have := HL.out; omega
    have k64 : (k' : Int) ≤ 9223372036854775807 := by have := HK.out; omega
    have c1 := h1.cell
    have c1' := h1.frozen
    have c2 := h2.cell
    have c2' := h2.frozen
    have c3 := h3.cell
    have c3' := h3.frozen
    have hf4 := wide_fn 60
    have hf3 : (Fence.wide.inRound l).fn 60 := hf4
    have hf5 := wide_fn 61
    have hf6 : (Fence.wide.inRound l).fn 61 := hf5
    by_cases hlt : k' < q
    · obtain ⟨j, hj⟩ : ∃ j, (pos 64 m)[k']? = some j := ⟨_, List.getElem?_eq_getElem (by have := hpl.out; rw [posW_pos, List.length_map] at this; omega)⟩
      have hj64 := (pos_lt 64 m j (List.mem_of_getElem? hj)).1
      have HX : Hid ((fl ++ posW (i, m))[k]? = some (64 * i + j)) := by
        unfold Hid
        rw [List.getElem?_append_right hle, HK.out, posW_pos, List.getElem?_map, hj]; rfl
      have HJ := Lib.hid hj
      clear hj
      gi_wp2_with fail
      refine (CallsIn.inRound l (callsIn_wide.2 (ones64_any m q hx2 HQ.out _))).mono ?_
      rintro e W1 ⟨rfl, rfl⟩
      gi_wp2_with fail
      refine (CallsIn.inRound l (callsIn_wide.2 (bitAfter_any m k' j hx2 HJ.out _ (hgd.later hB)))).mono ?_
      rintro e W1 ⟨rfl, rfl⟩
      gi_wp2_with fail
      refine ⟨((KeepsOthers.setCell _ _ _).trans (KeepsOthers.setCell _ _ _)).from _, ⟨rfl, 64 * i + j, by rw [HS.out]; exact HX.out, ?_⟩, (h3.other (by omega) _).set _, (hB.setCell (by dsimp only; omega) _).setCell (by dsimp only; omega) _⟩
      have hq2 := (h2.set (.int .i64 ((i : Int) * 64 + (j : Int)))).other (show w.heap.size + 1 + 1 ≠ w.heap.size + 1 + 1 + 1 by omega) (.int .i64 0)
      rwa [show (i : Int) * 64 + (j : Int) = ((64 * i + j : Nat) : Int) by omega] at hq2 ⊢
    · have hKn := hKB (w.heap.size + 1) (by omega) (by omega)
      gi_wp2_with fail
      refine (CallsIn.inRound l (callsIn_wide.2 (ones64_any m q hx2 HQ.out _))).mono ?_
      rintro e W1 ⟨rfl, rfl⟩
      gi_wp2_with fail
      have hlen2 : (fl ++ posW (i, m)).length = fl.length + q := by rw [List.length_append, hpl.out]
      refine ⟨(KeepsOthers.setCell _ _ _).from _, KC.setCell V (w.heap.size + 1) _ hKn, ⟨by rw [HS.out, hlen2]; have := HK.out; omega, ?_, h2.other (by omega) _, h3.other (by omega) _⟩, hB.setCell (by dsimp only; omega) _⟩
      have hq2 := h1.set (.int .i64 ((k' : Int) - (q : Int)))
      rw [HS.out, hlen2]
      rwa [show (k' : Int) - (q : Int) = ((k - (fl.length + q) : Nat) : Int) by have := HK.out; omega] at hq2 ⊢
  case done =>
    rintro D ys V hD hys ⟨⟨hle, h1, h2, h3⟩, hB⟩ hK
    rw [hys, mt_hits ws hf on 0 n hn4] at hle
    have hd : Hid (selB ws on k n = (0, 4)) := by unfold Hid selB; rw [List.getElem?_eq_none hle]
    clear hle
    have c2 := h2.cell
    have c2' := h2.frozen
    have c3 := h3.cell
    have c3' := h3.frozen
    gi_wp2_with fail
    have q2 := (h2.set (.int .i64 0)).other (show w.heap.size + 1 + 1 ≠ w.heap.size + 1 + 1 + 1 by omega) (.int .i64 4)
    have q3 := (h3.other (show w.heap.size + 1 + 1 + 1 ≠ w.heap.size + 1 + 1 by omega) (.int .i64 0)).set (.int .i64 4)
    have cK : ((V.setCell ⟨w.heap.size + 1 + 1, 0, none⟩ (.int .i64 0)).setCell ⟨w.heap.size + 1 + 1 + 1, 0, none⟩ (.int .i64 4)).heap[D]? = some (.deferred (some [])) := by
      rw [Below.heap_setCell _ _ _ _ (by simp; omega), Below.heap_setCell _ _ _ _ (by simp; omega)]; exact hK
    have cB : Below w.heap.size w ((V.setCell ⟨w.heap.size + 1 + 1, 0, none⟩ (.int .i64 0)).setCell ⟨w.heap.size + 1 + 1 + 1, 0, none⟩ (.int .i64 4)) := (hB.setCell (by dsimp only; omega) _).setCell (by dsimp only; omega) _
    have k2 := (q2.kept (grownBy_putObj' _ D (.deferred none)) (by simp; omega)).cell
    have k3 := (q3.kept (grownBy_putObj' _ D (.deferred none)) (by simp; omega)).cell
    refine ⟨by simp, .inl ⟨D, _, rfl, run_takeDeferred cK, ?_⟩⟩
    exact ⟨.tuple #[.int .i64 0, .int .i64 4], by simp [results, Tryd.results26, go_sem, k2, k3], by rw [hd.out], cB.trans (belowK_b (w := w) (Nat.le_refl _) _ D _ _ (by have := hbL.size; omega) cK rfl rfl)⟩
  case stop =>
    rintro D c pre V hD hSp ⟨⟨rfl, j, hj, h2⟩, h3, hB⟩ hK
    have hd : Hid (selB ws on k n = ((j : Int), 0)) := by
      obtain ⟨r, hr⟩ := hSp
      unfold Hid selB
      have hlt : k < ((pre.map Subtype.val).flatMap posW).length := by
        rcases Nat.lt_or_ge k ((pre.map Subtype.val).flatMap posW).length with h | h
        · exact h
        · rw [List.getElem?_eq_none h] at hj; cases hj
      rw [← mt_hits ws hf on 0 n hn4, ← hr, List.flatMap_append, List.getElem?_append_left hlt, hj]
    have c2 := h2.cell
    have c3 := h3.cell
    gi_wp2_with fail
    have k2 := (h2.kept (grownBy_putObj' V D (.deferred none)) (by simp; omega)).cell
    have k3 := (h3.kept (grownBy_putObj' V D (.deferred none)) (by simp; omega)).cell
    refine ⟨by simp, .inl ⟨D, _, rfl, run_takeDeferred hK, ?_⟩⟩
    exact ⟨.tuple #[.int .i64 (j : Int), .int .i64 0], by simp [results, Tryd.results26, go_sem, k2, k3], by rw [hd.out], hB.trans (belowK_b (w := w) (Nat.le_refl _) V D _ _ (by have := hbL.size; omega) hK rfl rfl)⟩

set_option maxRecDepth 100000 in
set_option maxHeartbeats 1000000 in
theorem Select_any (N k : Int) (v : Value) (on : Bool) (ws : List Nat) (hf : Fit64 ws) (w : World) (hgd : Gd w) (h : WAt w v ws) (hk64 : k ≤ 9223372036854775807) :
    Calls Tryd.prog 26 #[bv N v, .int .i64 k, .bool on] w fun e w' => e = .returned (.tuple #[.int .i64 (selectB N ws k on).1, .int .i64 (selectB N ws k on).2]) ∧ Below w.heap.size w w' := by
  obtain ⟨c, hc⟩ : ∃ c, checkB N ws = c := ⟨_, rfl⟩
  obtain ⟨wA, hwA, hbA, hzA, a0, a1, a2, a3⟩ := boxesS w N v k
  have HW := Lib.hid hwA
  clear hwA
  by_cases h0 : c = 0
  · subst h0
    by_cases hk : k < 0
    · have hd : Hid (selectB N ws k on = (0, 7)) := by unfold Hid selectB; rw [if_neg (by simp [hc]), if_pos hk]
      have HC := Lib.hid hc
      clear hc
      go_enter Tryd.func26, Tryd.ntmps26
      go_wp2_with fail
      rw [HW.out]
      refine (Check_is N v ws 0 HC.out hf _ (h.later hbA)).mono ?_
      rintro e w1 ⟨rfl, hB⟩
      have b1 : Boxed w1 (w.heap.size + 1) 3 (.int .i64 k) := a1.kept (grown_of_below hB) (by simp)
      have b2 : Boxed w1 (w.heap.size + 1 + 1) 3 (.int .i64 0) := a2.kept (grown_of_below hB) (by simp)
      have b3 : Boxed w1 (w.heap.size + 1 + 1 + 1) 29 (.int .i64 0) := a3.kept (grown_of_below hB) (by simp)
      have c1 := b1.cell
      have c2 := b2.cell
      have c2' := b2.frozen
      have c3 := b3.cell
      have c3' := b3.frozen
      have hB1 := hbA.trans (hB.mono hbA.size)
      go_wp2
      have q2 := ((b2.set (.int .i64 0)).other (show w.heap.size + 1 + 1 ≠ w.heap.size + 1 + 1 + 1 by omega) (.int .i64 7)).cell
      have q3 := ((b3.other (show w.heap.size + 1 + 1 + 1 ≠ w.heap.size + 1 + 1 by omega) (.int .i64 0)).set (.int .i64 7)).cell
      refine bodyPost_ret (v := .tuple #[.int .i64 0, .int .i64 7]) (by simp [results, Tryd.results26, go_sem, q2, q3]) rfl ⟨by rw [hd.out], ?_⟩
      exact (hB1.setCell (by dsimp only; omega) _).setCell (by dsimp only; omega) _
    · obtain ⟨n', rfl, _⟩ := check_ok hc
      obtain ⟨k', rfl⟩ : ∃ k' : Nat, k = k' := ⟨k.toNat, by omega⟩
      have hd : selectB (n' : Int) ws k' on = selB ws on k' n' := by unfold selectB; rw [if_neg (by simp [hc]), if_neg hk]; rfl
      rw [hd]
      exact Select_ok n' k' v on ws hf w hgd h hc (by omega)
  · have hd : Hid (selectB N ws k on = (0, c)) := by unfold Hid selectB; rw [hc, if_pos h0]
    have HC := Lib.hid hc
    have hq : (c != 0) = true := by simp [h0]
    clear hc h0
    go_enter Tryd.func26, Tryd.ntmps26
    go_wp2_with fail
    rw [HW.out]
    refine (Check_is N v ws c HC.out hf _ (h.later hbA)).mono ?_
    rintro e w1 ⟨rfl, hB⟩
    have b2 : Boxed w1 (w.heap.size + 1 + 1) 3 (.int .i64 0) := a2.kept (grown_of_below hB) (by simp)
    have b3 : Boxed w1 (w.heap.size + 1 + 1 + 1) 29 (.int .i64 0) := a3.kept (grown_of_below hB) (by simp)
    have c2 := b2.cell
    have c2' := b2.frozen
    have c3 := b3.cell
    have c3' := b3.frozen
    have hB1 := hbA.trans (hB.mono hbA.size)
    go_wp2
    have q2 := ((b2.set (.int .i64 0)).other (show w.heap.size + 1 + 1 ≠ w.heap.size + 1 + 1 + 1 by omega) (.int .i64 c)).cell
    have q3 := ((b3.other (show w.heap.size + 1 + 1 + 1 ≠ w.heap.size + 1 + 1 by omega) (.int .i64 0)).set (.int .i64 c)).cell
    refine bodyPost_ret (v := .tuple #[.int .i64 0, .int .i64 c]) (by simp [results, Tryd.results26, go_sem, q2, q3]) rfl ⟨by rw [hd.out], ?_⟩
    exact (hB1.setCell (by dsimp only; omega) _).setCell (by dsimp only; omega) _
end Go.Proofs.YtpplleojdcgceaaDoor
