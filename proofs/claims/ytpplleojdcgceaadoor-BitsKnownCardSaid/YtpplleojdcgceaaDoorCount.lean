/- Count. -/
import Derived.Test.YtpplleojdcgceaaDoorNext
import Derived.Shelf.RegionOpen
namespace Go.Proofs.YtpplleojdcgceaaDoor
open Go.RowKit Go.Shelf
attribute [local go_sem] Oper.semAt_some

theorem boxes4 (W : World) (N : Int) (v : Value) (a t : Int) (on : Bool) : ∃ WL, (((W.alloc (.cells #[.int .i64 N, v] 24)).alloc (.cells #[.int .i64 a] 3)).alloc (.cells #[.int .i64 t] 3)).alloc (.cells #[.bool on] 4) = WL ∧
    Below W.heap.size W WL ∧ WL.heap.size = W.heap.size + 4 ∧ BBox WL W.heap.size N v ∧ Boxed WL (W.heap.size + 1) 3 (.int .i64 a) ∧ Boxed WL (W.heap.size + 2) 3 (.int .i64 t) ∧ Boxed WL (W.heap.size + 3) 4 (.bool on) := by
  refine ⟨_, rfl, ((((Below.refl _ W).alloc (Nat.le_refl _) _).alloc (by simp) _).alloc (by simp; omega) _).alloc (by simp; omega) _, by simp, (((BBox.new W _ _).alloc _).alloc _).alloc _, ?_, ?_, ?_⟩
  · have := Boxed.new (W.alloc (.cells #[.int .i64 N, v] 24)) 3 (.int .i64 a)
    rw [World.size_alloc] at this
    exact (this.alloc _).alloc _
  · have := Boxed.new ((W.alloc (.cells #[.int .i64 N, v] 24)).alloc (.cells #[.int .i64 a] 3)) 3 (.int .i64 t)
    simp only [World.size_alloc] at this
    exact this.alloc _
  · have := Boxed.new (((W.alloc (.cells #[.int .i64 N, v] 24)).alloc (.cells #[.int .i64 a] 3)).alloc (.cells #[.int .i64 t] 3)) 4 (.bool on)
    simp only [World.size_alloc] at this
    exact this

theorem check_ok {N : Int} {ws : List Nat} (h : checkB N ws = 0) : ∃ n : Nat, N = n ∧ n ≤ 4096 ∧ ws.length = (n + 63) / 64 := by
  unfold checkB at h
  split at h
  · cases h
  · split at h
    · cases h
    · exact ⟨N.toNat, by omega, by omega, by omega⟩
theorem run_ok {N : Int} {ws : List Nat} {a t : Int} (h : runB N ws a t = 0) : ∃ n a' t' : Nat, N = n ∧ a = a' ∧ t = t' ∧ a' ≤ t' ∧ t' ≤ n ∧ n ≤ 4096 ∧ ws.length = (n + 63) / 64 := by
  unfold runB at h
  split at h
  · contradiction
  · rename_i hc
    obtain ⟨n, rfl, h1, h2⟩ := check_ok (by simpa using hc)
    split at h
    · cases h
    · exact ⟨n, a.toNat, t.toNat, rfl, by omega, by omega, by omega, by omega, h1, h2⟩
theorem flat_len : ∀ (l : List (Nat × Nat)), (l.flatMap posW).length ≤ 64 * l.length
  | [] => by simp
  | y :: l => by
    have h := flat_len l
    have h2 : (posW y).length ≤ 64 := by unfold posW; rw [List.length_map]; exact Nat.le_trans (List.length_filter_le _ _) (by simp)
    rw [List.flatMap_cons, List.length_append, List.length_cons]; omega
theorem mixed : Tryd.prog.follows .mixedOrders = true := by kernel_rfl

/-- What Count answers. -/
def countB (N : Int) (ws : List Nat) (a t : Int) : Int × Int := if runB N ws a t ≠ 0 then (0, runB N ws a t) else (((hits ws true a.toNat t.toNat).length : Nat), 0)

set_option maxRecDepth 100000 in
set_option maxHeartbeats 4000000 in
theorem Count_ok (n a t : Nat) (v : Value) (ws : List Nat) (hf : Fit64 ws) (w : World) (h : WAt w v ws) (hr : runB n ws a t = 0) :
    Calls Tryd.prog 24 #[bv n v, .int .i64 a, .int .i64 t] w fun e w' => e = .returned (.tuple #[.int .i64 ((hits ws true a t).length : Nat), .int .i64 0]) ∧ Below w.heap.size w w' := by
  obtain ⟨n', a', t', hn', ha', ht', hat, htn, hn4, hlen⟩ := run_ok hr
  obtain rfl : n = n' := by omega
  obtain rfl : a = a' := by omega
  obtain rfl : t = t' := by omega
  have HR := Lib.hid hr
  have HL := Lib.hid hlen
  clear hr hn' ha' ht' hlen
  refine (callsIn_wide (n := 5)).1 ?_
  refine callsIn_of_wp_marks Tryd.func24 rfl trivial ?_ rfl
  simp only [Tryd.ntmps24, List.size_toArray, List.length_cons, List.length_nil, Nat.reduceAdd, Nat.reduceSub, Array.replicate_succ, Array.replicate_zero, List.push_toArray, List.append_toArray, List.nil_append, List.cons_append]
  have hf1 := wide_fn 56
  have hf2 := wide_fn 59
  have b0 : Below w.heap.size w (w.alloc (.cells #[.int .i64 (n : Int), v] 24)) := (Below.refl _ _).alloc (Nat.le_refl _) _
  gi_wp2_with fail
  refine (callsIn_wide.2 (checkRun_is n v ws a t 0 HR.out hf _ (h.later b0))).mono ?_
  rintro e w1 ⟨rfl, hB⟩
  have hb1 : BBox w1 w.heap.size n v := (BBox.new w _ _).later hB
  have hB1 : Below w.heap.size w w1 := b0.trans (hB.mono b0.size)
  have hw1 := h.later hB1
  have hz1 := hb1.lt
  have c0 := hb1.c0
  have c1 := hb1.c1
  clear hB
  gi_wp2_with fail
  refine (matches_any 4 _ _ _ _ _ _).mono ?_
  rintro e w' ⟨rfl, rfl⟩
  gi_wp2_with fail
  obtain ⟨wA, hwA⟩ : ∃ x, w1.alloc (.cells #[.int .i64 0] 3) = x := ⟨_, rfl⟩
  have hbA : Below w1.heap.size w1 wA := by rw [← hwA]; exact (Below.refl _ _).alloc (Nat.le_refl _) _
  have hzA : wA.heap.size = w1.heap.size + 1 := by rw [← hwA]; simp
  have eA : Boxed wA w1.heap.size 3 (.int .i64 ((0 : Nat) : Int)) := by rw [← hwA]; exact Boxed.new w1 _ _
  rw [hwA]
  clear hwA
  obtain ⟨WL, hWL, hbW, hzL, f0, f1, f2, f3⟩ := boxes4 wA n v a t true
  rw [hWL]
  clear hWL
  rw [hzA] at f0 f1 f2 f3
  have g1 : Boxed WL w1.heap.size 3 (.int .i64 ((0 : Nat) : Int)) := eA.kept (grown_of_below hbW) (by simp)
  have hbL : Below w1.heap.size w1 WL := hbA.trans (hbW.mono hbA.size)
  have hwL := hw1.later hbL
  clear eA hbA hbW c0 c1 hb1 b0
  refine range_g rfl (by decide) (gf := 75) (lb := #[.pointer (some ⟨w1.heap.size + 1 + 1, 0, none⟩), .pointer (some ⟨w1.heap.size + 1 + 2, 0, none⟩), .pointer (some ⟨w1.heap.size + 1, 0, none⟩), .pointer (some ⟨w1.heap.size + 1 + 3, 0, none⟩)]) rfl (wide_fn _) (enters_of Tryd.func75 (by kernel_rfl) rfl)
    (matches_g 4 (by decide) (w1.heap.size + 1) ws.length a t n v ws hf rfl (by have := HL.out; omega) (by have := HL.out; omega) true WL f0 f1 f2 f3 hwL) (fun h k => KC.trans h k) (fun _ V k o o' hk hc _ => KC.putObj V k o o' hk hc) (fun _ => rfl)
    (fun pre V => Boxed V w1.heap.size 3 (.int .i64 (((pre.map Subtype.val).flatMap posW).length : Nat)) ∧ Below w1.heap.size w1 V)
    (fun _ _ _ => False)
    ?own ?ownx ?start (fun x => { tmps := #[bv n v, .int .i64 (a : Int), .int .i64 (t : Int), .pointer (some ⟨w.heap.size, 0, none⟩), undef, undef, .int .i64 0, .int .i64 0, .int .i64 0, .pointer (some ⟨w1.heap.size, 0, none⟩), undef, .int .u64 (x.1.2 : Nat), .agg #[.int .i64 (n : Int), v], .int .i64 (a : Int), .int .i64 (t : Int), .int .i64 0, .int .i64 0, .bool false, undef, .agg #[.int .i64 (n : Int), v], .int .i64 (a : Int), .int .i64 (t : Int), .func (.func 75) #[] #[.pointer (some ⟨w1.heap.size + 1 + 1, 0, none⟩), .pointer (some ⟨w1.heap.size + 1 + 2, 0, none⟩), .pointer (some ⟨w1.heap.size + 1, 0, none⟩), .pointer (some ⟨w1.heap.size + 1 + 3, 0, none⟩)], .int .i64 (x.1.1 : Nat), .int .u64 (x.1.2 : Nat), undef, undef, undef, undef, undef], defers := [] }) ?assign ?body ?done ?stop
  case own => exact OwnFrom.and (Own.from (boxed_own _ _ (fun pre : List (Pw ws.length) => .int .i64 (((pre.map Subtype.val).flatMap posW).length : Nat))) _) (ownFrom_below (Nat.le_refl _) hbL.size)
  case ownx => exact fun _ _ _ _ _ h => h.elim
  case start => exact ⟨g1, hbL⟩
  case assign =>
    intro l x V K hK
    simp only [encW]
    gi_wp2
    exact hK
  case body =>
    rintro l pre x V ⟨hb2, hB⟩ hlen
    obtain ⟨x, hx1, hx2⟩ := x
    obtain ⟨i, m⟩ := x
    simp only at hx1 hx2
    have hfl := flat_len (pre.map Subtype.val)
    rw [List.length_map] at hfl
    obtain ⟨s, hs⟩ : ∃ s, ((pre.map Subtype.val).flatMap posW).length = s := ⟨_, rfl⟩
    obtain ⟨q, hq⟩ : ∃ q, Lib.onesCount m = q := ⟨_, rfl⟩
    have HQ := Lib.hid hq
    have hq64 : q ≤ 64 := by
      rw [← hq, ← posW_length i m]
      have := flat_len [(i, m)]
      rw [List.flatMap_singleton] at this
      simpa using this
    have HM : Hid ((((pre ++ [(⟨(i, m), hx1, hx2⟩ : Pw ws.length)]).map Subtype.val).flatMap posW).length = s + q) := by
      unfold Hid
      rw [List.map_append, List.map_singleton, List.flatMap_append, List.length_append, hs, List.flatMap_singleton, posW_length, hq]
    rw [hs] at hb2 hfl
    clear hs hq
    have hc2 := hb2.cell
    have hfz := hb2.frozen
    have hf4 := wide_fn 60
    have hf3 : (Fence.wide.inRound l).fn 60 := hf4
    have hKB : ¬ MK (w1.heap.size + 1) v ws (WL.heap.size + 2) w1.heap.size := by
      rintro (⟨h1, _⟩ | ⟨hne, ho⟩ | h1)
      · omega
      · have := hw1.own_lt hne _ ho; omega
      · omega
    have hmx := mixed
    have d2 : (1 : Nat) ≤ 5 - 1 - 1 := by decide
    gi_wp2_with fail
    gi_region_with_o (gi_at_call 60; refine (CallsIn.inRound l (callsIn_wide.2 (ones64_any m q hx2 HQ.out _))).mono ?_; rintro e W1 ⟨rfl, rfl⟩)
    all_goals
      gi_wp2
      refine ⟨((KeepsOthers.setCell _ _ _).trans (KeepsOthers.drew _)).from _, (KC.setCell V w1.heap.size _ hKB).drew, ?_, (hB.setCell (Nat.le_refl _) _).drew⟩
      have h2 := hb2.set (.int .i64 (IntKind.i64.wrap ((s : Int) + (q : Int))))
      rw [HM.out]
      rw [IntWalk.i64_in _ (by omega)] at h2 ⊢
      rw [show (s : Int) + (q : Int) = ((s + q : Nat) : Int) by omega] at h2 ⊢
      exact h2
  case done =>
    rintro D ys V hD hys ⟨hb2, hB⟩ hK
    rw [hys, mt_hits ws hf true a t (by omega)] at hb2
    have hc2 := hb2.cell
    gi_wp2_with fail
    refine ⟨by simp, .inl ⟨D, _, rfl, run_takeDeferred hK, ?_⟩⟩
    exact ⟨.tuple #[.int .i64 ((hits ws true a t).length : Nat), .int .i64 0], by simp [results, Tryd.results24, go_sem], rfl, (hB1.trans (hB.mono hB1.size)).trans (belowK_b (w := w) (Nat.le_refl _) V D _ _ (by have := hB1.size; omega) hK rfl rfl)⟩
  case stop =>
    rintro D c pre V hD hSp h hK
    exact h.elim

set_option maxRecDepth 100000 in
set_option maxHeartbeats 1000000 in
theorem Count_any (N a t : Int) (v : Value) (ws : List Nat) (hf : Fit64 ws) (w : World) (h : WAt w v ws) :
    Calls Tryd.prog 24 #[bv N v, .int .i64 a, .int .i64 t] w fun e w' => e = .returned (.tuple #[.int .i64 (countB N ws a t).1, .int .i64 (countB N ws a t).2]) ∧ Below w.heap.size w w' := by
  obtain ⟨c, hc⟩ : ∃ c, runB N ws a t = c := ⟨_, rfl⟩
  by_cases h0 : c = 0
  · subst h0
    obtain ⟨n', a', t', rfl, rfl, rfl, _⟩ := run_ok hc
    have hd : countB (n' : Int) ws a' t' = (((hits ws true a' t').length : Int), 0) := by unfold countB; rw [if_neg (by simp [hc])]; simp
    rw [hd]
    exact Count_ok n' a' t' v ws hf w h hc
  · have hd : Hid (countB N ws a t = (0, c)) := by unfold Hid countB; rw [hc, if_pos h0]
    have HC := Lib.hid hc
    have hq : (c != 0) = true := by simp [h0]
    have b0 : Below w.heap.size w (w.alloc (.cells #[.int .i64 N, v] 24)) := (Below.refl _ _).alloc (Nat.le_refl _) _
    clear hc h0
    go_enter Tryd.func24, Tryd.ntmps24
    go_wp2_with fail
    refine (checkRun_is N v ws a t c HC.out hf _ (h.later b0)).mono ?_
    rintro e w1 ⟨rfl, hB⟩
    go_wp2
    go_ret2
    rw [hd.out]
    exact ⟨rfl, b0.trans (hB.mono b0.size)⟩
end Go.Proofs.YtpplleojdcgceaaDoor
