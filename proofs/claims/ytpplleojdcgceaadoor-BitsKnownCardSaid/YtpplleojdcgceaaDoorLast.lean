/- Last, Next, Get. -/
import Derived.Test.YtpplleojdcgceaaDoorCount
import Derived.Test.YtpplleojdcgceaaDoorShelf
namespace Go.Proofs.YtpplleojdcgceaaDoor
open Go.RowKit Go.Shelf
attribute [local go_sem] Oper.semAt_some

theorem len64_any (m q : Nat) (hm : m < 18446744073709551616) (hq : Lib.bitLen m = q) (w : World) : Calls Tryd.prog 63 #[.int .u64 m] w fun e w' => e = .returned (.int .i64 q) ∧ w = w' := by
  subst hq
  exact (Tryd.bits_Len64 (m : Int) w (by omega) (by omega)).mono fun _ _ ⟨h1, h2⟩ => ⟨by rw [h1, Int.toNat_natCast], h2.symm⟩
theorem flat_snoc' {L : Nat} (pre : List (Pw L)) (x : Pw L) : ((pre ++ [x]).map Subtype.val).flatMap posW = (pre.map Subtype.val).flatMap posW ++ posW x.1 := by
  rw [List.map_append, List.map_singleton, List.flatMap_append, List.flatMap_singleton]

def lastI (l : List Nat) : Int := match l.getLast? with | some j => (j : Int) | none => -1
def laB (ws : List Nat) (on : Bool) (t : Nat) : Int × Int := match (hits ws on 0 t).getLast? with | some j => ((j : Int), 0) | none => (0, 4)
/-- What Last answers. -/
def lastB (N : Int) (ws : List Nat) (t : Int) (on : Bool) : Int × Int := if runB N ws 0 t ≠ 0 then (0, runB N ws 0 t) else laB ws on t.toNat

set_option maxRecDepth 100000 in
set_option maxHeartbeats 4000000 in
theorem Last_ok (n t : Nat) (v : Value) (on : Bool) (ws : List Nat) (hf : Fit64 ws) (w : World) (h : WAt w v ws) (hr : runB n ws 0 t = 0) :
    Calls Tryd.prog 30 #[bv n v, .int .i64 t, .bool on] w fun e w' => e = .returned (.tuple #[.int .i64 (laB ws on t).1, .int .i64 (laB ws on t).2]) ∧ Below w.heap.size w w' := by
  obtain ⟨n', a', t', hn', ha', ht', hat, htn, hn4, hlen⟩ := run_ok hr
  obtain rfl : n = n' := by omega
  obtain rfl : t = t' := by omega
  have HR := Lib.hid hr
  have HL := Lib.hid hlen
  clear hr hn' ha' ht' hlen hat
  refine (callsIn_wide (n := 5)).1 ?_
  refine callsIn_of_wp_marks Tryd.func30 rfl trivial ?_ rfl
  simp only [Tryd.ntmps30, List.size_toArray, List.length_cons, List.length_nil, Nat.reduceAdd, Nat.reduceSub, Array.replicate_succ, Array.replicate_zero, List.push_toArray, List.append_toArray, List.nil_append, List.cons_append]
  have hf1 := wide_fn 56
  have hf2 := wide_fn 59
  have b0 : Below w.heap.size w (w.alloc (.cells #[.int .i64 (n : Int), v] 24)) := (Below.refl _ _).alloc (Nat.le_refl _) _
  gi_wp2_with fail
  refine (callsIn_wide.2 (checkRun_is n v ws 0 t 0 HR.out hf _ (h.later b0))).mono ?_
  rintro e w1 ⟨rfl, hB⟩
  have hb1 : BBox w1 w.heap.size n v := (BBox.new w _ _).later hB
  have hB1 : Below w.heap.size w w1 := b0.trans (hB.mono b0.size)
  have hw1 := h.later hB1
  have hz1 := hb1.lt
  have c0 := hb1.c0
  have c1 := hb1.c1
  clear hB
  gi_wp2_with fail
  refine (matches_any 4 _ _ _ _ _ _).mono ?_
  rintro e w' ⟨rfl, rfl⟩
  gi_wp2_with fail
  obtain ⟨wA, hwA⟩ : ∃ x, w1.alloc (.cells #[.int .i64 (-1)] 3) = x := ⟨_, rfl⟩
  have hbA : Below w1.heap.size w1 wA := by rw [← hwA]; exact (Below.refl _ _).alloc (Nat.le_refl _) _
  have hzA : wA.heap.size = w1.heap.size + 1 := by rw [← hwA]; simp
  have eA : Boxed wA w1.heap.size 3 (.int .i64 (lastI [])) := by rw [← hwA]; exact Boxed.new w1 _ _
  rw [hwA]
  clear hwA
  obtain ⟨WL, hWL, hbW, hzL, f0, f1, f2, f3⟩ := boxes4 wA n v 0 t on
  rw [hWL]
  clear hWL
  rw [hzA] at f0 f1 f2 f3
  have g1 : Boxed WL w1.heap.size 3 (.int .i64 (lastI [])) := eA.kept (grown_of_below hbW) (by simp)
  have hbL : Below w1.heap.size w1 WL := hbA.trans (hbW.mono hbA.size)
  have hwL := hw1.later hbL
  clear eA hbA hbW c0 c1 hb1 b0
  refine range_g rfl (by decide) (gf := 75) (lb := #[.pointer (some ⟨w1.heap.size + 1 + 1, 0, none⟩), .pointer (some ⟨w1.heap.size + 1 + 2, 0, none⟩), .pointer (some ⟨w1.heap.size + 1, 0, none⟩), .pointer (some ⟨w1.heap.size + 1 + 3, 0, none⟩)]) rfl (wide_fn _) (enters_of Tryd.func75 (by kernel_rfl) rfl)
    (matches_g 4 (by decide) (w1.heap.size + 1) ws.length 0 t n v ws hf rfl (by have := HL.out; omega) (by have := HL.out; omega) on WL f0 f1 f2 f3 hwL) (fun h k => KC.trans h k) (fun _ V k o o' hk hc _ => KC.putObj V k o o' hk hc) (fun _ => rfl)
    (fun pre V => Boxed V w1.heap.size 3 (.int .i64 (lastI ((pre.map Subtype.val).flatMap posW))) ∧ Below w1.heap.size w1 V)
    (fun _ _ _ => False)
    ?own ?ownx ?start (fun x => { tmps := #[bv n v, .int .i64 (t : Int), .bool on, .pointer (some ⟨w.heap.size, 0, none⟩), undef, undef, .int .i64 0, .int .i64 0, .int .i64 0, .pointer (some ⟨w1.heap.size, 0, none⟩), .int .i64 (x.1.1 : Nat), .int .u64 (x.1.2 : Nat), .agg #[.int .i64 (n : Int), v], .int .i64 (t : Int), .int .i64 0, .int .i64 0, .bool false, undef, .agg #[.int .i64 (n : Int), v], .int .i64 (t : Int), .bool on, .func (.func 75) #[] #[.pointer (some ⟨w1.heap.size + 1 + 1, 0, none⟩), .pointer (some ⟨w1.heap.size + 1 + 2, 0, none⟩), .pointer (some ⟨w1.heap.size + 1, 0, none⟩), .pointer (some ⟨w1.heap.size + 1 + 3, 0, none⟩)], .int .i64 (x.1.1 : Nat), .int .u64 (x.1.2 : Nat), undef, undef, undef, undef, undef, undef, undef, undef, undef, undef, undef], defers := [] }) ?assign ?body ?done ?stop
  case own => exact OwnFrom.and (Own.from (boxed_own _ _ (fun pre : List (Pw ws.length) => .int .i64 (lastI ((pre.map Subtype.val).flatMap posW)))) _) (ownFrom_below (Nat.le_refl _) hbL.size)
  case ownx => exact fun _ _ _ _ _ h => h.elim
  case start => exact ⟨g1, hbL⟩
  case assign =>
    intro l x V K hK
    simp only [encW]
    gi_wp2
    exact hK
  case body =>
    rintro l pre x V ⟨hb2, hB⟩ hlen
    have hsn := flat_snoc' pre x
    obtain ⟨x, hx1, hx2⟩ := x
    obtain ⟨i, m⟩ := x
    simp only at hx1 hx2 hsn
    have hi64 : i < 64 := by have := HL.out; omega
    by_cases hm0 : m = 0
    · subst hm0
      have hq : (((0 : Nat) : Int) != 0) = false := by simp
      rw [posW_zero, List.append_nil] at hsn
      have HS := Lib.hid hsn
      clear hsn
      gi_wp2_with fail
      exact ⟨KeepsFrom.refl _ _, KC.refl _ _, by rw [HS.out]; exact hb2, hB⟩
    · have hq : ((m : Int) != 0) = true := by simp [hm0]
      obtain ⟨p1, p2, p3⟩ := posW_last i m hx2 (by omega)
      obtain ⟨q, hq1⟩ : ∃ q, Lib.bitLen m = q := ⟨_, rfl⟩
      rw [hq1] at p1 p2 p3
      have HQ := Lib.hid hq1
      have HP : Hid (lastI (((pre ++ [(⟨(i, m), hx1, hx2⟩ : Pw ws.length)]).map Subtype.val).flatMap posW) = (i : Int) * 64 + (q : Int) - 1) := by
        unfold Hid lastI
        rw [hsn, List.getLast?_append, p1]
        simp only [Option.some_or]
        omega
      clear hsn hq1 p1
      have hc2 := hb2.cell
      have hfz := hb2.frozen
      have hf4 := wide_fn 63
      have hf3 : (Fence.wide.inRound l).fn 63 := hf4
      have hKB : ¬ MK (w1.heap.size + 1) v ws (WL.heap.size + 2) w1.heap.size := by
        rintro (⟨h1, _⟩ | ⟨hne, ho⟩ | h1)
        · omega
        · have := hw1.own_lt hne _ ho; omega
        · omega
      gi_wp2_with fail
      refine (CallsIn.inRound l (callsIn_wide.2 (len64_any m q hx2 HQ.out _))).mono ?_
      rintro e W1 ⟨rfl, rfl⟩
      gi_wp2_with fail
      exact ⟨(KeepsOthers.setCell _ _ _).from _, KC.setCell V w1.heap.size _ hKB, by rw [HP.out]; exact hb2.set _, hB.setCell (Nat.le_refl _) _⟩
  case done =>
    rintro D ys V hD hys ⟨hb2, hB⟩ hK
    rw [hys, mt_hits ws hf on 0 t (by omega)] at hb2
    have hBD := (hB1.trans (hB.mono hB1.size)).trans (belowK_b (w := w) (Nat.le_refl _) V D _ (.deferred none) (by have := hB1.size; omega) hK rfl rfl)
    cases hl : (hits ws on 0 t).getLast? with
    | none =>
      have hd : Hid (laB ws on t = (0, 4)) := by unfold Hid laB; rw [hl]
      have hb3 : Boxed V w1.heap.size 3 (.int .i64 (-1)) := by unfold lastI at hb2; rw [hl] at hb2; exact hb2
      have hc2 := hb3.cell
      clear hl hb2
      gi_wp2_with fail
      refine ⟨by simp, .inl ⟨D, _, rfl, run_takeDeferred hK, ?_⟩⟩
      exact ⟨.tuple #[.int .i64 0, .int .i64 4], by simp [results, Tryd.results30, go_sem], by rw [hd.out], hBD⟩
    | some j =>
      have hd : Hid (laB ws on t = ((j : Int), 0)) := by unfold Hid laB; rw [hl]
      have hb3 : Boxed V w1.heap.size 3 (.int .i64 (j : Int)) := by unfold lastI at hb2; rw [hl] at hb2; exact hb2
      have hc2 := hb3.cell
      have hj0 : ¬ ((j : Int) < 0) := by omega
      clear hl hb2
      gi_wp2_with fail
      refine ⟨by simp, .inl ⟨D, _, rfl, run_takeDeferred hK, ?_⟩⟩
      exact ⟨.tuple #[.int .i64 (j : Int), .int .i64 0], by simp [results, Tryd.results30, go_sem], by rw [hd.out], hBD⟩
  case stop =>
    rintro D c pre V hD hSp h hK
    exact h.elim

set_option maxRecDepth 100000 in
set_option maxHeartbeats 1000000 in
theorem Last_any (N t : Int) (v : Value) (on : Bool) (ws : List Nat) (hf : Fit64 ws) (w : World) (h : WAt w v ws) :
    Calls Tryd.prog 30 #[bv N v, .int .i64 t, .bool on] w fun e w' => e = .returned (.tuple #[.int .i64 (lastB N ws t on).1, .int .i64 (lastB N ws t on).2]) ∧ Below w.heap.size w w' := by
  obtain ⟨c, hc⟩ : ∃ c, runB N ws 0 t = c := ⟨_, rfl⟩
  by_cases h0 : c = 0
  · subst h0
    obtain ⟨n', a', t', rfl, ha, rfl, _⟩ := run_ok hc
    have hd : lastB (n' : Int) ws t' on = laB ws on t' := by unfold lastB; rw [if_neg (by simp [hc])]; rfl
    rw [hd]
    exact Last_ok n' t' v on ws hf w h hc
  · have hd : Hid (lastB N ws t on = (0, c)) := by unfold Hid lastB; rw [hc, if_pos h0]
    have HC := Lib.hid hc
    have hq : (c != 0) = true := by simp [h0]
    have b0 : Below w.heap.size w (w.alloc (.cells #[.int .i64 N, v] 24)) := (Below.refl _ _).alloc (Nat.le_refl _) _
    clear hc h0
    go_enter Tryd.func30, Tryd.ntmps30
    go_wp2_with fail
    refine (checkRun_is N v ws 0 t c HC.out hf _ (h.later b0)).mono ?_
    rintro e w1 ⟨rfl, hB⟩
    go_wp2
    go_ret2
    rw [hd.out]
    exact ⟨rfl, b0.trans (hB.mono b0.size)⟩
end Go.Proofs.YtpplleojdcgceaaDoor
