/- gaps, others. -/
import Derived.Test.YtgljfiihaehedaaGap1
import Derived.Deep.RegionWith
namespace Go.Proofs.Ytgljfiihaehedaa
open Go.RowKit
attribute [local go_sem] Oper.semAt_some

theorem own_base {W : World} {b b' : Nat} {e : TypeId} {sz : Nat} {v : Value} {n : Nat} {xs : List Value} (h : W.ownsRow b e sz v n xs) (hb : b' ≤ b) : W.ownsRow b' e sz v n xs :=
  ⟨h.1, h.2.imp id fun ⟨g, cap, cur, h1, h2, h3⟩ => ⟨g, cap, cur, h1, Nat.le_trans hb h2, h3⟩⟩

set_option maxRecDepth 100000 in
set_option maxHeartbeats 4000000 in
theorem gaps_is (L : List Sp) (hL : SetL 0 L) (p q : Nat) (hpq : 1 ≤ q ∧ p + q ≤ 1024) (v : Value) (w : World) (h : SAt w v (toI L)) :
    Calls Try.prog 57 #[v, .agg #[.int .i64 p, .int .i64 q]] w fun e w' => ∃ u M, e = .returned u ∧ SOwn w' (w.heap.size + 1) u (toI M) ∧ SetL 0 M ∧ (∀ x, inS M x = (decide (p ≤ x) && decide (x < p + q) && !inS L x)) ∧ Below w.heap.size w w' := by
  obtain ⟨n, hn⟩ : ∃ n, L.length = n := ⟨_, rfl⟩
  have HN := Lib.hid hn
  have hn512 : n ≤ 512 := by have := hL.len (by omega); omega
  obtain ⟨va, vc, rfl⟩ := h.form
  rw [toI_len, hn] at h ⊢
  clear hn
  go_enter Try.func57, Try.ntmps57
  go_wp2_with fail
  obtain ⟨wA, hwA⟩ : ∃ x, ((w.alloc (.cells #[.int .i64 (p : Int), .int .i64 (q : Int)] 31)).alloc (.cells #[.slice none 0 0] 22)).alloc (.cells #[.int .i64 (p : Int)] 3) = x := ⟨_, rfl⟩
  have hAB : Below w.heap.size w wA := by rw [← hwA]; exact (((Below.refl _ _).alloc (Nat.le_refl _) _).alloc (by simp) _).alloc (by simp; omega) _
  have hsA : wA.heap.size = w.heap.size + 3 := by rw [← hwA]; simp
  have bI : XBox wA w.heap.size ((p : Int), (q : Int)) := by rw [← hwA]; exact ((XBox.new w ((p : Int), (q : Int))).alloc _).alloc _
  have bF : Boxed wA (w.heap.size + 1) 22 (.slice none 0 0) := by
    have := Boxed.new (w.alloc (.cells #[.int .i64 (p : Int), .int .i64 (q : Int)] 31)) 22 (.slice none 0 0)
    rw [World.size_alloc] at this
    rw [← hwA]; exact this.alloc _
  have bT : Boxed wA (w.heap.size + 1 + 1) 3 (.int .i64 (p : Int)) := by
    have := Boxed.new ((w.alloc (.cells #[.int .i64 (p : Int), .int .i64 (q : Int)] 31)).alloc (.cells #[.slice none 0 0] 22)) 3 (.int .i64 (p : Int))
    rw [World.size_alloc, World.size_alloc] at this
    rw [← hwA]; exact this
  rw [hwA]
  clear hwA
  have hpq1 : (p : Int) + (q : Int) ≤ 1024 := by omega
  have HEI : Hid (∀ w, Calls Try.prog 52 #[.agg #[.int .i64 (p : Int), .int .i64 (q : Int)]] w fun e w' => e = .returned (.int .i64 ((p : Int) + (q : Int))) ∧ Below w.heap.size w w') := fun w => end_is ((p : Int), (q : Int)) p q rfl hpq.2 w
  go_loopw [15] (fun i wr => ∃ (k t : Nat) (u : Value) (acc : List Sp), k ≤ n ∧ i = .int .i64 k ∧ XBox wr w.heap.size ((p : Int), (q : Int)) ∧ Boxed wr (w.heap.size + 1) 22 u ∧ Boxed wr (w.heap.size + 1 + 1) 3 (.int .i64 (t : Int)) ∧ SOwn wr (w.heap.size + 3) u (toI acc) ∧ GInv p (p + q) (L.take k) acc t ∧ t ≤ 1024 ∧ Below w.heap.size w wr) (fun i _ => n - (intOf i).toNat)
  case atStart => exact ⟨0, p, _, [], Nat.zero_le _, rfl, bI, bF, bT, World.ownsRow_nil _ _ _ _, GInv.start p (p + q), by omega, hAB⟩
  case round =>
    obtain ⟨k, t, u, acc, hk, rfl, rI, rF, rT, rO, hG, ht, hB⟩ := hrel
    have hacc : acc.length ≤ 2000 := by have := hG.set.len (by omega); omega
    have i0 := rI.c0
    have i1 := rI.c1
    have il := rI.lt
    have fl := rF.lt
    have tl := rT.lt
    have f0 := rF.cell
    have t0 := rT.cell
    have tz := rT.frozen
    simp only at i0 i1
    by_cases hlt : k < n
    · obtain ⟨⟨a, b⟩, hx⟩ : ∃ x, L[k]? = some x := ⟨_, List.getElem?_eq_getElem (by rw [HN.out]; exact hlt)⟩
      have vx := hL.val _ (List.mem_of_getElem? hx)
      obtain ⟨ba, off, rfl, _, k1, k2⟩ := (h.later hB).at k _ (toI_some hx)
      simp only at vx k1 k2
      have hst := hG.step (x := (a, b)) hpq.2 vx (set_take L 0 k _ hL hx)
      have htk : L.take (k + 1) = L.take k ++ [(a, b)] := by rw [List.take_add_one, hx]; rfl
      rw [← htk] at hst
      have HST := Lib.hid hst
      have hi1 : (k : Int) < (n : Int) := by omega
      have va1 : (a : Int) + (b : Int) ≤ 1024 := by omega
      have HEX : Hid (∀ w, Calls Try.prog 52 #[.agg #[.int .i64 (a : Int), .int .i64 (b : Int)]] w fun e w' => e = .returned (.int .i64 ((a : Int) + (b : Int))) ∧ Below w.heap.size w w') := fun w => end_is ((a : Int), (b : Int)) a b rfl vx.2 w
      obtain ⟨wX, hwX⟩ : ∃ x, wr.alloc (.cells #[.int .i64 (a : Int), .int .i64 (b : Int)] 31) = x := ⟨_, rfl⟩
      have hBX : Below wr.heap.size wr wX := by rw [← hwX]; exact (Below.refl _ _).alloc (Nat.le_refl _) _
      have bX : XBox wX wr.heap.size ((a : Int), (b : Int)) := by rw [← hwX]; exact XBox.new wr ((a : Int), (b : Int))
      have HWX := Lib.hid hwX
      clear hst htk hx hwX
      go_wp2_with fail
      rw [HWX.out]
      have jI := rI.later hBX
      have jF : Boxed wX (w.heap.size + 1) 22 u := rF.kept (grown_of_below hBX) (by simp)
      have jT : Boxed wX (w.heap.size + 1 + 1) 3 (.int .i64 (t : Int)) := rT.kept (grown_of_below hBX) (by simp)
      have jO : SOwn wX (w.heap.size + 3) u (toI acc) := rO.kept (grown_of_below hBX) (Classical.em _)
      have ji0 := jI.c0
      have ji1 := jI.c1
      have jx0 := bX.c0
      have jx1 := bX.c1
      have jxl := bX.lt
      simp only at ji0 ji1 jx0 jx1
      obtain ⟨m, hm⟩ : ∃ m, min a (p + q) = m := ⟨_, rfl⟩
      have hmi : (if (p : Int) + (q : Int) < (a : Int) then (p : Int) + (q : Int) else (a : Int)) = (m : Int) := by split <;> omega
      have hm2 : m ≤ 1024 := by omega
      have HM := Lib.hid hm
      have hbo := rO.lt
      have e1 : w.heap.size + 1 + 1 < w.heap.size + 3 := by omega
      have e2 : w.heap.size + 1 < w.heap.size + 3 := by omega
      have e3 : w.heap.size + 1 + 1 ≠ w.heap.size + 1 := by omega
      have e4 : w.heap.size ≤ w.heap.size + 1 := by omega
      have hs2 : w.heap.size + 3 ≤ wX.heap.size := by have := hBX.size; omega
      clear hm i0 i1 f0 t0 tz
      first | go_region_held3 (fun w' => (w'.cell? ⟨w.heap.size, 0, none⟩ = some (.int .i64 (p : Int)) ∧ w'.cell? ⟨w.heap.size, 1, none⟩ = some (.int .i64 (q : Int))) ∧ w'.cell? ⟨wr.heap.size, 0, none⟩ = some (.int .i64 (a : Int))) (first | exact ⟨⟨ji0, ji1⟩, jx0⟩ | exact ⟨⟨y0, y1⟩, y2⟩ | exact ⟨⟨z0, z1⟩, z2⟩)
        (first | (go_at_call 52; ((with_reducible refine (HEI.out _).mono ?_); rintro e w2 ⟨rfl, hB2'⟩; have hB2 : Below wX.heap.size wX w2 := ⟨hB2'.os, hB2'.tape, hB2'.output, hB2'.size, hB2'.block⟩; have kI := jI.later hB2; have kF : Boxed w2 (w.heap.size + 1) 22 u := jF.kept (grown_of_below hB2) (by simp); have kT : Boxed w2 (w.heap.size + 1 + 1) 3 (.int .i64 (t : Int)) := jT.kept (grown_of_below hB2) (by simp); have kO : SOwn w2 (w.heap.size + 3) u (toI acc) := jO.kept (grown_of_below hB2) (Classical.em _); have kX := bX.later hB2; have y0 := kI.c0; have y1 := kI.c1; have y2 := kX.c0; simp only at y0 y1 y2; have hs3 : w.heap.size + 3 ≤ w2.heap.size := Nat.le_trans hs2 hB2.size)) | (go_at_call 77; ((with_reducible refine (gap1_is (w.heap.size + 3) (w.heap.size + 1 + 1) (w.heap.size + 1) t m ht hm2 u acc hacc _ kT kF kO e1 e2 e3 hs3 w.heap.size e4).mono ?_); rintro e w3 ⟨rfl, gT, ⟨u2, gF, gO⟩, gB, gK, gs⟩; have lI : XBox w3 w.heap.size ((p : Int), (q : Int)) := (gK _ kI.lt (by omega) (fun e => by have := (hbo _ e.symm).1; omega)).trans kI; have lX : XBox w3 wr.heap.size ((a : Int), (b : Int)) := (gK _ kX.lt (by omega) (fun e => by have := (hbo _ e.symm).2; omega)).trans kX; have z0 := lI.c0; have z1 := lI.c1; have z2 := lX.c0; simp only at z0 z1 z2))) | fail
      have gt0 := gT.cell
      have gtz := gT.frozen
      have gtl := gT.lt
      have z3 := lX.c1
      simp only at z3
      obtain ⟨t2, ht2⟩ : ∃ x, max t (a + b) = x := ⟨_, rfl⟩
      have hma : (if (t : Int) < (a : Int) + (b : Int) then (a : Int) + (b : Int) else (t : Int)) = (t2 : Int) := by split <;> omega
      have HT2 := Lib.hid ht2
      have ht24 : t2 ≤ 1024 := by omega
      clear ht2 ji0 ji1 jx0 jx1 y0 y1 y2
      go_wp2_with fail
      first | go_region_with ((go_at_call 52; refine (HEX.out _).mono ?_; rintro e w4 ⟨rfl, hB4'⟩; have hB4 : Below w3.heap.size w3 w4 := ⟨hB4'.os, hB4'.tape, hB4'.output, hB4'.size, hB4'.block⟩; have mX := lX.later hB4; have mT : Boxed w4 (w.heap.size + 1 + 1) 3 (.int .i64 (t : Int)) := gT.kept (grown_of_below hB4) (by simp); have v2 := mX.c0; have v3 := mX.c1; have m0 := mT.cell; have mz := mT.frozen; simp only at v2 v3)) | fail
      all_goals
        have nI := lI.later hB4
        have nF : Boxed w4 (w.heap.size + 1) 22 u2 := gF.kept (grown_of_below hB4) (by simp)
        have nO : SOwn w4 (w.heap.size + 3) u2 (toI (gapAdd acc t m)) := gO.kept (grown_of_below hB4) (Classical.em _)
        have nD : Below w.heap.size w w4 := hB.trans ((hBX.mono hB.size).trans ((hB2.mono (by have := hB.size; have := hBX.size; omega)).trans (gB.trans (hB4.mono (by have := hB.size; have := hBX.size; have := hB2.size; omega)))))
        have mG := grownBy_setCell' w4 (w.heap.size + 1 + 1) (.int .i64 (t2 : Int))
        have hGn := HST.out
        rw [HM.out, HT2.out] at hGn
        have HGN := Lib.hid hGn
        clear hGn z0 z1 z2 z3 v2 v3 m0 mz gt0 gtz
        go_wp2
        go_roundw
        case rel => exact ⟨k + 1, t2, u2, gapAdd acc t m, by omega, by go_num, (mG.block _ nI.lt (by simp; omega)).trans nI, nF.kept mG (by simp), mT.set _, nO.kept mG (.inr fun e => by have := (nO.lt _ e).1; omega), HGN.out, ht24, nD.setCell (by dsimp only; omega) _⟩
        case measure => simp [intOf]; omega
    · have hi1 : ¬ ((k : Int) < (n : Int)) := by omega
      have hkn : k = n := by omega
      have hG2 := hG
      rw [hkn, ← HN.out, List.take_length] at hG2
      obtain ⟨hD1, hD2⟩ := hG2.done hpq.2
      obtain ⟨E, hE⟩ : ∃ E, p + q = E := ⟨_, rfl⟩
      have hpq2 : (p : Int) + (q : Int) = (E : Int) := by omega
      have hE2 : E ≤ 1024 := by omega
      rw [hE] at hD1 hD2
      have HD1 := Lib.hid hD1
      have HD2 := Lib.hid hD2
      have HE := Lib.hid hE
      have hbo := rO.lt
      have e1 : w.heap.size + 1 + 1 < w.heap.size + 3 := by omega
      have e2 : w.heap.size + 1 < w.heap.size + 3 := by omega
      have e3 : w.heap.size + 1 + 1 ≠ w.heap.size + 1 := by omega
      have e4 : w.heap.size ≤ w.heap.size + 1 := by omega
      clear hD1 hD2 hkn hG2 hE
      go_wp2_with fail
      refine (HEI.out _).mono ?_
      rintro e w2 ⟨rfl, hB2⟩
      have kF : Boxed w2 (w.heap.size + 1) 22 u := rF.kept (grown_of_below hB2) (by simp)
      have kT : Boxed w2 (w.heap.size + 1 + 1) 3 (.int .i64 (t : Int)) := rT.kept (grown_of_below hB2) (by simp)
      have kO : SOwn w2 (w.heap.size + 3) u (toI acc) := rO.kept (grown_of_below hB2) (Classical.em _)
      have hs3 : w.heap.size + 3 ≤ w2.heap.size := Nat.le_trans (by omega) hB2.size
      rw [hpq2]
      clear hpq2
      go_wp2_with fail
      ((with_reducible refine (gap1_is (w.heap.size + 3) (w.heap.size + 1 + 1) (w.heap.size + 1) t E ht hE2 u acc hacc _ kT kF kO e1 e2 e3 hs3 w.heap.size e4).mono ?_))
      rintro e w3 ⟨rfl, gT, ⟨u2, gF, gO⟩, gB, gK, gs⟩
      obtain ⟨ua, un, uc, rfl⟩ := (SOwn.at gO).form3
      have gf0 := gF.cell
      have HO := Lib.hid gO
      clear gO
      go_wp2
      go_ret
      exact ⟨_, gapAdd acc t E, rfl, own_base HO.out (by omega), HD1.out, (by rw [HE.out]; exact HD2.out), hB.trans ((hB2.mono hB.size).trans gB)⟩
end Go.Proofs.Ytgljfiihaehedaa
