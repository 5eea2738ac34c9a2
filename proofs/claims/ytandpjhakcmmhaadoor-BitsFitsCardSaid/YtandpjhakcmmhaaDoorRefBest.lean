/- The other way's Best. -/
import Derived.Test.YtandpjhakcmmhaaDoorRefRuns
import Derived.Test.YtandpjhakcmmhaaDoorBest
namespace Go.Proofs.YtandpjhakcmmhaaDoor
open Go.RowKit Go.Shelf
attribute [local go_sem] Oper.semAt_some

/-- Which run is the best so far. -/
def BestAt (L : List (Nat × Nat)) (s i : Nat) (b : Int) : Prop :=
  (b = -1 ∧ bfold s (L.take i) = (0, 4097)) ∨ ∃ j p e : Nat, b = (j : Int) ∧ j < i ∧ L[j]? = some (p, e) ∧ p < e ∧ e ≤ 4096 ∧ bfold s (L.take i) = (p, e - p)
theorem bfold_take (L : List (Nat × Nat)) (s i : Nat) (r : Nat × Nat) (h : L[i]? = some r) : bfold s (L.take (i + 1)) = bstep s (bfold s (L.take i)) r := by
  obtain ⟨h1, h2⟩ := List.getElem?_eq_some_iff.1 h
  rw [List.take_succ_eq_append_getElem h1, h2, bfold_snoc]

set_option maxRecDepth 100000 in
set_option maxHeartbeats 4000000 in
theorem RefBest_ok (n s : Nat) (v : Value) (ws : List Nat) (hf : Fit64 ws) (w : World) (h : WAt w v ws) (hc : checkB n ws = 0) (hs : 1 ≤ s) (x y : Int) (hx : beB ws s n = (x, y)) :
    Calls Tryd.prog 38 #[bv n v, .int .i64 s] w fun e w' => e = .returned (.tuple #[.int .i64 x, .int .i64 y]) ∧ Below w.heap.size w w' := by
  obtain ⟨n', hn', hn4, hlen⟩ := check_ok hc
  obtain rfl : n = n' := by omega
  obtain ⟨wA, hwA⟩ : ∃ wA, w.alloc (.cells #[.int .i64 (n : Int), v] 24) = wA := ⟨_, rfl⟩
  have hAB : Below w.heap.size w wA := by rw [← hwA]; exact (Below.refl _ _).alloc (Nat.le_refl _) _
  have bA : BBox wA w.heap.size n v := by rw [← hwA]; exact BBox.new w n v
  have hA := h.later hAB
  have HW := Lib.hid hwA
  have HC := Lib.hid hc
  have hll : (runsL ws false 0 n).length ≤ 5000 := by rw [← refR_runs]; have := refR_len ws false n; omega
  have hall := (runsL_all ws false n).1
  obtain ⟨L, hL⟩ : ∃ L, runsL ws false 0 n = L := ⟨_, rfl⟩
  have hx2 : (if 4096 < (bfold s L).2 then ((0 : Int), (4 : Int)) else (((bfold s L).1 : Int), 0)) = (x, y) := by rw [← hx, ← hL]; rfl
  rw [hL] at hll hall
  have HAL : Hid (∀ r ∈ L, r.1 < r.2 ∧ r.2 ≤ 4096) := fun r hr => by have := hall r hr; omega
  have HLL := Lib.hid hL
  have HX := Lib.hid hx2
  have hl : n ≤ 64 * ws.length := by omega
  have HL := Lib.hid hl
  have hs1 : ¬ ((s : Int) < 1) := by omega
  obtain ⟨nl, hnl⟩ : ∃ q, L.length = q := ⟨_, rfl⟩
  have HNL := Lib.hid hnl
  have hnl5 : nl ≤ 5000 := by omega
  clear hwA hc hx hx2 hn' hlen hl hL hall hll hnl
  go_enter Tryd.func38, Tryd.ntmps38
  go_wp2_with fail
  rw [HW.out]
  refine (RefCheck_is n v ws hf _ hA 0 HC.out).mono ?_
  rintro e w1 ⟨rfl, hB1⟩
  have x0 := (bA.later hB1).c0
  have x1 := (bA.later hB1).c1
  go_wp2_with fail
  refine (RefList_any n v ws hf hn4 HL.out w1 (hA.later hB1)).mono ?_
  rintro e w2 ⟨u, rfl, hu, hB2⟩
  obtain ⟨aa, cap, rfl⟩ := own_form hu
  have D2 := hAB.trans ((hB1.trans (hB2.mono hB1.size)).mono hAB.size)
  clear x0 x1
  go_wp2_with fail
  refine (refruns_in _ n aa cap ws false hn4 w2 hu).mono ?_
  rintro e w3 ⟨o, rfl, ho, hB3⟩
  rw [refR_runs, HLL.out, HNL.out] at ho
  obtain ⟨oa, oc, rfl⟩ := ownsRow_formR ho
  have D3 := D2.trans (hB3.mono D2.size)
  go_wp2_with fail
  go_loopw [8, 9] (fun b i wr => ∃ (q : Int) (m d : Nat), m ≤ nl ∧ b = .int .i64 q ∧ i = .int .i64 m ∧ Hid (BestAt L s m q) ∧ wr = w3.drewN d) (fun _ i _ => nl - (intOf i).toNat)
  case atStart => exact ⟨-1, 0, 0, Nat.zero_le _, rfl, rfl, .inl ⟨rfl, rfl⟩, rfl⟩
  case round =>
    obtain ⟨q, m, d, hm, rfl, rfl, HQ, rfl⟩ := hrel
    by_cases hlt : m < nl
    · have hi1 : (m : Int) < (nl : Int) := by omega
      obtain ⟨⟨p, e⟩, hpe⟩ : ∃ r, L[m]? = some r := ⟨_, List.getElem?_eq_getElem (by rw [HNL.out]; exact hlt)⟩
      obtain ⟨g, rfl, k1, k2⟩ := run_cells0 ho m hlt _ hpe
      have hpe2 := HAL.out _ (List.mem_of_getElem? hpe)
      simp only at hpe2
      have hst := bfold_take L s m _ hpe
      have HST := Lib.hid hst
      have HPE := Lib.hid hpe
      clear hst hpe
      by_cases hse : s ≤ e - p
      · have hse1 : (s : Int) ≤ (e : Int) - (p : Int) := by omega
        rcases HQ.out with ⟨rfl, hq⟩ | ⟨j, p2, e2, rfl, hj, hj1, hj2, hj3, hq⟩
        · have HN : Hid (BestAt L s (m + 1) m) := .inr ⟨m, p, e, rfl, by omega, HPE.out, hpe2.1, hpe2.2, by rw [HST.out, hq]; unfold bstep; rw [if_pos ⟨hse, by simp only; omega⟩]⟩
          clear hq
          go_wp2_with fail
          go_quiet (fail)
          go_wp2
          refine ⟨⟨m, m + 1, _, by omega, rfl, by go_num, HN, rfl⟩, by simp [intOf]; omega⟩
        · obtain ⟨g2, hg2, k3, k4⟩ := run_cells0 ho j (by omega) _ hj1
          obtain rfl : g = g2 := by cases hg2; rfl
          have hjn : (j : Int) < (nl : Int) := by omega
          have hj0 : ¬ ((j : Int) < 0) := by omega
          have hj9 : decide ((j : Int) < 0) = false := decide_eq_false hj0
          have hse2 : decide ((s : Int) ≤ (e : Int) - (p : Int)) = true := decide_eq_true hse1
          by_cases hb : e - p < e2 - p2
          · have hb1 : (e : Int) - (p : Int) < (e2 : Int) - (p2 : Int) := by omega
            have HN : Hid (BestAt L s (m + 1) m) := .inr ⟨m, p, e, rfl, by omega, HPE.out, hpe2.1, hpe2.2, by rw [HST.out, hq]; unfold bstep; rw [if_pos ⟨hse, hb⟩]⟩
            clear hq hj1 hg2
            go_wp2_with fail
            go_quiet (fail)
            go_wp2
            refine ⟨⟨m, m + 1, _, by omega, rfl, by go_num, HN, rfl⟩, by simp [intOf]; omega⟩
          · have hb1 : ¬ ((e : Int) - (p : Int) < (e2 : Int) - (p2 : Int)) := by omega
            have HN : Hid (BestAt L s (m + 1) j) := .inr ⟨j, p2, e2, rfl, by omega, hj1, hj2, hj3, by rw [HST.out, hq]; unfold bstep; rw [if_neg (by intro h1; exact hb h1.2)]⟩
            clear hq hj1 hg2
            go_wp2_with fail
            go_quiet (fail)
            go_wp2
            refine ⟨⟨j, m + 1, _, by omega, rfl, by go_num, HN, rfl⟩, by simp [intOf]; omega⟩
      · have hse1 : ¬ ((s : Int) ≤ (e : Int) - (p : Int)) := by omega
        have hse2 : decide ((s : Int) ≤ (e : Int) - (p : Int)) = false := decide_eq_false hse1
        have HN : Hid (BestAt L s (m + 1) q) := by
          have hst2 : bfold s (L.take (m + 1)) = bfold s (L.take m) := by rw [HST.out]; unfold bstep; rw [if_neg (by intro h1; exact hse h1.1)]
          rcases HQ.out with ⟨hq1, hq⟩ | ⟨j, p2, e2, hj0, hj, hj1, hj2, hj3, hq⟩
          · exact .inl ⟨hq1, by rw [hst2]; exact hq⟩
          · exact .inr ⟨j, p2, e2, hj0, by omega, hj1, hj2, hj3, by rw [hst2]; exact hq⟩
        go_wp2_with fail
        go_quiet (fail)
        go_wp2
        refine ⟨⟨q, m + 1, _, by omega, rfl, by go_num, HN, rfl⟩, by simp [intOf]; omega⟩
    · have hmn : m = nl := by omega
      have hi1 : ¬ ((m : Int) < (nl : Int)) := by omega
      have htk : L.take m = L := List.take_of_length_le (by rw [HNL.out]; omega)
      have hq0 := HQ.out
      unfold BestAt at hq0
      rw [htk] at hq0
      rcases hq0 with ⟨rfl, hq⟩ | ⟨j, p2, e2, rfl, hj, hj1, hj2, hj3, hq⟩
      · have hxy : ((0 : Int), (4 : Int)) = (x, y) := by rw [← HX.out, hq]; rfl
        obtain ⟨rfl, rfl⟩ := Prod.mk.inj hxy
        clear hxy hq htk hmn
        go_wp2
        go_ret2
        exact ⟨rfl, below_drewN D3 _⟩
      · have hxy : ((p2 : Int), (0 : Int)) = (x, y) := by rw [← HX.out, hq, if_neg (by simp only; omega)]
        obtain ⟨rfl, rfl⟩ := Prod.mk.inj hxy
        obtain ⟨g2, rfl, k3, k4⟩ := run_cells0 ho j (by omega) _ hj1
        have hjn : (j : Int) < (nl : Int) := by omega
        have hj0 : ¬ ((j : Int) < 0) := by omega
        clear hxy hq htk hmn hj1
        go_wp2
        go_ret2
        exact ⟨rfl, below_drewN D3 _⟩
end Go.Proofs.YtandpjhakcmmhaaDoor
