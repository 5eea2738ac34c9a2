/- The law on turns. -/
import Derived.Test.YtandpjhakcmmhaaDoorTurnsM
namespace Go.Proofs.YtandpjhakcmmhaaDoor
open Go.RowKit Go.Shelf
attribute [local go_sem] Oper.semAt_some

theorem run_cells {W : World} {base : Nat} {e : TypeId} {a : Option Addr} {n cap : Nat} {L : List (Nat × Nat)} (h : W.ownsRow base e 2 (.slice a n cap) n (rowR L)) (i : Nat) (hi : i < n) (r : Nat × Nat) (hr : L[i]? = some r) :
    ∃ g, a = some ⟨g, 0, none⟩ ∧ W.cell? ⟨g, i * 2, none⟩ = some (.int .i64 (r.1 : Int)) ∧ W.cell? ⟨g, i * 2 + 1, none⟩ = some (.int .i64 (r.2 : Int)) := by
  obtain ⟨r1, r2⟩ := rowR_at L i r hr
  obtain ⟨_, ⟨_, rfl⟩ | ⟨g, cap', cur, hv, _, hg, _, _, _, ht⟩⟩ := h
  · omega
  · cases hv
    refine ⟨g, rfl, ?_, ?_⟩
    · rw [← ht, List.getElem?_take, if_pos (by omega)] at r1
      simp only [World.cell?, hg]
      rw [Nat.mul_comm]; simpa using r1
    · rw [← ht, List.getElem?_take, if_pos (by omega)] at r2
      simp only [World.cell?, hg]
      rw [Nat.mul_comm]; simpa using r2

set_option maxRecDepth 100000 in
set_option maxHeartbeats 4000000 in
theorem law_turns (N : Int) (v : Value) (ws : List Nat) (hf : Fit64 ws) (w : World) (hgd : Gd w) (h : WAt w v ws) :
    Calls Tryd.prog 9 #[bv N v] w fun e w' => e = .returned (.bool true) ∧ Below w.heap.size w w' := by
  obtain ⟨c, hc⟩ : ∃ c, checkB N ws = c := ⟨_, rfl⟩
  have HC := Lib.hid hc
  obtain ⟨wA, hwA⟩ : ∃ wA, w.alloc (.cells #[.int .i64 N, v] 24) = wA := ⟨_, rfl⟩
  have hAB : Below w.heap.size w wA := by rw [← hwA]; exact (Below.refl _ _).alloc (Nat.le_refl _) _
  have bA : BBox wA w.heap.size N v := by rw [← hwA]; exact BBox.new w N v
  have hA := h.later hAB
  have hgA := hgd.later hAB
  have HW := Lib.hid hwA
  clear hwA
  by_cases h0 : c = 0
  · subst h0
    obtain ⟨n, rfl, hn4, hlen⟩ := check_ok hc
    clear hlen
    obtain ⟨q, hq⟩ : ∃ q, (hits ws true 0 n).length = q := ⟨_, rfl⟩
    have h1 : countB n ws 0 n = ((q : Int), 0) := by have := countB_ok hc (Nat.zero_le n) (Nat.le_refl n); rw [hq] at this; exact this
    have H1 := Lib.hid h1
    have HQ := Lib.hid hq
    clear hc h1
    obtain ⟨nl, hnl⟩ : ∃ x, (runsL ws true 0 n).length = x := ⟨_, rfl⟩
    obtain ⟨nm, hnm⟩ : ∃ x, (runsL ws false 0 n).length = x := ⟨_, rfl⟩
    have HNL := Lib.hid hnl
    have HNM := Lib.hid hnm
    clear hq
    go_enter Tryd.func9, Tryd.ntmps9
    go_wp2_with fail
    rw [HW.out]
    refine (RefCheck_is n v ws hf _ hA 0 HC.out).mono ?_
    rintro e w1 ⟨rfl, hB1⟩
    have x1 := (bA.later hB1).c0
    have y1 := (bA.later hB1).c1
    go_wp2_with fail
    refine (Runs_ok n v true ws hf _ (hgA.later hB1) (hA.later hB1) HC.out).mono ?_
    rintro e w2 ⟨ul, rfl, hul, hB2⟩
    rw [hnl] at hul
    obtain ⟨la, lc, rfl⟩ := ownsRow_formR hul
    have D2 := hB1.trans (hB2.mono hB1.size)
    have x2 := (bA.later D2).c0
    have y2 := (bA.later D2).c1
    go_wp2_with fail
    refine (Runs_ok n v false ws hf _ (hgA.later D2) (hA.later D2) HC.out).mono ?_
    rintro e w3 ⟨um, rfl, hum, hB3⟩
    rw [hnm] at hum
    obtain ⟨ma, mc, rfl⟩ := ownsRow_formR hum
    have D3 := D2.trans (hB3.mono D2.size)
    have x3 := (bA.later D3).c0
    have y3 := (bA.later D3).c1
    have hul3 := hul.kept (grown_of_below hB3) (Classical.em _)
    go_wp2_with fail
    refine (Count_is n v ws hf _ (hA.later D3) _ _ _ _ H1.out).mono ?_
    rintro e w4 ⟨rfl, hB4⟩
    have D4 := D3.trans (hB4.mono D3.size)
    have x4 := (bA.later D4).c0
    have y4 := (bA.later D4).c1
    have hul4 := hul3.kept (grown_of_below hB4) (Classical.em _)
    have hum4 := hum.kept (grown_of_below hB4) (Classical.em _)
    go_wp2_with fail
    go_loopw [7, 9, 10, 11] (fun c x y z wr => ∃ (a i k r d : Nat), Hid (Turn ws n a i k) ∧ a ≤ n ∧ i ≤ a ∧ k ≤ a ∧ r ≤ n ∧ Hid ((hits ws true a n).length = r) ∧ c = .int .i64 r ∧ x = .int .i64 a ∧ y = .int .i64 i ∧ z = .int .i64 k ∧ wr = w4.drewN d) (fun _ x _ _ _ => n - (intOf x).toNat)
    case atStart => exact ⟨0, 0, 0, q, 0, Turn.zero ws n, Nat.zero_le _, Nat.le_refl _, Nat.le_refl _, by rw [← HQ.out]; have := hits_len ws 0 n; omega, HQ, rfl, rfl, rfl, rfl, rfl⟩
    case round =>
      obtain ⟨a, i, k, r, d, HT, han, hia, hka, hrn, HR, rfl, rfl, rfl, rfl, rfl⟩ := hrel
      by_cases hlt : a < n
      · cases hbt : btW ws a with
        | true =>
          obtain ⟨e, he1, he2, hLi, hil, hh, hprev, hT2⟩ := HT.out.onT hlt hbt
          rw [HNL.out] at hil
          obtain ⟨g, rfl, k1, k2⟩ := run_cells hul4 i hil (a, e) hLi
          have hil1 : (i : Int) < (nl : Int) := by omega
          have hea : ¬ ((e : Int) ≤ (a : Int)) := by omega
          have HT2 := Lib.hid hT2
          obtain ⟨r2, hr2⟩ : ∃ x, (hits ws true e n).length = x := ⟨_, rfl⟩
          rw [hr2, HR.out] at hh
          have HR2 := Lib.hid hr2
          clear hr2 hT2 hLi hbt
          rcases hprev with ⟨rfl, rfl⟩ | ⟨ha0, hk0, hMk⟩
          · go_wp2_with fail
            go_quiet (fail)
            go_wp2
            refine ⟨⟨e, i + 1, 0, r2, _, HT2, by omega, by omega, by omega, by omega, HR2, by go_num, rfl, by go_num, by go_num, rfl⟩, by simp [intOf]; omega⟩
          · obtain ⟨k', rfl⟩ : ∃ k', k = k' + 1 := ⟨k - 1, by omega⟩
            rw [Nat.add_sub_cancel] at hMk
            obtain ⟨⟨p, p'⟩, hp1, hp2⟩ := Option.map_eq_some_iff.1 hMk
            simp only at hp2
            subst hp2
            have hkm : k' < nm := by rw [← HNM.out]; exact (List.getElem?_eq_some_iff.1 hp1).1
            obtain ⟨g', rfl, k3, k4⟩ := run_cells hum4 k' hkm (p, p') hp1
            have hkm1 : (k' : Int) < (nm : Int) := by omega
            have hpp : ¬ ((p' : Int) = 0) := by omega
            clear hp1 hMk
            go_wp2_with fail
            go_quiet (fail)
            go_wp2
            refine ⟨⟨e, i + 1, k' + 1, r2, _, HT2, by omega, by omega, by omega, by omega, HR2, by go_num, rfl, by go_num, by go_num, rfl⟩, by simp [intOf]; omega⟩
        | false =>
          obtain ⟨e, he1, he2, hMk, hkm, hh, hprev, hfar, hT2⟩ := HT.out.onF hlt hbt
          rw [HNM.out] at hkm
          obtain ⟨g, rfl, k1, k2⟩ := run_cells hum4 k hkm (a, e) hMk
          have hkm1 : (k : Int) < (nm : Int) := by omega
          have hea : ¬ ((e : Int) ≤ (a : Int)) := by omega
          have HT2 := Lib.hid hT2
          obtain ⟨r2, hr2⟩ : ∃ x, (hits ws true e n).length = x := ⟨_, rfl⟩
          rw [hr2, HR.out] at hh
          subst hh
          have HR2 := Lib.hid hr2
          clear hr2 hT2 hMk hbt
          by_cases hil : i < nl
          · obtain ⟨⟨p, p2⟩, hp⟩ : ∃ x, (runsL ws true 0 n)[i]? = some x := ⟨_, List.getElem?_eq_getElem (by rw [HNL.out]; exact hil)⟩
            have hpa := hfar _ hp
            simp only at hpa
            obtain ⟨g', rfl, k3, k4⟩ := run_cells hul4 i hil (p, p2) hp
            have hil1 : (i : Int) < (nl : Int) := by omega
            have hne : ¬ ((p : Int) = (a : Int)) := by omega
            clear hp hfar
            rcases hprev with ⟨rfl, rfl⟩ | ⟨ha0, hi0, hLi⟩
            · go_wp2
              refine ⟨⟨e, 0, k + 1, r, _, HT2, by omega, by omega, by omega, by omega, HR2, by go_num, rfl, by go_num, by go_num, rfl⟩, by simp [intOf]; omega⟩
            · obtain ⟨i', rfl⟩ : ∃ i', i = i' + 1 := ⟨i - 1, by omega⟩
              rw [Nat.add_sub_cancel] at hLi
              obtain ⟨⟨s, s'⟩, hs1, hs2⟩ := Option.map_eq_some_iff.1 hLi
              simp only at hs2
              subst hs2
              obtain ⟨g2, hg2, k5, k6⟩ := run_cells hul4 i' (by omega) (s, s') hs1
              obtain rfl : g' = g2 := by cases hg2; rfl
              have hil2 : (i' : Int) < (nl : Int) := by omega
              have hss : ¬ ((s' : Int) = 0) := by omega
              clear hs1 hLi hg2
              go_wp2
              refine ⟨⟨e, i' + 1, k + 1, r, _, HT2, by omega, by omega, by omega, by omega, HR2, by go_num, rfl, by go_num, by go_num, rfl⟩, by simp [intOf]; omega⟩
          · have hil1 : ¬ ((i : Int) < (nl : Int)) := by omega
            clear hfar
            rcases hprev with ⟨rfl, rfl⟩ | ⟨ha0, hi0, hLi⟩
            · go_wp2
              refine ⟨⟨e, 0, k + 1, r, _, HT2, by omega, by omega, by omega, by omega, HR2, by go_num, rfl, by go_num, by go_num, rfl⟩, by simp [intOf]; omega⟩
            · obtain ⟨i', rfl⟩ : ∃ i', i = i' + 1 := ⟨i - 1, by omega⟩
              rw [Nat.add_sub_cancel] at hLi
              obtain ⟨⟨s, s'⟩, hs1, hs2⟩ := Option.map_eq_some_iff.1 hLi
              simp only at hs2
              subst hs2
              have hin : i' < nl := by rw [← HNL.out]; exact (List.getElem?_eq_some_iff.1 hs1).1
              obtain ⟨g2, rfl, k5, k6⟩ := run_cells hul4 i' hin (s, s') hs1
              have hil2 : (i' : Int) < (nl : Int) := by omega
              have hss : ¬ ((s' : Int) = 0) := by omega
              clear hs1 hLi
              go_wp2
              refine ⟨⟨e, i' + 1, k + 1, r, _, HT2, by omega, by omega, by omega, by omega, HR2, by go_num, rfl, by go_num, by go_num, rfl⟩, by simp [intOf]; omega⟩
      · have han2 : a = n := by omega
        subst han2
        obtain ⟨hs1, hs2⟩ := HT.out.stop
        rw [HNL.out] at hs1
        rw [HNM.out] at hs2
        have hr0 : r = 0 := by rw [← HR.out, hits_nil _ _ _ _ (Nat.le_refl a)]; rfl
        subst hr0
        have hil1 : ¬ ((i : Int) < (nl : Int)) := by omega
        have hkm1 : ¬ ((k : Int) < (nm : Int)) := by omega
        have E0 := below_drewN D4 d
        have z0 := (bA.later E0).c0
        have z1 := (bA.later E0).c1
        go_wp2_with fail
        refine (awake_any _ (hgA.later E0)).mono ?_
        rintro e w5 ⟨rfl, hB5⟩
        go_wp2
        go_ret
        exact ⟨rfl, hAB.trans ((E0.trans (hB5.mono E0.size)).mono hAB.size)⟩
  · have hq : (c != 0) = true := by simp [h0]
    clear hc h0
    go_enter Tryd.func9, Tryd.ntmps9
    go_wp2_with fail
    rw [HW.out]
    refine (RefCheck_is N v ws hf _ hA c HC.out).mono ?_
    rintro e w1 ⟨rfl, hB1⟩
    go_wp2_with fail
    refine (awake_any _ (hgA.later hB1)).mono ?_
    rintro e w2 ⟨rfl, hB2⟩
    go_wp2
    go_ret
    exact ⟨rfl, hAB.trans ((hB1.trans (hB2.mono hB1.size)).mono hAB.size)⟩
end Go.Proofs.YtandpjhakcmmhaaDoor
