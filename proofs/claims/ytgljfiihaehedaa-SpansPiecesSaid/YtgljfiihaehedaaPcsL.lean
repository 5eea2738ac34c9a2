/- The law SpansPieces. -/
import Derived.Test.YtgljfiihaehedaaCollN
import Derived.Test.YtgljfiihaehedaaPcM2
import Derived.Test.YtgljfiihaehedaaAwk
import Derived.Test.YtgljfiihaehedaaAskM
namespace Go.Proofs.Ytgljfiihaehedaa
open Go.RowKit
attribute [local go_sem] Oper.semAt_some

set_option maxRecDepth 100000 in
set_option maxHeartbeats 4000000 in
theorem pcs_far (u : Value) (l : List SpI) (fl : Fit l) (z : Int) (w : World) (h : SAt w u l) (hb : 600 < l.length ∨ chkS l ≠ 0 ∨ z < 1 ∨ 1024 < z) :
    Calls Try.prog 10 #[u, .int .i64 z] w fun e w' => e = .returned (.bool true) ∧ Below w.heap.size w w' := by
  have h64 := len64 h
  obtain ⟨ua, uc, rfl⟩ := h.form
  obtain ⟨n, hn⟩ : ∃ n, l.length = n := ⟨_, rfl⟩
  have HN := Lib.hid hn
  obtain ⟨k, hk⟩ : ∃ k, chkS l = k := ⟨_, rfl⟩
  have HK := Lib.hid hk
  rw [hn, hk] at hb
  rw [hn] at h h64 ⊢
  clear hn hk
  have D0 : Below w.heap.size w w := Below.refl _ _
  by_cases c1 : 600 < n
  · have d1 : decide ((600 : Int) < (n : Int)) = true := by simp; omega
    go_enter Try.func10, Try.ntmps10
    go_wp2_with fail
    refine (awake_is _).mono ?_
    rintro e w1 ⟨rfl, B1⟩
    have D1 := D0.trans (B1.mono D0.size)
    go_wp2_with fail
    go_ret
    exact ⟨rfl, D1⟩
  · have d1 : decide ((600 : Int) < (n : Int)) = false := by simp; omega
    by_cases c2 : k = 0
    · have hq : (k != 0) = false := by simp [c2]
      by_cases c3 : z < 1
      · have d2 : decide (z < 1) = true := by simpa using c3
        go_enter Try.func10, Try.ntmps10
        go_wp2_with fail
        refine (Check_is _ l fl (by rw [HN.out]; exact h64) k HK.out _ h).mono ?_
        rintro e w1 ⟨rfl, B1⟩
        have D1 := D0.trans (B1.mono D0.size)
        replace h := h.later B1
        go_wp2_with fail
        refine (awake_is _).mono ?_
        rintro e w2 ⟨rfl, B2⟩
        have D2 := D1.trans (B2.mono D1.size)
        replace h := h.later B2
        go_wp2_with fail
        go_ret
        exact ⟨rfl, D2⟩
      · have d2 : decide (z < 1) = false := by simpa using c3
        have d3 : decide ((1024 : Int) < z) = true := by simp; omega
        go_enter Try.func10, Try.ntmps10
        go_wp2_with fail
        refine (Check_is _ l fl (by rw [HN.out]; exact h64) k HK.out _ h).mono ?_
        rintro e w1 ⟨rfl, B1⟩
        have D1 := D0.trans (B1.mono D0.size)
        replace h := h.later B1
        go_wp2_with fail
        refine (awake_is _).mono ?_
        rintro e w2 ⟨rfl, B2⟩
        have D2 := D1.trans (B2.mono D1.size)
        replace h := h.later B2
        go_wp2_with fail
        go_ret
        exact ⟨rfl, D2⟩
    · have hq : (k != 0) = true := by simp [c2]
      go_enter Try.func10, Try.ntmps10
      go_wp2_with fail
      refine (Check_is _ l fl (by rw [HN.out]; exact h64) k HK.out _ h).mono ?_
      rintro e w1 ⟨rfl, B1⟩
      have D1 := D0.trans (B1.mono D0.size)
      replace h := h.later B1
      go_wp2_with fail
      refine (awake_is _).mono ?_
      rintro e w2 ⟨rfl, B2⟩
      have D2 := D1.trans (B2.mono D1.size)
      replace h := h.later B2
      go_wp2_with fail
      go_ret
      exact ⟨rfl, D2⟩

set_option maxRecDepth 100000 in
set_option maxHeartbeats 4000000 in
theorem pcs_ok (u : Value) (L : List Sp) (hL : SetL 0 L) (hl : L.length ≤ 600) (z : Nat) (hz1 : 1 ≤ z) (hz2 : z ≤ 1024) (w : World) (h : SAt w u (toI L)) :
    Calls Try.prog 10 #[u, .int .i64 z] w fun e w' => e = .returned (.bool true) ∧ Below w.heap.size w w' := by
  have h64 := len64 h
  have D0 : Below w.heap.size w w := Below.refl _ _
  have hcl : cntL L ≤ 1024 := by rw [← count_cnt hL]; exact cntF_le _ _ _
  obtain ⟨P, hP⟩ : ∃ P, pcL z L = P := ⟨_, rfl⟩
  have hg := pcL_good z hz1 L 0 hL
  have hpv := pcL_val z hz1 L hL.val
  have hpp := fun x => pcL_pages z hz1 L x
  have hplen := pcL_len z hL (by omega) hz1
  have hpl2 : P.length ≤ 1024 := by
    by_cases he : L = []
    · subst he; rw [← hP]; simp [pcL]
    · have h1 : ∀ (A : List Sp), ValL A → (pcL z A).length ≤ cntL A := by
        intro A hA
        induction A with
        | nil => simp [pcL]
        | cons s r ih =>
          have h2 := ih (fun x hx => hA x (by simp [hx]))
          have h3 := pcS_len z (s.1 + s.2) s.2 s.1 hz1 (by omega)
          have h4 : cntL (s :: r) = s.2 + cntL r := by unfold cntL; simp
          rw [pcL_cons, List.length_append]; omega
      have := h1 L hL.val
      rw [hP] at this; omega
  have hpg := pgL_len L
  have d1 : decide ((600 : Int) < ((toI L).length : Int)) = false := by have h6 : (toI L).length ≤ 600 := (toI_len L).symm ▸ hl; simp; omega
  have d2 : decide ((z : Int) < 1) = false := by simp; omega
  have d3 : decide ((1024 : Int) < (z : Int)) = false := by simp; omega
  have HP := Lib.hid hP
  have HG := Lib.hid hg
  have HPV := Lib.hid hpv
  have HPP := Lib.hid hpp
  have HPG := Lib.hid hpg
  obtain ⟨c, hc⟩ : ∃ c, cntL L = c := ⟨_, rfl⟩
  have HC := Lib.hid hc
  rw [hc] at hcl
  obtain ⟨ua, uc, rfl⟩ := h.form
  clear hP hg hpv hpp hplen hpg hc
  go_enter Try.func10, Try.ntmps10
  go_wp2_with fail
  refine (Check_is _ (toI L) (fit_nat L hL.val) h64 0 (chkS_set hL) _ h).mono ?_
  rintro e w1 ⟨rfl, B1⟩
  have D1 := D0.trans (B1.mono D0.size)
  replace h := h.later B1
  go_wp2_with fail
  refine (Pieces_ok L hL z hz1 hz2 _ _ h).mono ?_
  rintro e w2 ⟨ba, bk, rfl, bA, ⟨uk, bK, hK⟩, B2⟩
  have D2 := D1.trans (B2.mono D1.size)
  replace h := h.later B2
  go_wp2_with fail
  refine (pieces_is L hL z hz1 hz2 1024 (by rw [HP.out]; omega) (by decide) bk ba uk _ bK hK bA).mono ?_
  rintro e w3 ⟨v3, rfl, r3, B3⟩
  have D3 := D2.trans (B3.mono D2.size)
  replace h := h.later B3
  replace r3 := SOwn.at r3
  rw [HP.out] at r3
  obtain ⟨a3, c3, rfl⟩ := r3.form
  clear bK hK bA
  go_wp2_with fail
  refine (Pages_ok L hL _ _ h).mono ?_
  rintro e w4 ⟨BS, ba2, bk2, u2, rfl, bS, bA, bK, hK, B4⟩
  have D4 := D3.trans (B4.mono D3.size)
  replace h := h.later B4
  replace r3 := r3.later B4
  go_wp2_with fail
  refine (pages_is L hL 1024 (by rw [HPG.out, HC.out]; omega) (by decide) BS bk2 ba2 u2 _ bS bK hK bA).mono ?_
  rintro e w5 ⟨v5, rfl, r5, B5⟩
  have D5 := D4.trans (B5.mono D4.size)
  replace h := h.later B5
  replace r3 := r3.later B5
  rw [HPG.out, HC.out] at r5
  obtain ⟨a5, c5, rfl⟩ := own_form2 r5
  clear bS bK hK bA r5
  go_wp2_with fail
  refine (Count_ok L hL _ _ h).mono ?_
  rintro e w6 ⟨rfl, B6⟩
  have D6 := D5.trans (B6.mono D5.size)
  replace h := h.later B6
  replace r3 := r3.later B6
  rw [HC.out]
  go_wp2_with fail
  refine (Of_ok P (by rw [← HP.out]; exact HPV.out) (by omega) _ _ r3).mono ?_
  rintro e w7 ⟨M, hM, hp, v7, rfl, r7, B7⟩
  have D7 := D6.trans (B7.mono D6.size)
  replace h := h.later B7
  replace r3 := r3.later B7
  have eM : M = L := set_eq hM hL fun x _ => by rw [hp, ← HP.out, HPP.out]
  rw [eM] at r7
  obtain ⟨a7, c7, rfl⟩ := r7.form
  clear hp hM eM
  go_wp2_with fail
  refine (Same_eq L (by omega) _ _ _ r7 h).mono ?_
  rintro e w8 ⟨rfl, B8⟩
  have D8 := D7.trans (B8.mono D7.size)
  replace h := h.later B8
  replace r3 := r3.later B8
  replace r7 := r7.later B8
  go_wp2_with fail
  obtain ⟨k, hk⟩ : ∃ k, (toI P).length = k := ⟨_, rfl⟩
  have HK := Lib.hid hk
  have hk2 : k ≤ 1024 := by rw [← hk, toI_len]; exact hpl2
  rw [hk] at r3 ⊢
  clear hk r7
  have hz0 : ((z : Int) == 0) = false := by simp; omega
  have hz3 : (z : Int) ≠ 0 := by omega
  go_loopw [13] (fun i wr => ∃ j : Nat, j ≤ k ∧ i = .int .i64 j ∧ Below w8.heap.size w8 wr) (fun i _ => k - (intOf i).toNat)
  case atStart => exact ⟨0, Nat.zero_le _, rfl, Below.refl _ _⟩
  case round =>
    obtain ⟨j, hj, rfl, hB⟩ := hrel
    by_cases hlt : j < k
    · have hjP : j < P.length := by have := HK.out; rw [toI_len] at this; omega
      obtain ⟨x, hx⟩ : ∃ x, P[j]? = some x := ⟨_, List.getElem?_eq_getElem hjP⟩
      have hmem : x ∈ P := List.mem_of_getElem? hx
      have vx := HPV.out x (by rw [HP.out]; exact hmem)
      have hone := HG.out.1 x (by rw [HP.out]; exact hmem)
      obtain ⟨p, q⟩ := x
      have ix := toI_some hx
      simp only at vx ix
      obtain ⟨b, off, rfl, hbl, k1, k2⟩ := r3.at j _ ix
      simp only at k1 k2
      replace k1 := cell_later hB k1
      replace k2 := cell_later hB k2
      have hbw := Nat.lt_of_lt_of_le hbl hB.size
      have hi1 : (j : Int) < (k : Int) := by omega
      have hpq : (p : Int) + (q : Int) ≤ 1024 := by omega
      have hpq1 : (1 : Int) ≤ (p : Int) + (q : Int) := by omega
      unfold oneP at hone
      simp only at hone
      obtain ⟨y, hy⟩ : ∃ y, p / z = y := ⟨_, rfl⟩
      have hd1 : Int.tdiv (p : Int) (z : Int) = (y : Int) := by rw [← hy]; rfl
      have hd2 : Int.tdiv ((p : Int) + (q : Int) - 1) (z : Int) = (y : Int) := by
        rw [show (p : Int) + (q : Int) - 1 = ((p + q - 1 : Nat) : Int) by omega, ← hy, hone.1]; rfl
      have hw1 : IntKind.i64.wrap (IntKind.i64.wrap ((p : Int) + (q : Int)) - 1) = (p : Int) + (q : Int) - 1 := by rw [IntWalk.i64_in ((p : Int) + (q : Int)) (by omega)]; exact IntWalk.i64_in _ (by omega)
      have hyl : y ≤ 1024 := by rw [← hy]; exact Nat.le_trans (Nat.div_le_self _ _) (by omega)
      clear hone hy hmem
      by_cases hj0 : j = 0
      · have hg0 : ¬ (0 : Int) < (j : Int) := by omega
        have hg1 : decide (0 < j) = false := by simp; omega
        have hg2 : ¬ 0 < j := by omega
        clear hx ix hj0
        go_wp2_with fail
        go_quiet (fail)
        go_wp2_with fail
        go_roundw
        case rel => exact ⟨j + 1, by omega, by go_num, below_drewN hB nq⟩
        case measure => simp [intOf]; omega
      · obtain ⟨i, hji⟩ : ∃ i, j - 1 = i := ⟨_, rfl⟩
        have hiP : i < P.length := by omega
        obtain ⟨x2, hx2⟩ : ∃ x2, P[i]? = some x2 := ⟨_, List.getElem?_eq_getElem hiP⟩
        have vx2 := HPV.out x2 (by rw [HP.out]; exact List.mem_of_getElem? hx2)
        have hadj := adjL_at (by have h9 := HG.out.2.1; rw [HP.out] at h9; exact h9) hx2 (show P[i + 1]? = some (p, q) by rw [show i + 1 = j by omega]; exact hx)
        obtain ⟨p2, q2⟩ := x2
        have iy := toI_some hx2
        simp only at vx2 iy
        unfold adjP at hadj
        simp only at hadj
        obtain ⟨b2, off2, hab, _, k3, k4⟩ := r3.at i _ iy
        cases hab
        simp only at k3 k4
        replace k3 := cell_later hB k3
        replace k4 := cell_later hB k4
        have hg0 : (0 : Int) < (j : Int) := by omega
        have hg1 : decide (0 < j) = true := by simp; omega
        have hg2 : 0 < j := by omega
        have hwi : IntKind.i64.wrap ((j : Int) - 1) = (i : Int) := (IntWalk.i64_in _ (by omega)).trans (by omega)
        have hwi2 : (j : Int) - 1 = (i : Int) := by omega
        have hi2 : (i : Int) < (k : Int) := by omega
        have hpq2 : (p2 : Int) + (q2 : Int) ≤ 1024 := by omega
        have hw2 : IntKind.i64.wrap (IntKind.i64.wrap ((p2 : Int) + (q2 : Int)) - 1) = (p2 : Int) + (q2 : Int) - 1 := by rw [IntWalk.i64_in ((p2 : Int) + (q2 : Int)) (by omega)]; exact IntWalk.i64_in _ (by omega)
        have hle0 : ¬ (p : Int) ≤ (p2 : Int) + (q2 : Int) - 1 := by omega
        have hle : decide ((p : Int) ≤ (p2 : Int) + (q2 : Int) - 1) = false := by simpa using hle0
        by_cases heq : p2 + q2 = p
        · have hm : p % z = 0 := hadj.2 heq
          have he1 : ((p : Int) == (p2 : Int) + (q2 : Int)) = true := by simp; omega
          have he2 : (p : Int) = (p2 : Int) + (q2 : Int) := by omega
          have hm1 : Int.tmod (p : Int) (z : Int) = 0 := by
            have : Int.tmod (p : Int) (z : Int) = ((p % z : Nat) : Int) := rfl
            rw [this, hm]; rfl
          have HE2 := Lib.hid he2
          have hdd : decide ((p : Int) = (p2 : Int) + (q2 : Int)) = true := by simpa using he2
          clear hx ix hji hx2 iy hadj hm heq he2
          go_wp2_with fail
          go_quiet (fail)
          go_wp2_with fail
          go_roundw
          case rel => exact ⟨j + 1, by omega, by go_num, below_drewN hB nq⟩
          case measure => simp [intOf]; omega
        · have he1 : ((p : Int) == (p2 : Int) + (q2 : Int)) = false := by simp; omega
          have hdd : decide ((p : Int) = (p2 : Int) + (q2 : Int)) = false := by simp; omega
          clear hx ix hji hx2 iy hadj heq
          go_wp2_with fail
          go_quiet (fail)
          go_wp2_with fail
          go_roundw
          case rel => exact ⟨j + 1, by omega, by go_num, below_drewN hB nq⟩
          case measure => simp [intOf]; omega
    · have hi1 : ¬ ((j : Int) < (k : Int)) := by omega
      go_wp2_with fail
      refine (awake_is _).mono ?_
      rintro e w9 ⟨rfl, B9⟩
      go_wp2_with fail
      go_ret
      exact ⟨rfl, D8.trans ((hB.trans (B9.mono hB.size)).mono D8.size)⟩
end Go.Proofs.Ytgljfiihaehedaa
