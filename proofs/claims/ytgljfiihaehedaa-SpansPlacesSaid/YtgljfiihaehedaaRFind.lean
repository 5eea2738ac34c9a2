/- The other way's find. -/
import Derived.Test.YtgljfiihaehedaaRPlc
import Derived.Test.YtgljfiihaehedaaBeh
namespace Go.Proofs.Ytgljfiihaehedaa
open Go.RowKit
attribute [local go_sem] Oper.semAt_some

set_option maxRecDepth 100000 in
set_option maxHeartbeats 2000000 in
theorem find_bad (l : List SpI) (fl : Fit l) (m a : Int) (b : Bool) (c : Int) (hc : fitE l m a = c) (h0 : c ≠ 0) (v : Value) (w : World) (h : SAt w v l) :
    Calls Try.prog 65 #[v, .int .i64 m, .int .i64 a, .bool b] w fun e w' => e = .returned (.tuple #[.int .i64 0, .int .i64 c]) ∧ Below w.heap.size w w' := by
  have h64 := len64 h
  obtain ⟨r, hr⟩ : ∃ r, chkS l = r := ⟨_, rfl⟩
  have HR := Lib.hid hr
  unfold fitE at hc
  rw [hr] at hc
  by_cases hr0 : r = 0
  · subst hr0
    rw [if_neg (by simp)] at hc
    have hb : (decide (m < 1) || decide (1024 < m) || !alB a) = true := by
      by_cases hb : (decide (m < 1) || decide (1024 < m) || !alB a) = true
      · exact hb
      · rw [if_neg hb] at hc; exact absurd hc.symm h0
    rw [if_pos hb] at hc
    subst hc
    obtain ⟨x, hx⟩ : ∃ x, alB a = x := ⟨_, rfl⟩
    have HX := Lib.hid hx
    rw [hx] at hb
    have HVA : Hid (∀ w, Calls Try.prog 80 #[.int .i64 a] w fun e w' => e = .returned (.bool x) ∧ Below w.heap.size w w') := fun w => power_is a x HX.out w
    clear hr hx h0
    by_cases c1 : m < 1
    · have d1 : decide (m < 1) = true := by simpa using c1
      clear hb
      go_enter Try.func65, Try.ntmps65
      go_wp2_with fail
      refine (RCheck_is v l fl h64 0 HR.out _ h).mono ?_
      rintro e w1 ⟨rfl, B1⟩
      go_wp2_with fail
      go_ret2
      exact ⟨rfl, B1⟩
    · have d1 : decide (m < 1) = false := by simpa using c1
      by_cases c2 : 1024 < m
      · have d2 : decide (1024 < m) = true := by simpa using c2
        clear hb
        go_enter Try.func65, Try.ntmps65
        go_wp2_with fail
        refine (RCheck_is v l fl h64 0 HR.out _ h).mono ?_
        rintro e w1 ⟨rfl, B1⟩
        go_wp2_with fail
        go_ret2
        exact ⟨rfl, B1⟩
      · have d2 : decide (1024 < m) = false := by simpa using c2
        rw [d1, d2] at hb
        have hxf : x = false := by simpa using hb
        subst hxf
        clear hb
        go_enter Try.func65, Try.ntmps65
        go_wp2_with fail
        refine (RCheck_is v l fl h64 0 HR.out _ h).mono ?_
        rintro e w1 ⟨rfl, B1⟩
        go_wp2_with fail
        refine (HVA.out _).mono ?_
        rintro e w2 ⟨rfl, B2⟩
        go_wp2_with fail
        go_ret2
        exact ⟨rfl, B1.trans (B2.mono B1.size)⟩
  · rw [if_pos hr0] at hc
    subst hc
    have hq : (r != 0) = true := by simp [hr0]
    have hq2 : (r == 0) = false := by simp [hr0]
    clear hr hr0 h0
    go_enter Try.func65, Try.ntmps65
    go_wp2_with fail
    refine (RCheck_is v l fl h64 r HR.out _ h).mono ?_
    rintro e w1 ⟨rfl, B1⟩
    go_wp2_with fail
    go_ret2
    exact ⟨rfl, B1⟩

/-- What find takes of the spans that have a place. -/
def sel (b : Bool) : List Sp → Option Sp
  | [] => none
  | x :: F => some (if b = true then F.foldl minS x else x)
theorem sel_mem {b : Bool} {G : List Sp} {z : Sp} (h : sel b G = some z) : z ∈ G := by
  cases G with
  | nil => cases h
  | cons x F =>
    unfold sel at h
    have := Option.some.inj h
    split at this
    · rw [← this]; exact minS_mem F x
    · rw [← this]; simp
theorem sel_snoc (b : Bool) (G : List Sp) (y : Sp) : sel b (G ++ [y]) = match sel b G with | none => some y | some z => some (if b = true ∧ y.2 < z.2 then y else z) := by
  cases G with
  | nil => simp [sel]
  | cons x F =>
    cases b
    · simp [sel]
    · simp [sel, List.foldl_append, minS]

set_option maxRecDepth 100000 in
set_option maxHeartbeats 4000000 in
theorem find_ok (L : List Sp) (hL : SetL 0 L) (m al : Nat) (hm1 : 1 ≤ m) (hm2 : m ≤ 1024) (ha1 : 1 ≤ al) (ha2 : al ≤ 1024) (hal : alB (al : Int) = true) (b : Bool) (v : Value) (w : World) (h : SAt w v (toI L)) :
    Calls Try.prog 65 #[v, .int .i64 m, .int .i64 al, .bool b] w fun e w' => e = .returned (match sel b (L.filter (fits m al)) with | none => .tuple #[.int .i64 0, .int .i64 4] | some z => .tuple #[.int .i64 (algn z.1 al : Nat), .int .i64 0]) ∧ Below w.heap.size w w' := by
  have HC := Lib.hid (chkS_set hL)
  have HF := Lib.hid (fit_nat L hL.val)
  have h64 := len64 h
  have d1 : decide ((m : Int) < 1) = false := by simp; omega
  have d2 : decide ((1024 : Int) < (m : Int)) = false := by simp; omega
  have e1 : ¬ (m : Int) < 1 := by omega
  have e2 : ¬ (1024 : Int) < (m : Int) := by omega
  have d1n : decide (m < 1) = false := by simp; omega
  have d2n : decide (1024 < m) = false := by simp; omega
  obtain ⟨n, hn⟩ : ∃ n, L.length = n := ⟨_, rfl⟩
  have HN := Lib.hid hn
  have hn2 : n ≤ 2000 := by rw [← hn]; exact set_len2 hL
  obtain ⟨R, hR⟩ : ∃ R, (match sel b (L.filter (fits m al)) with | none => Value.tuple #[.int .i64 0, .int .i64 4] | some z => .tuple #[.int .i64 (algn z.1 al : Nat), .int .i64 0]) = R := ⟨_, rfl⟩
  rw [hR]
  have HRR := Lib.hid hR
  obtain ⟨va, vc, rfl⟩ := h.form
  rw [toI_len, hn] at h h64 ⊢
  clear hn hR
  go_enter Try.func65, Try.ntmps65
  go_wp2_with fail
  refine (RCheck_is _ (toI L) HF.out (by rw [toI_len, HN.out]; exact h64) 0 HC.out _ h).mono ?_
  rintro e w1 ⟨rfl, B1⟩
  go_wp2_with fail
  refine (power_is _ true hal _).mono ?_
  rintro e w2 ⟨rfl, B2⟩
  have D2 := B1.trans (B2.mono B1.size)
  go_wp2_with fail
  go_loopw [11, 12] (fun f i wr => ∃ k : Nat, k ≤ n ∧ i = .int .i64 k ∧ ((f = .int .i64 (-1) ∧ Hid (sel b ((L.take k).filter (fits m al)) = none)) ∨ ∃ (z : Sp) (j : Nat), f = .int .i64 j ∧ j < n ∧ Hid (L[j]? = some z) ∧ Hid (sel b ((L.take k).filter (fits m al)) = some z)) ∧ Below w.heap.size w wr) (fun _ i _ => n - (intOf i).toNat)
  case atStart => exact ⟨0, Nat.zero_le _, rfl, .inl ⟨rfl, rfl⟩, D2⟩
  case round =>
    obtain ⟨k, hk, rfl, hf, hB⟩ := hrel
    by_cases hlt : k < n
    · obtain ⟨y, hy⟩ : ∃ y, L[k]? = some y := ⟨_, List.getElem?_eq_getElem (by rw [HN.out]; exact hlt)⟩
      have vy := hL.val y (List.mem_of_getElem? hy)
      have iy := toI_some hy
      have hfl : (L.take (k + 1)).filter (fits m al) = (L.take k).filter (fits m al) ++ (if fits m al y = true then [y] else []) := filter_take (fits m al) L k y hy
      obtain ⟨p, q⟩ := y
      simp only at vy iy
      obtain ⟨b', off, rfl, hbl, k1, k2⟩ := h.at k _ iy
      simp only at k1 k2
      replace k1 := cell_later hB k1
      replace k2 := cell_later hB k2
      have hbw := Nat.lt_of_lt_of_le hbl hB.size
      have hi1 : (k : Int) < (n : Int) := by omega
      have HY := Lib.hid hy
      have HFL := Lib.hid hfl
      obtain ⟨r, hr⟩ : ∃ r, plI m al (p, q) = r := ⟨_, rfl⟩
      have HPL : Hid (∀ w, Calls Try.prog 81 #[.agg #[.int .i64 p, .int .i64 q], .int .i64 m, .int .i64 al] w fun e w' => e = .returned (.int .i64 r) ∧ Below w.heap.size w w') := fun w => by rw [← hr]; exact Place_is p q m al vy hm1 hm2 ha1 ha2 w
      clear hy iy hfl
      by_cases hft : fits m al (p, q) = true
      · obtain ⟨g, hg⟩ : ∃ g : Nat, r = (g : Int) := ⟨algn p al, by rw [← hr]; unfold plI; rw [if_pos hft]⟩
        rw [hg] at HPL
        have HFT : Hid ((L.take (k + 1)).filter (fits m al) = (L.take k).filter (fits m al) ++ [(p, q)]) := by unfold Hid; rw [HFL.out, if_pos hft]
        clear hr hft hg
        have y1 := fun x : Beh wr => Beh.cell k1 x
        have y2 := fun x : Beh wr => Beh.cell k2 x
        rcases hf with ⟨rfl, HS⟩ | ⟨z, j, rfl, hj, HZ, HS⟩
        · have HS2 : Hid (sel b ((L.take (k + 1)).filter (fits m al)) = some (p, q)) := by unfold Hid; rw [HFT.out, sel_snoc, HS.out]
          go_wp2_with fail
          refine region_beh (by kernel_rfl) (by kernel_rfl) ?_
          repeat (go_big_quiet_step ((go_at_call 81; refine (HPL.out _).mono ?_; rintro e w3 ⟨rfl, B3⟩; rename_i x; exact ⟨rfl, ⟨_, x.h.trans (B3.mono x.h.size)⟩, rfl⟩)))
          refine wpQuiet_nil ?_
          intro _ hw'
          obtain ⟨x, rfl⟩ := hw'
          go_wp2_with fail
          go_roundw
          case rel => exact ⟨k + 1, by omega, by go_num, .inr ⟨(p, q), k, rfl, hlt, HY, HS2⟩, hB.trans (x.h.mono hB.size)⟩
          case measure => simp [intOf]; omega
        · obtain ⟨zp, zq⟩ := z
          have vz := hL.val _ (List.mem_of_getElem? HZ.out)
          have iz := toI_some HZ.out
          simp only at vz iz
          obtain ⟨b2, off2, hb2, hbl2, z1, z2⟩ := h.at j _ iz
          have hbb := hb2
          cases hbb
          simp only at z1 z2
          replace z1 := cell_later hB z1
          replace z2 := cell_later hB z2
          have x1 := fun x : Beh wr => Beh.cell z1 x
          have x2 := fun x : Beh wr => Beh.cell z2 x
          have hjn : (j : Int) < (n : Int) := by omega
          have hj0 : decide ((j : Int) < 0) = false := by simp
          cases b
          · have HS2 : Hid (sel false ((L.take (k + 1)).filter (fits m al)) = some (zp, zq)) := by unfold Hid; rw [HFT.out, sel_snoc, HS.out]; simp
            clear iz hb2
            go_wp2_with fail
            refine region_beh (by kernel_rfl) (by kernel_rfl) ?_
            repeat (go_big_quiet_step ((go_at_call 81; refine (HPL.out _).mono ?_; rintro e w3 ⟨rfl, B3⟩; rename_i x; exact ⟨rfl, ⟨_, x.h.trans (B3.mono x.h.size)⟩, rfl⟩)))
            refine wpQuiet_nil ?_
            intro _ hw'
            obtain ⟨x, rfl⟩ := hw'
            go_wp2_with fail
            go_roundw
            case rel => exact ⟨k + 1, by omega, by go_num, .inr ⟨(zp, zq), j, rfl, hj, HZ, HS2⟩, hB.trans (x.h.mono hB.size)⟩
            case measure => simp [intOf]; omega
          · by_cases hqz : q < zq
            · have HS2 : Hid (sel true ((L.take (k + 1)).filter (fits m al)) = some (p, q)) := by unfold Hid; rw [HFT.out, sel_snoc, HS.out]; simp [hqz]
              have dq : decide ((q : Int) < (zq : Int)) = true := by simpa using hqz
              have dqn : decide (q < zq) = true := by simpa using hqz
              clear iz hb2
              go_wp2_with fail
              refine region_beh (by kernel_rfl) (by kernel_rfl) ?_
              repeat (go_big_quiet_step ((go_at_call 81; refine (HPL.out _).mono ?_; rintro e w3 ⟨rfl, B3⟩; rename_i x; exact ⟨rfl, ⟨_, x.h.trans (B3.mono x.h.size)⟩, rfl⟩)))
              refine wpQuiet_nil ?_
              intro _ hw'
              obtain ⟨x, rfl⟩ := hw'
              go_wp2_with fail
              go_roundw
              case rel => exact ⟨k + 1, by omega, by go_num, .inr ⟨(p, q), k, rfl, hlt, HY, HS2⟩, hB.trans (x.h.mono hB.size)⟩
              case measure => simp [intOf]; omega
            · have HS2 : Hid (sel true ((L.take (k + 1)).filter (fits m al)) = some (zp, zq)) := by unfold Hid; rw [HFT.out, sel_snoc, HS.out]; simp [hqz]
              have dq : decide ((q : Int) < (zq : Int)) = false := by simpa using hqz
              have dqn : decide (q < zq) = false := by simpa using hqz
              clear iz hb2
              go_wp2_with fail
              refine region_beh (by kernel_rfl) (by kernel_rfl) ?_
              repeat (go_big_quiet_step ((go_at_call 81; refine (HPL.out _).mono ?_; rintro e w3 ⟨rfl, B3⟩; rename_i x; exact ⟨rfl, ⟨_, x.h.trans (B3.mono x.h.size)⟩, rfl⟩)))
              refine wpQuiet_nil ?_
              intro _ hw'
              obtain ⟨x, rfl⟩ := hw'
              go_wp2_with fail
              go_roundw
              case rel => exact ⟨k + 1, by omega, by go_num, .inr ⟨(zp, zq), j, rfl, hj, HZ, HS2⟩, hB.trans (x.h.mono hB.size)⟩
              case measure => simp [intOf]; omega
      · have hg : r = -1 := by rw [← hr]; unfold plI; rw [if_neg hft]
        rw [hg] at HPL
        have HFT : Hid ((L.take (k + 1)).filter (fits m al) = (L.take k).filter (fits m al)) := by unfold Hid; rw [HFL.out, if_neg hft, List.append_nil]
        clear hr hft hg
        have y1 := fun x : Beh wr => Beh.cell k1 x
        have y2 := fun x : Beh wr => Beh.cell k2 x
        rcases hf with ⟨rfl, HS⟩ | ⟨z, j, rfl, hj, HZ, HS⟩
        · have HS2 : Hid (sel b ((L.take (k + 1)).filter (fits m al)) = none) := by unfold Hid; rw [HFT.out, HS.out]
          go_wp2_with fail
          refine region_beh (by kernel_rfl) (by kernel_rfl) ?_
          repeat (go_big_quiet_step ((go_at_call 81; refine (HPL.out _).mono ?_; rintro e w3 ⟨rfl, B3⟩; rename_i x; exact ⟨rfl, ⟨_, x.h.trans (B3.mono x.h.size)⟩, rfl⟩)))
          refine wpQuiet_nil ?_
          intro _ hw'
          obtain ⟨x, rfl⟩ := hw'
          go_wp2_with fail
          go_roundw
          case rel => exact ⟨k + 1, by omega, by go_num, .inl ⟨rfl, HS2⟩, hB.trans (x.h.mono hB.size)⟩
          case measure => simp [intOf]; omega
        · have HS2 : Hid (sel b ((L.take (k + 1)).filter (fits m al)) = some z) := by unfold Hid; rw [HFT.out, HS.out]
          go_wp2_with fail
          refine region_beh (by kernel_rfl) (by kernel_rfl) ?_
          repeat (go_big_quiet_step ((go_at_call 81; refine (HPL.out _).mono ?_; rintro e w3 ⟨rfl, B3⟩; rename_i x; exact ⟨rfl, ⟨_, x.h.trans (B3.mono x.h.size)⟩, rfl⟩)))
          refine wpQuiet_nil ?_
          intro _ hw'
          obtain ⟨x, rfl⟩ := hw'
          go_wp2_with fail
          go_roundw
          case rel => exact ⟨k + 1, by omega, by go_num, .inr ⟨z, j, rfl, hj, HZ, HS2⟩, hB.trans (x.h.mono hB.size)⟩
          case measure => simp [intOf]; omega
    · have hkn : k = n := by omega
      subst hkn
      have HT : Hid (L.take k = L) := List.take_of_length_le (by rw [HN.out]; exact Nat.le_refl _)
      rcases hf with ⟨rfl, HS⟩ | ⟨z, j, rfl, hj, HZ, HS⟩
      · have HE : R = .tuple #[.int .i64 0, .int .i64 4] := by rw [← HRR.out, ← HT.out, HS.out]
        clear HRR
        go_wp2_with fail
        go_ret2
        exact ⟨HE.symm ▸ rfl, hB⟩
      · obtain ⟨zp, zq⟩ := z
        have mz := sel_mem HS.out
        rw [HT.out] at mz
        have fz : fits m al (zp, zq) = true := (List.mem_filter.1 mz).2
        have vz := hL.val _ (List.mem_of_getElem? HZ.out)
        have iz := toI_some HZ.out
        simp only at vz iz
        obtain ⟨b2, off2, hb2, hbl2, z1, z2⟩ := h.at j _ iz
        have hbb := hb2
        cases hbb
        simp only at z1 z2
        replace z1 := cell_later hB z1
        replace z2 := cell_later hB z2
        have hbw := Nat.lt_of_lt_of_le hbl2 hB.size
        have hjn : (j : Int) < (k : Int) := by omega
        have hj0 : decide ((j : Int) < 0) = false := by simp
        obtain ⟨g, hg⟩ : ∃ g : Nat, algn zp al = g := ⟨_, rfl⟩
        have HE : R = .tuple #[.int .i64 (g : Nat), .int .i64 0] := by rw [← HRR.out, ← HT.out, HS.out, ← hg]
        have HPL : Hid (∀ w, Calls Try.prog 81 #[.agg #[.int .i64 zp, .int .i64 zq], .int .i64 m, .int .i64 al] w fun e w' => e = .returned (.int .i64 (g : Nat)) ∧ Below w.heap.size w w') := fun w => by have := Place_is zp zq m al vz hm1 hm2 ha1 ha2 w; unfold plI at this; rw [if_pos fz, hg] at this; exact this
        clear HRR iz hb2 fz hg mz
        go_wp2_with fail
        refine (HPL.out _).mono ?_
        rintro e w3 ⟨rfl, B3⟩
        go_wp2_with fail
        go_ret2
        exact ⟨HE.symm ▸ rfl, hB.trans (B3.mono hB.size)⟩
end Go.Proofs.Ytgljfiihaehedaa
