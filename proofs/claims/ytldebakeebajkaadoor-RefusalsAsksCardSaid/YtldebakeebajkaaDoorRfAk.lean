/- The reference: asked, Refused, Hits, After. -/
import Derived.Test.YtldebakeebajkaaDoorRfRh
import Derived.Test.YtldebakeebajkaaDoorRfHt
import Derived.Test.YtldebakeebajkaaDoorRfRn
namespace Go.Proofs.YtldebakeebajkaaDoor
open Go.RowKit Go.Shelf
attribute [local go_sem] Oper.semAt_some

set_option maxRecDepth 100000 in
set_option maxHeartbeats 1000000 in
theorem asked_is (v : Value) (l : List RlI) (k n least : Int) (c : Int) (hc : callE l k n least = c) (w : World) (h : RAt w v l) :
    Calls Tryd.prog 45 #[.agg #[v], .int .i64 k, .int .i64 n, .int .i64 least] w fun e w' => e = .returned (.int .i64 c) ∧ Below w.heap.size w w' := by
  have hb : Below w.heap.size w (w.alloc (.cells #[v] 24)) := (Below.refl _ _).alloc (Nat.le_refl _) _
  obtain ⟨i, e, hie⟩ : ∃ i e, chkP l = (i, e) := ⟨_, _, rfl⟩
  have HC := Lib.hid (RCheck_is v l i e hie _ (h.later hb))
  unfold callE at hc
  rw [hie] at hc
  simp only at hc
  by_cases he : e = 0
  · subst he
    rw [if_neg (by simp)] at hc
    cases hbk : isK k
    · rw [if_pos hbk] at hc
      subst hc
      have HK := Lib.hid (show inb k 0 6 = false by rw [isK_inb]; exact hbk)
      clear hbk hie
      go_enter Tryd.func45, Tryd.ntmps45
      go_wp2_with fail
      refine HC.out.mono ?_
      rintro e w1 ⟨rfl, B1⟩
      go_wp2_with fail
      refine (in_is k 0 6 false HK.out _).mono ?_
      rintro e w2 ⟨rfl, rfl⟩
      go_wp2
      go_ret
      exact ⟨rfl, hb.trans (B1.mono (by simp))⟩
    · rw [if_neg (by simp [hbk])] at hc
      have HK := Lib.hid (show inb k 0 6 = true by rw [isK_inb]; exact hbk)
      obtain ⟨bn, hbn⟩ : ∃ b, inb n least 1000000 = b := ⟨_, rfl⟩
      have HN := Lib.hid hbn
      clear hbk hie
      cases bn
      · have hcc : c = 7 := by rw [← hc, if_pos]; unfold inb at hbn; simp at hbn; omega
        subst hcc
        clear hc hbn
        go_enter Tryd.func45, Tryd.ntmps45
        go_wp2_with fail
        refine HC.out.mono ?_
        rintro e w1 ⟨rfl, B1⟩
        go_wp2_with fail
        refine (in_is k 0 6 true HK.out _).mono ?_
        rintro e w2 ⟨rfl, rfl⟩
        go_wp2_with fail
        refine (in_is n least 1000000 false HN.out _).mono ?_
        rintro e w3 ⟨rfl, rfl⟩
        go_wp2
        go_ret
        exact ⟨rfl, hb.trans (B1.mono (by simp))⟩
      · have hcc : c = 0 := by rw [← hc, if_neg]; unfold inb at hbn; simp at hbn; omega
        subst hcc
        clear hc hbn
        go_enter Tryd.func45, Tryd.ntmps45
        go_wp2_with fail
        refine HC.out.mono ?_
        rintro e w1 ⟨rfl, B1⟩
        go_wp2_with fail
        refine (in_is k 0 6 true HK.out _).mono ?_
        rintro e w2 ⟨rfl, rfl⟩
        go_wp2_with fail
        refine (in_is n least 1000000 true HN.out _).mono ?_
        rintro e w3 ⟨rfl, rfl⟩
        go_wp2
        go_ret
        exact ⟨rfl, hb.trans (B1.mono (by simp))⟩
  · rw [if_pos he] at hc
    subst hc
    have hq : (e == 0) = false := by simp [he]
    clear hie he
    go_enter Tryd.func45, Tryd.ntmps45
    go_wp2_with fail
    refine HC.out.mono ?_
    rintro e w1 ⟨rfl, B1⟩
    go_wp2
    go_ret
    exact ⟨rfl, hb.trans (B1.mono (by simp))⟩
section
set_option maxRecDepth 100000
set_option maxHeartbeats 1000000
theorem RRefused_bad (v : Value) (l : List RlI) (k n : Int) (c : Int) (hc : callE l k n 1 = c) (h0 : c ≠ 0) (w : World) (h : RAt w v l) :
    Calls Tryd.prog 17 #[.agg #[v], .int .i64 k, .int .i64 n] w fun e w' => e = .returned (.tuple #[.bool false, .int .i64 c]) ∧ Below w.heap.size w w' := by
  have hb : Below w.heap.size w (w.alloc (.cells #[v] 24)) := (Below.refl _ _).alloc (Nat.le_refl _) _
  have HC := Lib.hid (asked_is v l k n 1 c hc _ (h.later hb))
  have hq : (c != 0) = true := by simp [h0]
  clear hc h0
  go_enter Tryd.func17, Tryd.ntmps17
  go_wp2_with fail
  refine HC.out.mono ?_
  rintro e w1 ⟨rfl, B1⟩
  go_wp2
  go_ret2
  exact ⟨rfl, hb.trans (B1.mono (by simp))⟩
theorem RHits_bad (v : Value) (l : List RlI) (k n : Int) (c : Int) (hc : callE l k n 0 = c) (h0 : c ≠ 0) (w : World) (h : RAt w v l) :
    Calls Tryd.prog 19 #[.agg #[v], .int .i64 k, .int .i64 n] w fun e w' => e = .returned (.tuple #[.int .i64 0, .int .i64 c]) ∧ Below w.heap.size w w' := by
  have hb : Below w.heap.size w (w.alloc (.cells #[v] 24)) := (Below.refl _ _).alloc (Nat.le_refl _) _
  have HC := Lib.hid (asked_is v l k n 0 c hc _ (h.later hb))
  have hq : (c != 0) = true := by simp [h0]
  clear hc h0
  go_enter Tryd.func19, Tryd.ntmps19
  go_wp2_with fail
  refine HC.out.mono ?_
  rintro e w1 ⟨rfl, B1⟩
  go_wp2
  go_ret2
  exact ⟨rfl, hb.trans (B1.mono (by simp))⟩
theorem RAfter_bad (v : Value) (l : List RlI) (k n : Int) (c : Int) (hc : callE l k n 0 = c) (h0 : c ≠ 0) (w : World) (h : RAt w v l) :
    Calls Tryd.prog 21 #[.agg #[v], .int .i64 k, .int .i64 n] w fun e w' => e = .returned (.tuple #[.int .i64 0, .int .i64 c]) ∧ Below w.heap.size w w' := by
  have hb : Below w.heap.size w (w.alloc (.cells #[v] 24)) := (Below.refl _ _).alloc (Nat.le_refl _) _
  have HC := Lib.hid (asked_is v l k n 0 c hc _ (h.later hb))
  have hq : (c != 0) = true := by simp [h0]
  clear hc h0
  go_enter Tryd.func21, Tryd.ntmps21
  go_wp2_with fail
  refine HC.out.mono ?_
  rintro e w1 ⟨rfl, B1⟩
  go_wp2
  go_ret2
  exact ⟨rfl, hb.trans (B1.mono (by simp))⟩
theorem RRefused_ok (L : List Ru) (hL : OkL L) (kd n : Nat) (hk : kd < 7) (h1 : 1 ≤ n) (h2 : n ≤ 1000000) (v : Value) (w : World) (h : RAt w v (toI L)) :
    Calls Tryd.prog 17 #[.agg #[v], .int .i64 (kd : Int), .int .i64 (n : Int)] w fun e w' => e = .returned (.tuple #[.bool (refP L kd n), .int .i64 0]) ∧ Below w.heap.size w w' := by
  have hb : Below w.heap.size w (w.alloc (.cells #[v] 24)) := (Below.refl _ _).alloc (Nat.le_refl _) _
  have hbx := Boxed.new w 24 v
  have HC := Lib.hid (asked_is v (toI L) kd n 1 0 (callE_of hL kd hk n 1 (by omega) (by omega)) _ (h.later hb))
  have HL := Lib.hid hL
  go_enter Tryd.func17, Tryd.ntmps17
  go_wp2_with fail
  refine HC.out.mono ?_
  rintro e w1 ⟨rfl, B1⟩
  have hp1 := (hbx.kept (grown_of_below B1) (by simp)).cell
  go_wp2_with fail
  refine (Rrefused_is L HL.out kd n h2 _ rfl v _ ((h.later hb).later B1)).mono ?_
  rintro e w2 ⟨rfl, B2⟩
  go_wp2
  go_ret2
  exact ⟨rfl, hb.trans ((B1.trans (B2.mono B1.size)).mono (by simp))⟩
theorem RHits_ok (L : List Ru) (hL : OkL L) (kd n : Nat) (hk : kd < 7) (h2 : n ≤ 1000000) (v : Value) (w : World) (h : RAt w v (toI L)) :
    Calls Tryd.prog 19 #[.agg #[v], .int .i64 (kd : Int), .int .i64 (n : Int)] w fun e w' => e = .returned (.tuple #[.int .i64 (hitN L kd n : Nat), .int .i64 0]) ∧ Below w.heap.size w w' := by
  have hb : Below w.heap.size w (w.alloc (.cells #[v] 24)) := (Below.refl _ _).alloc (Nat.le_refl _) _
  have hbx := Boxed.new w 24 v
  have HC := Lib.hid (asked_is v (toI L) kd n 0 0 (callE_of hL kd hk n 0 (by omega) (by omega)) _ (h.later hb))
  have HH := Lib.hid (fun W hW => Rhits_is L hL kd (n : Int) (by omega) v W hW)
  rw [Int.toNat_natCast] at HH
  go_enter Tryd.func19, Tryd.ntmps19
  go_wp2_with fail
  refine HC.out.mono ?_
  rintro e w1 ⟨rfl, B1⟩
  have hp1 := (hbx.kept (grown_of_below B1) (by simp)).cell
  go_wp2_with fail
  refine (HH.out _ ((h.later hb).later B1)).mono ?_
  rintro e w2 ⟨rfl, B2⟩
  go_wp2
  go_ret2
  exact ⟨rfl, hb.trans ((B1.trans (B2.mono B1.size)).mono (by simp))⟩
end
theorem aftA_found {L : List Ru} (hL : ∀ r ∈ L, r.ok) {k n j : Nat} (h1 : n < j) (h2 : j ≤ 1000000) (hj : refP L k j = true) (hm : ∀ m, n < m → m < j → refP L k m = false) : aftA (aft L k n) = ((j : Int), 0) := by
  have hi := aft_inv k n L hL
  cases ha : aft L k n with
  | none => rw [ha] at hi; have := hi j h1; rw [hj] at this; cases this
  | some x =>
    rw [ha] at hi
    obtain ⟨i1, i2, i3⟩ := hi
    have hxj : x = j := by
      rcases Nat.lt_trichotomy x j with h | h | h
      · have := hm x i1 h; rw [i2] at this; cases this
      · exact h
      · have := i3 j h1 h; rw [hj] at this; cases this
    subst hxj
    unfold aftA
    simp only
    rw [if_neg (by omega)]
theorem aftA_end {L : List Ru} (hL : ∀ r ∈ L, r.ok) {k n j : Nat} (h2 : 1000000 < j) (hm : ∀ m, n < m → m < j → refP L k m = false) : aftA (aft L k n) = (0, 4) := by
  have hi := aft_inv k n L hL
  cases ha : aft L k n with
  | none => rfl
  | some x =>
    rw [ha] at hi
    obtain ⟨i1, i2, i3⟩ := hi
    unfold aftA
    simp only
    by_cases hx : 1000000 < x
    · rw [if_pos hx]
    · have := hm x i1 (by omega); rw [i2] at this; cases this
set_option maxRecDepth 100000 in
set_option maxHeartbeats 2000000 in
theorem RAfter_ok (L : List Ru) (hL : OkL L) (kd n : Nat) (hk : kd < 7) (h2 : n ≤ 1000000) (v : Value) (w : World) (h : RAt w v (toI L)) :
    Calls Tryd.prog 21 #[.agg #[v], .int .i64 (kd : Int), .int .i64 (n : Int)] w fun e w' => e = .returned (.tuple #[.int .i64 (aftA (aft L kd n)).1, .int .i64 (aftA (aft L kd n)).2]) ∧ Below w.heap.size w w' := by
  have hb : Below w.heap.size w (w.alloc (.cells #[v] 24)) := (Below.refl _ _).alloc (Nat.le_refl _) _
  have hbx := Boxed.new w 24 v
  have HC := Lib.hid (asked_is v (toI L) kd n 0 0 (callE_of hL kd hk n 0 (by omega) (by omega)) _ (h.later hb))
  have HL := Lib.hid hL
  obtain ⟨s, hs⟩ : ∃ s, n + 1 = s := ⟨_, rfl⟩
  have hs1 : (n : Int) + 1 = (s : Int) := by omega
  go_enter Tryd.func21, Tryd.ntmps21
  go_wp2_with fail
  refine HC.out.mono ?_
  rintro e w1 ⟨rfl, B1⟩
  have hp1 := (hbx.kept (grown_of_below B1) (by simp)).cell
  have hB1 := hb.trans (B1.mono hb.size)
  have hr1 := (h.later hb).later B1
  go_wp2_with fail
  go_loopw [9] (fun i wr => ∃ j : Nat, s ≤ j ∧ j ≤ 1000001 ∧ i = .int .i64 j ∧ Hid (∀ m, n < m → m < j → refP L kd m = false) ∧ Below w1.heap.size w1 wr) (fun i _ => 1000001 - (intOf i).toNat)
  case atStart => exact ⟨s, Nat.le_refl _, by omega, rfl, fun m h1 h2 => by omega, Below.refl _ _⟩
  case round =>
    obtain ⟨j, hj1, hj2, rfl, HM, hB⟩ := hrel
    have hpw := cell_later hB hp1
    by_cases hlt : j ≤ 1000000
    · have hi1 : (j : Int) ≤ 1000000 := by omega
      cases hc : refP L kd j with
      | true =>
        have HR := Lib.hid (Rrefused_is L HL.out kd j hlt true hc v _ (hr1.later hB))
        have HA := Lib.hid (aftA_found HL.out.2 (by omega) hlt hc HM.out)
        clear hc
        go_wp2_with fail
        refine HR.out.mono ?_
        rintro e w3 ⟨rfl, B3⟩
        go_wp2
        go_ret2
        exact ⟨by simp [HA.out], hB1.trans ((hB.trans (B3.mono hB.size)).mono hB1.size)⟩
      | false =>
        have HR := Lib.hid (Rrefused_is L HL.out kd j hlt false hc v _ (hr1.later hB))
        have HM2 : Hid (∀ m, n < m → m < j + 1 → refP L kd m = false) := fun m h1 h2 => by
          by_cases hmj : m < j
          · exact HM.out m h1 hmj
          · obtain rfl : m = j := by omega
            exact hc
        clear hc
        go_wp2_with fail
        refine HR.out.mono ?_
        rintro e w3 ⟨rfl, B3⟩
        go_wp2
        go_roundw
        case rel => exact ⟨j + 1, by omega, by omega, by go_num, HM2, hB.trans (B3.mono hB.size)⟩
        case measure => simp [intOf]; omega
    · have hi1 : ¬ ((j : Int) ≤ 1000000) := by omega
      have HA := Lib.hid (aftA_end HL.out.2 (by omega) HM.out)
      go_wp2
      go_ret2
      exact ⟨by simp [HA.out], hB1.trans (hB.mono hB1.size)⟩
end Go.Proofs.YtldebakeebajkaaDoor
