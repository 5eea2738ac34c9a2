/- How many calls are refused; the functions that ask a plan. -/
import Derived.Test.YtldebakeebajkaaDoorRfTl
import Derived.Test.YtldebakeebajkaaDoorBeh
namespace Go.Proofs.YtldebakeebajkaaDoor
open Go.RowKit Go.Shelf
attribute [local go_sem] Oper.semAt_some

set_option maxRecDepth 100000 in
set_option maxHeartbeats 2000000 in
theorem hits_is (L : List Ru) (hL : OkL L) (kd n : Nat) (hn : n ≤ 49708) (v : Value) (w : World) (h : RAt w v (toI L)) :
    Calls Tryd.prog 47 #[.agg #[v], .int .i64 (kd : Int), .int .i64 (n : Int)] w fun e w' => e = .returned (.int .i64 (hitN L kd n : Nat)) ∧ Below w.heap.size w w' := by
  have hb : Below w.heap.size w (w.alloc (.cells #[v] 24)) := (Below.refl _ _).alloc (Nat.le_refl _) _
  have h1 : ¬ (49708 : Int) < (n : Int) := by omega
  have hle := hitN_le L kd n hL.2
  have HT := Lib.hid (tally_is L hL kd n (by omega) v _ (h.later hb))
  have HL := Lib.hid hL
  go_enter Tryd.func47, Tryd.ntmps47
  go_wp2_with fail
  refine HT.out.mono ?_
  rintro e w1 ⟨rfl, hT, hB1⟩
  simp only [World.size_alloc] at hT hB1 ⊢
  have hB : Below w.heap.size w w1 := hb.trans (hB1.mono (by omega))
  go_wp2_with fail
  go_loopw [8, 38] (fun s i wr => ∃ k : Nat, k ≤ n + 1 ∧ i = .int .i64 k ∧ s = .int .i64 (hitB L kd k : Nat) ∧ w1 = wr) (fun _ i _ => n + 1 - (intOf i).toNat)
  case atStart => exact ⟨0, Nat.zero_le _, rfl, rfl, rfl⟩
  case round =>
    obtain ⟨k, hk, rfl, rfl, rfl⟩ := hrel
    by_cases hlt : k < n + 1
    · have hc := hT.cell k hlt
      have hc50 := cnt_le L kd k
      have hcp := cnt_pos L kd k
      have h50 := HL.out.1
      have hs : Hid (hitB L kd (k + 1) = hitB L kd k + if refP L kd k then 1 else 0) := rfl
      rw [Nat.mod_eq_of_lt (by omega)] at hc
      have hbk := hitB_le L kd k
      obtain ⟨c, hcc⟩ : ∃ c, cnt L kd k = c := ⟨_, rfl⟩
      obtain ⟨m, hm⟩ : ∃ m, hitB L kd k = m := ⟨_, rfl⟩
      rw [hcc] at hc hc50 hcp
      rw [hm] at hbk hs ⊢
      have hi1 : (k : Int) < (n : Int) + 1 := by omega
      have hTl := hT.lt
      by_cases hc0 : 0 < c
      · have hc1 : (0 : Int) < (c : Int) := by omega
        have hs2 : Hid (hitB L kd (k + 1) = m + 1) := by rw [hs.out, ← hcp, decide_eq_true hc0]; rfl
        clear hcc hm hcp hs hc0
        go_wp2
        go_roundw
        case rel => exact ⟨k + 1, by omega, by go_num, by rw [hs2.out]; go_num, by trivial⟩
        case measure => simp [intOf]; omega
      · have hc1 : ¬ (0 : Int) < (c : Int) := by omega
        have hs2 : Hid (hitB L kd (k + 1) = m) := by rw [hs.out, ← hcp, decide_eq_false hc0]; rfl
        clear hcc hm hcp hs hc0
        go_wp2
        go_roundw
        case rel => exact ⟨k + 1, by omega, by go_num, by rw [hs2.out], by trivial⟩
        case measure => simp [intOf]; omega
    · have hi1 : ¬ ((k : Int) < (n : Int) + 1) := by omega
      have hkn : k = n + 1 := by omega
      have hs : Hid (hitB L kd k = hitN L kd n) := by rw [hkn]; rfl
      rw [hs.out]
      clear hkn
      go_wp2
      go_ret
      exact ⟨rfl, hB⟩

/-- What is wrong with a question. -/
def callE (l : List RlI) (k n least : Int) : Int := if (chkP l).2 ≠ 0 then (chkP l).2 else if isK k = false then 2 else if n < least ∨ 1000000 < n then 7 else 0
theorem callE_ok {l : List RlI} {k n least : Int} (h : callE l k n least = 0) : ∃ (L : List Ru) (kd : Nat), l = toI L ∧ OkL L ∧ k = (kd : Int) ∧ kd < 7 ∧ least ≤ n ∧ n ≤ 1000000 := by
  unfold callE at h
  split at h
  · contradiction
  · rename_i h1
    obtain ⟨L, hl, hL⟩ := chkP_ok (l := l) (by simpa using h1)
    split at h
    · cases h
    · rename_i h2
      split at h
      · cases h
      · rename_i h3
        unfold isK at h2
        simp at h2
        exact ⟨L, k.toNat, hl, hL, by omega, by omega, by omega, by omega⟩
theorem callE_of {L : List Ru} (hL : OkL L) (kd : Nat) (hk : kd < 7) (n least : Int) (h1 : least ≤ n) (h2 : n ≤ 1000000) : callE (toI L) kd n least = 0 := by
  unfold callE
  rw [chkP_of hL, if_neg (by simp), if_neg (by unfold isK; simp; omega), if_neg (by omega)]

set_option maxRecDepth 100000 in
set_option maxHeartbeats 1000000 in
theorem checkCall_is (v : Value) (l : List RlI) (k n least : Int) (c : Int) (hc : callE l k n least = c) (w : World) (h : RAt w v l) :
    Calls Tryd.prog 43 #[.agg #[v], .int .i64 k, .int .i64 n, .int .i64 least] w fun e w' => e = .returned (.int .i64 c) ∧ Below w.heap.size w w' := by
  have hb : Below w.heap.size w (w.alloc (.cells #[v] 24)) := (Below.refl _ _).alloc (Nat.le_refl _) _
  obtain ⟨i, e, hie⟩ : ∃ i e, chkP l = (i, e) := ⟨_, _, rfl⟩
  have HC := Lib.hid (Check_is v l i e hie _ (h.later hb))
  unfold callE at hc
  rw [hie] at hc
  simp only at hc
  by_cases he : e = 0
  · subst he
    rw [if_neg (by simp)] at hc
    obtain ⟨b, hbk⟩ : ∃ b, isK k = b := ⟨_, rfl⟩
    have HK := Lib.hid hbk
    rw [hbk] at hc
    clear hbk hie
    cases b
    · rw [if_pos rfl] at hc
      subst hc
      go_enter Tryd.func43, Tryd.ntmps43
      go_wp2_with fail
      refine HC.out.mono ?_
      rintro e w1 ⟨rfl, B1⟩
      go_wp2_with fail
      refine (isKind_is k false HK.out _).mono ?_
      rintro e w2 ⟨rfl, rfl⟩
      go_wp2
      go_ret
      exact ⟨rfl, hb.trans (B1.mono (by simp))⟩
    · rw [if_neg (by simp)] at hc
      by_cases h1 : n < least
      · rw [if_pos (.inl h1)] at hc
        subst hc
        go_enter Tryd.func43, Tryd.ntmps43
        go_wp2_with fail
        refine HC.out.mono ?_
        rintro e w1 ⟨rfl, B1⟩
        go_wp2_with fail
        refine (isKind_is k true HK.out _).mono ?_
        rintro e w2 ⟨rfl, rfl⟩
        go_wp2
        go_ret
        exact ⟨rfl, hb.trans (B1.mono (by simp))⟩
      · by_cases h2 : 1000000 < n
        · rw [if_pos (.inr h2)] at hc
          subst hc
          go_enter Tryd.func43, Tryd.ntmps43
          go_wp2_with fail
          refine HC.out.mono ?_
          rintro e w1 ⟨rfl, B1⟩
          go_wp2_with fail
          refine (isKind_is k true HK.out _).mono ?_
          rintro e w2 ⟨rfl, rfl⟩
          go_wp2
          go_ret
          exact ⟨rfl, hb.trans (B1.mono (by simp))⟩
        · rw [if_neg (by omega)] at hc
          subst hc
          go_enter Tryd.func43, Tryd.ntmps43
          go_wp2_with fail
          refine HC.out.mono ?_
          rintro e w1 ⟨rfl, B1⟩
          go_wp2_with fail
          refine (isKind_is k true HK.out _).mono ?_
          rintro e w2 ⟨rfl, rfl⟩
          go_wp2
          go_ret
          exact ⟨rfl, hb.trans (B1.mono (by simp))⟩
  · rw [if_pos he] at hc
    subst hc
    have hq : (e != 0) = true := by simp [he]
    clear hie he
    go_enter Tryd.func43, Tryd.ntmps43
    go_wp2_with fail
    refine HC.out.mono ?_
    rintro e w1 ⟨rfl, B1⟩
    go_wp2
    go_ret
    exact ⟨rfl, hb.trans (B1.mono (by simp))⟩

section
set_option maxRecDepth 100000
set_option maxHeartbeats 1000000
theorem Refused_bad (v : Value) (l : List RlI) (k n : Int) (c : Int) (hc : callE l k n 1 = c) (h0 : c ≠ 0) (w : World) (h : RAt w v l) :
    Calls Tryd.prog 16 #[.agg #[v], .int .i64 k, .int .i64 n] w fun e w' => e = .returned (.tuple #[.bool false, .int .i64 c]) ∧ Below w.heap.size w w' := by
  have hb : Below w.heap.size w (w.alloc (.cells #[v] 24)) := (Below.refl _ _).alloc (Nat.le_refl _) _
  have HC := Lib.hid (checkCall_is v l k n 1 c hc _ (h.later hb))
  have hq : (c != 0) = true := by simp [h0]
  clear hc h0
  go_enter Tryd.func16, Tryd.ntmps16
  go_wp2_with fail
  refine HC.out.mono ?_
  rintro e w1 ⟨rfl, B1⟩
  go_wp2
  go_ret2
  exact ⟨rfl, hb.trans (B1.mono (by simp))⟩
theorem Hits_bad (v : Value) (l : List RlI) (k n : Int) (c : Int) (hc : callE l k n 0 = c) (h0 : c ≠ 0) (w : World) (h : RAt w v l) :
    Calls Tryd.prog 18 #[.agg #[v], .int .i64 k, .int .i64 n] w fun e w' => e = .returned (.tuple #[.int .i64 0, .int .i64 c]) ∧ Below w.heap.size w w' := by
  have hb : Below w.heap.size w (w.alloc (.cells #[v] 24)) := (Below.refl _ _).alloc (Nat.le_refl _) _
  have HC := Lib.hid (checkCall_is v l k n 0 c hc _ (h.later hb))
  have hq : (c != 0) = true := by simp [h0]
  clear hc h0
  go_enter Tryd.func18, Tryd.ntmps18
  go_wp2_with fail
  refine HC.out.mono ?_
  rintro e w1 ⟨rfl, B1⟩
  go_wp2
  go_ret2
  exact ⟨rfl, hb.trans (B1.mono (by simp))⟩
theorem After_bad (v : Value) (l : List RlI) (k n : Int) (c : Int) (hc : callE l k n 0 = c) (h0 : c ≠ 0) (w : World) (h : RAt w v l) :
    Calls Tryd.prog 20 #[.agg #[v], .int .i64 k, .int .i64 n] w fun e w' => e = .returned (.tuple #[.int .i64 0, .int .i64 c]) ∧ Below w.heap.size w w' := by
  have hb : Below w.heap.size w (w.alloc (.cells #[v] 24)) := (Below.refl _ _).alloc (Nat.le_refl _) _
  have HC := Lib.hid (checkCall_is v l k n 0 c hc _ (h.later hb))
  have hq : (c != 0) = true := by simp [h0]
  clear hc h0
  go_enter Tryd.func20, Tryd.ntmps20
  go_wp2_with fail
  refine HC.out.mono ?_
  rintro e w1 ⟨rfl, B1⟩
  go_wp2
  go_ret2
  exact ⟨rfl, hb.trans (B1.mono (by simp))⟩
theorem Refused_ok (L : List Ru) (hL : OkL L) (kd n : Nat) (hk : kd < 7) (h1 : 1 ≤ n) (h2 : n ≤ 1000000) (v : Value) (w : World) (h : RAt w v (toI L)) :
    Calls Tryd.prog 16 #[.agg #[v], .int .i64 (kd : Int), .int .i64 (n : Int)] w fun e w' => e = .returned (.tuple #[.bool (refP L kd n), .int .i64 0]) ∧ Below w.heap.size w w' := by
  have hb : Below w.heap.size w (w.alloc (.cells #[v] 24)) := (Below.refl _ _).alloc (Nat.le_refl _) _
  have hbx := Boxed.new w 24 v
  have HC := Lib.hid (checkCall_is v (toI L) kd n 1 0 (callE_of hL kd hk n 1 (by omega) (by omega)) _ (h.later hb))
  have HL := Lib.hid hL
  go_enter Tryd.func16, Tryd.ntmps16
  go_wp2_with fail
  refine HC.out.mono ?_
  rintro e w1 ⟨rfl, B1⟩
  have hp1 := (hbx.kept (grown_of_below B1) (by simp)).cell
  go_wp2_with fail
  refine (refuses_is L HL.out kd n h1 (by omega) v _ ((h.later hb).later B1)).mono ?_
  rintro e w2 ⟨rfl, B2⟩
  go_wp2
  go_ret2
  exact ⟨rfl, hb.trans ((B1.trans (B2.mono B1.size)).mono (by simp))⟩
theorem Hits_ok (L : List Ru) (hL : OkL L) (kd n : Nat) (hk : kd < 7) (h2 : n ≤ 49708) (v : Value) (w : World) (h : RAt w v (toI L)) :
    Calls Tryd.prog 18 #[.agg #[v], .int .i64 (kd : Int), .int .i64 (n : Int)] w fun e w' => e = .returned (.tuple #[.int .i64 (hitN L kd n : Nat), .int .i64 0]) ∧ Below w.heap.size w w' := by
  have hb : Below w.heap.size w (w.alloc (.cells #[v] 24)) := (Below.refl _ _).alloc (Nat.le_refl _) _
  have hbx := Boxed.new w 24 v
  have HC := Lib.hid (checkCall_is v (toI L) kd n 0 0 (callE_of hL kd hk n 0 (by omega) (by omega)) _ (h.later hb))
  have HL := Lib.hid hL
  go_enter Tryd.func18, Tryd.ntmps18
  go_wp2_with fail
  refine HC.out.mono ?_
  rintro e w1 ⟨rfl, B1⟩
  have hp1 := (hbx.kept (grown_of_below B1) (by simp)).cell
  go_wp2_with fail
  refine (hits_is L HL.out kd n h2 v _ ((h.later hb).later B1)).mono ?_
  rintro e w2 ⟨rfl, B2⟩
  go_wp2
  go_ret2
  exact ⟨rfl, hb.trans ((B1.trans (B2.mono B1.size)).mono (by simp))⟩
/-- What After answers. -/
def aftA (o : Option Nat) : Int × Int := match o with
  | none => (0, 4)
  | some x => if 1000000 < x then (0, 4) else ((x : Int), 0)
theorem After_ok (L : List Ru) (hL : OkL L) (kd n : Nat) (hk : kd < 7) (h2 : n ≤ 1000000) (v : Value) (w : World) (h : RAt w v (toI L)) :
    Calls Tryd.prog 20 #[.agg #[v], .int .i64 (kd : Int), .int .i64 (n : Int)] w fun e w' => e = .returned (.tuple #[.int .i64 (aftA (aft L kd n)).1, .int .i64 (aftA (aft L kd n)).2]) ∧ Below w.heap.size w w' := by
  have hb : Below w.heap.size w (w.alloc (.cells #[v] 24)) := (Below.refl _ _).alloc (Nat.le_refl _) _
  have hbx := Boxed.new w 24 v
  have HC := Lib.hid (checkCall_is v (toI L) kd n 0 0 (callE_of hL kd hk n 0 (by omega) (by omega)) _ (h.later hb))
  have HA := Lib.hid (fun w' h' => after_is L hL kd n h2 v w' h')
  cases ha : aft L kd n with
  | none =>
    rw [ha] at HA
    simp only [aftI, Option.isSome_none] at HA
    go_enter Tryd.func20, Tryd.ntmps20
    go_wp2_with fail
    refine HC.out.mono ?_
    rintro e w1 ⟨rfl, B1⟩
    have hp1 := (hbx.kept (grown_of_below B1) (by simp)).cell
    go_wp2_with fail
    refine (HA.out _ ((h.later hb).later B1)).mono ?_
    rintro e w2 ⟨rfl, B2⟩
    go_wp2
    go_ret2
    exact ⟨rfl, hb.trans ((B1.trans (B2.mono B1.size)).mono (by simp))⟩
  | some x =>
    rw [ha] at HA
    simp only [aftI, Option.isSome_some] at HA
    by_cases hx : 1000000 < x
    · have hx1 : (1000000 : Int) < (x : Int) := by omega
      have HX : Hid (aftA (some x) = (0, 4)) := by unfold Hid aftA; simp only; rw [if_pos hx]
      go_enter Tryd.func20, Tryd.ntmps20
      go_wp2_with fail
      refine HC.out.mono ?_
      rintro e w1 ⟨rfl, B1⟩
      have hp1 := (hbx.kept (grown_of_below B1) (by simp)).cell
      go_wp2_with fail
      refine (HA.out _ ((h.later hb).later B1)).mono ?_
      rintro e w2 ⟨rfl, B2⟩
      go_wp2
      go_ret2
      exact ⟨by rw [HX.out]; rfl, hb.trans ((B1.trans (B2.mono B1.size)).mono (by simp))⟩
    · have hx1 : ¬ (1000000 : Int) < (x : Int) := by omega
      have HX : Hid (aftA (some x) = ((x : Int), 0)) := by unfold Hid aftA; simp only; rw [if_neg hx]
      go_enter Tryd.func20, Tryd.ntmps20
      go_wp2_with fail
      refine HC.out.mono ?_
      rintro e w1 ⟨rfl, B1⟩
      have hp1 := (hbx.kept (grown_of_below B1) (by simp)).cell
      go_wp2_with fail
      refine (HA.out _ ((h.later hb).later B1)).mono ?_
      rintro e w2 ⟨rfl, B2⟩
      go_wp2
      go_ret2
      exact ⟨by rw [HX.out]; rfl, hb.trans ((B1.trans (B2.mono B1.size)).mono (by simp))⟩
end
end Go.Proofs.YtldebakeebajkaaDoor
