/- The first call that is refused after a call. -/
import Derived.Test.YtnmeeddhagmjdaaRfLt
namespace Go.Proofs.Ytnmeeddhagmjdaa
open Go.RowKit
attribute [local go_sem] Oper.semAt_some

theorem later_no (r : Ru) (h : r.ok) (n : Nat) (hn : n ≤ 1000000) (hl : later r n = none) (w : World) :
    Calls Try.prog 108 #[rv r.toI, .int .i64 (n : Int)] w fun e w' => e = .returned (.tuple #[.agg #[.int .i64 0, .int .i64 0, .int .i64 0, .int .i64 0], .bool false]) ∧ Below w.heap.size w w' := by
  have := later_is r h n hn w
  rw [hl] at this
  exact this
theorem later_yes (r r' : Ru) (h : r.ok) (n : Nat) (hn : n ≤ 1000000) (hl : later r n = some r') (w : World) :
    Calls Try.prog 108 #[rv r.toI, .int .i64 (n : Int)] w fun e w' => e = .returned (.tuple #[.agg #[.int .i64 (r'.k : Int), .int .i64 (r'.f : Int), .int .i64 (r'.e : Int), .int .i64 (r'.t : Int)], .bool true]) ∧ Below w.heap.size w w' := by
  have := later_is r h n hn w
  rw [hl] at this
  exact this
def aftI : Option Nat → Int
  | none => 0
  | some x => x

set_option maxRecDepth 100000 in
set_option maxHeartbeats 4000000 in
theorem after_is (L : List Ru) (hL : OkL L) (kd m : Nat) (hm : m ≤ 1000000) (v : Value) (w : World) (h : RAt w v (toI L)) :
    Calls Try.prog 107 #[.agg #[v], .int .i64 (kd : Int), .int .i64 (m : Int)] w fun e w' => e = .returned (.tuple #[.int .i64 (aftI (aft L kd m)), .bool (aft L kd m).isSome]) ∧ Below w.heap.size w w' := by
  obtain ⟨a, cap, rfl⟩ := h.form
  obtain ⟨n, hn⟩ : ∃ n, L.length = n := ⟨_, rfl⟩
  have HN := Lib.hid hn
  have hn50 : n ≤ 50 := by have := hL.1; omega
  rw [toI_len, hn] at h
  rw [toI_len, hn]
  clear hn
  obtain ⟨WL, hWL⟩ : ∃ x, w.alloc (.cells #[.slice a n cap] 24) = x := ⟨_, rfl⟩
  have hbL : Below w.heap.size w WL := by rw [← hWL]; exact (Below.refl _ _).alloc (Nat.le_refl _) _
  have bP : Boxed WL w.heap.size 24 (.slice a n cap) := by rw [← hWL]; exact Boxed.new w _ _
  have hP := bP.cell
  have hLL := h.later hbL
  go_enter Try.func107, Try.ntmps107
  go_wp2_with fail
  try rw [hWL]
  clear hWL
  go_loopw [6, 7, 15] (fun nx ok j wr => ∃ k : Nat, k ≤ n ∧ j = .int .i64 k ∧ nx = .int .i64 (aftI (aft (L.take k) kd m)) ∧ ok = .bool (aft (L.take k) kd m).isSome ∧ Below WL.heap.size WL wr) (fun _ _ i _ => n - (intOf i).toNat)
  case atStart => exact ⟨0, Nat.zero_le _, rfl, rfl, rfl, Below.refl _ _⟩
  case round =>
    obtain ⟨k, hk, rfl, rfl, rfl, hB⟩ := hrel
    by_cases hlt : k < n
    · obtain ⟨r, hx⟩ : ∃ x, L[k]? = some x := ⟨_, List.getElem?_eq_getElem (by rw [HN.out]; exact hlt)⟩
      have hr := hL.get hx
      obtain ⟨b, off, rfl, _, k1, k2, k3, k4⟩ := hLL.at k _ (toI_some hx)
      replace k1 := cell_later hB k1
      replace k2 := cell_later hB k2
      replace k3 := cell_later hB k3
      replace k4 := cell_later hB k4
      have hi1 : (k : Int) < (n : Int) := by omega
      have hst := aft_take L kd m k r hx
      obtain ⟨acc, hacc⟩ : ∃ acc, aft (L.take k) kd m = acc := ⟨_, rfl⟩
      rw [hacc] at hst ⊢
      obtain ⟨rk, rf, re, rt⟩ := r
      simp only [Ru.toI] at k1 k2 k3 k4
      have hsz := hB.size
      by_cases hkd : rk = kd
      · subst hkd
        have hq : ((rk : Int) != (rk : Int)) = false := by simp
        cases hl : later ⟨rk, rf, re, rt⟩ m with
        | none =>
          have HS : Hid (aft (L.take (k + 1)) rk m = acc) := by unfold Hid; rw [hst]; unfold aftS; simp [hl]
          have HL := Lib.hid (later_no _ hr m hm hl)
          clear hx hst hacc hr hl
          cases acc with
          | none =>
            simp only [aftI, Option.isSome_none]
            go_wp2_with fail
            refine (HL.out _).mono ?_
            rintro e w1 ⟨rfl, hB1⟩
            go_wp2
            go_roundw
            case rel => exact ⟨k + 1, by omega, by go_num, by rw [HS.out] <;> rfl, by rw [HS.out] <;> rfl, ((hB.alloc hB.size _).trans (hB1.mono (by simp <;> omega))).alloc (by have := hB1.size; simp at this <;> omega) _⟩
            case measure => simp [intOf]; omega
          | some x =>
            simp only [aftI, Option.isSome_some]
            go_wp2_with fail
            refine (HL.out _).mono ?_
            rintro e w1 ⟨rfl, hB1⟩
            go_wp2
            go_roundw
            case rel => exact ⟨k + 1, by omega, by go_num, by rw [HS.out] <;> rfl, by rw [HS.out] <;> rfl, ((hB.alloc hB.size _).trans (hB1.mono (by simp <;> omega))).alloc (by have := hB1.size; simp at this <;> omega) _⟩
            case measure => simp [intOf]; omega
        | some r' =>
          have HL := Lib.hid (later_yes _ r' hr m hm hl)
          cases acc with
          | none =>
            have HS : Hid (aft (L.take (k + 1)) rk m = some r'.f) := by unfold Hid; rw [hst]; unfold aftS; simp [hl]
            clear hx hst hacc hr hl
            simp only [aftI, Option.isSome_none]
            go_wp2_with fail
            refine (HL.out _).mono ?_
            rintro e w1 ⟨rfl, hB1⟩
            go_wp2
            go_roundw
            case rel => exact ⟨k + 1, by omega, by go_num, by rw [HS.out] <;> rfl, by rw [HS.out] <;> rfl, ((hB.alloc hB.size _).trans (hB1.mono (by simp <;> omega))).alloc (by have := hB1.size; simp at this <;> omega) _⟩
            case measure => simp [intOf]; omega
          | some x =>
            by_cases hlx : r'.f < x
            · have HS : Hid (aft (L.take (k + 1)) rk m = some r'.f) := by unfold Hid; rw [hst]; unfold aftS; simp [hl, hlx]
              have hlx1 : (r'.f : Int) < (x : Int) := by omega
              clear hx hst hacc hr hl
              simp only [aftI, Option.isSome_some]
              go_wp2_with fail
              refine (HL.out _).mono ?_
              rintro e w1 ⟨rfl, hB1⟩
              go_wp2
              go_roundw
              case rel => exact ⟨k + 1, by omega, by go_num, by rw [HS.out] <;> rfl, by rw [HS.out] <;> rfl, ((hB.alloc hB.size _).trans (hB1.mono (by simp <;> omega))).alloc (by have := hB1.size; simp at this <;> omega) _⟩
              case measure => simp [intOf]; omega
            · have HS : Hid (aft (L.take (k + 1)) rk m = some x) := by unfold Hid; rw [hst]; unfold aftS; simp [hl, hlx]
              have hlx1 : ¬ (r'.f : Int) < (x : Int) := by omega
              clear hx hst hacc hr hl
              simp only [aftI, Option.isSome_some]
              go_wp2_with fail
              refine (HL.out _).mono ?_
              rintro e w1 ⟨rfl, hB1⟩
              go_wp2
              go_roundw
              case rel => exact ⟨k + 1, by omega, by go_num, by rw [HS.out] <;> rfl, by rw [HS.out] <;> rfl, ((hB.alloc hB.size _).trans (hB1.mono (by simp <;> omega))).alloc (by have := hB1.size; simp at this <;> omega) _⟩
              case measure => simp [intOf]; omega
      · have hq : ((rk : Int) != (kd : Int)) = true := by simp; omega
        have HS : Hid (aft (L.take (k + 1)) kd m = acc) := by unfold Hid; rw [hst]; unfold aftS; simp [hkd]
        clear hx hst hacc hr hkd
        go_wp2
        go_roundw
        case rel => exact ⟨k + 1, by omega, by go_num, by rw [HS.out], by rw [HS.out], hB.alloc hB.size _⟩
        case measure => simp [intOf]; omega
    · have hi1 : ¬ ((k : Int) < (n : Int)) := by omega
      have hkn : k = n := by omega
      have hs : L.take k = L := by rw [hkn, ← HN.out, List.take_length]
      rw [hs]
      clear hs hkn
      go_wp2
      go_ret2
      exact ⟨rfl, hbL.trans (hB.mono hbL.size)⟩

set_option maxRecDepth 100000 in
set_option maxHeartbeats 1000000 in
theorem refuses_is (L : List Ru) (hL : OkL L) (kd n : Nat) (h1 : 1 ≤ n) (hn : n ≤ 1000001) (v : Value) (w : World) (h : RAt w v (toI L)) :
    Calls Try.prog 106 #[.agg #[v], .int .i64 (kd : Int), .int .i64 (n : Int)] w fun e w' => e = .returned (.bool (refP L kd n)) ∧ Below w.heap.size w w' := by
  obtain ⟨m, rfl⟩ : ∃ m, n = m + 1 := ⟨n - 1, by omega⟩
  have hb : Below w.heap.size w (w.alloc (.cells #[v] 24)) := (Below.refl _ _).alloc (Nat.le_refl _) _
  have ha := aft_ref hL.2 kd (m + 1) h1
  rw [Nat.add_sub_cancel] at ha
  have HA := Lib.hid (after_is L hL kd m (by omega) v _ (h.later hb))
  have hw1 : IntKind.i64.wrap (((m + 1 : Nat) : Int) - 1) = (m : Int) := IntWalk.i64_in _ (by omega) |>.trans (by omega)
  have hw2 : ((m + 1 : Nat) : Int) - 1 = (m : Int) := by omega
  have hw3 : ((m : Int) + 1) - 1 = (m : Int) := by omega
  rw [← ha]
  clear ha
  cases hq : aft L kd m with
  | none =>
    rw [hq] at HA
    simp only [aftI, Option.isSome_none] at HA
    go_enter Try.func106, Try.ntmps106
    go_wp2_with fail
    try rw [hw3]
    refine HA.out.mono ?_
    rintro e w1 ⟨rfl, hB1⟩
    go_wp2
    go_ret
    exact ⟨by simp, hb.trans (hB1.mono (by simp))⟩
  | some x =>
    rw [hq] at HA
    simp only [aftI, Option.isSome_some] at HA
    by_cases hx : x = m + 1
    · subst hx
      go_enter Try.func106, Try.ntmps106
      go_wp2_with fail
      try rw [hw3]
      refine HA.out.mono ?_
      rintro e w1 ⟨rfl, hB1⟩
      go_wp2
      go_ret
      exact ⟨by simp, hb.trans (hB1.mono (by simp))⟩
    · have hx1 : ((x : Int) == (m : Int) + 1) = false := by simp; omega
      have hx2 : (x : Int) ≠ (m : Int) + 1 := by omega
      go_enter Try.func106, Try.ntmps106
      go_wp2_with fail
      try rw [hw3]
      refine HA.out.mono ?_
      rintro e w1 ⟨rfl, hB1⟩
      go_wp2
      go_ret
      exact ⟨by simp [hx], hb.trans (hB1.mono (by simp))⟩
end Go.Proofs.Ytnmeeddhagmjdaa
