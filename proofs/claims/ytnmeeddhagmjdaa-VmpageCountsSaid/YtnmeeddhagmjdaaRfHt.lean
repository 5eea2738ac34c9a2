/- How many calls are refused; the functions that ask a plan. -/
import Derived.Test.YtnmeeddhagmjdaaRfTl
import Derived.Test.YtnmeeddhagmjdaaBeh
namespace Go.Proofs.Ytnmeeddhagmjdaa
open Go.RowKit Go.Shelf
attribute [local go_sem] Oper.semAt_some

set_option maxRecDepth 100000 in
set_option maxHeartbeats 2000000 in
theorem hits_is (L : List Ru) (hL : OkL L) (kd n : Nat) (hn : n ≤ 49708) (v : Value) (w : World) (h : RAt w v (toI L)) :
    Calls Try.prog 85 #[.agg #[v], .int .i64 (kd : Int), .int .i64 (n : Int)] w fun e w' => e = .returned (.int .i64 (hitN L kd n : Nat)) ∧ Below w.heap.size w w' := by
  have hb : Below w.heap.size w (w.alloc (.cells #[v] 24)) := (Below.refl _ _).alloc (Nat.le_refl _) _
  have h1 : ¬ (49708 : Int) < (n : Int) := by omega
  have hle := hitN_le L kd n hL.2
  have HT := Lib.hid (tally_is L hL kd n (by omega) v _ (h.later hb))
  have HL := Lib.hid hL
  go_enter Try.func85, Try.ntmps85
  go_wp2_with fail
  refine HT.out.mono ?_
  rintro e w1 ⟨rfl, hT, hB1⟩
  simp only [World.size_alloc] at hT hB1 ⊢
  have hB : Below w.heap.size w w1 := hb.trans (hB1.mono (by omega))
  go_wp2_with fail
  go_loopw [8, 38] (fun s i wr => ∃ k : Nat, k ≤ n + 1 ∧ i = .int .i64 k ∧ s = .int .i64 (hitB L kd k : Nat) ∧ w1 = wr) (fun _ i _ => n + 1 - (intOf i).toNat)
  case atStart => exact ⟨0, Nat.zero_le _, rfl, rfl, rfl⟩
  case round =>
    obtain ⟨k, hk, rfl, rfl, rfl⟩ := hrel
    by_cases hlt : k < n + 1
    · have hc := hT.cell k hlt
      have hc50 := cnt_le L kd k
      have hcp := cnt_pos L kd k
      have h50 := HL.out.1
      have hs : Hid (hitB L kd (k + 1) = hitB L kd k + if refP L kd k then 1 else 0) := rfl
      rw [Nat.mod_eq_of_lt (by omega)] at hc
      have hbk := hitB_le L kd k
      obtain ⟨c, hcc⟩ : ∃ c, cnt L kd k = c := ⟨_, rfl⟩
      obtain ⟨m, hm⟩ : ∃ m, hitB L kd k = m := ⟨_, rfl⟩
      rw [hcc] at hc hc50 hcp
      rw [hm] at hbk hs ⊢
      have hi1 : (k : Int) < (n : Int) + 1 := by omega
      have hTl := hT.lt
      by_cases hc0 : 0 < c
      · have hc1 : (0 : Int) < (c : Int) := by omega
        have hs2 : Hid (hitB L kd (k + 1) = m + 1) := by rw [hs.out, ← hcp, decide_eq_true hc0]; rfl
        clear hcc hm hcp hs hc0
        go_wp2
        go_roundw
        case rel => exact ⟨k + 1, by omega, by go_num, by rw [hs2.out]; go_num, by trivial⟩
        case measure => simp [intOf]; omega
      · have hc1 : ¬ (0 : Int) < (c : Int) := by omega
        have hs2 : Hid (hitB L kd (k + 1) = m) := by rw [hs.out, ← hcp, decide_eq_false hc0]; rfl
        clear hcc hm hcp hs hc0
        go_wp2
        go_roundw
        case rel => exact ⟨k + 1, by omega, by go_num, by rw [hs2.out], by trivial⟩
        case measure => simp [intOf]; omega
    · have hi1 : ¬ ((k : Int) < (n : Int) + 1) := by omega
      have hkn : k = n + 1 := by omega
      have hs : Hid (hitB L kd k = hitN L kd n) := by rw [hkn]; rfl
      rw [hs.out]
      clear hkn
      go_wp2
      go_ret
      exact ⟨rfl, hB⟩

end Go.Proofs.Ytnmeeddhagmjdaa
