/- The other way to check a set. -/
import Derived.Test.YtgljfiihaehedaaCheck2
namespace Go.Proofs.Ytgljfiihaehedaa
open Go.RowKit
attribute [local go_sem] Oper.semAt_some

set_option maxRecDepth 100000 in
set_option maxHeartbeats 400000 in
theorem Valid_is (a b : Int) (ha : I64 a) (r : Bool) (hr : vld (a, b) = r) (w : World) : Calls Try.prog 49 #[.agg #[.int .i64 a, .int .i64 b]] w fun e w' => e = .returned (.bool r) ∧ Below w.heap.size w w' := by
  unfold I64 at ha
  unfold vld at hr
  have HR : Hid ((decide (0 ≤ a) && decide (1 ≤ b) && decide (b ≤ 1024 - a)) = r) := hr
  clear hr
  by_cases h1 : 0 ≤ a <;> by_cases h4 : a < 1024 <;> by_cases h2 : 1 ≤ b <;> by_cases h3 : b ≤ 1024 - a
  all_goals first | (exfalso; omega) | skip
  all_goals
    go_enter Try.func49, Try.ntmps49
    go_wp2
    go_ret
    exact ⟨ret_bool (by rw [← HR.out]; first | simp [h1, h2, h3] | simp [h1, h2, h3, h4]), (Below.refl _ _).alloc (Nat.le_refl _) _⟩

set_option maxRecDepth 100000 in
set_option maxHeartbeats 2000000 in
theorem RCheck_is (v : Value) (l : List SpI) (hf : Fit l) (hl64 : l.length ≤ 9223372036854775807) (c : Int) (hc : chkS l = c) (w : World) (h : SAt w v l) :
    Calls Try.prog 16 #[v] w fun e w' => e = .returned (.int .i64 c) ∧ Below w.heap.size w w' := by
  obtain ⟨a, cap, rfl⟩ := h.form
  unfold chkS chkL at hc
  by_cases h1 : (512 : Int) < (l.length : Int)
  · have h3 : (3 : Int) = c := by rw [← hc]; simp [h1]
    subst h3
    clear hc
    go_enter Try.func16, Try.ntmps16
    go_wp2
    go_ret
    exact ⟨rfl, Below.refl _ _⟩
  · rw [if_neg h1] at hc
    have HC := Lib.hid hc
    clear hc
    obtain ⟨n, hn⟩ : ∃ n, l.length = n := ⟨_, rfl⟩
    have HN := Lib.hid hn
    rw [hn] at h h1 hl64
    rw [hn]
    clear hn
    go_enter Try.func16, Try.ntmps16
    go_wp2_with fail
    go_loopw [3] (fun i wr => ∃ k : Nat, k ≤ n ∧ i = .int .i64 k ∧ Hid (allV (l.take k) = true) ∧ Below w.heap.size w wr) (fun i _ => n - (intOf i).toNat)
    case atStart => exact ⟨0, Nat.zero_le _, rfl, rfl, Below.refl _ _⟩
    case round =>
      obtain ⟨k, hk, rfl, HV, hB⟩ := hrel
      by_cases hlt : k < n
      · obtain ⟨⟨p, q⟩, hx⟩ : ∃ x, l[k]? = some x := ⟨_, List.getElem?_eq_getElem (by rw [HN.out]; exact hlt)⟩
        obtain ⟨b, off, rfl, _, k1, k2⟩ := h.at k _ hx
        replace k1 := cell_later hB k1
        replace k2 := cell_later hB k2
        have hfx := hf _ (List.mem_of_getElem? hx)
        have hi1 : (k : Int) < (n : Int) := by omega
        obtain ⟨r, hr⟩ : ∃ r, vld (p, q) = r := ⟨_, rfl⟩
        have HR := Lib.hid hr
        have HX := Lib.hid hx
        have hsz := hB.size
        simp only at k1 k2
        clear hr hx
        cases r
        · go_wp2_with fail
          refine (Valid_is p q hfx.1 false HR.out _).mono ?_
          rintro e w1 ⟨rfl, hB1⟩
          go_wp2
          go_ret
          exact ⟨ret_int (by rw [← HC.out, allV_cut l k _ HX.out HR.out]; rfl), hB.trans (hB1.mono hB.size)⟩
        · go_wp2_with fail
          refine (Valid_is p q hfx.1 true HR.out _).mono ?_
          rintro e w1 ⟨rfl, hB1⟩
          go_wp2
          go_roundw
          case rel => exact ⟨k + 1, by omega, by go_num, by unfold Hid; rw [allV_take l k _ HX.out HV.out]; exact HR.out, hB.trans (hB1.mono hB.size)⟩
          case measure => simp [intOf]; omega
      · have hi1 : ¬ ((k : Int) < (n : Int)) := by omega
        have hkn : k = n := by omega
        have hall : allV l = true := by
          have h1 := HV.out
          rw [hkn, ← HN.out, List.take_length] at h1
          exact h1
        obtain ⟨L, rfl, hL⟩ := allV_nat hall
        have hc2 : c = if sepL (toI L) = true then 0 else 6 := by rw [← HC.out, hall]; simp
        have HC2 := Lib.hid hc2
        have HNL : Hid (L.length = n) := by rw [← HN.out, toI_len]; rfl
        have h2 := h.later hB
        clear hkn hall hc2 HV
        go_wp2_with fail
        go_loopw [4] (fun i w2 => ∃ k : Nat, (k = 0 ∨ k < n) ∧ i = .int .i64 ((k : Int) + 1) ∧ Hid (∀ j x y, j < k → (toI L)[j]? = some x → (toI L)[j + 1]? = some y → x.1 + x.2 < y.1) ∧ Below wr.heap.size wr w2) (fun i _ => n + 1 - (intOf i).toNat)
        case atStart => exact ⟨0, .inl rfl, rfl, (fun j x y h1 => by omega), Below.refl _ _⟩
        case round =>
          obtain ⟨k, hk, rfl, HV, hB2⟩ := hrel
          by_cases hlt : k + 1 < n
          · have hkL : k + 1 < L.length := by rw [HNL.out]; exact hlt
            obtain ⟨⟨p, q⟩, hx⟩ : ∃ x, L[k]? = some x := ⟨_, List.getElem?_eq_getElem (by omega)⟩
            obtain ⟨⟨p2, q2⟩, hy⟩ : ∃ x, L[k + 1]? = some x := ⟨_, List.getElem?_eq_getElem hkL⟩
            have vx := hL _ (List.mem_of_getElem? hx)
            have vy := hL _ (List.mem_of_getElem? hy)
            have ix := toI_some hx
            have iy := toI_some hy
            simp only at vx vy ix iy
            obtain ⟨b, off, rfl, hb, k1, k2⟩ := h2.at k _ ix
            obtain ⟨b', off', hab, _, k3, k4⟩ := h2.at (k + 1) _ iy
            cases hab
            replace k1 := cell_later hB2 k1
            replace k2 := cell_later hB2 k2
            replace k3 := cell_later hB2 k3
            replace k4 := cell_later hB2 k4
            simp only at k1 k2 k3 k4
            have hi1 : (k : Int) + 1 < (n : Int) := by omega
            have hi0 : (0 : Int) ≤ (k : Int) + 1 := by omega
            have hi2 : (k : Int) < (n : Int) := by omega
            have ht : ((k : Int) + 1).toNat = k + 1 := by omega
            have hw1 : IntKind.i64.wrap ((k : Int) + 1 - 1) = (k : Int) := IntWalk.i64_in _ (by omega) |>.trans (by omega)
            have hwk : IntKind.i64.wrap (k : Int) = (k : Int) := IntWalk.i64_in _ (by omega)
            have vx1 : (p : Int) + (q : Int) ≤ 1024 := by omega
            have IX := Lib.hid ix
            have IY := Lib.hid iy
            clear hx hy ix iy
            by_cases hlt2 : p + q < p2
            · have hl2 : ¬ ((p2 : Int) ≤ (p : Int) + (q : Int)) := by omega
              have hd2 : decide ((p2 : Int) ≤ (p : Int) + (q : Int)) = false := by simpa using hl2
              have HL2 := Lib.hid hlt2
              clear hlt2
              go_wp2_with fail
              go_quiet (fail)
              go_wp2
              go_roundw
              case rel =>
                refine ⟨k + 1, .inr (by omega), by go_num, fun j x y hj e1 e2 => ?_, below_drewN hB2 _⟩
                by_cases hjk : j < k
                · exact HV.out j x y hjk e1 e2
                · obtain rfl : j = k := by omega
                  rw [IX.out] at e1
                  rw [IY.out] at e2
                  cases e1; cases e2
                  have := HL2.out
                  show (p : Int) + (q : Int) < (p2 : Int)
                  omega
              case measure => simp [intOf]; omega
            · have hl2 : (p2 : Int) ≤ (p : Int) + (q : Int) := by omega
              have hd2 : decide ((p2 : Int) ≤ (p : Int) + (q : Int)) = true := by simpa using hl2
              have hc6 : c = 6 := by
                rw [HC2.out, sepL_cut (toI L) k _ _ IX.out IY.out (by simp only; omega)]; rfl
              subst hc6
              go_wp2_with fail
              go_quiet (fail)
              go_wp2
              go_ret
              exact ⟨rfl, hB.trans ((below_drewN hB2 _).mono hB.size)⟩
          · have hi1 : ¬ ((k : Int) + 1 < (n : Int)) := by omega
            have hs : sepL (toI L) = true := sepL_all _ fun j x y e1 e2 => by
              have hj2 : j + 1 < L.length := by have := (List.getElem?_eq_some_iff.1 e2).1; rw [toI_len] at this; exact this
              rw [HNL.out] at hj2
              exact HV.out j x y (by omega) e1 e2
            have hc0 : c = 0 := by rw [HC2.out, hs]; rfl
            subst hc0
            clear hs
            go_wp2_with fail
            go_ret
            exact ⟨rfl, hB.trans (hB2.mono hB.size)⟩
end Go.Proofs.Ytgljfiihaehedaa
