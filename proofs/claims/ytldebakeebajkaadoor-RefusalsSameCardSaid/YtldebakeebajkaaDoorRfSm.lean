/- Same: errors; the reference; RefusalsSame. -/
import Derived.Test.YtldebakeebajkaaDoorRfSa
import Derived.Test.YtldebakeebajkaaDoorRfHf
import Derived.Test.YtldebakeebajkaaDoorRfRh
import Derived.Test.YtldebakeebajkaaDoorRfFar
import Derived.Test.YtldebakeebajkaaDoorRfPr
namespace Go.Proofs.YtldebakeebajkaaDoor
open Go.RowKit Go.Shelf
attribute [local go_sem] Oper.semAt_some

set_option maxRecDepth 100000 in
set_option maxHeartbeats 2000000 in
theorem Same_bad (v u : Value) (l1 l2 : List RlI) (i1 i2 : Nat) (c1 c2 r : Int) (h1 : chkP l1 = (i1, c1)) (h2 : chkP l2 = (i2, c2)) (hr0 : (if c1 = 0 then c2 else c1) = r) (hne : r ≠ 0) (w : World) (hr : RAt w v l1) (hs : RAt w u l2) :
    Calls Tryd.prog 22 #[.agg #[v], .agg #[u]] w fun e w' => e = .returned (.tuple #[.bool false, .int .i64 r]) ∧ Below w.heap.size w w' := by
  obtain ⟨va, vn, vc, rfl⟩ : ∃ a n c, v = .slice a n c := by obtain ⟨a, c, rfl⟩ := hr.form; exact ⟨_, _, _, rfl⟩
  obtain ⟨ua, un, uc, rfl⟩ : ∃ a n c, u = .slice a n c := by obtain ⟨a, c, rfl⟩ := hs.form; exact ⟨_, _, _, rfl⟩
  obtain ⟨WL, hWL, hbL, bP, bQ⟩ := two_plans w (.slice va vn vc) (.slice ua un uc)
  have q1 := bP.cell
  have q2 := bQ.cell
  have hrL := hr.later hbL
  have hsL := hs.later hbL
  have hi2a := ix2a (.slice va vn vc) (.slice ua un uc)
  have hi2b := ix2b (.slice va vn vc) (.slice ua un uc)
  have har := arr2
  have H1 := Lib.hid h1
  have H2 := Lib.hid h2
  have HR0 := Lib.hid hr0
  have HNE := Lib.hid hne
  clear h1 h2 hr0 hne
  go_enter Tryd.func22, Tryd.ntmps22
  go_wp2_with fail
  try rw [hWL]
  clear hWL
  go_loopw [17] (fun i wr => ∃ k : Nat, k ≤ 1 ∧ i = .int .i64 k ∧ Hid (k = 1 → c1 = 0) ∧ Below WL.heap.size WL wr) (fun i _ => 2 - (intOf i).toNat)
  case atStart => exact ⟨0, Nat.zero_le _, rfl, (fun h => by omega), Below.refl _ _⟩
  case round =>
    obtain ⟨k, hk, rfl, HK, hB⟩ := hrel
    rcases (show k = 0 ∨ k = 1 by omega) with rfl | rfl
    · by_cases hc : c1 = 0
      · have H1' : Hid (chkP l1 = (i1, 0)) := by unfold Hid; rw [← hc]; exact H1.out
        have HK2 : Hid (c1 = 0) := hc
        clear hc
        go_wp2_with fail
        have hz : Below wr.heap.size wr (wr.alloc (.cells #[.slice va vn vc] 24)) := (Below.refl _ _).alloc (Nat.le_refl _) _
        refine (Check_is _ l1 i1 0 H1'.out _ ((hrL.later hB).later hz)).mono ?_
        rintro e w3 ⟨rfl, B3⟩
        go_wp2
        go_roundw
        case rel => exact ⟨1, by omega, by go_num, fun _ => HK2.out, hB.trans ((hz.trans (B3.mono hz.size)).mono hB.size)⟩
        case measure => simp [intOf]
      · have hq : (c1 != 0) = true := by simp [hc]
        have hrc : c1 = r := by rw [← HR0.out, if_neg hc]
        subst hrc
        clear hc
        go_wp2_with fail
        have hz : Below wr.heap.size wr (wr.alloc (.cells #[.slice va vn vc] 24)) := (Below.refl _ _).alloc (Nat.le_refl _) _
        refine (Check_is _ l1 i1 _ H1.out _ ((hrL.later hB).later hz)).mono ?_
        rintro e w3 ⟨rfl, B3⟩
        go_wp2
        go_ret2
        exact ⟨rfl, hbL.trans ((hB.trans ((hz.trans (B3.mono hz.size)).mono hB.size)).mono hbL.size)⟩
    · have hc1 := HK.out rfl
      have hrc : c2 = r := by rw [← HR0.out, if_pos hc1]
      subst hrc
      have hq : (c2 != 0) = true := by simp [HNE.out]
      clear hc1
      go_wp2_with fail
      have hz : Below wr.heap.size wr (wr.alloc (.cells #[.slice ua un uc] 24)) := (Below.refl _ _).alloc (Nat.le_refl _) _
      refine (Check_is _ l2 i2 _ H2.out _ ((hsL.later hB).later hz)).mono ?_
      rintro e w3 ⟨rfl, B3⟩
      go_wp2
      go_ret2
      exact ⟨rfl, hbL.trans ((hB.trans ((hz.trans (B3.mono hz.size)).mono hB.size)).mono hbL.size)⟩

theorem same_ext {L M : List Ru} (hL : ∀ r ∈ L, r.ok) (hM : ∀ r ∈ M, r.ok) (k A : Nat) (hA : A = 49708) (h : ∀ n, n ≤ A → refP L k n = refP M k n) (n : Nat) (hn : n ≤ 49720) : refP L k n = refP M k n := by
  by_cases hnA : n ≤ A
  · exact h n hnA
  · obtain ⟨m, rfl⟩ : ∃ m, n = m + 27720 := ⟨n - 27720, by omega⟩
    rw [refP_per hL k (by omega), refP_per hM k (by omega)]
    exact h m (by omega)
set_option maxRecDepth 100000 in
set_option maxHeartbeats 4000000 in
theorem Rsame_is (v u : Value) (L M : List Ru) (hL : OkL L) (hM : OkL M) (b : Bool) (A : Nat) (hA : A = 49708) (hb : b = true ↔ ∀ k, k < 7 → ∀ n, n ≤ A → refP L k n = refP M k n) (w : World) (hr : RAt w v (toI L)) (hs : RAt w u (toI M)) :
    Calls Tryd.prog 51 #[.agg #[v], .agg #[u]] w fun e w' => e = .returned (.bool b) ∧ Below w.heap.size w w' := by
  obtain ⟨WL, hWL, hbL, bP, bQ⟩ := two_plans w v u
  have q1 := bP.cell
  have q2 := bQ.cell
  have HL := Lib.hid hL
  have HM := Lib.hid hM
  have HB := Lib.hid hb
  have HX := Lib.hid (fun k h => same_ext hL.2 hM.2 k A hA h)
  have hrL := hr.later hbL
  have hsL := hs.later hbL
  have H0 := Lib.hid hA
  clear hb hA
  go_enter Tryd.func51, Tryd.ntmps51
  go_wp2_with fail
  try rw [hWL]
  clear hWL
  go_loopw [5] (fun i wr => ∃ k : Nat, k ≤ 7 ∧ i = .int .i64 k ∧ Hid (∀ j, j < k → ∀ n, n ≤ A → refP L j n = refP M j n) ∧ Below WL.heap.size WL wr) (fun i _ => 7 - (intOf i).toNat)
  case atStart => exact ⟨0, Nat.zero_le _, rfl, (fun j hj => by omega), Below.refl _ _⟩
  case round =>
    obtain ⟨k, hk, rfl, HK, hB⟩ := hrel
    by_cases hlt : k < 7
    · have hi1 : (k : Int) < 7 := by omega
      obtain ⟨V, rfl⟩ : ∃ V, V = wr := ⟨_, rfl⟩
      have HS0 : Hid (∀ n, n < 1 → refP L k n = refP M k n) := fun n hn => by
        obtain rfl : n = 0 := by omega
        rw [refP_zero HL.out.2, refP_zero HM.out.2]
      go_wp2_with fail
      go_loopw [6] (fun i wr => ∃ m : Nat, 1 ≤ m ∧ m ≤ 49721 ∧ i = .int .i64 m ∧ Hid (∀ n, n < m → refP L k n = refP M k n) ∧ Below V.heap.size V wr) (fun i _ => 49721 - (intOf i).toNat)
      case atStart => exact ⟨1, Nat.le_refl _, by omega, rfl, HS0.out, Below.refl _ _⟩
      case round =>
        obtain ⟨m, hm1, hm, rfl, HE, hB2⟩ := hrel
        by_cases hlm : m ≤ 49720
        · have hi2 : (m : Int) ≤ 49720 := by omega
          have hBB := hB.trans (hB2.mono hB.size)
          have p1 := cell_later hBB q1
          have p2 := cell_later hBB q2
          have r1 := hrL.later hBB
          have r2 := hsL.later hBB
          obtain ⟨x, hx⟩ : ∃ x, refP L k m = x := ⟨_, rfl⟩
          obtain ⟨y, hy⟩ : ∃ y, refP M k m = y := ⟨_, rfl⟩
          have HA := Lib.hid (fun W hW => Rrefused_is L HL.out k m (by omega) x hx v W hW)
          have HC := Lib.hid (fun W hW => Rrefused_is M HM.out k m (by omega) y hy u W hW)
          have x0 := fun z : Beh wr => Beh.cell p1 z
          have y0 := fun z : Beh wr => Beh.cell p2 z
          go_wp2_with fail
          refine region_beh (by kernel_rfl) (by kernel_rfl) ?_
          repeat (go_big_quiet_step (first
            | (go_at_call 46; rename_i z; ((with_reducible refine (HA.out _ ?hh).mono ?_); (case hh => exact r1.later z.h)); rintro e w9 ⟨rfl, B9⟩; exact ⟨rfl, ⟨_, z.h.trans (B9.mono z.h.size)⟩, rfl⟩)
            | (go_at_call 46; rename_i z; ((with_reducible refine (HC.out _ ?hh).mono ?_); (case hh => exact r2.later z.h)); rintro e w9 ⟨rfl, B9⟩; exact ⟨rfl, ⟨_, z.h.trans (B9.mono z.h.size)⟩, rfl⟩)))
          refine wpQuiet_nil ?_
          intro _ hw'
          obtain ⟨z, rfl⟩ := hw'
          have hB3 := hB2.trans (z.h.mono hB2.size)
          clear x0 y0
          cases x <;> cases y
          · have HE2 : Hid (∀ n, n < m + 1 → refP L k n = refP M k n) := fun n hn => by
              by_cases hnm : n < m
              · exact HE.out n hnm
              · obtain rfl : n = m := by omega
                rw [hx, hy]
            clear hx hy HE HA HC
            go_wp2_with fail
            go_roundw
            case rel => exact ⟨m + 1, by omega, by omega, by go_num, HE2, hB3⟩
            case measure => simp [intOf]; omega
          · have hbf : b = false := by
              cases hbb : b with
              | false => rfl
              | true => have := HX.out k (HB.out.1 hbb k hlt) m hlm; rw [hx, hy] at this; cases this
            subst hbf
            clear hx hy HE HA HC
            go_wp2_with fail
            go_ret
            exact ⟨rfl, hbL.trans ((hB.trans (hB3.mono hB.size)).mono hbL.size)⟩
          · have hbf : b = false := by
              cases hbb : b with
              | false => rfl
              | true => have := HX.out k (HB.out.1 hbb k hlt) m hlm; rw [hx, hy] at this; cases this
            subst hbf
            clear hx hy HE HA HC
            go_wp2_with fail
            go_ret
            exact ⟨rfl, hbL.trans ((hB.trans (hB3.mono hB.size)).mono hbL.size)⟩
          · have HE2 : Hid (∀ n, n < m + 1 → refP L k n = refP M k n) := fun n hn => by
              by_cases hnm : n < m
              · exact HE.out n hnm
              · obtain rfl : n = m := by omega
                rw [hx, hy]
            clear hx hy HE HA HC
            go_wp2_with fail
            go_roundw
            case rel => exact ⟨m + 1, by omega, by omega, by go_num, HE2, hB3⟩
            case measure => simp [intOf]; omega
        · have hi2 : ¬ ((m : Int) ≤ 49720) := by omega
          have HK2 : Hid (∀ j, j < k + 1 → ∀ n, n ≤ A → refP L j n = refP M j n) := fun j hj n hn => by
            by_cases hjk : j < k
            · exact HK.out j hjk n hn
            · obtain rfl : j = k := by omega
              exact HE.out n (by have := H0.out; omega)
          clear HE HK
          go_wp2_with fail
          go_roundw
          case rel => exact ⟨k + 1, by omega, by go_num, HK2, hB.trans (hB2.mono hB.size)⟩
          case measure => simp [intOf]; omega
    · have hi1 : ¬ ((k : Int) < 7) := by omega
      have hbt : b = true := HB.out.2 fun j hj n hn => HK.out j (by omega) n hn
      subst hbt
      go_wp2
      go_ret
      exact ⟨rfl, hbL.trans (hB.mono hbL.size)⟩
end Go.Proofs.YtldebakeebajkaaDoor
