/- Same. -/
import Derived.Test.YtldebakeebajkaaDoorRfHt
import Derived.Deep.RegionHeld3
namespace Go.Proofs.YtldebakeebajkaaDoor
open Go.RowKit Go.Shelf
attribute [local go_sem] Oper.semAt_some

theorem two_plans (w : World) (v u : Value) : ∃ WL, (w.alloc (.cells #[v] 24)).alloc (.cells #[u] 24) = WL ∧ Below w.heap.size w WL ∧ Boxed WL w.heap.size 24 v ∧ Boxed WL (w.heap.size + 1) 24 u := by
  refine ⟨_, rfl, ((Below.refl _ _).alloc (Nat.le_refl _) _).alloc (by simp) _, (Boxed.new w _ _).alloc _, ?_⟩
  have := Boxed.new (w.alloc (.cells #[v] 24)) 24 u
  rw [World.size_alloc] at this
  exact this
theorem ix2a (v u : Value) (W : World) : (Instr.index 67 (.agg #[v, u]) (.int .i64 0)).run Tryd.prog W = .ok (.agg #[v]) W := by kernel_rfl
theorem ix2b (v u : Value) (W : World) : (Instr.index 67 (.agg #[v, u]) (.int .i64 1)).run Tryd.prog W = .ok (.agg #[u]) W := by kernel_rfl
theorem arr2 : Tryd.prog.arrayLen 67 = 2 := by kernel_rfl
set_option maxRecDepth 100000 in
set_option maxHeartbeats 4000000 in
theorem Same_ok (v u : Value) (L M : List Ru) (hL : OkL L) (hM : OkL M) (b : Bool) (A : Nat) (hA : A = 49708) (hb : b = true ↔ ∀ k, k < 7 → ∀ n, n ≤ A → refP L k n = refP M k n) (w : World) (hr : RAt w v (toI L)) (hs : RAt w u (toI M)) :
    Calls Tryd.prog 22 #[.agg #[v], .agg #[u]] w fun e w' => e = .returned (.tuple #[.bool b, .int .i64 0]) ∧ Below w.heap.size w w' := by
  obtain ⟨va, vn, vc, rfl⟩ : ∃ a n c, v = .slice a n c := by obtain ⟨a, c, rfl⟩ := hr.form; exact ⟨_, _, _, rfl⟩
  obtain ⟨ua, un, uc, rfl⟩ : ∃ a n c, u = .slice a n c := by obtain ⟨a, c, rfl⟩ := hs.form; exact ⟨_, _, _, rfl⟩
  obtain ⟨WL, hWL, hbL, bP, bQ⟩ := two_plans w (.slice va vn vc) (.slice ua un uc)
  have q1 := bP.cell
  have q2 := bQ.cell
  have HL := Lib.hid hL
  have HM := Lib.hid hM
  have HB := Lib.hid hb
  have hrL := hr.later hbL
  have hsL := hs.later hbL
  have hi2a := ix2a (.slice va vn vc) (.slice ua un uc)
  have hi2b := ix2b (.slice va vn vc) (.slice ua un uc)
  have har := arr2
  have H0 := Lib.hid hA
  have hAi : Hid ((A : Int) = 49708) := by unfold Hid; omega
  have hA1 : A ≤ 100000 := by omega
  clear hb hA
  go_enter Tryd.func22, Tryd.ntmps22
  go_wp2_with fail
  try rw [hWL]
  clear hWL
  go_loopw [17] (fun i wr => ∃ k : Nat, k ≤ 2 ∧ i = .int .i64 k ∧ Below WL.heap.size WL wr) (fun i _ => 2 - (intOf i).toNat)
  case atStart => exact ⟨0, Nat.zero_le _, rfl, Below.refl _ _⟩
  case round =>
    obtain ⟨k, hk, rfl, hB⟩ := hrel
    rcases (show k = 0 ∨ k = 1 ∨ k = 2 by omega) with rfl | rfl | rfl
    · go_wp2_with fail
      have hz : Below wr.heap.size wr (wr.alloc (.cells #[.slice va vn vc] 24)) := (Below.refl _ _).alloc (Nat.le_refl _) _
      refine (Check_is _ (toI L) 0 0 (chkP_of HL.out) _ ((hrL.later hB).later hz)).mono ?_
      rintro e w3 ⟨rfl, B3⟩
      go_wp2
      go_roundw
      case rel => exact ⟨1, by omega, by go_num, hB.trans ((hz.trans (B3.mono hz.size)).mono hB.size)⟩
      case measure => simp [intOf]
    · go_wp2_with fail
      have hz : Below wr.heap.size wr (wr.alloc (.cells #[.slice ua un uc] 24)) := (Below.refl _ _).alloc (Nat.le_refl _) _
      refine (Check_is _ (toI M) 0 0 (chkP_of HM.out) _ ((hsL.later hB).later hz)).mono ?_
      rintro e w3 ⟨rfl, B3⟩
      go_wp2
      go_roundw
      case rel => exact ⟨2, by omega, by go_num, hB.trans ((hz.trans (B3.mono hz.size)).mono hB.size)⟩
      case measure => simp [intOf]
    · go_wp2_with fail
      have hB0 := hB
      clear hB
      go_loopw [29] (fun i wr => ∃ k : Nat, k ≤ 7 ∧ i = .int .i64 k ∧ Hid (∀ j, j < k → ∀ n, n ≤ A → refP L j n = refP M j n) ∧ Below WL.heap.size WL wr) (fun i _ => 7 - (intOf i).toNat)
      case atStart => exact ⟨0, Nat.zero_le _, rfl, (fun j hj => by omega), hB0⟩
      case round =>
        clear hB0
        obtain ⟨k, hk, rfl, HK, hB⟩ := hrel
        by_cases hlt : k < 7
        · have hi1 : (k : Int) < 7 := by omega
          have p1 := cell_later hB q1
          have p2 := cell_later hB q2
          have HTA0 := (fun W (hW : Below wr.heap.size wr W) => tally_is L HL.out k A (by have := H0.out; omega) (.slice va vn vc) W ((hrL.later hB).later hW))
          have HTB0 := (fun W (hW : Below wr.heap.size wr W) => tally_is M HM.out k A (by have := H0.out; omega) (.slice ua un uc) W ((hsL.later hB).later hW))
          rw [hAi.out] at HTA0 HTB0
          have HTA := Lib.hid HTA0
          have HTB := Lib.hid HTB0
          clear HTA0 HTB0
          obtain ⟨V, rfl⟩ : ∃ V, V = wr := ⟨_, rfl⟩
          go_wp2_with fail
          go_region_held3 (fun w' => w'.cell? ⟨w.heap.size, 0, none⟩ = some (.slice va vn vc) ∧ w'.cell? ⟨w.heap.size + 1, 0, none⟩ = some (.slice ua un uc)) (first | exact ⟨p1, p2⟩ | exact ⟨rA1, rA2⟩ | exact ⟨rB1, rB2⟩)
            (first
            | (go_at_call 50; ((with_reducible refine (HTA.out _ ?hh).mono ?_); (case hh => first | exact ⟨rfl, rfl, rfl, Nat.le_refl _, fun _ _ => rfl⟩ | exact BB)); rintro e wA ⟨rfl, tA, BA'⟩; have BA : Below V.heap.size V wA := (by first | exact BB.trans (BA'.mono BB.size) | exact ⟨BA'.os, BA'.tape, BA'.output, BA'.size, BA'.block⟩); have rA1 := cell_later BA p1; have rA2 := cell_later BA p2)
            | (go_at_call 50; ((with_reducible refine (HTB.out _ ?hh).mono ?_); (case hh => first | exact ⟨rfl, rfl, rfl, Nat.le_refl _, fun _ _ => rfl⟩ | exact BA)); rintro e wB ⟨rfl, tB, BB'⟩; have BB : Below V.heap.size V wB := (by first | exact BA.trans (BB'.mono BA.size) | exact ⟨BB'.os, BB'.tape, BB'.output, BB'.size, BB'.block⟩); have rB1 := cell_later BB p1; have rB2 := cell_later BB p2))
          have tA3 : TBox wB (V.heap.size + 1) (A + 1) (cnt L k) := tA.later BB'
          obtain ⟨gB, hgB⟩ : ∃ x, wA.heap.size + 1 = x := ⟨_, rfl⟩
          rw [hgB] at tB
          clear tA rA1 rA2 rB1 rB2 HTA HTB
          try rw [hgB]
          clear hgB
          go_wp2_with fail
          go_loopw [40] (fun i wr => ∃ m : Nat, m ≤ A + 1 ∧ i = .int .i64 m ∧ Hid (∀ n, n < m → refP L k n = refP M k n) ∧ Below wB.heap.size wB wr) (fun i _ => A + 1 - (intOf i).toNat)
          case atStart => exact ⟨0, Nat.zero_le _, rfl, (fun n hn => by omega), Below.refl _ _⟩
          case round =>
            obtain ⟨m, hm, rfl, HE, hB2⟩ := hrel
            by_cases hlm : m < A + 1
            · have cA := (tA3.later hB2).cell m hlm
              have cB := (tB.later hB2).cell m hlm
              have lA := cnt_le L k m
              have lB := cnt_le M k m
              have l5 := HL.out.1
              have l6 := HM.out.1
              rw [Nat.mod_eq_of_lt (by omega)] at cA cB
              obtain ⟨a, hca⟩ : ∃ x, cnt L k m = x := ⟨_, rfl⟩
              obtain ⟨c, hcb⟩ : ∃ x, cnt M k m = x := ⟨_, rfl⟩
              rw [hca] at cA lA
              rw [hcb] at cB lB
              have hi2 : (m : Int) < (A : Int) + 1 := by omega
              have hk0 : decide ((m : Int) < 0) = false := by simp
              have hk7 : decide ((A : Int) + 1 ≤ (m : Int)) = false := by simp; omega
              cases hp1 : decide (0 < a) <;> cases hp2 : decide (0 < c)
              · have d1 : decide ((0 : Int) < (a : Int)) = false := by simp at hp1 ⊢; omega
                have d2 : decide ((0 : Int) < (c : Int)) = false := by simp at hp2 ⊢; omega
                have HE2 : Hid (∀ n, n < m + 1 → refP L k n = refP M k n) := fun n hn => by
                  by_cases hnm : n < m
                  · exact HE.out n hnm
                  · obtain rfl : n = m := by omega
                    rw [← cnt_pos, ← cnt_pos, hca, hcb, hp1, hp2]
                clear hca hcb
                go_wp2_with fail
                go_quiet (fail)
                go_wp2_with fail
                go_roundw
                case rel => exact ⟨m + 1, by omega, by go_num, HE2, below_drewN hB2 _⟩
                case measure => simp [intOf]; omega
              · have d1 : decide ((0 : Int) < (a : Int)) = false := by simp at hp1 ⊢; omega
                have d2 : decide ((0 : Int) < (c : Int)) = true := by simp at hp2 ⊢; omega
                have hbf : b = false := by
                  cases hbb : b with
                  | false => rfl
                  | true => have := HB.out.1 hbb k hlt m (by omega); rw [← cnt_pos, ← cnt_pos, hca, hcb, hp1, hp2] at this; cases this
                subst hbf
                clear hca hcb
                go_wp2_with fail
                go_quiet (fail)
                go_wp2_with fail
                go_ret2
                exact ⟨rfl, hbL.trans ((hB.trans ((BB.trans ((below_drewN hB2 _).mono BB.size)).mono hB.size)).mono hbL.size)⟩
              · have d1 : decide ((0 : Int) < (a : Int)) = true := by simp at hp1 ⊢; omega
                have d2 : decide ((0 : Int) < (c : Int)) = false := by simp at hp2 ⊢; omega
                have hbf : b = false := by
                  cases hbb : b with
                  | false => rfl
                  | true => have := HB.out.1 hbb k hlt m (by omega); rw [← cnt_pos, ← cnt_pos, hca, hcb, hp1, hp2] at this; cases this
                subst hbf
                clear hca hcb
                go_wp2_with fail
                go_quiet (fail)
                go_wp2_with fail
                go_ret2
                exact ⟨rfl, hbL.trans ((hB.trans ((BB.trans ((below_drewN hB2 _).mono BB.size)).mono hB.size)).mono hbL.size)⟩
              · have d1 : decide ((0 : Int) < (a : Int)) = true := by simp at hp1 ⊢; omega
                have d2 : decide ((0 : Int) < (c : Int)) = true := by simp at hp2 ⊢; omega
                have HE2 : Hid (∀ n, n < m + 1 → refP L k n = refP M k n) := fun n hn => by
                  by_cases hnm : n < m
                  · exact HE.out n hnm
                  · obtain rfl : n = m := by omega
                    rw [← cnt_pos, ← cnt_pos, hca, hcb, hp1, hp2]
                clear hca hcb
                go_wp2_with fail
                go_quiet (fail)
                go_wp2_with fail
                go_roundw
                case rel => exact ⟨m + 1, by omega, by go_num, HE2, below_drewN hB2 _⟩
                case measure => simp [intOf]; omega
            · have hi2 : ¬ ((m : Int) < (A : Int) + 1) := by omega
              have HK2 : Hid (∀ j, j < k + 1 → ∀ n, n ≤ A → refP L j n = refP M j n) := fun j hj n hn => by
                by_cases hjk : j < k
                · exact HK.out j hjk n hn
                · obtain rfl : j = k := by omega
                  exact HE.out n (by omega)
              clear HE HK
              go_wp2_with fail
              go_roundw
              case rel =>
                have hfin := hB.trans ((BB.trans (hB2.mono BB.size)).mono hB.size)
                (repeat apply Exists.intro)
                refine And.intro ?hh1 ?hh2
                case hh2 => (repeat' apply And.intro) <;> rfl
                case hh1 => exact ⟨k + 1, by omega, by go_num, HK2, hfin⟩
              case measure => simp [intOf]; omega
        · have hi1 : ¬ ((k : Int) < 7) := by omega
          have hbt : b = true := HB.out.2 fun j hj n hn => HK.out j (by omega) n hn
          subst hbt
          go_wp2
          go_ret2
          exact ⟨rfl, hbL.trans (hB.mono hbL.size)⟩
end Go.Proofs.YtldebakeebajkaaDoor
