/- The reference: CheckState. -/
import Derived.Test.YtnmeeddhagmjdaaRfRh
import Derived.Test.YtnmeeddhagmjdaaRfCs
namespace Go.Proofs.Ytnmeeddhagmjdaa
open Go.RowKit Go.Shelf
attribute [local go_sem] Oper.semAt_some

set_option maxRecDepth 100000 in
set_option maxHeartbeats 1000000 in
theorem RCheckState_bad (v : Value) (l : List RlI) (i : Nat) (e : Int) (hc : chkP l = (i, e)) (h0 : e ≠ 0) (c h : Nat → Int) (w : World) (hr : RAt w v l) :
    Calls Try.prog 63 #[stV v c h] w fun x w' => x = .returned (.int .i64 e) ∧ Below w.heap.size w w' := by
  obtain ⟨WL, hWL⟩ : ∃ x, w.alloc (.cells (stA v c h) 45) = x := ⟨_, rfl⟩
  have hb : Below w.heap.size w WL := by rw [← hWL]; exact (Below.refl _ _).alloc (Nat.le_refl _) _
  have sS : SBox WL w.heap.size v c h := by rw [← hWL]; exact SBox.new w v c h
  have HC := Lib.hid (RCheck_is v l i e hc WL (hr.later hb))
  have hq : (e != 0) = true := by simp [h0]
  have q1 := sS.v
  clear hc h0
  go_enter Try.func63, Try.ntmps63
  go_wp2_with fail
  try rw [hWL]
  refine HC.out.mono ?_
  rintro e w1 ⟨rfl, B1⟩
  go_wp2
  go_ret
  exact ⟨rfl, hb.trans (B1.mono hb.size)⟩

theorem inb_iff {x lo hi : Int} : inb x lo hi = true ↔ lo ≤ x ∧ x ≤ hi := by unfold inb; simp
set_option maxRecDepth 100000 in
set_option maxHeartbeats 4000000 in
theorem RCheckState_is (v : Value) (L : List Ru) (hL : OkL L) (c h : Nat → Int) (r : Int) (hrs : csF L c h = r) (w : World) (hr : RAt w v (toI L)) :
    Calls Try.prog 63 #[stV v c h] w fun x w' => x = .returned (.int .i64 r) ∧ Below w.heap.size w w' := by
  obtain ⟨WL, hWL⟩ : ∃ x, w.alloc (.cells (stA v c h) 45) = x := ⟨_, rfl⟩
  have hb : Below w.heap.size w WL := by rw [← hWL]; exact (Below.refl _ _).alloc (Nat.le_refl _) _
  have sS : SBox WL w.heap.size v c h := by rw [← hWL]; exact SBox.new w v c h
  have hrL := hr.later hb
  have HC := Lib.hid (RCheck_is v (toI L) 0 0 (chkP_of hL) WL hrL)
  have q1 := sS.v
  have HRS := Lib.hid hrs
  have HL := Lib.hid hL
  clear hrs
  go_enter Try.func63, Try.ntmps63
  go_wp2_with fail
  try rw [hWL]
  refine HC.out.mono ?_
  rintro e w1 ⟨rfl, B1⟩
  have s1 := sS.later B1
  have hB1 := hb.trans (B1.mono hb.size)
  have hr1 := hrL.later B1
  have hsz1 := s1.lt
  have har := arr7
  clear hWL q1
  go_wp2_with fail
  go_loopw [5] (fun i wr => ∃ k : Nat, k ≤ 7 ∧ i = .int .i64 k ∧ Hid (∀ j, j < k → inb (c j) 0 1000000 = true) ∧ w1 = wr) (fun i _ => 7 - (intOf i).toNat)
  case atStart => exact ⟨0, Nat.zero_le _, rfl, (fun j hj => by omega), rfl⟩
  case round =>
    obtain ⟨k, hk, rfl, HO, rfl⟩ := hrel
    by_cases hlt : k < 7
    · have hh := s1.c k hlt
      have hi1 : (k : Int) < 7 := by omega
      obtain ⟨ck, hck⟩ : ∃ x, c k = x := ⟨_, rfl⟩
      rw [hck] at hh
      cases hin : inb ck 0 1000000 with
      | false =>
        have HI := Lib.hid hin
        have hr6 : r = 6 := by
          rw [← HRS.out]
          refine csF_cut hlt ?_
          unfold inb at hin
          unfold okS
          rw [hck, hin, Bool.false_and]
        subst hr6
        clear hck hin
        go_wp2_with fail
        refine (in_is ck 0 1000000 false HI.out _).mono ?_
        rintro e w2 ⟨rfl, rfl⟩
        go_wp2
        go_ret
        exact ⟨rfl, hB1⟩
      | true =>
        have HI := Lib.hid hin
        have HO2 : Hid (∀ j, j < k + 1 → inb (c j) 0 1000000 = true) := fun j hj => by
          by_cases hjk : j < k
          · exact HO.out j hjk
          · obtain rfl : j = k := by omega
            rw [hck]; exact hin
        clear hck hin HO
        go_wp2_with fail
        refine (in_is ck 0 1000000 true HI.out _).mono ?_
        rintro e w2 ⟨rfl, rfl⟩
        go_wp2
        go_roundw
        case rel => exact ⟨k + 1, by omega, by go_num, HO2, by trivial⟩
        case measure => simp [intOf]; omega
    · have hi1 : ¬ ((k : Int) < 7) := by omega
      have HIN : Hid (∀ j, j < 7 → 0 ≤ c j ∧ c j ≤ 1000000) := fun j hj => inb_iff.1 (HO.out j (by omega))
      clear HO
      go_wp2_with fail
      go_loopw [6] (fun i wr => ∃ k : Nat, k ≤ 7 ∧ i = .int .i64 k ∧ Hid (∀ j, j < k → okS L c h j = true) ∧ Below w1.heap.size w1 wr) (fun i _ => 7 - (intOf i).toNat)
      case atStart => exact ⟨0, Nat.zero_le _, rfl, (fun j hj => by omega), Below.refl _ _⟩
      case round =>
        obtain ⟨k, hk, rfl, HO, hB⟩ := hrel
        by_cases hlt : k < 7
        · have hcw := cell_later hB (s1.c k hlt)
          have hhw := cell_later hB (s1.h k hlt)
          have hqw := cell_later hB s1.v
          have hi1 : (k : Int) < 7 := by omega
          have hk0 : decide ((k : Int) < 0) = false := by simp
          have hk7 : decide ((7 : Int) ≤ (k : Int)) = false := by simp; omega
          have hr2 := hr1.later hB
          have hin := HIN.out k hlt
          obtain ⟨ck, hck⟩ : ∃ x, c k = x := ⟨_, rfl⟩
          obtain ⟨hv, hhv⟩ : ∃ x, h k = x := ⟨_, rfl⟩
          rw [hck] at hcw hin
          rw [hhv] at hhw
          have HH := Lib.hid (fun W hW => Rhits_is L HL.out k ck hin.2 v W hW)
          obtain ⟨m, hm⟩ : ∃ m, hitN L k ck.toNat = m := ⟨_, rfl⟩
          rw [hm] at HH
          have x0 := fun x : Beh wr => Beh.cell hqw x
          have xh := fun x : Beh wr => Beh.cell hhw x
          have xc := fun x : Beh wr => Beh.cell hcw x
          by_cases heq : hv = (m : Int)
          · have hq : (hv != (m : Int)) = false := by simp [heq]
            have HO2 : Hid (∀ j, j < k + 1 → okS L c h j = true) := fun j hj => by
              by_cases hjk : j < k
              · exact HO.out j hjk
              · obtain rfl : j = k := by omega
                unfold okS
                rw [hck, hhv, hm, heq]
                simp; omega
            clear hck hhv hm HO heq hin
            go_wp2_with fail
            refine region_beh (by kernel_rfl) (by kernel_rfl) ?_
            repeat (go_big_quiet_step ((go_at_call 88; rename_i x; refine (HH.out _ (hr2.later x.h)).mono ?_; rintro e w3 ⟨rfl, B3⟩; exact ⟨rfl, ⟨_, x.h.trans (B3.mono x.h.size)⟩, rfl⟩)))
            refine wpQuiet_nil ?_
            intro _ hw'
            obtain ⟨x, rfl⟩ := hw'
            go_wp2_with fail
            go_roundw
            case rel => exact ⟨k + 1, by omega, by go_num, HO2, hB.trans (x.h.mono hB.size)⟩
            case measure => simp [intOf]; omega
          · have hq : (hv != (m : Int)) = true := by simp [heq]
            have hr6 : r = 6 := by
              rw [← HRS.out]
              refine csF_cut hlt ?_
              unfold okS
              rw [hck, hhv, hm]
              simp [heq]
            subst hr6
            clear hck hhv hm HO heq hin
            go_wp2_with fail
            refine region_beh (by kernel_rfl) (by kernel_rfl) ?_
            repeat (go_big_quiet_step ((go_at_call 88; rename_i x; refine (HH.out _ (hr2.later x.h)).mono ?_; rintro e w3 ⟨rfl, B3⟩; exact ⟨rfl, ⟨_, x.h.trans (B3.mono x.h.size)⟩, rfl⟩)))
            refine wpQuiet_nil ?_
            intro _ hw'
            obtain ⟨x, rfl⟩ := hw'
            go_wp2_with fail
            go_ret
            exact ⟨rfl, hB1.trans ((hB.trans (x.h.mono hB.size)).mono hB1.size)⟩
        · have hi1 : ¬ ((k : Int) < 7) := by omega
          have hr0 : r = 0 := by rw [← HRS.out]; exact csF_all fun j hj => HO.out j (by omega)
          subst hr0
          go_wp2
          go_ret
          exact ⟨rfl, hB1.trans (hB.mono hB1.size)⟩
end Go.Proofs.Ytnmeeddhagmjdaa
