/- CheckState. -/
import Derived.Test.YtnmeeddhagmjdaaRfS2
namespace Go.Proofs.Ytnmeeddhagmjdaa
open Go.RowKit Go.Shelf
attribute [local go_sem] Oper.semAt_some

/-- Are the numbers of a kind right? -/
def okS (L : List Ru) (c h : Nat → Int) (k : Nat) : Bool := decide (0 ≤ c k) && decide (c k ≤ 1000000) && decide (h k = (hitN L k (c k).toNat : Nat))
/-- What is wrong with the numbers of a state whose plan is valid. -/
def csF (L : List Ru) (c h : Nat → Int) : Int := if (List.range 7).all (okS L c h) = true then 0 else 6
theorem csF_cut {L : List Ru} {c h : Nat → Int} {k : Nat} (hk : k < 7) (ho : okS L c h k = false) : csF L c h = 6 := by
  unfold csF; rw [if_neg]; intro h2; have := List.all_eq_true.1 h2 k (List.mem_range.2 hk); rw [this] at ho; cases ho
theorem csF_all {L : List Ru} {c h : Nat → Int} (ho : ∀ k, k < 7 → okS L c h k = true) : csF L c h = 0 := by unfold csF; rw [if_pos (List.all_eq_true.2 fun k hk => ho k (List.mem_range.1 hk))]
theorem okS_num {L : List Ru} {c h : Nat → Int} {k : Nat} (ho : okS L c h k = true) : ∃ n : Nat, c k = (n : Int) ∧ n ≤ 1000000 ∧ h k = (hitN L k n : Nat) := by
  unfold okS at ho
  simp at ho
  obtain ⟨⟨h1, h2⟩, h3⟩ := ho
  exact ⟨(c k).toNat, by omega, by omega, h3⟩
abbrev arr (c : Nat → Int) : Array Value := #[.int .i64 (c 0), .int .i64 (c 1), .int .i64 (c 2), .int .i64 (c 3), .int .i64 (c 4), .int .i64 (c 5), .int .i64 (c 6)]
theorem idx7 (c : Nat → Int) (k : Nat) (hk : k < 7) (W : World) : (Instr.index 43 (.agg (arr c)) (.int .i64 (k : Int))).run Try.prog W = .ok (.int .i64 (c k)) W := by
  rcases k7 hk with rfl | rfl | rfl | rfl | rfl | rfl | rfl <;> kernel_rfl
theorem arr7 : Try.prog.arrayLen 43 = 7 := by kernel_rfl

set_option maxRecDepth 100000 in
set_option maxHeartbeats 1000000 in
theorem CheckState_bad (v : Value) (l : List RlI) (i : Nat) (e : Int) (hc : chkP l = (i, e)) (h0 : e ≠ 0) (c h : Nat → Int) (w : World) (hr : RAt w v l) :
    Calls Try.prog 59 #[stV v c h] w fun x w' => x = .returned (.int .i64 e) ∧ Below w.heap.size w w' := by
  obtain ⟨WL, hWL⟩ : ∃ x, w.alloc (.cells (stA v c h) 45) = x := ⟨_, rfl⟩
  have hb : Below w.heap.size w WL := by rw [← hWL]; exact (Below.refl _ _).alloc (Nat.le_refl _) _
  have sS : SBox WL w.heap.size v c h := by rw [← hWL]; exact SBox.new w v c h
  have HC := Lib.hid (Check_is v l i e hc WL (hr.later hb))
  have hq : (e != 0) = true := by simp [h0]
  have q1 := sS.v
  clear hc h0
  go_enter Try.func59, Try.ntmps59
  go_wp2_with fail
  try rw [hWL]
  refine HC.out.mono ?_
  rintro e w1 ⟨rfl, B1⟩
  go_wp2
  go_ret
  exact ⟨rfl, hb.trans (B1.mono hb.size)⟩

set_option maxRecDepth 100000 in
set_option maxHeartbeats 4000000 in
theorem CheckState_is (v : Value) (L : List Ru) (hL : OkL L) (c h : Nat → Int) (hs : ∀ k, k < 7 → c k ≤ 49708 ∨ 1000000 < c k) (r : Int) (hrs : csF L c h = r) (w : World) (hr : RAt w v (toI L)) :
    Calls Try.prog 59 #[stV v c h] w fun x w' => x = .returned (.int .i64 r) ∧ Below w.heap.size w w' := by
  obtain ⟨WL, hWL⟩ : ∃ x, w.alloc (.cells (stA v c h) 45) = x := ⟨_, rfl⟩
  have hb : Below w.heap.size w WL := by rw [← hWL]; exact (Below.refl _ _).alloc (Nat.le_refl _) _
  have sS : SBox WL w.heap.size v c h := by rw [← hWL]; exact SBox.new w v c h
  have hrL := hr.later hb
  have HC := Lib.hid (Check_is v (toI L) 0 0 (chkP_of hL) WL hrL)
  have q1 := sS.v
  have HRS := Lib.hid hrs
  have HS := Lib.hid hs
  have HL := Lib.hid hL
  clear hrs hs
  go_enter Try.func59, Try.ntmps59
  go_wp2_with fail
  try rw [hWL]
  refine HC.out.mono ?_
  rintro e w1 ⟨rfl, B1⟩
  have s1 := sS.later B1
  have hB1 := hb.trans (B1.mono hb.size)
  have c0 := s1.c 0 (by decide)
  have c1 := s1.c 1 (by decide)
  have c2 := s1.c 2 (by decide)
  have c3 := s1.c 3 (by decide)
  have c4 := s1.c 4 (by decide)
  have c5 := s1.c 5 (by decide)
  have c6 := s1.c 6 (by decide)
  simp only [Nat.reduceAdd] at c0 c1 c2 c3 c4 c5 c6
  have hr1 := hrL.later B1
  have hsz1 := s1.lt
  clear hWL
  go_wp2_with fail
  clear c0 c1 c2 c3 c4 c5 c6
  have q1 := s1.v
  go_loopw [18] (fun i wr => ∃ k : Nat, k ≤ 7 ∧ i = .int .i64 k ∧ Hid (∀ j, j < k → okS L c h j = true) ∧ Below w1.heap.size w1 wr) (fun i _ => 7 - (intOf i).toNat)
  case atStart => exact ⟨0, Nat.zero_le _, rfl, (fun j hj => by omega), Below.refl _ _⟩
  case round =>
    obtain ⟨k, hk, rfl, HO, hB⟩ := hrel
    by_cases hlt : k < 7
    · have hix := fun W => idx7 c k hlt W
      have hh := s1.h k hlt
      have hi1 : (k : Int) < 7 := by omega
      have hk0 : decide ((k : Int) < 0) = false := by simp
      have hk7 : decide ((7 : Int) ≤ (k : Int)) = false := by simp; omega
      have hsk := HS.out k hlt
      replace hh := cell_later hB hh
      have hq1 := cell_later hB q1
      have hr2 := hr1.later hB
      obtain ⟨ck, hck⟩ : ∃ x, c k = x := ⟨_, rfl⟩
      obtain ⟨hv, hhv⟩ : ∃ x, h k = x := ⟨_, rfl⟩
      rw [hck] at hix hsk
      rw [hhv] at hh
      by_cases hneg : ck < 0
      · have d1 : decide (ck < 0) = true := by simpa using hneg
        have hr6 : r = 6 := by rw [← HRS.out]; exact csF_cut hlt (by unfold okS; rw [hck]; simp; omega)
        subst hr6
        clear hck hhv
        go_wp2_with fail
        go_quiet (fail)
        go_wp2_with fail
        go_ret
        exact ⟨rfl, hB1.trans ((below_drewN hB _).mono hB1.size)⟩
      · by_cases hbig : 1000000 < ck
        · have d1 : decide (ck < 0) = false := by simpa using hneg
          have d2 : decide (1000000 < ck) = true := by simpa using hbig
          have hr6 : r = 6 := by rw [← HRS.out]; exact csF_cut hlt (by unfold okS; rw [hck]; simp; omega)
          subst hr6
          clear hck hhv
          go_wp2_with fail
          go_quiet (fail)
          go_wp2_with fail
          go_ret
          exact ⟨rfl, hB1.trans ((below_drewN hB _).mono hB1.size)⟩
        · have d1 : decide (ck < 0) = false := by simpa using hneg
          have d2 : decide (1000000 < ck) = false := by simpa using hbig
          obtain ⟨n, rfl⟩ : ∃ n : Nat, ck = (n : Int) := ⟨ck.toNat, by omega⟩
          have HH := Lib.hid (fun W hW => hits_is L HL.out k n (by omega) v W hW)
          obtain ⟨m, hm⟩ : ∃ m, hitN L k n = m := ⟨_, rfl⟩
          rw [hm] at HH
          have x0 := fun x : Beh wr => Beh.cell hq1 x
          have xh := fun x : Beh wr => Beh.cell hh x
          by_cases heq : hv = (m : Int)
          · have hq : (hv != (m : Int)) = false := by simp [heq]
            have HO2 : Hid (∀ j, j < k + 1 → okS L c h j = true) := fun j hj => by
              by_cases hjk : j < k
              · exact HO.out j hjk
              · obtain rfl : j = k := by omega
                unfold okS
                rw [hck, hhv, Int.toNat_natCast, hm, heq]
                simp; omega
            clear hck hhv hm HO heq
            go_wp2_with fail
            refine region_beh (by kernel_rfl) (by kernel_rfl) ?_
            repeat (go_big_quiet_step ((go_at_call 85; rename_i x; refine (HH.out _ (hr2.later x.h)).mono ?_; rintro e w3 ⟨rfl, B3⟩; exact ⟨rfl, ⟨_, x.h.trans (B3.mono x.h.size)⟩, rfl⟩)))
            refine wpQuiet_nil ?_
            intro _ hw'
            obtain ⟨x, rfl⟩ := hw'
            go_wp2_with fail
            go_roundw
            case rel => exact ⟨k + 1, by omega, by go_num, HO2, hB.trans (x.h.mono hB.size)⟩
            case measure => simp [intOf]; omega
          · have hq : (hv != (m : Int)) = true := by simp [heq]
            have hr6 : r = 6 := by
              rw [← HRS.out]
              refine csF_cut hlt ?_
              unfold okS
              rw [hck, hhv, Int.toNat_natCast, hm]
              simp [heq]
            subst hr6
            clear hck hhv hm HO heq
            go_wp2_with fail
            refine region_beh (by kernel_rfl) (by kernel_rfl) ?_
            repeat (go_big_quiet_step ((go_at_call 85; rename_i x; refine (HH.out _ (hr2.later x.h)).mono ?_; rintro e w3 ⟨rfl, B3⟩; exact ⟨rfl, ⟨_, x.h.trans (B3.mono x.h.size)⟩, rfl⟩)))
            refine wpQuiet_nil ?_
            intro _ hw'
            obtain ⟨x, rfl⟩ := hw'
            go_wp2_with fail
            go_ret
            exact ⟨rfl, hB1.trans ((hB.trans (x.h.mono hB.size)).mono hB1.size)⟩
    · have hi1 : ¬ ((k : Int) < 7) := by omega
      have hr0 : r = 0 := by rw [← HRS.out]; exact csF_all fun j hj => HO.out j (by omega)
      subst hr0
      go_wp2
      go_ret
      exact ⟨rfl, hB1.trans (hB.mono hB1.size)⟩
end Go.Proofs.Ytnmeeddhagmjdaa
