/- RefusalsRests: a state whose numbers are right. -/
import Derived.Test.YtldebakeebajkaaDoorRfRe
namespace Go.Proofs.YtldebakeebajkaaDoor
open Go.RowKit Go.Shelf
attribute [local go_sem] Oper.semAt_some

theorem kmod (y : Nat) : Int.tmod (y : Int) 7 = ((y % 7 : Nat) : Int) := by rw [Int.tmod_eq_emod_of_nonneg (by omega)]; omega
theorem nmod (y : Nat) : Int.tmod (y : Int) 2000 = ((y % 2000 : Nat) : Int) := by rw [Int.tmod_eq_emod_of_nonneg (by omega)]; omega
set_option maxRecDepth 100000 in
set_option maxHeartbeats 4000000 in
theorem rests_ok (v : Value) (L : List Ru) (hL : OkL L) (c h : Nat → Int) (hwd : (wdB c || farB (toI L).length) = false) (hrs : csF L c h = 0) (y1 y2 : Nat) (hy1 : y1 < 256) (hy2 : y2 < 65536) (w : World) (hw : Gd w) (hr : RAt w v (toI L)) :
    Calls Tryd.prog 10 #[stV v c h, .int .u8 (y1 : Int), .int .u16 (y2 : Int)] w fun e w' => e = .returned (.bool true) ∧ Below w.heap.size w w' := by
  obtain ⟨WL, hWL⟩ : ∃ x, w.alloc (.cells (stA v c h) 40) = x := ⟨_, rfl⟩
  have hb : Below w.heap.size w WL := by rw [← hWL]; exact (Below.refl _ _).alloc (Nat.le_refl _) _
  have sS : SBox WL w.heap.size v c h := by rw [← hWL]; exact SBox.new w v c h
  have HF := Lib.hid (wide_is v (toI L) c h false hwd WL (hr.later hb))
  have hwd1 : wdB c = false := by cases hx : wdB c <;> simp [hx] at hwd ⊢
  have hs : ∀ k, k < 7 → c k ≤ 49708 ∨ 1000000 < c k := fun k hk => by rcases wdB_false hwd1 k hk with h | h <;> omega
  have hmd : ∀ k, k < 7 → c k = (((c k).toNat : Nat) : Int) := fun k hk => by obtain ⟨n, h1, _⟩ := okS_num (csF_ok hrs k hk); omega
  have hmd3 : ∀ k, k < 7 → (c k).toNat ≤ 3000 := fun k hk => by
    obtain ⟨n, h1, h2, _⟩ := okS_num (csF_ok hrs k hk)
    rcases wdB_false hwd1 k hk with h | h <;> omega
  obtain ⟨md, hmdd⟩ : ∃ f : Nat → Nat, (fun k => (c k).toNat) = f := ⟨_, rfl⟩
  replace hmd : ∀ k, k < 7 → c k = (md k : Int) := fun k hk => by rw [← hmdd]; exact hmd k hk
  replace hmd3 : ∀ k, k < 7 → md k ≤ 3000 := fun k hk => by rw [← hmdd]; exact hmd3 k hk
  have HR := Lib.hid (fun W hW => Rest_ok v L hL c h hs hrs md hmd (fun k hk => by have := hmd3 k hk; omega) W hW)
  have HL := Lib.hid hL
  obtain ⟨kd, hkd⟩ : ∃ x, y1 % 7 = x := ⟨_, rfl⟩
  obtain ⟨q, hq⟩ : ∃ x, y2 % 2000 = x := ⟨_, rfl⟩
  obtain ⟨m, hm⟩ : ∃ x, 1 + q = x := ⟨_, rfl⟩
  have ekd : Int.tmod (y1 : Int) 7 = (kd : Int) := by rw [kmod, hkd]
  have em : Int.tmod (y2 : Int) 2000 = (q : Int) := by rw [nmod, hq]
  have em2 : (1 : Int) + (q : Int) = (m : Int) := by omega
  have hk7 : kd < 7 := by omega
  have hm1 : 1 ≤ m := by omega
  have hm2 : m ≤ 2000 := by omega
  have hck := hmd kd hk7
  obtain ⟨n, hn⟩ : ∃ x, md kd = x := ⟨_, rfl⟩
  have hn3 : n ≤ 3000 := by rw [← hn]; exact hmd3 kd hk7
  rw [hn] at hck
  obtain ⟨z, hz⟩ : ∃ x, n + m = x := ⟨_, rfl⟩
  have hnm : (n : Int) + (m : Int) = (z : Int) := by omega
  have hz6 : ¬ ((1000000 : Int) < (z : Int)) := by omega
  obtain ⟨g, hg⟩ : ∃ g, refP L kd z = g := ⟨_, rfl⟩
  have HA := Lib.hid (fun (u : Value) W hW => Refused_ok (restL L md) (restL_ok hL md) kd m hk7 hm1 (by omega) u W hW)
  rw [restL_ref hL md kd m hm1, hn, hz, hg] at HA
  have HB := Lib.hid (fun W hW => Refused_ok L hL kd z hk7 (by omega) (by omega) v W hW)
  rw [hg] at HB
  clear hwd hwd1 hs hrs hmd hmd3 hmdd hkd hq hm hn hg hz
  go_enter Tryd.func10, Tryd.ntmps10
  go_wp2_with (refine wpList_load_row rfl 40 _ rfl w.heap.size rfl 40 _ (0, 0) _ sS Tryd.underlying40 rfl (st_i _ _ _) ?_)
  try rw [hWL]
  refine HF.out.mono ?_
  rintro e w1 ⟨rfl, B1⟩
  have hB1 := hb.trans (B1.mono hb.size)
  have s1 := sS.later B1
  clear hWL
  go_wp2_with (refine wpList_load_row rfl 40 _ rfl w.heap.size rfl 40 _ (0, 0) _ s1 Tryd.underlying40 rfl (st_i _ _ _) ?_)
  refine (HR.out w1 ((hr.later hb).later B1)).mono ?_
  rintro e w2 ⟨u, rfl, hru, B2⟩
  have hB2 := hB1.trans (B2.mono hB1.size)
  have s2 := s1.later B2
  obtain ⟨W3, hW3⟩ : ∃ x, w2.alloc (.cells #[.slice none 0 0] 24) = x := ⟨_, rfl⟩
  have l3 : Boxed W3 w2.heap.size 24 (.slice none 0 0) := by rw [← hW3]; exact Boxed.new w2 _ _
  have b3 : Below w2.heap.size w2 W3 := by rw [← hW3]; exact (Below.refl _ _).alloc (Nat.le_refl _) _
  have f3 := l3.frozen
  have q3 := l3.cell
  have l4 := l3.set u
  have q4 := l4.cell
  have b4 : Below w2.heap.size w2 (W3.setCell ⟨w2.heap.size, 0, none⟩ u) := b3.setCell (Nat.le_refl _) _
  have hB4 := hB2.trans (b4.mono hB2.size)
  have s4 := s2.later b4
  have hr4 := hru.later b4
  obtain ⟨ua, un, uc, rfl⟩ : ∃ a n c, u = .slice a n c := by obtain ⟨a, c, rfl⟩ := hru.form; exact ⟨_, _, _, rfl⟩
  go_wp2_with fail
  try rw [hW3]
  refine (HA.out _ _ hr4).mono ?_
  rintro e w5 ⟨rfl, B5⟩
  have hB5 := hB4.trans (B5.mono hB4.size)
  have s5 := s4.later B5
  have q5 := s5.v
  have k5 := s5.c kd hk7
  rw [hck] at k5
  have hr5 := ((hr.later hb).later ((B1.trans ((B2.trans ((b4.trans (B5.mono b4.size)).mono B2.size)).mono B1.size)) : Below WL.heap.size WL w5))
  have hk0 : decide ((kd : Int) < 0) = false := by simp
  have hk9 : decide ((7 : Int) ≤ (kd : Int)) = false := by simp; omega
  have har := arr7
  have x0 := fun x : Beh w5 => Beh.cell q5 x
  have xk := fun x : Beh w5 => Beh.cell k5 x
  clear q3 q4 f3
  go_wp2_with fail
  refine region_beh (by kernel_rfl) (by kernel_rfl) ?_
  repeat (go_big_quiet_step ((go_at_call 16; rename_i x; refine (HB.out _ (hr5.later x.h)).mono ?_; rintro e w6 ⟨rfl, B6⟩; exact ⟨rfl, ⟨_, x.h.trans (B6.mono x.h.size)⟩, rfl⟩)))
  refine wpQuiet_nil ?_
  intro _ hw'
  obtain ⟨x, rfl⟩ := hw'
  have k6 := Beh.cell k5 x
  have hB6 := hB5.trans (x.h.mono hB5.size)
  clear x0 xk k5 q5
  go_wp2_with fail
  refine (shown_is _ (hw.later hB6)).mono ?_
  rintro e w7 ⟨rfl, B7⟩
  cases g
  all_goals
    go_wp2
    go_ret
    exact ⟨rfl, hB6.trans (B7.mono hB6.size)⟩

theorem law_rests (v : Value) (l : List RlI) (c h : Nat → Int) (y1 y2 : Nat) (hy1 : y1 < 256) (hy2 : y2 < 65536) (w : World) (hw : Gd w) (hr : RAt w v l) :
    Calls Tryd.prog 10 #[stV v c h, .int .u8 (y1 : Int), .int .u16 (y2 : Int)] w fun e w' => e = .returned (.bool true) ∧ Below w.heap.size w w' := by
  cases hwd : (wdB c || farB l.length)
  · obtain ⟨i, e, hc⟩ : ∃ i e, chkP l = (i, e) := ⟨_, _, rfl⟩
    by_cases h0 : e = 0
    · obtain ⟨L, rfl, hL⟩ := chkP_ok (l := l) (by rw [hc]; exact h0)
      have hwd1 : wdB c = false := by cases hx : wdB c <;> simp [hx] at hwd ⊢
      have hs : ∀ k, k < 7 → c k ≤ 49708 ∨ 1000000 < c k := fun k hk => by rcases wdB_false hwd1 k hk with h | h <;> omega
      by_cases hf : csF L c h = 0
      · exact rests_ok v L hL c h hwd hf y1 y2 hy1 hy2 w hw hr
      · exact rests_bad v _ c h hwd _ hf y1 y2 w hw hr fun W hW => CheckState_is v L hL c h hs _ rfl W (hr.later hW)
    · exact rests_bad v l c h hwd e h0 y1 y2 w hw hr fun W hW => CheckState_bad v l i e hc h0 c h W (hr.later hW)
  · exact rests_wide v l c h hwd y1 y2 w hw hr
end Go.Proofs.YtldebakeebajkaaDoor
