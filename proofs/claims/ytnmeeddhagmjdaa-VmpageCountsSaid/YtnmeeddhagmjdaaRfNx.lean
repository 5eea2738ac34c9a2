/- Next. -/
import Derived.Test.YtnmeeddhagmjdaaRfCs
namespace Go.Proofs.Ytnmeeddhagmjdaa
open Go.RowKit Go.Shelf
attribute [local go_sem] Oper.semAt_some

theorem next_world (w : World) (v : Value) (c h : Nat → Int) : ∃ WL, (w.alloc (.cells (stA v c h) 45)).alloc (.cells #[.slice none 0 0, .int .i64 0, .int .i64 0, .int .i64 0, .int .i64 0, .int .i64 0, .int .i64 0, .int .i64 0, .int .i64 0, .int .i64 0, .int .i64 0, .int .i64 0, .int .i64 0, .int .i64 0, .int .i64 0] 45) = WL ∧ Below w.heap.size w WL ∧ SBox WL w.heap.size v c h ∧ SBox WL (w.heap.size + 1) (.slice none 0 0) zer zer := by
  refine ⟨_, rfl, ((Below.refl _ _).alloc (Nat.le_refl _) _).alloc (by simp) _, (SBox.new w v c h).alloc _, ?_⟩
  have := SBox.new (w.alloc (.cells (stA v c h) 45)) (.slice none 0 0) zer zer
  rw [World.size_alloc] at this
  exact this

def nxH (L : List Ru) (h : Nat → Int) (kd n : Nat) : Nat → Int := if refP L kd (n + 1) then upd h kd (h kd + 1) else h

set_option maxRecDepth 100000 in
set_option maxHeartbeats 4000000 in
theorem Next_ok (v : Value) (L : List Ru) (hL : OkL L) (c h : Nat → Int) (hs : ∀ k, k < 7 → c k ≤ 49708 ∨ 1000000 < c k) (hrs : csF L c h = 0) (kd n : Nat) (hkd : kd < 7) (hn : c kd = (n : Int)) (hn2 : n < 49708) (w : World) (hr : RAt w v (toI L)) :
    Calls Try.prog 104 #[stV v c h, .int .i64 (kd : Int)] w fun x w' => ∃ u, x = .returned (.tuple #[stV u (upd c kd (n + 1 : Nat)) (nxH L h kd n), .bool (refP L kd (n + 1)), .int .i64 0]) ∧ RAt w' u (toI L) ∧ (∀ b, u.ownBlock = some b → w.heap.size ≤ b ∧ b < w'.heap.size) ∧ Below w.heap.size w w' := by
  obtain ⟨va, vc, hv⟩ := hr.form
  have hv1 : v.oneCell' = true := by rw [hv]; rfl
  obtain ⟨WL, hWL, hb, sS, sR⟩ := next_world w v c h
  have hrL := hr.later hb
  have HC := Lib.hid (CheckState_is v L hL c h hs 0 hrs WL hrL)
  obtain ⟨m, hm, hmn⟩ : ∃ m : Nat, h kd = (m : Int) ∧ m ≤ n := by
    have ho : okS L c h kd = true := by
      cases hq : okS L c h kd
      · rw [csF_cut hkd hq] at hrs; cases hrs
      · rfl
    obtain ⟨n', h1, _, h3⟩ := okS_num ho
    obtain rfl : n' = n := by omega
    exact ⟨_, h3, hitN_le L kd n' hL.2⟩
  have q1 : (loadVar 45 ⟨w.heap.size, 0, none⟩).run Try.prog WL = _ := st_load sS
  have HL := Lib.hid hL
  have hlen : (toI L).length ≤ 4000000 := by rw [toI_len]; have := hL.1; omega
  have hkB : isK (kd : Int) = true := by unfold isK; simp; omega
  have HK := Lib.hid hkB
  have hkc := sS.c kd hkd
  have hkc0 := sS.v
  rw [hn] at hkc
  clear hrs hs hv hkB
  go_enter Try.func104, Try.ntmps104
  go_wp2_with (refine wpList_load_row rfl 45 _ rfl w.heap.size rfl 45 _ (0, 0) _ sS Try.underlying45 rfl (st_i _ _ _) ?_)
  try rw [hWL]
  refine HC.out.mono ?_
  rintro e w1 ⟨rfl, B1⟩
  have s1 := sS.later B1
  have r1 := sR.later B1
  have hr1 := hrL.later B1
  have hB1 := hb.trans (B1.mono hb.size)
  have k1 := s1.c kd hkd
  have v1 := s1.v
  rw [hn] at k1
  have hkd1 : (kd : Int) < 7 := by omega
  have hn3 : ((n : Int) == 1000000) = false := by simp; omega
  have hsl1 := s1.lt
  have har := arr7
  clear hWL hkc hkc0 q1
  go_wp2_with fail
  refine (isKind_is kd true HK.out _).mono ?_
  rintro e w1' ⟨rfl, rfl⟩
  go_wp2_with fail
  refine (clone_is (toI L) hlen v _ hr1).mono ?_
  rintro e w2 ⟨u, rfl, h2, hfr, B2⟩
  have s2 := s1.later B2
  have r2 := r1.later B2
  have hB2 := hB1.trans (B2.mono hB1.size)
  have hrl1 := r1.lt
  obtain ⟨ua, uc, rfl⟩ := h2.form
  obtain ⟨nL, hnL⟩ : ∃ m, (toI L).length = m := ⟨_, rfl⟩
  rw [hnL] at h2 hfr
  rw [hnL]
  have hfr2 : ∀ b, (Value.slice ua nL uc).ownBlock = some b → b ≠ w.heap.size ∧ b ≠ w.heap.size + 1 := fun b hb2 => by have := hfr b hb2; omega
  have sv := s2.setv (.slice ua nL uc)
  have sc := sv.setc kd hkd ((n : Int) + 1)
  have zf := s2.frozen 0
  have zv := s2.v
  have zk := sv.c kd hkd
  have zkf := sv.frozen (1 + kd)
  rw [hn] at zk
  obtain ⟨W3, hW3⟩ : ∃ x, (w2.setCell ⟨w.heap.size, 0, none⟩ (.slice ua nL uc)).setCell ⟨w.heap.size, 1 + kd, none⟩ (.int .i64 ((n : Int) + 1)) = x := ⟨_, rfl⟩
  have rc : SBox W3 (w.heap.size + 1) (.slice none 0 0) zer zer := by
    rw [← hW3]; exact (r2.other (by show w.heap.size + 1 ≠ w.heap.size; omega) _).other (by show w.heap.size + 1 ≠ w.heap.size; omega) _
  have hB3 : Below w.heap.size w W3 := by rw [← hW3]; exact (hB2.setCell (by dsimp only; omega) _).setCell (by dsimp only; omega) _
  have hr3 : RAt W3 (.slice ua nL uc) (toI L) := by
    rw [← hW3]
    rcases h2 with h2 | ⟨g, off, cap, hg, h5, h6, hc⟩
    · exact .inl h2
    · have hgn := (hfr2 g (by rw [hg]; rfl)).1
      refine .inr ⟨g, off, cap, hg, h5, h6, fun j x hx => ?_⟩
      have h7 := hc j x hx
      have e : ∀ o, ((w2.setCell ⟨w.heap.size, 0, none⟩ (.slice ua nL uc)).setCell ⟨w.heap.size, 1 + kd, none⟩ (.int .i64 ((n : Int) + 1))).cell? ⟨g, o, none⟩ = w2.cell? ⟨g, o, none⟩ := fun o =>
        World.cell?_of_block (w := w2) ((Below.heap_setCell _ _ _ _ hgn).trans (Below.heap_setCell _ _ _ _ hgn))
      rw [e, e, e, e]; exact h7
  rw [hW3] at sc
  have HW3 := Lib.hid hW3
  clear hW3 hnL
  go_wp2_with fail
  rw [HW3.out]
  have y0 := fun x : Beh W3 => Beh.cell sc.v x
  have y1 := fun x : Beh W3 => Beh.cell (sc.c kd hkd) x
  rw [show upd c kd ((n : Int) + 1) kd = (n : Int) + 1 by unfold upd; rw [if_pos rfl]] at y1
  have HR := Lib.hid (fun W hW => refuses_is L HL.out kd (n + 1) (by omega) (by omega) (.slice ua nL uc) W hW)
  rw [show ((n + 1 : Nat) : Int) = (n : Int) + 1 by omega] at HR
  have hk0 : decide ((kd : Int) < 0) = false := by simp
  have hk7 : decide ((7 : Int) ≤ (kd : Int)) = false := by simp; omega
  refine region_beh (by kernel_rfl) (by kernel_rfl) ?_
  repeat (go_big_quiet_step ((go_at_call 106; rename_i x; refine (HR.out _ (hr3.later x.h)).mono ?_; rintro e w3 ⟨rfl, B3⟩; exact ⟨rfl, ⟨_, x.h.trans (B3.mono x.h.size)⟩, rfl⟩)))
  refine wpQuiet_nil ?_
  intro _ hw'
  obtain ⟨x, rfl⟩ := hw'
  have sX := sc.later x.h
  have rX := rc.later x.h
  have hrX := hr3.later x.h
  have hBX := hB3.trans (x.h.mono hB3.size)
  have hfX : ∀ b, (Value.slice ua nL uc).ownBlock = some b → w.heap.size ≤ b ∧ b < x.W.heap.size := fun b e => by
    have h1 := hfr b e
    have h2 : w2.heap.size ≤ W3.heap.size := by rw [← HW3.out]; exact Nat.le_trans (KeepsWalks.setCell w2 _ _).size (KeepsWalks.setCell _ _ _).size
    have h3 := x.h.size
    have h4 := hB1.size
    omega
  generalize x.W = X at sX rX hrX hBX hfX ⊢
  have hzX := sX.h kd hkd
  rw [hm] at hzX
  have hzf := sX.frozen (8 + kd)
  have hu1 : (Value.slice ua nL uc).oneCell' = true := rfl
  have hupd : upd c kd ((n : Int) + 1) = upd c kd (n + 1 : Nat) := by congr 1
  have HU := Lib.hid hupd
  clear hupd
  cases hq : refP L kd (n + 1)
  · clear hzX hzf
    have HN := Lib.hid (show nxH L h kd n = h by unfold nxH; rw [hq]; simp)
    go_wp2_with (first | (refine wpList_load_row rfl 45 _ rfl w.heap.size rfl 45 _ (0, 0) _ sX Try.underlying45 rfl (st_i _ _ _) ?_) | (refine wpList_store_row rfl 45 _ _ rfl (w.heap.size + 1) (stA (.slice ua nL uc) (upd c kd ((n : Int) + 1)) h) rfl rfl 45 _ rX (st_i _ _ _) rfl (stA_one _ hu1 _ _) ?_))
    have sF := rX.row (.slice ua nL uc) (upd c kd ((n : Int) + 1)) h
    have hld := st_load sF
    refine bodyPost_ret (v := .tuple #[stV (.slice ua nL uc) (upd c kd ((n : Int) + 1)) h, .bool false, .int .i64 0]) (by simp [results, Try.results104, asAddr, hld]) rfl ⟨_, ?_, hrX.row _ (fun e => (hfr2 _ e).2 rfl), fun b e => (by rw [setRow_size]; exact hfX b e), below_row hBX _ (by omega) _⟩
    rw [HU.out, HN.out, hq]
  · have HN := Lib.hid (show nxH L h kd n = upd h kd ((m : Int) + 1) by unfold nxH; rw [hq, hm]; simp)
    have sY := sX.seth kd hkd ((m : Int) + 1)
    have rY : SBox (X.setCell ⟨w.heap.size, 8 + kd, none⟩ (.int .i64 ((m : Int) + 1))) (w.heap.size + 1) (.slice none 0 0) zer zer := rX.other (by show w.heap.size + 1 ≠ w.heap.size; omega) _
    have hBY : Below w.heap.size w (X.setCell ⟨w.heap.size, 8 + kd, none⟩ (.int .i64 ((m : Int) + 1))) := hBX.setCell (by dsimp only; omega) _
    have hrY : RAt (X.setCell ⟨w.heap.size, 8 + kd, none⟩ (.int .i64 ((m : Int) + 1))) (.slice ua nL uc) (toI L) := by
      rcases hrX with h2 | ⟨g, off, cap, hg, h5, h6, hc⟩
      · exact .inl h2
      · have hgn := (hfr2 g (by rw [hg]; rfl)).1
        refine .inr ⟨g, off, cap, hg, h5, h6, fun j x hx => ?_⟩
        have h7 := hc j x hx
        have e : ∀ o, (X.setCell ⟨w.heap.size, 8 + kd, none⟩ (.int .i64 ((m : Int) + 1))).cell? ⟨g, o, none⟩ = X.cell? ⟨g, o, none⟩ := fun o => World.cell?_of_block (w := X) (Below.heap_setCell _ _ _ _ hgn)
        rw [e, e, e, e]; exact h7
    go_wp2_with (first | (refine wpList_load_row rfl 45 _ rfl w.heap.size rfl 45 _ (0, 0) _ sY Try.underlying45 rfl (st_i _ _ _) ?_) | (refine wpList_store_row rfl 45 _ _ rfl (w.heap.size + 1) (stA (.slice ua nL uc) (upd c kd ((n : Int) + 1)) (upd h kd ((m : Int) + 1))) rfl rfl 45 _ rY (st_i _ _ _) rfl (stA_one _ hu1 _ _) ?_))
    have sF := rY.row (.slice ua nL uc) (upd c kd ((n : Int) + 1)) (upd h kd ((m : Int) + 1))
    have hld := st_load sF
    refine bodyPost_ret (v := .tuple #[stV (.slice ua nL uc) (upd c kd ((n : Int) + 1)) (upd h kd ((m : Int) + 1)), .bool true, .int .i64 0]) (by simp [results, Try.results104, asAddr, hld]) rfl ⟨_, ?_, hrY.row _ (fun e => (hfr2 _ e).2 rfl), fun b e => (by rw [setRow_size]; exact ⟨(hfX b e).1, Nat.lt_of_lt_of_le (hfX b e).2 (KeepsWalks.setCell X _ _).size⟩), below_row hBY _ (by omega) _⟩
    rw [HU.out, HN.out, hq]
end Go.Proofs.Ytnmeeddhagmjdaa
