/- Next: the errors; the reference's Next and Start. -/
import Derived.Test.YtnmeeddhagmjdaaRfRk
import Derived.Test.YtnmeeddhagmjdaaRfNx
namespace Go.Proofs.Ytnmeeddhagmjdaa
open Go.RowKit Go.Shelf
attribute [local go_sem] Oper.semAt_some

theorem isK_inb (k : Int) : inb k 0 6 = isK k := by unfold inb isK; rw [Bool.eq_iff_iff]; simp; omega
set_option maxRecDepth 100000 in
set_option maxHeartbeats 2000000 in
theorem Next_bad (v : Value) (c h : Nat → Int) (x : Int) (hx : x ≠ 0) (kd : Int) (w : World) (hC : ∀ W, Below w.heap.size w W → Calls Try.prog 59 #[stV v c h] W fun e w' => e = .returned (.int .i64 x) ∧ Below W.heap.size W w') :
    Calls Try.prog 104 #[stV v c h, .int .i64 kd] w fun e w' => e = .returned (.tuple #[stV (.slice none 0 0) zer zer, .bool false, .int .i64 x]) ∧ Below w.heap.size w w' := by
  obtain ⟨WL, hWL, hb, sS, sR⟩ := next_world w v c h
  have HC := Lib.hid (hC WL hb)
  have hq : (x != 0) = true := by simp [hx]
  have hq2 : (x == 0) = false := by simp [hx]
  clear hx hC
  go_enter Try.func104, Try.ntmps104
  go_wp2_with (refine wpList_load_row rfl 45 _ rfl w.heap.size rfl 45 _ (0, 0) _ sS Try.underlying45 rfl (st_i _ _ _) ?_)
  try rw [hWL]
  refine HC.out.mono ?_
  rintro e w1 ⟨rfl, B1⟩
  have r1 := sR.later B1
  have hB1 := hb.trans (B1.mono hb.size)
  clear hWL
  go_wp2_with (refine wpList_store_row rfl 45 _ _ rfl (w.heap.size + 1) (stA (.slice none 0 0) zer zer) rfl rfl 45 _ r1 (st_i _ _ _) rfl (stA_one _ rfl _ _) ?_)
  have sR2 := r1.row (.slice none 0 0) zer zer
  have hld := st_load sR2
  refine bodyPost_ret (v := .tuple #[stV (.slice none 0 0) zer zer, .bool false, .int .i64 x]) (by simp [results, Try.results104, asAddr, hld]) rfl ⟨rfl, below_row hB1 _ (by omega) _⟩
set_option maxRecDepth 100000 in
set_option maxHeartbeats 2000000 in
theorem Next_kind (v : Value) (c h : Nat → Int) (kd : Int) (hk : isK kd = false) (w : World) (hC : ∀ W, Below w.heap.size w W → Calls Try.prog 59 #[stV v c h] W fun e w' => e = .returned (.int .i64 0) ∧ Below W.heap.size W w') :
    Calls Try.prog 104 #[stV v c h, .int .i64 kd] w fun e w' => e = .returned (.tuple #[stV (.slice none 0 0) zer zer, .bool false, .int .i64 2]) ∧ Below w.heap.size w w' := by
  obtain ⟨WL, hWL, hb, sS, sR⟩ := next_world w v c h
  have HC := Lib.hid (hC WL hb)
  have HK := Lib.hid hk
  clear hC hk
  go_enter Try.func104, Try.ntmps104
  go_wp2_with (refine wpList_load_row rfl 45 _ rfl w.heap.size rfl 45 _ (0, 0) _ sS Try.underlying45 rfl (st_i _ _ _) ?_)
  try rw [hWL]
  refine HC.out.mono ?_
  rintro e w1 ⟨rfl, B1⟩
  have r1 := sR.later B1
  have hB1 := hb.trans (B1.mono hb.size)
  clear hWL
  go_wp2_with fail
  refine (isKind_is kd false HK.out _).mono ?_
  rintro e w1' ⟨rfl, rfl⟩
  go_wp2_with (refine wpList_store_row rfl 45 _ _ rfl (w.heap.size + 1) (stA (.slice none 0 0) zer zer) rfl rfl 45 _ r1 (st_i _ _ _) rfl (stA_one _ rfl _ _) ?_)
  have sR2 := r1.row (.slice none 0 0) zer zer
  have hld := st_load sR2
  refine bodyPost_ret (v := .tuple #[stV (.slice none 0 0) zer zer, .bool false, .int .i64 2]) (by simp [results, Try.results104, asAddr, hld]) rfl ⟨rfl, below_row hB1 _ (by omega) _⟩
set_option maxRecDepth 100000 in
set_option maxHeartbeats 2000000 in
theorem RNext_bad (v : Value) (c h : Nat → Int) (x : Int) (hx : x ≠ 0) (kd : Int) (w : World) (hC : ∀ W, Below w.heap.size w W → Calls Try.prog 63 #[stV v c h] W fun e w' => e = .returned (.int .i64 x) ∧ Below W.heap.size W w') :
    Calls Try.prog 31 #[stV v c h, .int .i64 kd] w fun e w' => e = .returned (.tuple #[stV (.slice none 0 0) zer zer, .bool false, .int .i64 x]) ∧ Below w.heap.size w w' := by
  obtain ⟨WL, hWL, hb, sS, sR⟩ := next_world w v c h
  have HC := Lib.hid (hC WL hb)
  have hq : (x != 0) = true := by simp [hx]
  have hq2 : (x == 0) = false := by simp [hx]
  clear hx hC
  go_enter Try.func31, Try.ntmps31
  go_wp2_with (refine wpList_load_row rfl 45 _ rfl w.heap.size rfl 45 _ (0, 0) _ sS Try.underlying45 rfl (st_i _ _ _) ?_)
  try rw [hWL]
  refine HC.out.mono ?_
  rintro e w1 ⟨rfl, B1⟩
  have r1 := sR.later B1
  have hB1 := hb.trans (B1.mono hb.size)
  clear hWL
  go_wp2_with (refine wpList_store_row rfl 45 _ _ rfl (w.heap.size + 1) (stA (.slice none 0 0) zer zer) rfl rfl 45 _ r1 (st_i _ _ _) rfl (stA_one _ rfl _ _) ?_)
  have sR2 := r1.row (.slice none 0 0) zer zer
  have hld := st_load sR2
  refine bodyPost_ret (v := .tuple #[stV (.slice none 0 0) zer zer, .bool false, .int .i64 x]) (by simp [results, Try.results31, asAddr, hld]) rfl ⟨rfl, below_row hB1 _ (by omega) _⟩
set_option maxRecDepth 100000 in
set_option maxHeartbeats 2000000 in
theorem RNext_kind (v : Value) (c h : Nat → Int) (kd : Int) (hk : isK kd = false) (w : World) (hC : ∀ W, Below w.heap.size w W → Calls Try.prog 63 #[stV v c h] W fun e w' => e = .returned (.int .i64 0) ∧ Below W.heap.size W w') :
    Calls Try.prog 31 #[stV v c h, .int .i64 kd] w fun e w' => e = .returned (.tuple #[stV (.slice none 0 0) zer zer, .bool false, .int .i64 2]) ∧ Below w.heap.size w w' := by
  obtain ⟨WL, hWL, hb, sS, sR⟩ := next_world w v c h
  have HC := Lib.hid (hC WL hb)
  have HK := Lib.hid hk
  clear hC hk
  go_enter Try.func31, Try.ntmps31
  go_wp2_with (refine wpList_load_row rfl 45 _ rfl w.heap.size rfl 45 _ (0, 0) _ sS Try.underlying45 rfl (st_i _ _ _) ?_)
  try rw [hWL]
  refine HC.out.mono ?_
  rintro e w1 ⟨rfl, B1⟩
  have r1 := sR.later B1
  have hB1 := hb.trans (B1.mono hb.size)
  clear hWL
  go_wp2_with fail
  refine (in_is kd 0 6 false (by rw [isK_inb, HK.out]) _).mono ?_
  rintro e w1' ⟨rfl, rfl⟩
  go_wp2_with (refine wpList_store_row rfl 45 _ _ rfl (w.heap.size + 1) (stA (.slice none 0 0) zer zer) rfl rfl 45 _ r1 (st_i _ _ _) rfl (stA_one _ rfl _ _) ?_)
  have sR2 := r1.row (.slice none 0 0) zer zer
  have hld := st_load sR2
  refine bodyPost_ret (v := .tuple #[stV (.slice none 0 0) zer zer, .bool false, .int .i64 2]) (by simp [results, Try.results31, asAddr, hld]) rfl ⟨rfl, below_row hB1 _ (by omega) _⟩

set_option maxRecDepth 100000 in
set_option maxHeartbeats 4000000 in
theorem RNext_ok (v : Value) (L : List Ru) (hL : OkL L) (c h : Nat → Int) (hrs : csF L c h = 0) (kd n : Nat) (hkd : kd < 7) (hn : c kd = (n : Int)) (hn2 : n < 1000000) (w : World) (hr : RAt w v (toI L)) :
    Calls Try.prog 31 #[stV v c h, .int .i64 (kd : Int)] w fun x w' => x = .returned (.tuple #[stV v (upd c kd (n + 1 : Nat)) (nxH L h kd n), .bool (refP L kd (n + 1)), .int .i64 0]) ∧ Below w.heap.size w w' := by
  obtain ⟨va, vc, hv⟩ := hr.form
  have hv1 : v.oneCell' = true := by rw [hv]; rfl
  obtain ⟨WL, hWL, hb, sS, sR⟩ := next_world w v c h
  have hrL := hr.later hb
  have HC := Lib.hid (RCheckState_is v L hL c h 0 hrs WL hrL)
  obtain ⟨m, hm, hmn⟩ : ∃ m : Nat, h kd = (m : Int) ∧ m ≤ n := by
    have ho : okS L c h kd = true := by
      cases hq : okS L c h kd
      · rw [csF_cut hkd hq] at hrs; cases hrs
      · rfl
    obtain ⟨n', h1, _, h3⟩ := okS_num ho
    obtain rfl : n' = n := by omega
    exact ⟨_, h3, hitN_le L kd n' hL.2⟩
  have HL := Lib.hid hL
  have HK := Lib.hid (show inb (kd : Int) 0 6 = true by unfold inb; simp; omega)
  obtain ⟨bR, hbR⟩ : ∃ b, refP L kd (n + 1) = b := ⟨_, rfl⟩
  have HR := Lib.hid (fun W hW => Rrefused_is L hL kd (n + 1) (by omega) bR hbR v W hW)
  rw [show ((n + 1 : Nat) : Int) = (n : Int) + 1 by omega] at HR
  clear hrs hv
  go_enter Try.func31, Try.ntmps31
  go_wp2_with (refine wpList_load_row rfl 45 _ rfl w.heap.size rfl 45 _ (0, 0) _ sS Try.underlying45 rfl (st_i _ _ _) ?_)
  try rw [hWL]
  refine HC.out.mono ?_
  rintro e w1 ⟨rfl, B1⟩
  have s1 := sS.later B1
  have r1 := sR.later B1
  have hr1 := hrL.later B1
  have hB1 := hb.trans (B1.mono hb.size)
  have k1 := s1.c kd hkd
  have kf1 := s1.frozen (1 + kd)
  rw [hn] at k1
  have hkd1 : (kd : Int) < 7 := by omega
  have hn3 : ((n : Int) == 1000000) = false := by simp; omega
  have hsl1 := s1.lt
  have har := arr7
  clear hWL
  go_wp2_with fail
  refine (in_is kd 0 6 true HK.out _).mono ?_
  rintro e w1' ⟨rfl, rfl⟩
  have sc := s1.setc kd hkd ((n : Int) + 1)
  obtain ⟨W3, hW3⟩ : ∃ x, w1.setCell ⟨w.heap.size, 1 + kd, none⟩ (.int .i64 ((n : Int) + 1)) = x := ⟨_, rfl⟩
  have rc : SBox W3 (w.heap.size + 1) (.slice none 0 0) zer zer := by
    rw [← hW3]; exact r1.other (by show w.heap.size + 1 ≠ w.heap.size; omega) _
  have hB3 : Below w.heap.size w W3 := by rw [← hW3]; exact hB1.setCell (by dsimp only; omega) _
  rw [hW3] at sc
  have HW3 := Lib.hid hW3
  clear hW3
  go_wp2_with fail
  rw [HW3.out]
  have hr3 := hr.later hB3
  have y0 := fun x : Beh W3 => Beh.cell sc.v x
  have y1 := fun x : Beh W3 => Beh.cell (sc.c kd hkd) x
  rw [show upd c kd ((n : Int) + 1) kd = (n : Int) + 1 by unfold upd; rw [if_pos rfl]] at y1
  have hk0 : decide ((kd : Int) < 0) = false := by simp
  have hk7 : decide ((7 : Int) ≤ (kd : Int)) = false := by simp; omega
  refine region_beh (by kernel_rfl) (by kernel_rfl) ?_
  repeat (go_big_quiet_step ((go_at_call 72; rename_i x; refine (HR.out _ (hr3.later x.h)).mono ?_; rintro e w3 ⟨rfl, B3⟩; exact ⟨rfl, ⟨_, x.h.trans (B3.mono x.h.size)⟩, rfl⟩)))
  refine wpQuiet_nil ?_
  intro _ hw'
  obtain ⟨x, rfl⟩ := hw'
  have sX := sc.later x.h
  have rX := rc.later x.h
  have hBX := hB3.trans (x.h.mono hB3.size)
  generalize x.W = X at sX rX hBX ⊢
  have hzX := sX.h kd hkd
  rw [hm] at hzX
  have hzf := sX.frozen (8 + kd)
  have HU := Lib.hid (show upd c kd ((n : Int) + 1) = upd c kd (n + 1 : Nat) by congr 1)
  cases bR
  · clear hzX hzf
    have HN := Lib.hid (show nxH L h kd n = h by unfold nxH; rw [hbR]; simp)
    go_wp2_with (first | (refine wpList_load_row rfl 45 _ rfl w.heap.size rfl 45 _ (0, 0) _ sX Try.underlying45 rfl (st_i _ _ _) ?_) | (refine wpList_store_row rfl 45 _ _ rfl (w.heap.size + 1) (stA v (upd c kd ((n : Int) + 1)) h) rfl rfl 45 _ rX (st_i _ _ _) rfl (stA_one _ hv1 _ _) ?_))
    have sF := rX.row v (upd c kd ((n : Int) + 1)) h
    have hld := st_load sF
    refine bodyPost_ret (v := .tuple #[stV v (upd c kd ((n : Int) + 1)) h, .bool false, .int .i64 0]) (by simp [results, Try.results31, asAddr, hld]) rfl ⟨?_, below_row hBX _ (by omega) _⟩
    rw [HU.out, HN.out, hbR]
  · have HN := Lib.hid (show nxH L h kd n = upd h kd ((m : Int) + 1) by unfold nxH; rw [hbR, hm]; simp)
    have sY := sX.seth kd hkd ((m : Int) + 1)
    have rY : SBox (X.setCell ⟨w.heap.size, 8 + kd, none⟩ (.int .i64 ((m : Int) + 1))) (w.heap.size + 1) (.slice none 0 0) zer zer := rX.other (by show w.heap.size + 1 ≠ w.heap.size; omega) _
    have hBY : Below w.heap.size w (X.setCell ⟨w.heap.size, 8 + kd, none⟩ (.int .i64 ((m : Int) + 1))) := hBX.setCell (by dsimp only; omega) _
    go_wp2_with (first | (refine wpList_load_row rfl 45 _ rfl w.heap.size rfl 45 _ (0, 0) _ sY Try.underlying45 rfl (st_i _ _ _) ?_) | (refine wpList_store_row rfl 45 _ _ rfl (w.heap.size + 1) (stA v (upd c kd ((n : Int) + 1)) (upd h kd ((m : Int) + 1))) rfl rfl 45 _ rY (st_i _ _ _) rfl (stA_one _ hv1 _ _) ?_))
    have sF := rY.row v (upd c kd ((n : Int) + 1)) (upd h kd ((m : Int) + 1))
    have hld := st_load sF
    refine bodyPost_ret (v := .tuple #[stV v (upd c kd ((n : Int) + 1)) (upd h kd ((m : Int) + 1)), .bool true, .int .i64 0]) (by simp [results, Try.results31, asAddr, hld]) rfl ⟨?_, below_row hBY _ (by omega) _⟩
    rw [HU.out, HN.out, hbR]

set_option maxRecDepth 100000 in
set_option maxHeartbeats 1000000 in
theorem RStart_bad (v : Value) (l : List RlI) (i : Nat) (c : Int) (hc : chkP l = (i, c)) (h0 : c ≠ 0) (w : World) (h : RAt w v l) :
    Calls Try.prog 39 #[.agg #[v]] w fun e w' => e = .returned (.tuple #[stV (.slice none 0 0) zer zer, .int .i64 c]) ∧ Below w.heap.size w w' := by
  obtain ⟨WL, hWL, hb, bP, sR⟩ := start_world w v
  have HC := Lib.hid (RCheck_is v l i c hc WL (h.later hb))
  have hq : (c != 0) = true := by simp [h0]
  have q1 := bP.cell
  clear hc h0
  go_enter Try.func39, Try.ntmps39
  go_wp2_with fail
  try rw [hWL]
  refine HC.out.mono ?_
  rintro e w1 ⟨rfl, B1⟩
  have sR1 := sR.later B1
  have hB1 := hb.trans (B1.mono hb.size)
  clear hWL
  go_wp2_with (refine wpList_store_row rfl 45 _ _ rfl (w.heap.size + 1) (stA (.slice none 0 0) zer zer) rfl rfl 45 _ sR1 (st_i _ _ _) rfl (stA_one _ rfl _ _) ?_)
  have sR2 := sR1.row (.slice none 0 0) zer zer
  have hld := st_load sR2
  refine bodyPost_ret (v := .tuple #[stV (.slice none 0 0) zer zer, .int .i64 c]) (by simp [results, Try.results39, asAddr, hld]) rfl ⟨rfl, below_row hB1 _ (by omega) _⟩
set_option maxRecDepth 100000 in
set_option maxHeartbeats 1000000 in
theorem RStart_ok (v : Value) (L : List Ru) (hL : OkL L) (w : World) (h : RAt w v (toI L)) :
    Calls Try.prog 39 #[.agg #[v]] w fun e w' => e = .returned (.tuple #[stV v zer zer, .int .i64 0]) ∧ Below w.heap.size w w' := by
  obtain ⟨WL, hWL, hb, bP, sR⟩ := start_world w v
  have HC := Lib.hid (RCheck_is v (toI L) 0 0 (chkP_of hL) WL (h.later hb))
  have q1 := bP.cell
  obtain ⟨va, vc, hv⟩ := h.form
  have hv1 : v.oneCell' = true := by rw [hv]; rfl
  clear hv
  go_enter Try.func39, Try.ntmps39
  go_wp2_with fail
  try rw [hWL]
  refine HC.out.mono ?_
  rintro e w1 ⟨rfl, B1⟩
  have sR1 := sR.later B1
  have hB1 := hb.trans (B1.mono hb.size)
  have q2 := (bP.kept (grown_of_below B1) (by simp)).cell
  clear hWL
  go_wp2_with (refine wpList_store_row rfl 45 _ _ rfl (w.heap.size + 1) (stA v zer zer) rfl rfl 45 _ sR1 (st_i _ _ _) rfl (stA_one _ hv1 _ _) ?_)
  have sR3 := sR1.row v zer zer
  have hld := st_load sR3
  refine bodyPost_ret (v := .tuple #[stV v zer zer, .int .i64 0]) (by simp [results, Try.results39, asAddr, hld]) rfl ⟨rfl, below_row hB1 _ (by omega) _⟩
end Go.Proofs.Ytnmeeddhagmjdaa
