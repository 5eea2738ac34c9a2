/- RefusalsSteps. -/
import Derived.Test.YtldebakeebajkaaDoorRfSp
import Derived.Test.YtldebakeebajkaaDoorRfRo
namespace Go.Proofs.YtldebakeebajkaaDoor
open Go.RowKit Go.Shelf
attribute [local go_sem] Oper.semAt_some

theorem SBox.orow {W : World} {b : Nat} {v : Value} {c h : Nat → Int} (s : SBox W b v c h) {A : Nat} (hn : b ≠ A) (cs : Array Value) : SBox (W.setRow A cs) b v c h := (setRow_other W A b cs hn).trans s
theorem RAt.row2 {W : World} {b : Nat} {u : Value} {l : List RlI} (r : RAt W u l) (cs : Array Value) (hn : l = [] ∨ u.ownBlock ≠ some b) : RAt (W.setRow b cs) u l := by
  rcases hn with rfl | hn
  · rcases r with h | ⟨g, off, cap, hg, h1, h2, _⟩
    · exact .inl h
    · exact .inr ⟨g, off, cap, hg, h1, h2, fun j x hx => by simp at hx⟩
  · exact r.row cs hn
theorem RAt.one {W : World} {u : Value} {l : List RlI} (r : RAt W u l) : u.oneCell' = true := by obtain ⟨a, c, rfl⟩ := r.form; rfl
/-- What a call that makes a state answers. -/
def StC (w W : World) (l : List RlI) (c h : Nat → Int) (g : Value → Value) (e : Ending) (w' : World) : Prop := ∃ u, e = .returned (g (stV u c h)) ∧ RAt w' u l ∧ (∀ b, w.heap.size ≤ b → b < W.heap.size → l = [] ∨ u.ownBlock ≠ some b) ∧ Below W.heap.size W w'

set_option maxRecDepth 100000 in
set_option maxHeartbeats 8000000 in
theorem steps_any (v : Value) (l : List RlI) (c h : Nat → Int) (hwd : (wdB c || farB l.length) = false) (kd : Int) (w : World) (hw : Gd w) (hr : RAt w v l)
    (e1 x e2 e3 : Int) (c2 h2 : Nat → Int) (b2 : Bool) (lS lN lR : List RlI)
    (hS : ∀ W, Below w.heap.size w W → Calls Tryd.prog 28 #[.agg #[v]] W (StC w W lS zer zer fun s => .tuple #[s, .int .i64 e1]))
    (hRS : ∀ W, Below w.heap.size w W → Calls Tryd.prog 29 #[.agg #[v]] W (StC w W lS zer zer fun s => .tuple #[s, .int .i64 e1]))
    (hC : ∀ W, Below w.heap.size w W → Calls Tryd.prog 31 #[stV v c h] W fun e w' => e = .returned (.int .i64 x) ∧ Below W.heap.size W w')
    (hRC : ∀ W, Below w.heap.size w W → Calls Tryd.prog 32 #[stV v c h] W fun e w' => e = .returned (.int .i64 x) ∧ Below W.heap.size W w')
    (hN : ∀ W, Below w.heap.size w W → Calls Tryd.prog 33 #[stV v c h, .int .i64 kd] W (StC w W lN c2 h2 fun s => .tuple #[s, .bool b2, .int .i64 e2]))
    (hRN : ∀ W, Below w.heap.size w W → Calls Tryd.prog 34 #[stV v c h, .int .i64 kd] W (StC w W lN c2 h2 fun s => .tuple #[s, .bool b2, .int .i64 e2]))
    (hR : ∀ W, Below w.heap.size w W → Calls Tryd.prog 35 #[stV v c h] W fun e w' => ∃ u, e = .returned (.tuple #[.agg #[u], .int .i64 e3]) ∧ RAt w' u lR ∧ Below W.heap.size W w')
    (hRR : ∀ W, Below w.heap.size w W → Calls Tryd.prog 36 #[stV v c h] W fun e w' => ∃ u, e = .returned (.tuple #[.agg #[u], .int .i64 e3]) ∧ RAt w' u lR ∧ Below W.heap.size W w') :
    Calls Tryd.prog 6 #[stV v c h, .int .i64 kd] w fun e w' => e = .returned (.bool true) ∧ Below w.heap.size w w' := by
  obtain ⟨WL, hWL⟩ : ∃ x, w.alloc (.cells (stA v c h) 40) = x := ⟨_, rfl⟩
  have hb : Below w.heap.size w WL := by rw [← hWL]; exact (Below.refl _ _).alloc (Nat.le_refl _) _
  have sS : SBox WL w.heap.size v c h := by rw [← hWL]; exact SBox.new w v c h
  have HF := Lib.hid (wide_is v l c h false hwd WL (hr.later hb))
  have HS := Lib.hid hS
  have HRS := Lib.hid hRS
  have HC := Lib.hid hC
  have HRC := Lib.hid hRC
  have HN := Lib.hid hN
  have HRN := Lib.hid hRN
  have HR := Lib.hid hR
  have HRR := Lib.hid hRR
  clear hwd hS hRS hC hRC hN hRN hR hRR
  go_enter Tryd.func6, Tryd.ntmps6
  go_wp2_with (refine wpList_load_row rfl 40 _ rfl w.heap.size rfl 40 _ (0, 0) _ sS Tryd.underlying40 rfl (st_i _ _ _) ?_)
  try rw [hWL]
  refine HF.out.mono ?_
  rintro e w1 ⟨rfl, B1⟩
  have hB1 := hb.trans (B1.mono hb.size)
  have s1 := sS.later B1
  have hlt1 := s1.lt
  have v1 := s1.v
  clear hWL
  go_wp2_with fail
  refine (HS.out w1 hB1).mono ?_
  rintro e w2 ⟨u1, rfl, r1, hu1, B2⟩
  have hB2 := hB1.trans (B2.mono hB1.size)
  have s2 := s1.later B2
  obtain ⟨W3, hW3⟩ : ∃ x, w2.alloc (.cells #[.slice none 0 0, .int .i64 0, .int .i64 0, .int .i64 0, .int .i64 0, .int .i64 0, .int .i64 0, .int .i64 0, .int .i64 0, .int .i64 0, .int .i64 0, .int .i64 0, .int .i64 0, .int .i64 0, .int .i64 0] 40) = x := ⟨_, rfl⟩
  have a3 : SBox W3 w2.heap.size (.slice none 0 0) zer zer := by rw [← hW3]; exact SBox.new w2 (.slice none 0 0) zer zer
  have b3 : Below w2.heap.size w2 W3 := by rw [← hW3]; exact (Below.refl _ _).alloc (Nat.le_refl _) _
  have hone1 := r1.one
  have b3' := below_row b3 w2.heap.size (Nat.le_refl _) (stA u1 zer zer)
  have a3' := a3.row u1 zer zer
  have s3 := s2.later b3'
  have v3 := s3.v
  have hB3 := hB2.trans (b3'.mono hB2.size)
  have r3 := r1.later b3'
  clear v1
  go_wp2_with (refine wpList_store_row rfl 40 _ _ rfl w2.heap.size (stA u1 zer zer) rfl rfl 40 _ a3 (st_i _ _ _) rfl (stA_one _ hone1 _ _) ?_)
  try rw [hW3]
  clear hW3
  have hwA : w.heap.size < w2.heap.size := Nat.lt_of_lt_of_le hlt1 B2.size
  have hA3 := a3'.lt
  generalize W3.setRow w2.heap.size (stA u1 zer zer) = X3 at *
  refine (HRS.out _ hB3).mono ?_
  rintro e w4 ⟨u2, rfl, r4, hu2, B4⟩
  have hB4 := hB3.trans (B4.mono hB3.size)
  have s4 := s3.later B4
  have a4 := a3'.later B4
  have q4 := r3.later B4
  have hA4 : w2.heap.size < w4.heap.size := Nat.lt_of_lt_of_le hA3 B4.size
  obtain ⟨W5, hW5⟩ : ∃ x, w4.alloc (.cells #[.slice none 0 0, .int .i64 0, .int .i64 0, .int .i64 0, .int .i64 0, .int .i64 0, .int .i64 0, .int .i64 0, .int .i64 0, .int .i64 0, .int .i64 0, .int .i64 0, .int .i64 0, .int .i64 0, .int .i64 0] 40) = x := ⟨_, rfl⟩
  have c5 : SBox W5 w4.heap.size (.slice none 0 0) zer zer := by rw [← hW5]; exact SBox.new w4 (.slice none 0 0) zer zer
  have b5 : Below w4.heap.size w4 W5 := by rw [← hW5]; exact (Below.refl _ _).alloc (Nat.le_refl _) _
  have hone2 := r4.one
  have b5' := below_row b5 w4.heap.size (Nat.le_refl _) (stA u2 zer zer)
  have c5' := c5.row u2 zer zer
  have s5 := s4.later b5'
  have a5 := a4.later b5'
  have hB5 := hB4.trans (b5'.mono hB4.size)
  have q5 := q4.later b5'
  have r5 := r4.later b5'
  have hB5l := c5'.lt
  clear v3
  go_wp2_with (refine wpList_store_row rfl 40 _ _ rfl w4.heap.size (stA u2 zer zer) rfl rfl 40 _ c5 (st_i _ _ _) rfl (stA_one _ hone2 _ _) ?_)
  try rw [hW5]
  clear hW5
  generalize W5.setRow w4.heap.size (stA u2 zer zer) = X5 at *
  obtain ⟨z0, ⟨z1, z2, z3, z4, z5, z6, z7⟩, z8, z9, z10, z11, z12, z13, z14⟩ := s5.cells0
  obtain ⟨y0, ⟨y1, y2, y3, y4, y5, y6, y7⟩, y8, y9, y10, y11, y12, y13, y14⟩ := a5.cells0
  obtain ⟨t0, ⟨t1, t2, t3, t4, t5, t6, t7⟩, t8, t9, t10, t11, t12, t13, t14⟩ := c5'.cells0
  have zb0 := fun x : Beh X5 => Beh.cell z0 x
  have zb1 := fun x : Beh X5 => Beh.cell z1 x
  have zb2 := fun x : Beh X5 => Beh.cell z2 x
  have zb3 := fun x : Beh X5 => Beh.cell z3 x
  have zb4 := fun x : Beh X5 => Beh.cell z4 x
  have zb5 := fun x : Beh X5 => Beh.cell z5 x
  have zb6 := fun x : Beh X5 => Beh.cell z6 x
  have zb7 := fun x : Beh X5 => Beh.cell z7 x
  have zb8 := fun x : Beh X5 => Beh.cell z8 x
  have zb9 := fun x : Beh X5 => Beh.cell z9 x
  have zb10 := fun x : Beh X5 => Beh.cell z10 x
  have zb11 := fun x : Beh X5 => Beh.cell z11 x
  have zb12 := fun x : Beh X5 => Beh.cell z12 x
  have zb13 := fun x : Beh X5 => Beh.cell z13 x
  have zb14 := fun x : Beh X5 => Beh.cell z14 x
  have yb0 := fun x : Beh X5 => Beh.cell y0 x
  have yb1 := fun x : Beh X5 => Beh.cell y1 x
  have yb2 := fun x : Beh X5 => Beh.cell y2 x
  have yb3 := fun x : Beh X5 => Beh.cell y3 x
  have yb4 := fun x : Beh X5 => Beh.cell y4 x
  have yb5 := fun x : Beh X5 => Beh.cell y5 x
  have yb6 := fun x : Beh X5 => Beh.cell y6 x
  have yb7 := fun x : Beh X5 => Beh.cell y7 x
  have yb8 := fun x : Beh X5 => Beh.cell y8 x
  have yb9 := fun x : Beh X5 => Beh.cell y9 x
  have yb10 := fun x : Beh X5 => Beh.cell y10 x
  have yb11 := fun x : Beh X5 => Beh.cell y11 x
  have yb12 := fun x : Beh X5 => Beh.cell y12 x
  have yb13 := fun x : Beh X5 => Beh.cell y13 x
  have yb14 := fun x : Beh X5 => Beh.cell y14 x
  have tb0 := fun x : Beh X5 => Beh.cell t0 x
  have tb1 := fun x : Beh X5 => Beh.cell t1 x
  have tb2 := fun x : Beh X5 => Beh.cell t2 x
  have tb3 := fun x : Beh X5 => Beh.cell t3 x
  have tb4 := fun x : Beh X5 => Beh.cell t4 x
  have tb5 := fun x : Beh X5 => Beh.cell t5 x
  have tb6 := fun x : Beh X5 => Beh.cell t6 x
  have tb7 := fun x : Beh X5 => Beh.cell t7 x
  have tb8 := fun x : Beh X5 => Beh.cell t8 x
  have tb9 := fun x : Beh X5 => Beh.cell t9 x
  have tb10 := fun x : Beh X5 => Beh.cell t10 x
  have tb11 := fun x : Beh X5 => Beh.cell t11 x
  have tb12 := fun x : Beh X5 => Beh.cell t12 x
  have tb13 := fun x : Beh X5 => Beh.cell t13 x
  have tb14 := fun x : Beh X5 => Beh.cell t14 x
  clear z0 z1 z2 z3 z4 z5 z6 z7 z8 z9 z10 z11 z12 z13 z14
  clear y0 y1 y2 y3 y4 y5 y6 y7 y8 y9 y10 y11 y12 y13 y14
  clear t0 t1 t2 t3 t4 t5 t6 t7 t8 t9 t10 t11 t12 t13 t14
  have HSS := Lib.hid (fun W (hW : Below X5.heap.size X5 W) => SameState_is u1 u2 zer zer lS W (q5.later hW) (r5.later hW))
  have HC2 := Lib.hid (fun W (hW : Below X5.heap.size X5 W) => HC.out W (hB5.trans (hW.mono hB5.size)))
  have HRC2 := Lib.hid (fun W (hW : Below X5.heap.size X5 W) => HRC.out W (hB5.trans (hW.mono hB5.size)))
  refine region_beh (by kernel_rfl) (by kernel_rfl) ?_
  repeat (go_big_quiet_step (first
    | (go_at_call 30; rename_i x; refine (HSS.out _ x.h).mono ?_; rintro e w9 ⟨rfl, B9⟩; exact ⟨rfl, ⟨_, x.h.trans (B9.mono x.h.size)⟩, rfl⟩)
    | (go_at_call 31; rename_i x; refine (HC2.out _ x.h).mono ?_; rintro e w9 ⟨rfl, B9⟩; exact ⟨rfl, ⟨_, x.h.trans (B9.mono x.h.size)⟩, rfl⟩)
    | (go_at_call 32; rename_i x; refine (HRC2.out _ x.h).mono ?_; rintro e w9 ⟨rfl, B9⟩; exact ⟨rfl, ⟨_, x.h.trans (B9.mono x.h.size)⟩, rfl⟩)))
  refine wpQuiet_nil ?_
  intro _ hw'
  obtain ⟨x, rfl⟩ := hw'
  clear zb0 zb1 zb2 zb3 zb4 zb5 zb6 zb7 zb8 zb9 zb10 zb11 zb12 zb13 zb14
  clear yb0 yb1 yb2 yb3 yb4 yb5 yb6 yb7 yb8 yb9 yb10 yb11 yb12 yb13 yb14
  clear tb0 tb1 tb2 tb3 tb4 tb5 tb6 tb7 tb8 tb9 tb10 tb11 tb12 tb13 tb14
  have s6 := s5.later x.h
  have a6 := a5.later x.h
  have t6 := c5'.later x.h
  have hB6 := hB5.trans (x.h.mono hB5.size)
  have hA6 : w4.heap.size < x.W.heap.size := Nat.lt_of_lt_of_le hB5l x.h.size
  generalize x.W = X6 at s6 a6 t6 hB6 hA6 ⊢
  clear HSS HC2 HRC2
  go_wp2_with (refine wpList_load_row rfl 40 _ rfl w.heap.size rfl 40 _ (0, 0) _ s6 Tryd.underlying40 rfl (st_i _ _ _) ?_)
  refine (HN.out X6 hB6).mono ?_
  rintro e w7 ⟨u3, rfl, r7, hu3, B7⟩
  have hB7 := hB6.trans (B7.mono hB6.size)
  have s7 := s6.later B7
  have a7 := a6.later B7
  have t7 := t6.later B7
  have hone3 := r7.one
  have r8 := r7.row2 (b := w2.heap.size) (stA u3 c2 h2) (hu3 _ (by omega) (by omega))
  have s8 := s7.orow (A := w2.heap.size) (by omega) (stA u3 c2 h2)
  have t8 := t7.orow (A := w2.heap.size) (by omega) (stA u3 c2 h2)
  have a8 := a7.row u3 c2 h2
  have hB8 := below_row hB7 w2.heap.size (by omega) (stA u3 c2 h2)
  have hA8 : w4.heap.size < (w7.setRow w2.heap.size (stA u3 c2 h2)).heap.size := by rw [setRow_size]; exact Nat.lt_of_lt_of_le hA6 B7.size
  go_wp2_with (first | (refine wpList_store_row rfl 40 _ _ rfl w2.heap.size (stA u3 c2 h2) rfl rfl 40 _ a7 (st_i _ _ _) rfl (stA_one _ hone3 _ _) ?_) | (refine wpList_load_row rfl 40 _ rfl w.heap.size rfl 40 _ (0, 0) _ s8 Tryd.underlying40 rfl (st_i _ _ _) ?_))
  generalize w7.setRow w2.heap.size (stA u3 c2 h2) = X8 at *
  refine (HRN.out X8 hB8).mono ?_
  rintro e w9 ⟨u4, rfl, r9, hu4, B9⟩
  have hB9 := hB8.trans (B9.mono hB8.size)
  have s9 := s8.later B9
  have a9 := a8.later B9
  have t9 := t8.later B9
  have hone4 := r9.one
  have q9 := r8.later B9
  have r10 := r9.row2 (b := w4.heap.size) (stA u4 c2 h2) (hu4 _ (by omega) (by omega))
  have q10 := q9.row2 (b := w4.heap.size) (stA u4 c2 h2) (hu3 _ (by omega) (by omega))
  have s10 := s9.orow (A := w4.heap.size) (by omega) (stA u4 c2 h2)
  have a10 := a9.orow (A := w4.heap.size) (by omega) (stA u4 c2 h2)
  have t10 := t9.row u4 c2 h2
  have hB10 := below_row hB9 w4.heap.size (by omega) (stA u4 c2 h2)
  go_wp2_with (first | (refine wpList_store_row rfl 40 _ _ rfl w4.heap.size (stA u4 c2 h2) rfl rfl 40 _ t9 (st_i _ _ _) rfl (stA_one _ hone4 _ _) ?_) | (refine wpList_load_row rfl 40 _ rfl w.heap.size rfl 40 _ (0, 0) _ s10 Tryd.underlying40 rfl (st_i _ _ _) ?_))
  generalize w9.setRow w4.heap.size (stA u4 c2 h2) = X10 at *
  refine (HR.out X10 hB10).mono ?_
  rintro e w11 ⟨u5, rfl, r11, B11⟩
  have hB11 := hB10.trans (B11.mono hB10.size)
  obtain ⟨W12, hW12⟩ : ∃ x, w11.alloc (.cells #[.slice none 0 0] 24) = x := ⟨_, rfl⟩
  have l12 : Boxed W12 w11.heap.size 24 (.slice none 0 0) := by rw [← hW12]; exact Boxed.new w11 _ _
  have b12 : Below w11.heap.size w11 W12 := by rw [← hW12]; exact (Below.refl _ _).alloc (Nat.le_refl _) _
  have f12 := l12.frozen
  have c12 := l12.cell
  have b13 : Below w11.heap.size w11 (W12.setCell ⟨w11.heap.size, 0, none⟩ u5) := b12.setCell (Nat.le_refl _) _
  have l13 := l12.set u5
  obtain ⟨u5a, u5n, u5c, rfl⟩ : ∃ a n c, u5 = .slice a n c := by obtain ⟨a, c, rfl⟩ := r11.form; exact ⟨_, _, _, rfl⟩
  have s13 := (s10.later B11).later b13
  have a13 := (a10.later B11).later b13
  have t13 := (t10.later B11).later b13
  have q13 := (q10.later B11).later b13
  have r13 := (r10.later B11).later b13
  have p13 := r11.later b13
  have hB13 := hB11.trans (b13.mono hB11.size)
  go_wp2_with (refine wpList_load_row rfl 40 _ rfl w.heap.size rfl 40 _ (0, 0) _ s13 Tryd.underlying40 rfl (st_i _ _ _) ?_)
  try rw [hW12]
  clear hW12 f12 c12
  generalize W12.setCell ⟨w11.heap.size, 0, none⟩ (.slice u5a u5n u5c) = X13 at *
  refine (HRR.out X13 hB13).mono ?_
  rintro e w14 ⟨u6, rfl, r14, B14⟩
  have hB14 := hB13.trans (B14.mono hB13.size)
  obtain ⟨W15, hW15⟩ : ∃ x, w14.alloc (.cells #[.slice none 0 0] 24) = x := ⟨_, rfl⟩
  have l15 : Boxed W15 w14.heap.size 24 (.slice none 0 0) := by rw [← hW15]; exact Boxed.new w14 _ _
  have b15 : Below w14.heap.size w14 W15 := by rw [← hW15]; exact (Below.refl _ _).alloc (Nat.le_refl _) _
  have f15 := l15.frozen
  have c15 := l15.cell
  have b16 : Below w14.heap.size w14 (W15.setCell ⟨w14.heap.size, 0, none⟩ u6) := b15.setCell (Nat.le_refl _) _
  have l16 := l15.set u6
  obtain ⟨u6a, u6n, u6c, rfl⟩ : ∃ a n c, u6 = .slice a n c := by obtain ⟨a, c, rfl⟩ := r14.form; exact ⟨_, _, _, rfl⟩
  have a16 := (a13.later B14).later b16
  have t16 := (t13.later B14).later b16
  have q16 := (q13.later B14).later b16
  have r16 := (r13.later B14).later b16
  have p16 := (p13.later B14).later b16
  have o16 := r14.later b16
  have k16 := (l13.kept (grown_of_below B14) (by simp)).kept (grown_of_below b16) (by simp)
  have hB16 := hB14.trans (b16.mono hB14.size)
  go_wp2_with (first | (refine wpList_load_row rfl 40 _ rfl w2.heap.size rfl 40 _ (0, 0) _ a16 Tryd.underlying40 rfl (st_i _ _ _) ?_) | (refine wpList_load_row rfl 40 _ rfl w4.heap.size rfl 40 _ (0, 0) _ t16 Tryd.underlying40 rfl (st_i _ _ _) ?_))
  try rw [hW15]
  clear hW15 f15 c15
  generalize W15.setCell ⟨w14.heap.size, 0, none⟩ (.slice u6a u6n u6c) = X16 at *
  refine (SameState_is u3 u4 c2 h2 lN X16 q16 r16).mono ?_
  rintro e w17 ⟨rfl, B17⟩
  have hB17 := hB16.trans (B17.mono hB16.size)
  have k17 := (k16.kept (grown_of_below B17) (by simp)).cell
  have k18 := (l16.kept (grown_of_below B17) (by simp)).cell
  go_wp2_with fail
  refine (SamePlan_is _ _ lR w17 (p16.later B17) (o16.later B17)).mono ?_
  rintro e w19 ⟨rfl, B19⟩
  have hB19 := hB17.trans (B19.mono hB17.size)
  go_wp2_with fail
  refine (shown_is _ (hw.later hB19)).mono ?_
  rintro e w20 ⟨rfl, B20⟩
  go_wp2
  go_ret
  exact ⟨rfl, hB19.trans (B20.mono hB19.size)⟩
end Go.Proofs.YtldebakeebajkaaDoor
