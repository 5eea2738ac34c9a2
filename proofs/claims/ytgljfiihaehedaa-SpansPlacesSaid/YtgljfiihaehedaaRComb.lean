/- The other way's Union, Meet, Minus, Not. -/
import Derived.Test.YtgljfiihaehedaaRSet
import Derived.Test.YtgljfiihaehedaaUnion
namespace Go.Proofs.Ytgljfiihaehedaa
open Go.RowKit
attribute [local go_sem] Oper.semAt_some

theorem ABox.row {W : World} {k : Nat} {f : Nat → Bool} (h : ABox W k f) (g : Nat → Bool) : ABox (W.setRow k (mkA g)) k g := setRow_heap W k _ _ _ _ h
theorem ABox.rowOther {W : World} {k j : Nat} {f : Nat → Bool} (h : ABox W k f) (hj : k ≠ j) (cs : Array Value) : ABox (W.setRow j cs) k f := (setRow_other W j k cs hj).trans h
theorem below_row {B g : Nat} {w0 w : World} (hB : Below B w0 w) (hg : B ≤ g) (cs : Array Value) : Below B w0 (w.setRow g cs) := ⟨hB.os, hB.tape, hB.output, by rw [setRow_size]; exact hB.size, fun j hj => (setRow_other w g j cs (by omega)).trans (hB.block j hj)⟩
theorem sat_1 (w : World) (a b : Int) : SAt (w.alloc (.cells #[.int .i64 a, .int .i64 b] 31)) (.slice (some ⟨w.heap.size, 0, none⟩) 1 1) [(a, b)] :=
  .inr ⟨w.heap.size, 0, 1, rfl, by simp, by decide, fun j x hx => by
    match j with
    | 0 => simp at hx; subst hx; exact ⟨by simp, by simp⟩
    | j + 1 => simp at hx⟩
theorem toI_inj : ∀ {a b : List Sp}, toI a = toI b → a = b
  | [], [], _ => rfl
  | [], y :: b, h => by simp [toI] at h
  | x :: a, [], h => by simp [toI] at h
  | (x1, x2) :: a, (y1, y2) :: b, h => by
    have h2 : ((x1 : Int), (x2 : Int)) = ((y1 : Int), (y2 : Int)) ∧ toI a = toI b := by
      unfold toI at h ⊢
      rw [List.map_cons, List.map_cons] at h
      exact ⟨(List.cons.inj h).1, (List.cons.inj h).2⟩
    have h3 := Prod.mk.inj h2.1
    rw [toI_inj h2.2, Int.ofNat.inj h3.1, Int.ofNat.inj h3.2]
def combB (how : Nat) (a b : Bool) : Bool := if how = 1 then a || b else if how = 2 then a && b else a && !b

set_option maxRecDepth 100000 in
set_option maxHeartbeats 4000000 in
theorem comb_ok (La Lb : List Sp) (sa : SetL 0 La) (sb : SetL 0 Lb) (how : Nat) (hh : how = 1 ∨ how = 2 ∨ how = 3) (u v : Value) (w : World) (h1 : SAt w u (toI La)) (h2 : SAt w v (toI Lb)) :
    Calls Try.prog 54 #[u, v, .int .i64 how] w fun e w' => ∃ M, SetL 0 M ∧ (∀ x, x < 1024 → inS M x = combB how (inS La x) (inS Lb x)) ∧ RetS w M 0 e w' := by
  obtain ⟨ua, uc, rfl⟩ := h1.form
  obtain ⟨va, vc, rfl⟩ := h2.form
  have c1 := Lib.hid (chkS_set sa)
  have c2 := Lib.hid (chkS_set sb)
  have n1 := set_len sa
  have n2 := set_len sb
  go_enter Try.func54, Try.ntmps54
  go_wp2_with fail
  refine (RCheck_is _ (toI La) (fit_nat La sa.val) (by rw [toI_len]; omega) 0 c1.out _ h1).mono ?_
  rintro e w1 ⟨rfl, B1⟩
  have k1 := h1.later B1
  have k2 := h2.later B1
  go_wp2_with fail
  refine (RCheck_is _ (toI Lb) (fit_nat Lb sb.val) (by rw [toI_len]; omega) 0 c2.out _ k2).mono ?_
  rintro e w2 ⟨rfl, B2⟩
  replace k1 := k1.later B2
  replace k2 := k2.later B2
  go_wp2_with fail
  refine (Marks_is La sa.val (by omega) _ _ k1).mono ?_
  rintro e w3 ⟨rfl, B3⟩
  replace k2 := k2.later B3
  go_wp2_with fail
  refine (Marks_is Lb sb.val (by omega) _ _ k2).mono ?_
  rintro e w4 ⟨rfl, B4⟩
  obtain ⟨WL, hWL, hbL, a0, a1⟩ := bx_two w4
  have D2 := B1.trans (B2.mono B1.size)
  have D3 := D2.trans (B3.mono D2.size)
  have D4 := D3.trans (B4.mono D3.size)
  have DL := D4.trans (hbL.mono D4.size)
  have z4 := D4.size
  have hzL : WL.heap.size = w4.heap.size + 2 := by rw [← hWL]; simp
  go_wp2_with (first | (refine wpList_store_row rfl 69 _ _ rfl w4.heap.size (mkA (inS La)) rfl rfl 69 _ (by first | exact a0 | (rw [hWL]; exact a0)) (by rw [mkA_size]; kernel_rfl) (by rw [mkA_size, mkA_size]) (mkA_one _) ?_) | (refine wpList_store_row rfl 69 _ _ rfl (w4.heap.size + 1) (mkA (inS Lb)) rfl rfl 69 _ (a1.rowOther (j := w4.heap.size) (by omega) (mkA (inS La))) (by rw [mkA_size]; kernel_rfl) (by rw [mkA_size, mkA_size]) (mkA_one _) ?_))
  have f0 := a0.row (inS La)
  have f1 := a1.rowOther (j := w4.heap.size) (by omega) (mkA (inS La))
  have f0' := f0.rowOther (j := w4.heap.size + 1) (by omega) (mkA (inS Lb))
  have f1' := f1.row (inS Lb)
  have DR := below_row (below_row DL (by omega) (mkA (inS La))) (g := w4.heap.size + 1) (by omega) (mkA (inS Lb))
  have hzR : ((WL.setRow w4.heap.size (mkA (inS La))).setRow (w4.heap.size + 1) (mkA (inS Lb))).heap.size = w4.heap.size + 2 := by rw [setRow_size, setRow_size]; exact hzL
  obtain ⟨WR, hWR⟩ : ∃ x, (WL.setRow w4.heap.size (mkA (inS La))).setRow (w4.heap.size + 1) (mkA (inS Lb)) = x := ⟨_, rfl⟩
  rw [hWR] at f0' f1' DR hzR ⊢
  have g0 := f0'.alloc (.cells Try.zeroCells69 69)
  have g1 := f1'.alloc (.cells Try.zeroCells69 69)
  have g2 : ABox (WR.alloc (.cells Try.zeroCells69 69)) (w4.heap.size + 2) (fun _ => false) := by
    have := World.alloc_heap_new WR (.cells Try.zeroCells69 69)
    rw [hzR] at this
    unfold ABox; rw [← zero_mkA]; exact this
  have DG := DR.alloc (by omega) (.cells Try.zeroCells69 69)
  obtain ⟨S, hS⟩ : ∃ S, w4.heap.size = S := ⟨_, rfl⟩
  rw [hS] at g0 g1 g2 z4 ⊢
  clear f0 f1 f0' f1' DR hWR hzR a0 a1 hbL hWL DL D2 D3 D4 B1 B2 B3 B4 k1 k2 h1 h2 hzL
  go_loopw [12] (fun i wr => ∃ p : Nat, p ≤ 1024 ∧ i = .int .i64 p ∧ ABox wr S (inS La) ∧ ABox wr (S + 1) (inS Lb) ∧ ABox wr (S + 2) (fun x => decide (x < p) && combB how (inS La x) (inS Lb x)) ∧ Below w.heap.size w wr) (fun i _ => 1024 - (intOf i).toNat)
  case atStart => exact ⟨0, Nat.zero_le _, rfl, g0, g1, g2.congr (fun x _ => by simp), DG⟩
  case round =>
    clear g0 g1 g2 DG hS
    obtain ⟨p, hp, rfl, g0, g1, g2, hB⟩ := hrel
    by_cases hlt : p < 1024
    · have hlt1 : (p : Int) < 1024 := by omega
      have hal := arr_len
      obtain ⟨a, ha⟩ : ∃ a, inS La p = a := ⟨_, rfl⟩
      obtain ⟨b, hb⟩ : ∃ b, inS Lb p = b := ⟨_, rfl⟩
      have x0 := g0.cell p hlt
      have x1 := g1.cell p hlt
      have x2 := g2.cell p hlt
      have x3 := g2.frozen p
      have y0 := g0.lt
      have y1 := g1.lt
      have y2 := g2.lt
      rw [ha] at x0
      rw [hb] at x1
      have HC : Hid (combB how (inS La p) (inS Lb p) = combB how a b) := by unfold Hid; rw [ha, hb]
      have fin : ∀ (W : World) (c : Bool), ABox W (S + 2) (fun x => decide (x < p) && combB how (inS La x) (inS Lb x)) → combB how a b = c → ABox (W.setCell ⟨S + 2, p, none⟩ (.bool c)) (S + 2) (fun x => decide (x < p + 1) && combB how (inS La x) (inS Lb x)) := fun W c hW hc => (hW.set p c).congr fun x _ => by
        by_cases hx : x = p
        · subst hx; rw [if_pos rfl, HC.out, hc]; simp
        · rw [if_neg hx, show decide (x < p + 1) = decide (x < p) by rw [Bool.eq_iff_iff]; simp; omega]
      have FIN := Lib.hid fin
      clear ha hb fin
      rcases hh with rfl | rfl | rfl
      all_goals cases a <;> cases b
      all_goals
        go_wp2_with fail
        try (go_quiet (fail); go_wp2_with fail)
        go_roundw
        case rel => exact ⟨p + 1, by omega, by go_num, ABox.other (by assumption) (by simp) _, ABox.other (by assumption) (by simp) _, FIN.out _ _ (by assumption) rfl, hB.setCell (by show w.heap.size ≤ S + 2; omega) _⟩
        case measure => simp [intOf]; omega
    · have hlt1 : ¬ (p : Int) < 1024 := by omega
      have hp2 : p = 1024 := by omega
      subst hp2
      go_wp2_with (refine wpList_load_row rfl 69 _ rfl (S + 2) rfl 69 _ (0, 0) _ g2 Try.underlying69 rfl (by rw [mkA_size]; kernel_rfl) ?_)
      refine (RSet_is _ _).mono ?_
      rintro e w5 ⟨x, M, rfl, hx, hM, hpg, B5⟩
      obtain ⟨xa, xc, rfl⟩ := hx.form
      have HX := Lib.hid hx
      have HP := Lib.hid hpg
      clear hx hpg
      go_wp2
      go_ret2
      exact ⟨M, hM, fun y hy => by rw [HP.out y hy]; simp [hy], _, rfl, HX.out, hB.trans (B5.mono hB.size)⟩

set_option maxRecDepth 100000 in
set_option maxHeartbeats 1000000 in
theorem comb_bad (la lb : List SpI) (fa : Fit la) (fb : Fit lb) (how : Int) (c : Int) (hc : bothB la lb = c) (h0 : c ≠ 0) (u v : Value) (w : World) (h1 : SAt w u la) (h2 : SAt w v lb) :
    Calls Try.prog 54 #[u, v, .int .i64 how] w fun e w' => RetS w [] c e w' := by
  have l1 := len64 h1
  have l2 := len64 h2
  obtain ⟨ua, uc, rfl⟩ := h1.form
  obtain ⟨va, vc, rfl⟩ := h2.form
  obtain ⟨r, hr⟩ : ∃ r, chkS la = r := ⟨_, rfl⟩
  have HR := Lib.hid hr
  unfold bothB at hc
  rw [hr] at hc
  by_cases hr0 : r = 0
  · subst hr0
    have hc2 : chkS lb = c := by simpa using hc
    have HC := Lib.hid hc2
    have hq : (c != 0) = true := by simp [h0]
    clear hr hc hc2 h0
    go_enter Try.func54, Try.ntmps54
    go_wp2_with fail
    refine (RCheck_is _ la fa l1 0 HR.out _ h1).mono ?_
    rintro e w1 ⟨rfl, B1⟩
    have k2 := h2.later B1
    go_wp2_with fail
    refine (RCheck_is _ lb fb l2 c HC.out _ k2).mono ?_
    rintro e w2 ⟨rfl, B2⟩
    go_wp2
    go_ret2
    exact ⟨_, rfl, nil_at _, B1.trans (B2.mono B1.size)⟩
  · have hc2 : r = c := by simpa [hr0] using hc
    subst hc2
    have hq : (r != 0) = true := by simp [hr0]
    have hq2 : (r == 0) = false := by simp [hr0]
    clear hr hc hr0 h0
    go_enter Try.func54, Try.ntmps54
    go_wp2_with fail
    refine (RCheck_is _ la fa l1 r HR.out _ h1).mono ?_
    rintro e w1 ⟨rfl, B1⟩
    go_wp2
    go_ret2
    exact ⟨_, rfl, nil_at _, B1⟩

/-- What the three answer. -/
def combPost (how : Nat) (la lb : List SpI) (w : World) (e : Ending) (w' : World) : Prop :=
  (bothB la lb ≠ 0 ∧ RetS w [] (bothB la lb) e w') ∨ (bothB la lb = 0 ∧ ∃ La Lb M, la = toI La ∧ lb = toI Lb ∧ SetL 0 La ∧ SetL 0 Lb ∧ SetL 0 M ∧ (∀ x, x < 1024 → inS M x = combB how (inS La x) (inS Lb x)) ∧ RetS w M 0 e w')
theorem comb_is (la lb : List SpI) (fa : Fit la) (fb : Fit lb) (how : Nat) (hh : how = 1 ∨ how = 2 ∨ how = 3) (u v : Value) (w : World) (h1 : SAt w u la) (h2 : SAt w v lb) :
    Calls Try.prog 54 #[u, v, .int .i64 how] w fun e w' => combPost how la lb w e w' := by
  by_cases hc : bothB la lb = 0
  · have hc2 := hc
    unfold bothB at hc2
    by_cases h3 : chkS la = 0
    · rw [if_neg (by simp [h3])] at hc2
      obtain ⟨La, rfl, sa⟩ := chkS_ok h3
      obtain ⟨Lb, rfl, sb⟩ := chkS_ok hc2
      refine (comb_ok La Lb sa sb how hh u v w h1 h2).mono ?_
      rintro e w' ⟨M, hM, hp, hr⟩
      exact .inr ⟨hc, La, Lb, M, rfl, rfl, sa, sb, hM, hp, hr⟩
    · rw [if_pos h3] at hc2; exact absurd hc2 h3
  · refine (comb_bad la lb fa fb how _ rfl hc u v w h1 h2).mono ?_
    intro e w' hr
    exact .inl ⟨hc, hr⟩
set_option maxRecDepth 100000 in
theorem RUnion_is (la lb : List SpI) (fa : Fit la) (fb : Fit lb) (u v : Value) (w : World) (h1 : SAt w u la) (h2 : SAt w v lb) :
    Calls Try.prog 19 #[u, v] w fun e w' => combPost 1 la lb w e w' := by
  have HC := Lib.hid (comb_is la lb fa fb 1 (.inl rfl) u v w h1 h2)
  go_enter Try.func19, Try.ntmps19
  go_wp2_with fail
  refine HC.out.mono ?_
  intro e w1 hp
  have HP := Lib.hid hp
  have hf : ∃ x c, e = .returned (.tuple #[x, .int .i64 c]) := by
    rcases hp with ⟨_, x, rfl, _⟩ | ⟨_, La, Lb, M, _, _, _, _, _, _, x, rfl, _⟩
    · exact ⟨_, _, rfl⟩
    · exact ⟨_, _, rfl⟩
  obtain ⟨x, c, rfl⟩ := hf
  clear hp
  go_wp2
  go_ret2
  exact HP.out
set_option maxRecDepth 100000 in
theorem RMeet_is (la lb : List SpI) (fa : Fit la) (fb : Fit lb) (u v : Value) (w : World) (h1 : SAt w u la) (h2 : SAt w v lb) :
    Calls Try.prog 21 #[u, v] w fun e w' => combPost 2 la lb w e w' := by
  have HC := Lib.hid (comb_is la lb fa fb 2 (.inr (.inl rfl)) u v w h1 h2)
  go_enter Try.func21, Try.ntmps21
  go_wp2_with fail
  refine HC.out.mono ?_
  intro e w1 hp
  have HP := Lib.hid hp
  have hf : ∃ x c, e = .returned (.tuple #[x, .int .i64 c]) := by
    rcases hp with ⟨_, x, rfl, _⟩ | ⟨_, La, Lb, M, _, _, _, _, _, _, x, rfl, _⟩
    · exact ⟨_, _, rfl⟩
    · exact ⟨_, _, rfl⟩
  obtain ⟨x, c, rfl⟩ := hf
  clear hp
  go_wp2
  go_ret2
  exact HP.out
set_option maxRecDepth 100000 in
theorem RMinus_is (la lb : List SpI) (fa : Fit la) (fb : Fit lb) (u v : Value) (w : World) (h1 : SAt w u la) (h2 : SAt w v lb) :
    Calls Try.prog 23 #[u, v] w fun e w' => combPost 3 la lb w e w' := by
  have HC := Lib.hid (comb_is la lb fa fb 3 (.inr (.inr rfl)) u v w h1 h2)
  go_enter Try.func23, Try.ntmps23
  go_wp2_with fail
  refine HC.out.mono ?_
  intro e w1 hp
  have HP := Lib.hid hp
  have hf : ∃ x c, e = .returned (.tuple #[x, .int .i64 c]) := by
    rcases hp with ⟨_, x, rfl, _⟩ | ⟨_, La, Lb, M, _, _, _, _, _, _, x, rfl, _⟩
    · exact ⟨_, _, rfl⟩
    · exact ⟨_, _, rfl⟩
  obtain ⟨x, c, rfl⟩ := hf
  clear hp
  go_wp2
  go_ret2
  exact HP.out

set_option maxRecDepth 100000 in
set_option maxHeartbeats 400000 in
theorem asked_is (u : Value) (l : List SpI) (p q : Int) (fl : Fit l) (fp : I64 p) (c : Int) (hc : withB l (p, q) = c) (w : World) (h : SAt w u l) :
    Calls Try.prog 58 #[u, .agg #[.int .i64 p, .int .i64 q]] w fun e w' => e = .returned (.int .i64 c) ∧ Below w.heap.size w w' := by
  obtain ⟨wA, hwA⟩ : ∃ x, w.alloc (.cells #[.int .i64 p, .int .i64 q] 31) = x := ⟨_, rfl⟩
  have hAB : Below w.heap.size w wA := by rw [← hwA]; exact (Below.refl _ _).alloc (Nat.le_refl _) _
  have bA : XBox wA w.heap.size (p, q) := by rw [← hwA]; exact XBox.new w (p, q)
  have HW := Lib.hid hwA
  obtain ⟨r, hr⟩ : ∃ r, chkS l = r := ⟨_, rfl⟩
  have HR := Lib.hid hr
  unfold withB at hc
  rw [hr] at hc
  have q1 := len64 h
  have hA := h.later hAB
  clear hwA
  by_cases h0 : r = 0
  · rw [if_neg (by simp [h0])] at hc
    subst h0
    obtain ⟨b, hb⟩ : ∃ b, vld (p, q) = b := ⟨_, rfl⟩
    have HB := Lib.hid hb
    rw [hb] at hc
    clear hr hb
    cases b
    · have hc2 : (7 : Int) = c := by simpa using hc
      subst hc2
      clear hc
      go_enter Try.func58, Try.ntmps58
      go_wp2_with fail
      rw [HW.out]
      refine (RCheck_is u l fl q1 0 HR.out _ hA).mono ?_
      rintro e w1 ⟨rfl, B1⟩
      have x0 := (bA.later B1).c0
      have x1 := (bA.later B1).c1
      simp only at x0 x1
      go_wp2_with fail
      refine (Valid_is p q fp false HB.out _).mono ?_
      rintro e w2 ⟨rfl, B2⟩
      go_wp2
      go_ret
      exact ⟨rfl, hAB.trans ((B1.trans (B2.mono B1.size)).mono hAB.size)⟩
    · have hc2 : (0 : Int) = c := by simpa using hc
      subst hc2
      clear hc
      go_enter Try.func58, Try.ntmps58
      go_wp2_with fail
      rw [HW.out]
      refine (RCheck_is u l fl q1 0 HR.out _ hA).mono ?_
      rintro e w1 ⟨rfl, B1⟩
      have x0 := (bA.later B1).c0
      have x1 := (bA.later B1).c1
      simp only at x0 x1
      go_wp2_with fail
      refine (Valid_is p q fp true HB.out _).mono ?_
      rintro e w2 ⟨rfl, B2⟩
      go_wp2
      go_ret
      exact ⟨rfl, hAB.trans ((B1.trans (B2.mono B1.size)).mono hAB.size)⟩
  · rw [if_pos h0] at hc
    subst hc
    have hq : (r == 0) = false := by simp [h0]
    clear hr h0
    go_enter Try.func58, Try.ntmps58
    go_wp2_with fail
    rw [HW.out]
    refine (RCheck_is u l fl q1 r HR.out _ hA).mono ?_
    rintro e w1 ⟨rfl, B1⟩
    go_wp2
    go_ret
    exact ⟨rfl, hAB.trans (B1.mono hAB.size)⟩


set_option maxRecDepth 100000 in
set_option maxHeartbeats 1000000 in
theorem RNot_bad (l : List SpI) (p q : Int) (fl : Fit l) (fp : I64 p) (c : Int) (hc : withB l (p, q) = c) (h0 : c ≠ 0) (u : Value) (w : World) (h : SAt w u l) :
    Calls Try.prog 25 #[u, .agg #[.int .i64 p, .int .i64 q]] w fun e w' => RetS w [] c e w' := by
  obtain ⟨wA, hwA⟩ : ∃ x, w.alloc (.cells #[.int .i64 p, .int .i64 q] 31) = x := ⟨_, rfl⟩
  have hAB : Below w.heap.size w wA := by rw [← hwA]; exact (Below.refl _ _).alloc (Nat.le_refl _) _
  have bA : XBox wA w.heap.size (p, q) := by rw [← hwA]; exact XBox.new w (p, q)
  have HW := Lib.hid hwA
  have hA := h.later hAB
  have HC := Lib.hid hc
  have hq : (c != 0) = true := by simp [h0]
  have x0 := bA.c0
  have x1 := bA.c1
  simp only at x0 x1
  clear hc h0 hwA
  go_enter Try.func25, Try.ntmps25
  go_wp2_with fail
  try rw [HW.out]
  refine (asked_is u l p q fl fp c HC.out _ hA).mono ?_
  rintro e w1 ⟨rfl, B1⟩
  go_wp2
  go_ret2
  exact ⟨_, rfl, nil_at _, hAB.trans (B1.mono hAB.size)⟩

set_option maxRecDepth 100000 in
set_option maxHeartbeats 1000000 in
theorem RNot_ok (L : List Sp) (hL : SetL 0 L) (p q : Nat) (hpq : 1 ≤ q ∧ p + q ≤ 1024) (v : Value) (w : World) (h : SAt w v (toI L)) :
    Calls Try.prog 25 #[v, .agg #[.int .i64 p, .int .i64 q]] w fun e w' => ∃ M, SetL 0 M ∧ (∀ x, x < 1024 → inS M x = (decide (p ≤ x) && decide (x < p + q) && !inS L x)) ∧ RetS w M 0 e w' := by
  obtain ⟨wA, hwA⟩ : ∃ x, w.alloc (.cells #[.int .i64 (p : Int), .int .i64 (q : Int)] 31) = x := ⟨_, rfl⟩
  have hAB : Below w.heap.size w wA := by rw [← hwA]; exact (Below.refl _ _).alloc (Nat.le_refl _) _
  have bA : XBox wA w.heap.size ((p : Int), (q : Int)) := by rw [← hwA]; exact XBox.new w ((p : Int), (q : Int))
  have HW := Lib.hid hwA
  have hA := h.later hAB
  have hw0 : withB (toI L) ((p : Int), (q : Int)) = 0 := by unfold withB; rw [chkS_set hL, vld_of hpq.1 hpq.2]; rfl
  have H0 := Lib.hid hw0
  have hfp : I64 (p : Int) := by unfold I64; omega
  have HF := Lib.hid (fit_nat L hL.val)
  clear hwA hw0
  go_enter Try.func25, Try.ntmps25
  go_wp2_with fail
  try rw [HW.out]
  refine (asked_is v (toI L) p q HF.out hfp 0 H0.out _ hA).mono ?_
  rintro e w1 ⟨rfl, B1⟩
  have b1 := bA.later B1
  have x0 := b1.c0
  have x1 := b1.c1
  have xl := b1.lt
  simp only at x0 x1
  have h1 := hA.later B1
  go_wp2_with fail
  have hB0 : bothB [((p : Int), (q : Int))] (toI L) = 0 := both_ok (L := [(p, q)]) (R := L) ⟨Nat.zero_le _, hpq.1, hpq.2, trivial⟩ hL
  have hAw : Below w1.heap.size w1 (w1.alloc (.cells #[.int .i64 (p : Int), .int .i64 (q : Int)] 31)) := (Below.refl _ _).alloc (Nat.le_refl _) _
  have hfo : Fit [((p : Int), (q : Int))] := fun x hx => by simp at hx; subst hx; unfold I64; simp only; omega
  refine (RMinus_is [((p : Int), (q : Int))] (toI L) hfo HF.out _ _ _ (sat_1 w1 p q) (h1.later hAw)).mono ?_
  rintro e w2 (⟨hb, _⟩ | ⟨_, La, Lb, M, e1, e2, sa, sb, hM, hp, x, rfl, hx, B2⟩)
  · exact absurd hB0 hb
  · obtain ⟨xa, xc, rfl⟩ := hx.form
    have ea : La = [(p, q)] := toI_inj (by rw [← e1]; rfl)
    have eb : Lb = L := toI_inj e2.symm
    subst ea; subst eb
    have HX := Lib.hid hx
    have HP := Lib.hid hp
    clear hx hp e1 e2 hB0
    go_wp2
    go_ret2
    exact ⟨M, hM, fun y hy => by rw [HP.out y hy, inS_one]; simp [combB], _, rfl, HX.out, hAB.trans ((B1.trans ((hAw.trans (B2.mono hAw.size)).mono B1.size)).mono hAB.size)⟩
end Go.Proofs.Ytgljfiihaehedaa
