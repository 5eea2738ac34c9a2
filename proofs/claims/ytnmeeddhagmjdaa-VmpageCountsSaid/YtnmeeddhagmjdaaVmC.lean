/- Small functions of vmpage; what calls do to pages. -/
import Derived.Test.YtnmeeddhagmjdaaVmB
namespace Go.Proofs.Ytnmeeddhagmjdaa
open Go.RowKit Go.Shelf
attribute [local go_sem] Oper.semAt_some

def areB (a n : Int) : Bool := decide (0 ≤ a) && decide (1 ≤ n) && decide (n ≤ 1024 - a)
def grpB (a : Int) : Bool := areB a 1 && decide (a.tmod 16 = 0)
theorem areB_nat {a n : Int} (h : areB a n = true) : ∃ x y : Nat, a = (x : Int) ∧ n = (y : Int) ∧ 1 ≤ y ∧ x + y ≤ 1024 := by
  unfold areB at h
  simp at h
  exact ⟨a.toNat, n.toNat, by omega, by omega, by omega, by omega⟩
theorem areB_of {x y : Nat} (h1 : 1 ≤ y) (h2 : x + y ≤ 1024) : areB x y = true := by unfold areB; simp; omega
set_option maxRecDepth 100000 in
theorem arePages_is (a n : Int) (ha : I64 a) (b : Bool) (hb : areB a n = b) (w : World) :
    Calls Try.prog 67 #[.int .i64 a, .int .i64 n] w fun e w' => e = .returned (.bool b) ∧ w = w' := by
  have HB := Lib.hid hb
  have h1 := ha.1
  have h2 := ha.2
  by_cases h0 : 0 ≤ a
  · by_cases h3 : 1 ≤ n
    · by_cases h4 : n ≤ 1024 - a
      · obtain rfl : b = true := by rw [← hb]; unfold areB; simp; omega
        clear hb
        go_enter Try.func67, Try.ntmps67
        go_wp2
        go_ret
        exact ⟨rfl, rfl⟩
      · obtain rfl : b = false := by rw [← hb]; unfold areB; simp; omega
        clear hb
        go_enter Try.func67, Try.ntmps67
        go_wp2
        go_ret
        exact ⟨rfl, rfl⟩
    · obtain rfl : b = false := by rw [← hb]; unfold areB; simp; omega
      clear hb
      go_enter Try.func67, Try.ntmps67
      go_wp2
      go_ret
      exact ⟨rfl, rfl⟩
  · obtain rfl : b = false := by rw [← hb]; unfold areB; simp; omega
    clear hb
    go_enter Try.func67, Try.ntmps67
    go_wp2
    go_ret
    exact ⟨rfl, rfl⟩
set_option maxRecDepth 100000 in
theorem isGroup_is (a : Int) (ha : I64 a) (b : Bool) (hb : grpB a = b) (w : World) :
    Calls Try.prog 57 #[.int .i64 a] w fun e w' => e = .returned (.bool b) ∧ w = w' := by
  have h1 := ha.1
  have h2 := ha.2
  unfold grpB at hb
  obtain ⟨c, hc⟩ : ∃ c, areB a 1 = c := ⟨_, rfl⟩
  have HC := Lib.hid (arePages_is a 1 ha c hc)
  rw [hc] at hb
  cases c
  · obtain rfl : b = false := by rw [← hb]; rfl
    clear hb hc
    go_enter Try.func57, Try.ntmps57
    go_wp2_with fail
    refine (HC.out _).mono ?_
    rintro e w' ⟨rfl, rfl⟩
    go_wp2
    go_ret
    exact ⟨rfl, rfl⟩
  · obtain ⟨q, hq⟩ : ∃ q, a.tmod 16 = q := ⟨_, rfl⟩
    rw [hq, Bool.true_and] at hb
    have ha0 : 0 ≤ a := by obtain ⟨x, _, hx, _⟩ := areB_nat hc; omega
    have hq2 := hq
    rw [Int.tmod_eq_emod_of_nonneg ha0] at hq2
    have hw : IntKind.i64.wrap q = q := by rw [IntKind.wrap_i64]; omega
    clear hq2
    by_cases h0 : q = 0
    · have hqb : (q == 0) = true := by simpa using h0
      obtain rfl : b = true := by rw [← hb]; simpa using h0
      clear hb hc
      go_enter Try.func57, Try.ntmps57
      go_wp2_with fail
      refine (HC.out _).mono ?_
      rintro e w' ⟨rfl, rfl⟩
      go_wp2
      go_ret
      exact ⟨rfl, rfl⟩
    · have hqb : (q == 0) = false := by simpa using h0
      obtain rfl : b = false := by rw [← hb]; simpa using h0
      clear hb hc
      go_enter Try.func57, Try.ntmps57
      go_wp2_with fail
      refine (HC.out _).mono ?_
      rintro e w' ⟨rfl, rfl⟩
      go_wp2
      go_ret
      exact ⟨rfl, rfl⟩
/-- A system that was not made. -/
def Unmade (W : World) (s : Value) : Prop := s = .pointer none ∨ ∃ b, s = .pointer (some ⟨b, 0, none⟩) ∧ W.cell? ⟨b, 0, none⟩ = some (.slice none 0 0)
theorem Unmade.later {W V : World} {s : Value} (h : Unmade W s) (hb : Below W.heap.size W V) : Unmade V s := by
  rcases h with h | ⟨b, h, hc⟩
  · exact .inl h
  · exact .inr ⟨b, h, cell_later hb hc⟩
set_option maxRecDepth 100000 in
theorem made_no (s : Value) (w : World) (h : Unmade w s) : Calls Try.prog 53 #[s] w fun e w' => e = .returned (.bool false) ∧ w = w' := by
  rcases h with rfl | ⟨b, rfl, hc⟩
  · go_enter Try.func53, Try.ntmps53
    go_wp2
    go_ret
    exact ⟨rfl, rfl⟩
  · go_enter Try.func53, Try.ntmps53
    go_wp2
    go_ret
    exact ⟨rfl, rfl⟩
set_option maxRecDepth 100000 in
theorem made_yes (S P : Nat) (v : Value) (c h : Nat → Int) (w : World) (hs : SyBox w S P v c h) : Calls Try.prog 53 #[.pointer (some ⟨S, 0, none⟩)] w fun e w' => e = .returned (.bool true) ∧ w = w' := by
  have hc := hs.pages
  go_enter Try.func53, Try.ntmps53
  go_wp2
  go_ret
  exact ⟨rfl, rfl⟩

/-- A call of a kind that makes pages of one kind another one. -/
abbrev turnV (k : Int) (b1 b2 : Nat) : Value := .agg #[.int .i64 k, .func (.func 90) #[] #[.pointer (some ⟨b1, 0, none⟩)], .func (.func 91) #[] #[.pointer (some ⟨b2, 0, none⟩)]]
abbrev joinV : Value := .agg #[.int .i64 5, .func (.func 98) #[] #[], .func (.func 99) #[] #[]]
abbrev splitV : Value := .agg #[.int .i64 6, .func (.func 93) #[] #[], .func (.func 94) #[] #[]]
theorem call_i (cs : Array Value) (h : cs.size = 3) : (Try.prog.info? 120).map (·.size) = some cs.size := by rw [h]; kernel_rfl
set_option maxRecDepth 100000 in
theorem turn_is (k x y : Int) (w : World) : Calls Try.prog 69 #[.int .i64 k, .int .i64 x, .int .i64 y] w fun e w' => e = .returned (turnV k w.heap.size (w.heap.size + 1)) ∧ Boxed w' w.heap.size 3 (.int .i64 x) ∧ Boxed w' (w.heap.size + 1) 3 (.int .i64 y) ∧ Below w.heap.size w w' := by
  obtain ⟨WL, hWL⟩ : ∃ W, ((w.alloc (.cells #[.int .i64 x] 3)).alloc (.cells #[.int .i64 y] 3)).alloc (.cells #[.int .i64 k, .nilFunc, .nilFunc] 120) = W := ⟨_, rfl⟩
  obtain ⟨WM, hWM⟩ : ∃ W, ((w.alloc (.cells #[.int .i64 x] 3)).alloc (.cells #[.int .i64 y] 3)).alloc (.cells #[.int .i64 0, .nilFunc, .nilFunc] 120) = W := ⟨_, rfl⟩
  have hbM : Below w.heap.size w WM := by rw [← hWM]; exact (((Below.refl _ _).alloc (Nat.le_refl _) _).alloc (by simp) _).alloc (by simp; omega) _
  have m0 : Boxed WM w.heap.size 3 (.int .i64 x) := by rw [← hWM]; exact ((Boxed.new w _ _).alloc _).alloc _
  have m1 : Boxed WM (w.heap.size + 1) 3 (.int .i64 y) := by
    rw [← hWM]
    have := (Boxed.new (w.alloc (.cells #[.int .i64 x] 3)) 3 (.int .i64 y)).alloc (.cells #[.int .i64 0, .nilFunc, .nilFunc] 120)
    rw [World.size_alloc] at this
    exact this
  have m2 : WM.heap[w.heap.size + 2]? = some (.cells #[.int .i64 0, .nilFunc, .nilFunc] 120 (0, 0)) := by
    rw [← hWM]
    have := World.alloc_heap_new ((w.alloc (.cells #[.int .i64 x] 3)).alloc (.cells #[.int .i64 y] 3)) (.cells #[.int .i64 0, .nilFunc, .nilFunc] 120)
    rw [World.size_alloc, World.size_alloc] at this
    exact this
  clear hWL
  have hone : (turnV k w.heap.size (w.heap.size + 1)).cells.all (·.oneCell') = true := by kernel_rfl
  go_enter Try.func69, Try.ntmps69
  go_wp2_with (first | rw [hWM] | refine wpList_store_row rfl 120 _ _ rfl (w.heap.size + 2) (turnV k w.heap.size (w.heap.size + 1)).cells rfl rfl 120 _ m2 (call_i _ rfl) rfl hone ?_)
  have m3 := setRow_heap WM (w.heap.size + 2) _ (turnV k w.heap.size (w.heap.size + 1)).cells _ _ m2
  have hld : (loadVar 120 ⟨w.heap.size + 2, 0, none⟩).run Try.prog _ = _ := run_loadVar_row _ _ 120 120 _ _ _ m3 Try.underlying120 rfl (call_i _ rfl)
  refine bodyPost_ret (v := turnV k w.heap.size (w.heap.size + 1)) (by simp [results, Try.results69, asAddr, Act.put, hld]; rfl) rfl ⟨rfl, ?_, ?_, below_row hbM _ (by omega) _⟩
  · exact (setRow_other WM _ _ _ (by omega)).trans m0
  · exact (setRow_other WM _ _ _ (by omega)).trans m1
set_option maxRecDepth 100000 in
theorem join_is (w : World) : Calls Try.prog 79 #[] w fun e w' => e = .returned joinV ∧ Below w.heap.size w w' := by
  obtain ⟨WM, hWM⟩ : ∃ W, w.alloc (.cells #[.int .i64 0, .nilFunc, .nilFunc] 120) = W := ⟨_, rfl⟩
  have hbM : Below w.heap.size w WM := by rw [← hWM]; exact (Below.refl _ _).alloc (Nat.le_refl _) _
  have m2 : WM.heap[w.heap.size]? = some (.cells #[.int .i64 0, .nilFunc, .nilFunc] 120 (0, 0)) := by rw [← hWM]; exact World.alloc_heap_new w _
  have hone : (joinV).cells.all (·.oneCell') = true := by kernel_rfl
  go_enter Try.func79, Try.ntmps79
  go_wp2_with (first | rw [hWM] | refine wpList_store_row rfl 120 _ _ rfl w.heap.size joinV.cells rfl rfl 120 _ m2 (call_i _ rfl) rfl hone ?_)
  have m3 := setRow_heap WM w.heap.size _ joinV.cells _ _ m2
  have hld : (loadVar 120 ⟨w.heap.size, 0, none⟩).run Try.prog _ = _ := run_loadVar_row _ _ 120 120 _ _ _ m3 Try.underlying120 rfl (call_i _ rfl)
  exact bodyPost_ret (v := joinV) (by simp [results, Try.results79, asAddr, Act.put, hld]; rfl) rfl ⟨rfl, below_row hbM _ (by omega) _⟩
set_option maxRecDepth 100000 in
theorem split_is (w : World) : Calls Try.prog 74 #[] w fun e w' => e = .returned splitV ∧ Below w.heap.size w w' := by
  obtain ⟨WM, hWM⟩ : ∃ W, w.alloc (.cells #[.int .i64 0, .nilFunc, .nilFunc] 120) = W := ⟨_, rfl⟩
  have hbM : Below w.heap.size w WM := by rw [← hWM]; exact (Below.refl _ _).alloc (Nat.le_refl _) _
  have m2 : WM.heap[w.heap.size]? = some (.cells #[.int .i64 0, .nilFunc, .nilFunc] 120 (0, 0)) := by rw [← hWM]; exact World.alloc_heap_new w _
  have hone : (splitV).cells.all (·.oneCell') = true := by kernel_rfl
  go_enter Try.func74, Try.ntmps74
  go_wp2_with (first | rw [hWM] | refine wpList_store_row rfl 120 _ _ rfl w.heap.size splitV.cells rfl rfl 120 _ m2 (call_i _ rfl) rfl hone ?_)
  have m3 := setRow_heap WM w.heap.size _ splitV.cells _ _ m2
  have hld : (loadVar 120 ⟨w.heap.size, 0, none⟩).run Try.prog _ = _ := run_loadVar_row _ _ 120 120 _ _ _ m3 Try.underlying120 rfl (call_i _ rfl)
  exact bodyPost_ret (v := splitV) (by simp [results, Try.results74, asAddr, Act.put, hld]; rfl) rfl ⟨rfl, below_row hbM _ (by omega) _⟩

/-! What calls say of a page, and what they make of it. -/
def chkT (x : Int) (p : Pg) : Int := if p.kd = x ∧ p.hu = false then 0 else 9
def chkJ (p : Pg) : Int := if p.kd ≠ 2 then 9 else if p.hu then 8 else 0
def chkS (p : Pg) : Int := if p.hu then 0 else 9
def chgT (y : Int) (_ : Pg) : Pg := ⟨y, false, fun _ => 0⟩
def chgJ (p : Pg) : Pg := { p with hu := true }
def chgS (p : Pg) : Pg := { p with hu := false }
set_option maxRecDepth 100000 in
theorem turn1_is (x : Int) (b1 P : Nat) (f : Pages) (j : Nat) (hj : j < 1024) (w : World) (hb : Boxed w b1 3 (.int .i64 x)) (hp : PgAt w P f) (r : Int) (hr : chkT x (f j) = r) :
    Calls Try.prog 90 #[.pointer (some ⟨P, j * 66, none⟩), .pointer (some ⟨b1, 0, none⟩)] w fun e w' => e = .returned (.int .i64 r) ∧ Below w.heap.size w w' := by
  have h0 := hp.kd j hj
  have h1 := hp.hu j hj
  have hc := hb.cell
  unfold chkT at hr
  generalize f j = p at hr h0 h1
  obtain ⟨kd, hu, bs⟩ := p
  simp only at hr h0 h1
  by_cases hk : kd = x
  · subst hk
    have hq : (kd != kd) = false := by simp
    cases hu
    · obtain rfl : r = 0 := by rw [← hr]; simp
      go_enter Try.func90, Try.ntmps90
      go_wp2_with fail
      go_quiet (fail)
      go_wp2_with fail
      go_ret
      exact ⟨rfl, below_drewN (Below.refl _ _) _⟩
    · obtain rfl : r = 9 := by rw [← hr]; simp
      go_enter Try.func90, Try.ntmps90
      go_wp2_with fail
      go_quiet (fail)
      go_wp2_with fail
      go_ret
      exact ⟨rfl, below_drewN (Below.refl _ _) _⟩
  · obtain rfl : r = 9 := by rw [← hr, if_neg (by intro h; exact hk h.1)]
    have hq : (kd != x) = true := by simpa using hk
    go_enter Try.func90, Try.ntmps90
    go_wp2_with fail
    go_quiet (fail)
    go_wp2_with fail
    go_ret
    exact ⟨rfl, below_drewN (Below.refl _ _) _⟩
set_option maxRecDepth 100000 in
theorem join1_is (P : Nat) (f : Pages) (j : Nat) (hj : j < 1024) (w : World) (hp : PgAt w P f) (r : Int) (hr : chkJ (f j) = r) :
    Calls Try.prog 98 #[.pointer (some ⟨P, j * 66, none⟩)] w fun e w' => e = .returned (.int .i64 r) ∧ Below w.heap.size w w' := by
  have h0 := hp.kd j hj
  have h1 := hp.hu j hj
  unfold chkJ at hr
  generalize f j = p at hr h0 h1
  obtain ⟨kd, hu, bs⟩ := p
  simp only at hr h0 h1
  by_cases hk : kd = 2
  · subst hk
    rw [if_neg (by simp)] at hr
    cases hu
    · obtain rfl : r = 0 := by rw [← hr]; simp
      go_enter Try.func98, Try.ntmps98
      go_wp2
      go_ret
      exact ⟨rfl, Below.refl _ _⟩
    · obtain rfl : r = 8 := by rw [← hr]; simp
      go_enter Try.func98, Try.ntmps98
      go_wp2
      go_ret
      exact ⟨rfl, Below.refl _ _⟩
  · obtain rfl : r = 9 := by rw [← hr, if_pos hk]
    have hq : (kd != 2) = true := by simpa using hk
    go_enter Try.func98, Try.ntmps98
    go_wp2
    go_ret
    exact ⟨rfl, Below.refl _ _⟩
set_option maxRecDepth 100000 in
theorem split1_is (P : Nat) (f : Pages) (j : Nat) (hj : j < 1024) (w : World) (hp : PgAt w P f) (r : Int) (hr : chkS (f j) = r) :
    Calls Try.prog 93 #[.pointer (some ⟨P, j * 66, none⟩)] w fun e w' => e = .returned (.int .i64 r) ∧ Below w.heap.size w w' := by
  have h1 := hp.hu j hj
  unfold chkS at hr
  generalize f j = p at hr h1
  obtain ⟨kd, hu, bs⟩ := p
  simp only at hr h1
  cases hu
  · obtain rfl : r = 9 := by rw [← hr]; simp
    go_enter Try.func93, Try.ntmps93
    go_wp2
    go_ret
    exact ⟨rfl, Below.refl _ _⟩
  · obtain rfl : r = 0 := by rw [← hr]; simp
    go_enter Try.func93, Try.ntmps93
    go_wp2
    go_ret
    exact ⟨rfl, Below.refl _ _⟩
/-- What a change of page j leaves: the pages with the new one, all else as it was. -/
def Chg (w : World) (P : Nat) (f : Pages) (w' : World) : Prop := PgAt w' P f ∧ Keep (· = P) w w' ∧ KeepsOthers w w'
set_option maxRecDepth 100000 in
theorem join2_is (P : Nat) (f : Pages) (j : Nat) (hj : j < 1024) (w : World) (hp : PgAt w P f) :
    Calls Try.prog 99 #[.pointer (some ⟨P, j * 66, none⟩)] w fun e w' => e = .returned (.tuple #[]) ∧ Chg w P (updP f j (chgJ (f j))) w' := by
  have h1 := hp.hu j hj
  have h2 := hp.frozen (j * 66 + 1)
  go_enter Try.func99, Try.ntmps99
  go_wp2
  go_end0
  exact ⟨rfl, hp.setHu j hj true, (Keep.refl _ _).setCell _ _ (.inl rfl), KeepsOthers.setCell _ _ _⟩
set_option maxRecDepth 100000 in
theorem split2_is (P : Nat) (f : Pages) (j : Nat) (hj : j < 1024) (w : World) (hp : PgAt w P f) :
    Calls Try.prog 94 #[.pointer (some ⟨P, j * 66, none⟩)] w fun e w' => e = .returned (.tuple #[]) ∧ Chg w P (updP f j (chgS (f j))) w' := by
  have h1 := hp.hu j hj
  have h2 := hp.frozen (j * 66 + 1)
  go_enter Try.func94, Try.ntmps94
  go_wp2
  go_end0
  exact ⟨rfl, hp.setHu j hj false, (Keep.refl _ _).setCell _ _ (.inl rfl), KeepsOthers.setCell _ _ _⟩
theorem page_i (p : Pg) : (Try.prog.info? 104).map (·.size) = some (pgL p).toArray.size := by rw [List.size_toArray, pgL_len]; kernel_rfl
set_option maxRecDepth 100000 in
theorem turn2_is (y : Int) (b2 P : Nat) (f : Pages) (j : Nat) (hj : j < 1024) (w : World) (hb : Boxed w b2 3 (.int .i64 y)) (hp : PgAt w P f) :
    Calls Try.prog 91 #[.pointer (some ⟨P, j * 66, none⟩), .pointer (some ⟨b2, 0, none⟩)] w fun e w' => e = .returned (.tuple #[]) ∧ Chg w P (updP f j (chgT y (f j))) w' := by
  have hc := hb.cell
  have ht := hp.there j hj
  have hone := all_oneCell_toArray (pgL_one (chgT y (f j)))
  go_enter Try.func91, Try.ntmps91
  go_wp2_with (first | refine wpList_store_mid rfl 104 _ _ rfl P (j * 66) (pgL (chgT y (f j))).toArray rfl (by kernel_rfl) (by rw [List.size_toArray, pgL_len]; exact ht) (page_i _) hone ?_)
  go_end0
  exact ⟨rfl, hp.setPg j hj _, Keep.setCells (q := (· = P)) P (.inl rfl) _ _ _ (Keep.refl _ _), others_setCells _ _ _ _⟩
end Go.Proofs.Ytnmeeddhagmjdaa
