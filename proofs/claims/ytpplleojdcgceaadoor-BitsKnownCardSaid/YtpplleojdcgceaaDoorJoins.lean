/- And, Or, Less, Flip. -/
import Derived.Test.YtpplleojdcgceaaDoorJoin
namespace Go.Proofs.YtpplleojdcgceaaDoor
open Go.RowKit Go.Shelf
attribute [local go_sem] Oper.semAt_some

/-- Bits and an error are returned. -/
def RetB (w : World) (K : Int) (ws : List Nat) (c : Int) (e : Ending) (w' : World) : Prop := ∃ z, e = .returned (.tuple #[bv K z, .int .i64 c]) ∧ WAt w' z ws ∧ Below w.heap.size w w'
theorem WAt.write {W : World} {k : Nat} {N M : Int} {sa : Option Addr} {sn sc : Nat} {z u : Value} {ws : List Nat} (h : WAt W z ws) (hb : BBox W k N (.slice sa sn sc)) : WAt ((W.setCell ⟨k, 0, none⟩ (.int .i64 M)).setCell ⟨k, 1, none⟩ u) z ws := by
  rcases h with h | ⟨b, off, cap, rfl, h1, h2, hc⟩
  · exact .inl h
  · refine .inr ⟨b, off, cap, rfl, h1, h2, fun j hj => ?_⟩
    refine (write_grown W k M u).cell (hc j hj) ?_
    intro e
    have e2 : b = k := by simpa using e
    subst e2
    have h3 := hc j hj
    unfold BBox at hb
    simp only [World.cell?, hb] at h3
    generalize off + j = o at h3
    match o with
    | 0 => simp at h3
    | 1 => simp at h3
    | o + 2 => simp at h3
theorem nil_at (W : World) : WAt W (.slice none 0 0) [] := .inl ⟨rfl, rfl⟩

theorem and1_any (x y : Nat) (w : World) (hx : x < 2 ^ 64) (hy : y < 2 ^ 64) : Calls Tryd.prog 71 #[.int .u64 x, .int .u64 y] w fun e w' => e = .returned (.int .u64 (x &&& y : Nat)) ∧ w = w' := by
  have k1 : bits .and .u64 (x : Int) (y : Int) = ((x &&& y : Nat) : Int) := u64_and_nat _ _ hx hy
  generalize x &&& y = z at k1 ⊢
  go_enter Tryd.func71, Tryd.ntmps71
  go_wp2
  go_ret
  exact ⟨rfl, rfl⟩
theorem or1_any (x y : Nat) (w : World) (hx : x < 2 ^ 64) (hy : y < 2 ^ 64) : Calls Tryd.prog 73 #[.int .u64 x, .int .u64 y] w fun e w' => e = .returned (.int .u64 (x ||| y : Nat)) ∧ w = w' := by
  have k1 : bits .or .u64 (x : Int) (y : Int) = ((x ||| y : Nat) : Int) := u64_or_nat _ _ hx hy
  generalize x ||| y = z at k1 ⊢
  go_enter Tryd.func73, Tryd.ntmps73
  go_wp2
  go_ret
  exact ⟨rfl, rfl⟩
theorem less1_any (x y : Nat) (w : World) (hx : x < 2 ^ 64) (hy : y < 2 ^ 64) : Calls Tryd.prog 74 #[.int .u64 x, .int .u64 y] w fun e w' => e = .returned (.int .u64 (x &&& (18446744073709551615 - y) : Nat)) ∧ w = w' := by
  have k1 : bits .andNot .u64 (x : Int) (y : Int) = ((x &&& (18446744073709551615 - y) : Nat) : Int) := u64_andNot_nat _ _ hx hy
  generalize x &&& (18446744073709551615 - y) = z at k1 ⊢
  go_enter Tryd.func74, Tryd.ntmps74
  go_wp2
  go_ret
  exact ⟨rfl, rfl⟩

/-- What a join of two bitmaps answers. -/
def opB (q : Bool → Bool → Bool) (M : Int) (va : List Nat) (N : Int) (vb : List Nat) : Int × List Nat × Int := if bothB M va N vb ≠ 0 then (0, [], bothB M va N vb) else (M, mkW M.toNat fun i => q (btW va i) (btW vb i), 0)

section
variable (M N : Int) (u v : Value) (va vb : List Nat) (fa : Fit64 va) (fb : Fit64 vb) (w : World) (ha : WAt w u va) (hb : WAt w v vb)
include fa fb ha hb
set_option maxRecDepth 100000 in
set_option maxHeartbeats 1000000 in
theorem join_err (f : Nat) (c : Int) (hc : bothB M va N vb = c) (h0 : c ≠ 0) :
    Calls Tryd.prog 70 #[bv M u, bv N v, .func (.func f) #[] #[]] w (RetB w 0 [] c) := by
  obtain ⟨wA, hwA, hAB, hzA, bA, bB, rA⟩ := boxesJ w M N u v
  have hA := ha.later hAB
  have hB := hb.later hAB
  have i0 : ∀ W, (Instr.index 87 (.agg #[.int .i64 M, u, .int .i64 N, v]) (.int .i64 0)).run Tryd.prog W = .ok (.agg #[.int .i64 M, u]) W := fun _ => by kernel_rfl
  have i1 : ∀ W, (Instr.index 87 (.agg #[.int .i64 M, u, .int .i64 N, v]) (.int .i64 1)).run Tryd.prog W = .ok (.agg #[.int .i64 N, v]) W := fun _ => by kernel_rfl
  obtain ⟨c1, hc1⟩ : ∃ x, checkB M va = x := ⟨_, rfl⟩
  obtain ⟨c2, hc2⟩ : ∃ x, checkB N vb = x := ⟨_, rfl⟩
  have HW := Lib.hid hwA
  have H1 := Lib.hid hc1
  have H2 := Lib.hid hc2
  have hd : (c1 ≠ 0 ∧ c = c1) ∨ (c1 = 0 ∧ c2 ≠ 0 ∧ c = c2) ∨ (c1 = 0 ∧ c2 = 0 ∧ M ≠ N ∧ c = 2) := by
    unfold bothB at hc
    rw [hc1, hc2] at hc
    by_cases a1 : c1 = 0
    · by_cases a2 : c2 = 0
      · by_cases a3 : M = N
        · simp [a1, a2, a3] at hc; exact absurd hc.symm h0
        · simp [a1, a2, a3] at hc; exact .inr (.inr ⟨a1, a2, a3, hc.symm⟩)
      · simp [a1, a2] at hc; exact .inr (.inl ⟨a1, a2, hc.symm⟩)
    · simp [a1] at hc; exact .inl ⟨a1, hc.symm⟩
  clear hwA hc1 hc2 hc hzA
  obtain ⟨ua, uc, rfl⟩ := ha.form
  obtain ⟨va', vc, rfl⟩ := hb.form
  rcases hd with ⟨a1, rfl⟩ | ⟨rfl, a1, rfl⟩ | ⟨rfl, rfl, a3, rfl⟩
  · have hq : (c != 0) = true := by simp [a1]
    clear a1 h0
    go_enter Tryd.func70, Tryd.ntmps70
    go_wp2_with fail
    rw [HW.out]
    refine wp_loop_rounds 3 ?_
    rw [rounds_succ]
    go_wp2_with fail
    refine (Check_is M _ va c H1.out fa _ (hA.later ((Below.refl _ _).alloc (Nat.le_refl _) _))).mono ?_
    rintro e w1 ⟨rfl, hB1⟩
    have B1 : Below wA.heap.size wA w1 := ((Below.refl _ wA).alloc (Nat.le_refl _) _).trans (hB1.mono (by simp))
    have rA1 := rA.later B1
    clear hB1
    have hz := nil_at w1
    have s0 := rA1.c0
    have s1 := rA1.c1
    have t0 := rA1.fz 0
    have t1 := rA1.fz 1
    go_wp2
    have hW := rA1.write (M := 0) (u := .slice none 0 0)
    have hG := write_grown w1 (w.heap.size + 1 + 1) (0) (.slice none 0 0)
    have hT : WAt _ (.slice none 0 0) _ := WAt.write (M := 0) (u := .slice none 0 0) hz rA1
    obtain ⟨VW, hVW⟩ : ∃ x, (w1.setCell ⟨w.heap.size + 1 + 1, 0, none⟩ (.int .i64 (0))).setCell ⟨w.heap.size + 1 + 1, 1, none⟩ (.slice none 0 0) = x := ⟨_, rfl⟩
    rw [hVW] at hW hG hT ⊢
    have e0 := hW.c0
    have e1 := hW.c1
    refine bodyPost_ret (v := .tuple #[bv (0) (.slice none 0 0), .int .i64 (c)]) (by simp [results, Tryd.results70, go_sem, e0, e1]) rfl ⟨_, rfl, hT, ?_⟩
    have hbW := hAB.trans (B1.mono hAB.size)
    exact hbW.grown hG hbW.size (fun k e => by cases e; omega)
  · have hq : (c != 0) = true := by simp [a1]
    clear a1 h0
    go_enter Tryd.func70, Tryd.ntmps70
    go_wp2_with fail
    rw [HW.out]
    refine wp_loop_rounds 3 ?_
    rw [rounds_succ]
    go_wp2_with fail
    refine (Check_is M _ va 0 H1.out fa _ (hA.later ((Below.refl _ _).alloc (Nat.le_refl _) _))).mono ?_
    rintro e w1 ⟨rfl, hB1⟩
    go_wp2_with fail
    rw [rounds_succ]
    go_wp2_with fail
    have B1 : Below wA.heap.size wA w1 := ((Below.refl _ wA).alloc (Nat.le_refl _) _).trans (hB1.mono (by simp))
    refine (Check_is N _ vb c H2.out fb _ ((hB.later B1).later ((Below.refl _ _).alloc (Nat.le_refl _) _))).mono ?_
    rintro e w2 ⟨rfl, hB2⟩
    have B2 : Below wA.heap.size wA w2 := B1.trans (((Below.refl _ w1).alloc (Nat.le_refl _) _).trans (hB2.mono (by simp)) |>.mono B1.size)
    have rA1 := rA.later B2
    clear hB1 hB2
    have hz := nil_at w2
    have s0 := rA1.c0
    have s1 := rA1.c1
    have t0 := rA1.fz 0
    have t1 := rA1.fz 1
    go_wp2
    have hW := rA1.write (M := 0) (u := .slice none 0 0)
    have hG := write_grown w2 (w.heap.size + 1 + 1) (0) (.slice none 0 0)
    have hT : WAt _ (.slice none 0 0) _ := WAt.write (M := 0) (u := .slice none 0 0) hz rA1
    obtain ⟨VW, hVW⟩ : ∃ x, (w2.setCell ⟨w.heap.size + 1 + 1, 0, none⟩ (.int .i64 (0))).setCell ⟨w.heap.size + 1 + 1, 1, none⟩ (.slice none 0 0) = x := ⟨_, rfl⟩
    rw [hVW] at hW hG hT ⊢
    have e0 := hW.c0
    have e1 := hW.c1
    refine bodyPost_ret (v := .tuple #[bv (0) (.slice none 0 0), .int .i64 (c)]) (by simp [results, Tryd.results70, go_sem, e0, e1]) rfl ⟨_, rfl, hT, ?_⟩
    have hbW := hAB.trans (B2.mono hAB.size)
    exact hbW.grown hG hbW.size (fun k e => by cases e; omega)
  · have hq : (M != N) = true := by simp [a3]
    clear a3 h0
    go_enter Tryd.func70, Tryd.ntmps70
    go_wp2_with fail
    rw [HW.out]
    refine wp_loop_rounds 3 ?_
    rw [rounds_succ]
    go_wp2_with fail
    refine (Check_is M _ va 0 H1.out fa _ (hA.later ((Below.refl _ _).alloc (Nat.le_refl _) _))).mono ?_
    rintro e w1 ⟨rfl, hB1⟩
    go_wp2_with fail
    rw [rounds_succ]
    go_wp2_with fail
    have B1 : Below wA.heap.size wA w1 := ((Below.refl _ wA).alloc (Nat.le_refl _) _).trans (hB1.mono (by simp))
    refine (Check_is N _ vb 0 H2.out fb _ ((hB.later B1).later ((Below.refl _ _).alloc (Nat.le_refl _) _))).mono ?_
    rintro e w2 ⟨rfl, hB2⟩
    have B2 : Below wA.heap.size wA w2 := B1.trans (((Below.refl _ w1).alloc (Nat.le_refl _) _).trans (hB2.mono (by simp)) |>.mono B1.size)
    have rA1 := rA.later B2
    clear hB1 hB2
    go_wp2_with fail
    rw [rounds_succ]
    have x0 := (bA.later B2).c0
    have y0 := (bB.later B2).c0
    have hz := nil_at w2
    have s0 := rA1.c0
    have s1 := rA1.c1
    have t0 := rA1.fz 0
    have t1 := rA1.fz 1
    go_wp2
    have hW := rA1.write (M := 0) (u := .slice none 0 0)
    have hG := write_grown w2 (w.heap.size + 1 + 1) (0) (.slice none 0 0)
    have hT : WAt _ (.slice none 0 0) _ := WAt.write (M := 0) (u := .slice none 0 0) hz rA1
    obtain ⟨VW, hVW⟩ : ∃ x, (w2.setCell ⟨w.heap.size + 1 + 1, 0, none⟩ (.int .i64 (0))).setCell ⟨w.heap.size + 1 + 1, 1, none⟩ (.slice none 0 0) = x := ⟨_, rfl⟩
    rw [hVW] at hW hG hT ⊢
    have e0 := hW.c0
    have e1 := hW.c1
    refine bodyPost_ret (v := .tuple #[bv (0) (.slice none 0 0), .int .i64 (2)]) (by simp [results, Tryd.results70, go_sem, e0, e1]) rfl ⟨_, rfl, hT, ?_⟩
    have hbW := hAB.trans (B2.mono hAB.size)
    exact hbW.grown hG hbW.size (fun k e => by cases e; omega)

theorem joinAnd : Calls Tryd.prog 70 #[bv M u, bv N v, .func (.func 71) #[] #[]] w (RetB w (opB (fun x y => x && y) M va N vb).1 (opB (fun x y => x && y) M va N vb).2.1 (opB (fun x y => x && y) M va N vb).2.2) := by
  unfold opB
  by_cases h0 : bothB M va N vb = 0
  · rw [if_neg (by simp [h0])]
    have h1 : checkB M va = 0 ∧ checkB N vb = 0 ∧ M = N := by
      unfold bothB at h0
      by_cases a1 : checkB M va = 0
      · by_cases a2 : checkB N vb = 0
        · by_cases a3 : M = N
          · exact ⟨a1, a2, a3⟩
          · simp [a1, a2, a3] at h0
        · simp [a1, a2] at h0
      · simp [a1] at h0
    obtain ⟨ca, cb, rfl⟩ := h1
    obtain ⟨n, rfl, _, _⟩ := check_ok ca
    have hJ := join_ok 71 (enters_of Tryd.func71 (by kernel_rfl) rfl) (fun x y => x &&& y) n u v va vb fa fb ca cb w ha hb (fun x y w h1 h2 => and1_any x y w h1 h2)
    rw [join_mk (fun x y => x &&& y) (fun x y => x && y) rfl (fun x y h1 h2 => and_bits x y h1 h2) n va vb _ _ (valid_mk fa ca) (valid_mk fb cb)] at hJ
    exact hJ
  · rw [if_pos h0]
    exact join_err M N u v va vb fa fb w ha hb 71 _ rfl h0
set_option maxRecDepth 100000 in
set_option maxHeartbeats 400000 in
theorem And_is (K c : Int) (ws : List Nat) (hx : opB (fun x y => x && y) M va N vb = (K, ws, c)) : Calls Tryd.prog 41 #[bv M u, bv N v] w (RetB w K ws c) := by
  obtain ⟨wA, hwA, hAB, hzA, bA, bB, rA⟩ := boxesJ w M N u v
  have hJ := joinAnd M N u v va vb fa fb wA (ha.later hAB) (hb.later hAB)
  rw [hx] at hJ
  have HW := Lib.hid hwA
  clear fa fb ha hb hwA hx hzA bA bB
  go_enter Tryd.func41, Tryd.ntmps41
  go_wp2_with fail
  rw [HW.out]
  refine hJ.mono ?_
  rintro e w1 ⟨z, rfl, hz, B1⟩
  obtain ⟨za, zc, rfl⟩ := hz.form
  have rA1 := rA.later B1
  have s0 := rA1.c0
  have s1 := rA1.c1
  have t0 := rA1.fz 0
  have t1 := rA1.fz 1
  go_wp2
  have hW := rA1.write (M := K) (u := .slice za ws.length zc)
  have hG := write_grown w1 (w.heap.size + 1 + 1) (K) (.slice za ws.length zc)
  have hT : WAt _ (.slice za ws.length zc) _ := WAt.write (M := K) (u := .slice za ws.length zc) hz rA1
  obtain ⟨VW, hVW⟩ : ∃ x, (w1.setCell ⟨w.heap.size + 1 + 1, 0, none⟩ (.int .i64 (K))).setCell ⟨w.heap.size + 1 + 1, 1, none⟩ (.slice za ws.length zc) = x := ⟨_, rfl⟩
  rw [hVW] at hW hG hT ⊢
  have e0 := hW.c0
  have e1 := hW.c1
  refine bodyPost_ret (v := .tuple #[bv (K) (.slice za ws.length zc), .int .i64 (c)]) (by simp [results, Tryd.results41, go_sem, e0, e1]) rfl ⟨_, rfl, hT, ?_⟩
  have hbW := hAB.trans (B1.mono hAB.size)
  exact hbW.grown hG hbW.size (fun k e => by cases e; omega)

theorem joinOr : Calls Tryd.prog 70 #[bv M u, bv N v, .func (.func 73) #[] #[]] w (RetB w (opB (fun x y => x || y) M va N vb).1 (opB (fun x y => x || y) M va N vb).2.1 (opB (fun x y => x || y) M va N vb).2.2) := by
  unfold opB
  by_cases h0 : bothB M va N vb = 0
  · rw [if_neg (by simp [h0])]
    have h1 : checkB M va = 0 ∧ checkB N vb = 0 ∧ M = N := by
      unfold bothB at h0
      by_cases a1 : checkB M va = 0
      · by_cases a2 : checkB N vb = 0
        · by_cases a3 : M = N
          · exact ⟨a1, a2, a3⟩
          · simp [a1, a2, a3] at h0
        · simp [a1, a2] at h0
      · simp [a1] at h0
    obtain ⟨ca, cb, rfl⟩ := h1
    obtain ⟨n, rfl, _, _⟩ := check_ok ca
    have hJ := join_ok 73 (enters_of Tryd.func73 (by kernel_rfl) rfl) (fun x y => x ||| y) n u v va vb fa fb ca cb w ha hb (fun x y w h1 h2 => or1_any x y w h1 h2)
    rw [join_mk (fun x y => x ||| y) (fun x y => x || y) rfl (fun x y h1 h2 => or_bits x y h1 h2) n va vb _ _ (valid_mk fa ca) (valid_mk fb cb)] at hJ
    exact hJ
  · rw [if_pos h0]
    exact join_err M N u v va vb fa fb w ha hb 73 _ rfl h0
set_option maxRecDepth 100000 in
set_option maxHeartbeats 400000 in
theorem Or_is (K c : Int) (ws : List Nat) (hx : opB (fun x y => x || y) M va N vb = (K, ws, c)) : Calls Tryd.prog 43 #[bv M u, bv N v] w (RetB w K ws c) := by
  obtain ⟨wA, hwA, hAB, hzA, bA, bB, rA⟩ := boxesJ w M N u v
  have hJ := joinOr M N u v va vb fa fb wA (ha.later hAB) (hb.later hAB)
  rw [hx] at hJ
  have HW := Lib.hid hwA
  clear fa fb ha hb hwA hx hzA bA bB
  go_enter Tryd.func43, Tryd.ntmps43
  go_wp2_with fail
  rw [HW.out]
  refine hJ.mono ?_
  rintro e w1 ⟨z, rfl, hz, B1⟩
  obtain ⟨za, zc, rfl⟩ := hz.form
  have rA1 := rA.later B1
  have s0 := rA1.c0
  have s1 := rA1.c1
  have t0 := rA1.fz 0
  have t1 := rA1.fz 1
  go_wp2
  have hW := rA1.write (M := K) (u := .slice za ws.length zc)
  have hG := write_grown w1 (w.heap.size + 1 + 1) (K) (.slice za ws.length zc)
  have hT : WAt _ (.slice za ws.length zc) _ := WAt.write (M := K) (u := .slice za ws.length zc) hz rA1
  obtain ⟨VW, hVW⟩ : ∃ x, (w1.setCell ⟨w.heap.size + 1 + 1, 0, none⟩ (.int .i64 (K))).setCell ⟨w.heap.size + 1 + 1, 1, none⟩ (.slice za ws.length zc) = x := ⟨_, rfl⟩
  rw [hVW] at hW hG hT ⊢
  have e0 := hW.c0
  have e1 := hW.c1
  refine bodyPost_ret (v := .tuple #[bv (K) (.slice za ws.length zc), .int .i64 (c)]) (by simp [results, Tryd.results43, go_sem, e0, e1]) rfl ⟨_, rfl, hT, ?_⟩
  have hbW := hAB.trans (B1.mono hAB.size)
  exact hbW.grown hG hbW.size (fun k e => by cases e; omega)

theorem joinLess : Calls Tryd.prog 70 #[bv M u, bv N v, .func (.func 74) #[] #[]] w (RetB w (opB (fun x y => x && !y) M va N vb).1 (opB (fun x y => x && !y) M va N vb).2.1 (opB (fun x y => x && !y) M va N vb).2.2) := by
  unfold opB
  by_cases h0 : bothB M va N vb = 0
  · rw [if_neg (by simp [h0])]
    have h1 : checkB M va = 0 ∧ checkB N vb = 0 ∧ M = N := by
      unfold bothB at h0
      by_cases a1 : checkB M va = 0
      · by_cases a2 : checkB N vb = 0
        · by_cases a3 : M = N
          · exact ⟨a1, a2, a3⟩
          · simp [a1, a2, a3] at h0
        · simp [a1, a2] at h0
      · simp [a1] at h0
    obtain ⟨ca, cb, rfl⟩ := h1
    obtain ⟨n, rfl, _, _⟩ := check_ok ca
    have hJ := join_ok 74 (enters_of Tryd.func74 (by kernel_rfl) rfl) (fun x y => x &&& (18446744073709551615 - y)) n u v va vb fa fb ca cb w ha hb (fun x y w h1 h2 => less1_any x y w h1 h2)
    rw [join_mk (fun x y => x &&& (18446744073709551615 - y)) (fun x y => x && !y) rfl (fun x y h1 h2 => less_bits x y h1 h2) n va vb _ _ (valid_mk fa ca) (valid_mk fb cb)] at hJ
    exact hJ
  · rw [if_pos h0]
    exact join_err M N u v va vb fa fb w ha hb 74 _ rfl h0
set_option maxRecDepth 100000 in
set_option maxHeartbeats 400000 in
theorem Less_is (K c : Int) (ws : List Nat) (hx : opB (fun x y => x && !y) M va N vb = (K, ws, c)) : Calls Tryd.prog 45 #[bv M u, bv N v] w (RetB w K ws c) := by
  obtain ⟨wA, hwA, hAB, hzA, bA, bB, rA⟩ := boxesJ w M N u v
  have hJ := joinLess M N u v va vb fa fb wA (ha.later hAB) (hb.later hAB)
  rw [hx] at hJ
  have HW := Lib.hid hwA
  clear fa fb ha hb hwA hx hzA bA bB
  go_enter Tryd.func45, Tryd.ntmps45
  go_wp2_with fail
  rw [HW.out]
  refine hJ.mono ?_
  rintro e w1 ⟨z, rfl, hz, B1⟩
  obtain ⟨za, zc, rfl⟩ := hz.form
  have rA1 := rA.later B1
  have s0 := rA1.c0
  have s1 := rA1.c1
  have t0 := rA1.fz 0
  have t1 := rA1.fz 1
  go_wp2
  have hW := rA1.write (M := K) (u := .slice za ws.length zc)
  have hG := write_grown w1 (w.heap.size + 1 + 1) (K) (.slice za ws.length zc)
  have hT : WAt _ (.slice za ws.length zc) _ := WAt.write (M := K) (u := .slice za ws.length zc) hz rA1
  obtain ⟨VW, hVW⟩ : ∃ x, (w1.setCell ⟨w.heap.size + 1 + 1, 0, none⟩ (.int .i64 (K))).setCell ⟨w.heap.size + 1 + 1, 1, none⟩ (.slice za ws.length zc) = x := ⟨_, rfl⟩
  rw [hVW] at hW hG hT ⊢
  have e0 := hW.c0
  have e1 := hW.c1
  refine bodyPost_ret (v := .tuple #[bv (K) (.slice za ws.length zc), .int .i64 (c)]) (by simp [results, Tryd.results45, go_sem, e0, e1]) rfl ⟨_, rfl, hT, ?_⟩
  have hbW := hAB.trans (B1.mono hAB.size)
  exact hbW.grown hG hbW.size (fun k e => by cases e; omega)
end
end Go.Proofs.YtpplleojdcgceaaDoor
