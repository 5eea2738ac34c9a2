/- New, Set, Flip: all answers. -/
import Derived.Test.YtpplleojdcgceaaDoorJoins
namespace Go.Proofs.YtpplleojdcgceaaDoor
open Go.RowKit Go.Shelf
attribute [local go_sem] Oper.semAt_some

def newB (N : Int) (on : Bool) : Int × List Nat × Int := if N < 0 ∨ 4096 < N then (0, [], 7) else (N, mkW N.toNat fun _ => on, 0)
def setB (N : Int) (ws : List Nat) (a t : Int) (on : Bool) : Int × List Nat × Int := if runB N ws a t ≠ 0 then (0, [], runB N ws a t) else (N, mkW N.toNat fun i => if a.toNat ≤ i ∧ i < t.toNat then on else btW ws i, 0)
def flipB (N : Int) (ws : List Nat) : Int × List Nat × Int := if checkB N ws ≠ 0 then (0, [], checkB N ws) else (N, mkW N.toNat fun i => !btW ws i, 0)

set_option maxRecDepth 100000 in
set_option maxHeartbeats 400000 in
theorem New_is (N : Int) (on : Bool) (K c : Int) (ws : List Nat) (hx : newB N on = (K, ws, c)) (w : World) : Calls Tryd.prog 15 #[.int .i64 N, .bool on] w (RetB w K ws c) := by
  by_cases h0 : N < 0 ∨ 4096 < N
  · unfold newB at hx
    rw [if_pos h0] at hx
    obtain ⟨rfl, h1⟩ := Prod.mk.inj hx
    obtain ⟨rfl, rfl⟩ := Prod.mk.inj h1
    clear hx h1
    by_cases q1 : N < 0
    · clear h0
      go_enter Tryd.func15, Tryd.ntmps15
      go_wp2
      exact bodyPost_ret (v := .tuple #[bv 0 (.slice none 0 0), .int .i64 7]) (by simp [results, Tryd.results15, go_sem]) rfl ⟨_, rfl, nil_at _, (Below.refl _ _).alloc (Nat.le_refl _) _⟩
    · have q2 : 4096 < N := by omega
      clear h0
      go_enter Tryd.func15, Tryd.ntmps15
      go_wp2
      exact bodyPost_ret (v := .tuple #[bv 0 (.slice none 0 0), .int .i64 7]) (by simp [results, Tryd.results15, go_sem]) rfl ⟨_, rfl, nil_at _, (Below.refl _ _).alloc (Nat.le_refl _) _⟩
  · unfold newB at hx
    rw [if_neg h0] at hx
    obtain ⟨rfl, h1⟩ := Prod.mk.inj hx
    obtain ⟨rfl, rfl⟩ := Prod.mk.inj h1
    obtain ⟨n, rfl⟩ : ∃ n : Nat, N = n := ⟨N.toNat, by omega⟩
    exact New_ok n on (by omega) w

set_option maxRecDepth 100000 in
set_option maxHeartbeats 400000 in
theorem Set_is (N a t : Int) (on : Bool) (u : Value) (va : List Nat) (hf : Fit64 va) (K c : Int) (ws : List Nat) (hx : setB N va a t on = (K, ws, c)) (w : World) (h : WAt w u va) :
    Calls Tryd.prog 22 #[bv N u, .int .i64 a, .int .i64 t, .bool on] w (RetB w K ws c) := by
  obtain ⟨r, hr⟩ : ∃ r, runB N va a t = r := ⟨_, rfl⟩
  unfold setB at hx
  rw [hr] at hx
  by_cases h0 : r = 0
  · rw [if_neg (by simp [h0])] at hx
    subst h0
    obtain ⟨rfl, h1⟩ := Prod.mk.inj hx
    obtain ⟨rfl, rfl⟩ := Prod.mk.inj h1
    obtain ⟨n, a', t', rfl, rfl, rfl, _⟩ := run_ok hr
    exact Set_ok n a' t' on u va hf hr w h
  · rw [if_pos h0] at hx
    obtain ⟨rfl, h1⟩ := Prod.mk.inj hx
    obtain ⟨rfl, rfl⟩ := Prod.mk.inj h1
    obtain ⟨wA, hwA, hAB, bA, rA⟩ := argres w N u
    have hA := h.later hAB
    have HW := Lib.hid hwA
    have HR := Lib.hid hr
    have hq : (r != 0) = true := by simp [h0]
    clear hwA hx h1 hr h0
    go_enter Tryd.func22, Tryd.ntmps22
    go_wp2_with fail
    rw [HW.out]
    refine (checkRun_is N u va a t r HR.out hf _ hA).mono ?_
    rintro e w1 ⟨rfl, B1⟩
    have rA1 := rA.later B1
    have hz := nil_at w1
    have s0 := rA1.c0
    have s1 := rA1.c1
    have t0 := rA1.fz 0
    have t1 := rA1.fz 1
    go_wp2
    have hW := rA1.write (M := 0) (u := .slice none 0 0)
    have hG := write_grown w1 (w.heap.size + 1) (0) (.slice none 0 0)
    have hT : WAt _ (.slice none 0 0) _ := WAt.write (M := 0) (u := .slice none 0 0) hz rA1
    obtain ⟨VW, hVW⟩ : ∃ x, (w1.setCell ⟨w.heap.size + 1, 0, none⟩ (.int .i64 (0))).setCell ⟨w.heap.size + 1, 1, none⟩ (.slice none 0 0) = x := ⟨_, rfl⟩
    rw [hVW] at hW hG hT ⊢
    have e0 := hW.c0
    have e1 := hW.c1
    refine bodyPost_ret (v := .tuple #[bv (0) (.slice none 0 0), .int .i64 (r)]) (by simp [results, Tryd.results22, go_sem, e0, e1]) rfl ⟨_, rfl, hT, ?_⟩
    have hbW := hAB.trans (B1.mono hAB.size)
    exact hbW.grown hG hbW.size (fun k e => by cases e; omega)
set_option maxRecDepth 100000 in
set_option maxHeartbeats 400000 in
theorem Flip_is (N : Int) (u : Value) (va : List Nat) (hf : Fit64 va) (K c : Int) (ws : List Nat) (hx : flipB N va = (K, ws, c)) (w : World) (h : WAt w u va) :
    Calls Tryd.prog 47 #[bv N u] w (RetB w K ws c) := by
  obtain ⟨r, hr⟩ : ∃ r, checkB N va = r := ⟨_, rfl⟩
  obtain ⟨wA, hwA, hAB, bA, rA⟩ := argres w N u
  have hA := h.later hAB
  have HW := Lib.hid hwA
  unfold flipB at hx
  rw [hr] at hx
  by_cases h0 : r = 0
  · rw [if_neg (by simp [h0])] at hx
    subst h0
    obtain ⟨rfl, h1⟩ := Prod.mk.inj hx
    obtain ⟨rfl, rfl⟩ := Prod.mk.inj h1
    obtain ⟨n, rfl, hn4, _⟩ := check_ok hr
    have HR := Lib.hid hr
    have hnew : newB n true = ((n : Int), mkW n fun _ => true, 0) := by unfold newB; rw [if_neg (by omega)]; rfl
    have hop : opB (fun x y => x && !y) n (mkW n fun _ => true) n va = ((n : Int), mkW n fun i => !btW va i, 0) := by
      unfold opB bothB
      rw [chk_mk n _ hn4, hr]
      simp only [ne_eq, not_true_eq_false, if_false, Int.toNat_natCast]
      rw [mkW_congr (g := fun i => !btW va i) (fun i hi => by rw [mkW_bit]; simp [hi])]
    have HN := Lib.hid hnew
    have HO := Lib.hid hop
    clear hwA hx h1 hr hnew hop
    simp only [Int.toNat_natCast]
    go_enter Tryd.func47, Tryd.ntmps47
    go_wp2_with fail
    rw [HW.out]
    refine (Check_is n u va 0 HR.out hf _ hA).mono ?_
    rintro e w1 ⟨rfl, B1⟩
    have c0 := (bA.later B1).c0
    have c1 := (bA.later B1).c1
    go_wp2_with fail
    refine (New_is n true _ _ _ HN.out _).mono ?_
    rintro e w2 ⟨z, rfl, hz2, B2⟩
    obtain ⟨zA, zC, rfl⟩ := hz2.form
    have B12 := B1.trans (B2.mono B1.size)
    have d0 := (bA.later B12).c0
    have d1 := (bA.later B12).c1
    have dl := (bA.later B12).lt
    have ba := fun o : Obj => (Below.refl w2.heap.size w2).alloc (Nat.le_refl _) o
    go_wp2_with fail
    refine (Less_is n n _ u _ va (mkW_fit _ _) hf _ (hz2.later (ba _)) ((hA.later B12).later (ba _)) _ _ _ HO.out).mono ?_
    rintro e w3 ⟨z3, rfl, hz, B3'⟩
    obtain ⟨za, zc, rfl⟩ := hz.form
    have B3 := B12.trans (((ba _).trans (B3'.mono (by simp))).mono B12.size)
    have rA1 := rA.later B3
    have s0 := rA1.c0
    have s1 := rA1.c1
    have t0 := rA1.fz 0
    have t1 := rA1.fz 1
    go_wp2
    have hW := rA1.write (M := n) (u := .slice za (mkW n fun i => !btW va i).length zc)
    have hG := write_grown w3 (w.heap.size + 1) (n) (.slice za (mkW n fun i => !btW va i).length zc)
    have hT : WAt _ (.slice za (mkW n fun i => !btW va i).length zc) _ := WAt.write (M := n) (u := .slice za (mkW n fun i => !btW va i).length zc) hz rA1
    obtain ⟨VW, hVW⟩ : ∃ x, (w3.setCell ⟨w.heap.size + 1, 0, none⟩ (.int .i64 (n))).setCell ⟨w.heap.size + 1, 1, none⟩ (.slice za (mkW n fun i => !btW va i).length zc) = x := ⟨_, rfl⟩
    rw [hVW] at hW hG hT ⊢
    have e0 := hW.c0
    have e1 := hW.c1
    refine bodyPost_ret (v := .tuple #[bv (n) (.slice za (mkW n fun i => !btW va i).length zc), .int .i64 (0)]) (by simp [results, Tryd.results47, go_sem, e0, e1]) rfl ⟨_, rfl, hT, ?_⟩
    have hbW := hAB.trans (B3.mono hAB.size)
    exact hbW.grown hG hbW.size (fun k e => by cases e; omega)
  · rw [if_pos h0] at hx
    obtain ⟨rfl, h1⟩ := Prod.mk.inj hx
    obtain ⟨rfl, rfl⟩ := Prod.mk.inj h1
    have HR := Lib.hid hr
    have hq : (r != 0) = true := by simp [h0]
    clear hwA hx h1 hr h0
    go_enter Tryd.func47, Tryd.ntmps47
    go_wp2_with fail
    rw [HW.out]
    refine (Check_is N u va r HR.out hf _ hA).mono ?_
    rintro e w1 ⟨rfl, B1⟩
    have rA1 := rA.later B1
    have hz := nil_at w1
    have s0 := rA1.c0
    have s1 := rA1.c1
    have t0 := rA1.fz 0
    have t1 := rA1.fz 1
    go_wp2
    have hW := rA1.write (M := 0) (u := .slice none 0 0)
    have hG := write_grown w1 (w.heap.size + 1) (0) (.slice none 0 0)
    have hT : WAt _ (.slice none 0 0) _ := WAt.write (M := 0) (u := .slice none 0 0) hz rA1
    obtain ⟨VW, hVW⟩ : ∃ x, (w1.setCell ⟨w.heap.size + 1, 0, none⟩ (.int .i64 (0))).setCell ⟨w.heap.size + 1, 1, none⟩ (.slice none 0 0) = x := ⟨_, rfl⟩
    rw [hVW] at hW hG hT ⊢
    have e0 := hW.c0
    have e1 := hW.c1
    refine bodyPost_ret (v := .tuple #[bv (0) (.slice none 0 0), .int .i64 (r)]) (by simp [results, Tryd.results47, go_sem, e0, e1]) rfl ⟨_, rfl, hT, ?_⟩
    have hbW := hAB.trans (B1.mono hAB.size)
    exact hbW.grown hG hbW.size (fun k e => by cases e; omega)
end Go.Proofs.YtpplleojdcgceaaDoor
