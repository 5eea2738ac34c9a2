/- The reference's And, Or, Less, Flip. -/
import Derived.Test.YtpplleojdcgceaaDoorRefNew
import Derived.Deep.RegionHeld3
namespace Go.Proofs.YtpplleojdcgceaaDoor
open Go.RowKit Go.Shelf
attribute [local go_sem] Oper.semAt_some

set_option maxRecDepth 100000 in
set_option maxHeartbeats 1000000 in
theorem RefBoth_is (M N : Int) (u v : Value) (va vb : List Nat) (fa : Fit64 va) (fb : Fit64 vb) (c : Int) (hc : bothB M va N vb = c) (w : World) (ha : WAt w u va) (hb : WAt w v vb) :
    Calls Tryd.prog 72 #[bv M u, bv N v] w fun e w' => e = .returned (.int .i64 c) ∧ Below w.heap.size w w' := by
  obtain ⟨wA, hwA, hAB, bA, bB⟩ : ∃ wA, (w.alloc (.cells #[.int .i64 M, u] 24)).alloc (.cells #[.int .i64 N, v] 24) = wA ∧ Below w.heap.size w wA ∧ BBox wA w.heap.size M u ∧ BBox wA (w.heap.size + 1) N v := by
    refine ⟨_, rfl, ((Below.refl _ _).alloc (Nat.le_refl _) _).alloc (by simp) _, (BBox.new w M u).alloc _, ?_⟩
    have := BBox.new (w.alloc (.cells #[.int .i64 M, u] 24)) N v
    rw [World.size_alloc] at this
    exact this
  have hA := ha.later hAB
  have hB := hb.later hAB
  obtain ⟨c1, hc1⟩ : ∃ x, checkB M va = x := ⟨_, rfl⟩
  obtain ⟨c2, hc2⟩ : ∃ x, checkB N vb = x := ⟨_, rfl⟩
  have HW := Lib.hid hwA
  have H1 := Lib.hid hc1
  have H2 := Lib.hid hc2
  have hd : (c1 ≠ 0 ∧ c = c1) ∨ (c1 = 0 ∧ c2 ≠ 0 ∧ c = c2) ∨ (c1 = 0 ∧ c2 = 0 ∧ M ≠ N ∧ c = 2) ∨ (c1 = 0 ∧ c2 = 0 ∧ M = N ∧ c = 0) := by
    unfold bothB at hc
    rw [hc1, hc2] at hc
    by_cases a1 : c1 = 0
    · by_cases a2 : c2 = 0
      · by_cases a3 : M = N
        · simp [a1, a2, a3] at hc; exact .inr (.inr (.inr ⟨a1, a2, a3, hc.symm⟩))
        · simp [a1, a2, a3] at hc; exact .inr (.inr (.inl ⟨a1, a2, a3, hc.symm⟩))
      · simp [a1, a2] at hc; exact .inr (.inl ⟨a1, a2, hc.symm⟩)
    · simp [a1] at hc; exact .inl ⟨a1, hc.symm⟩
  clear hwA hc1 hc2 hc
  rcases hd with ⟨a1, rfl⟩ | ⟨rfl, a1, rfl⟩ | ⟨rfl, rfl, a3, rfl⟩ | ⟨rfl, rfl, rfl, rfl⟩
  · have hq : (c == 0) = false := by simp [a1]
    clear a1
    go_enter Tryd.func72, Tryd.ntmps72
    go_wp2_with fail
    rw [HW.out]
    refine (RefCheck_is M u va fa _ hA c H1.out).mono ?_
    rintro e w1 ⟨rfl, B1⟩
    have x0 := (bA.later B1).c0
    have y0 := (bB.later B1).c0
    go_wp2
    go_ret
    exact ⟨rfl, hAB.trans (B1.mono hAB.size)⟩
  · have hq : (c == 0) = false := by simp [a1]
    clear a1
    go_enter Tryd.func72, Tryd.ntmps72
    go_wp2_with fail
    rw [HW.out]
    refine (RefCheck_is M u va fa _ hA 0 H1.out).mono ?_
    rintro e w1 ⟨rfl, B1⟩
    have x0 := (bA.later B1).c0
    have y0 := (bB.later B1).c0
    have y1 := (bB.later B1).c1
    go_wp2_with fail
    refine (RefCheck_is N v vb fb _ (hB.later B1) c H2.out).mono ?_
    rintro e w2 ⟨rfl, B2'⟩
    have B2 := B1.trans (B2'.mono B1.size)
    have u0 := (bA.later B2).c0
    have v0 := (bB.later B2).c0
    go_wp2
    go_ret
    exact ⟨rfl, hAB.trans (B2.mono hAB.size)⟩
  · go_enter Tryd.func72, Tryd.ntmps72
    go_wp2_with fail
    rw [HW.out]
    refine (RefCheck_is M u va fa _ hA 0 H1.out).mono ?_
    rintro e w1 ⟨rfl, B1⟩
    have x0 := (bA.later B1).c0
    have y0 := (bB.later B1).c0
    have y1 := (bB.later B1).c1
    go_wp2_with fail
    refine (RefCheck_is N v vb fb _ (hB.later B1) 0 H2.out).mono ?_
    rintro e w2 ⟨rfl, B2'⟩
    have B2 := B1.trans (B2'.mono B1.size)
    have u0 := (bA.later B2).c0
    have v0 := (bB.later B2).c0
    have hq : (M != N) = true := by simp [a3]
    go_wp2
    go_ret
    exact ⟨rfl, hAB.trans (B2.mono hAB.size)⟩
  · go_enter Tryd.func72, Tryd.ntmps72
    go_wp2_with fail
    rw [HW.out]
    refine (RefCheck_is M u va fa _ hA 0 H1.out).mono ?_
    rintro e w1 ⟨rfl, B1⟩
    have x0 := (bA.later B1).c0
    have y0 := (bB.later B1).c0
    have y1 := (bB.later B1).c1
    go_wp2_with fail
    refine (RefCheck_is M v vb fb _ (hB.later B1) 0 H2.out).mono ?_
    rintro e w2 ⟨rfl, B2'⟩
    have B2 := B1.trans (B2'.mono B1.size)
    have u0 := (bA.later B2).c0
    have v0 := (bB.later B2).c0
    go_wp2
    go_ret
    exact ⟨rfl, hAB.trans (B2.mono hAB.size)⟩

/-- The list after so many were combined. -/
def mixL (q : Bool → Bool → Bool) (k : Nat) (f g : Nat → Bool) : Nat → Bool := fun i => if i < k then q (f i) (g i) else f i
theorem mixL_set (n : Nat) (q : Bool → Bool → Bool) (k : Nat) (f g : Nat → Bool) : (fL n (mixL q k f g)).set k (.bool (q (f k) (g k))) = fL n (mixL q (k + 1) f g) := by
  rw [fL_set]
  refine fL_congr fun i _ => ?_
  unfold mixL
  by_cases h : i = k
  · subst h; simp
  · by_cases h2 : i < k
    · rw [if_neg h, if_pos h2, if_pos (by omega)]
    · rw [if_neg h, if_neg h2, if_neg (by omega)]
theorem mixL_none (n : Nat) (q : Bool → Bool → Bool) (f g : Nat → Bool) : fL n (mixL q 0 f g) = fL n f := fL_congr fun i _ => by unfold mixL; rw [if_neg (by omega)]
theorem mixL_all (n : Nat) (q : Bool → Bool → Bool) (f g : Nat → Bool) : fL n (mixL q n f g) = fL n fun i => q (f i) (g i) := fL_congr fun i hi => by unfold mixL; rw [if_pos hi]
theorem mixL_at (q : Bool → Bool → Bool) (k : Nat) (f g : Nat → Bool) : mixL q k f g k = f k := by unfold mixL; rw [if_neg (by omega)]
theorem both_ok {M N : Int} {va vb : List Nat} (h : bothB M va N vb = 0) : checkB M va = 0 ∧ checkB N vb = 0 ∧ M = N := by
  unfold bothB at h
  by_cases a1 : checkB M va = 0
  · by_cases a2 : checkB N vb = 0
    · by_cases a3 : M = N
      · exact ⟨a1, a2, a3⟩
      · simp [a1, a2, a3] at h
    · simp [a1, a2] at h
  · simp [a1] at h

set_option maxRecDepth 100000 in
set_option maxHeartbeats 2000000 in
theorem RefAnd_is (M N : Int) (u v : Value) (va vb : List Nat) (fa : Fit64 va) (fb : Fit64 vb) (K c : Int) (ws : List Nat) (hx : opB (fun x y => x && y) M va N vb = (K, ws, c)) (w : World) (ha : WAt w u va) (hb : WAt w v vb) :
    Calls Tryd.prog 42 #[bv M u, bv N v] w (RetB w K ws c) := by
  obtain ⟨r, hr⟩ : ∃ r, bothB M va N vb = r := ⟨_, rfl⟩
  obtain ⟨wA, hwA, hAB, hzA, bA, bB, rA⟩ := boxesJ w M N u v
  have hA := ha.later hAB
  have hB := hb.later hAB
  have HW := Lib.hid hwA
  have HR := Lib.hid hr
  unfold opB at hx
  rw [hr] at hx
  clear hwA hzA
  by_cases h0 : r = 0
  · rw [if_neg (by simp [h0])] at hx
    subst h0
    obtain ⟨rfl, h1⟩ := Prod.mk.inj hx
    obtain ⟨rfl, rfl⟩ := Prod.mk.inj h1
    obtain ⟨ca, cb, rfl⟩ := both_ok hr
    obtain ⟨n, rfl, hn4, hla⟩ := check_ok ca
    obtain ⟨n2, hn2, _, hlb⟩ := check_ok cb
    obtain rfl : n = n2 := by omega
    have hl1 : n ≤ 64 * va.length := by omega
    have hl2 : n ≤ 64 * vb.length := by omega
    have HL1 := Lib.hid hl1
    have HL2 := Lib.hid hl2
    obtain ⟨ua, uc, rfl⟩ := ha.form
    obtain ⟨va', vc, rfl⟩ := hb.form
    simp only [Int.toNat_natCast]
    clear hx h1 hr hla hlb hn2 ca cb hl1 hl2
    go_enter Tryd.func42, Tryd.ntmps42
    go_wp2_with fail
    rw [HW.out]
    refine (RefBoth_is n n _ _ va vb fa fb 0 HR.out _ hA hB).mono ?_
    rintro e w1 ⟨rfl, B1⟩
    have bA1 := bA.later B1
    have bB1 := bB.later B1
    have x0 := bA1.c0
    have x1 := bA1.c1
    have y0 := bB1.c0
    have y1 := bB1.c1
    have hA1 := hA.later B1
    have hA1d : WAt w1.drew (.slice ua va.length uc) va := hA1
    have hB1 := hB.later B1
    have z1 := bA1.lt
    have z2 := bB1.lt
    have z3 := (rA.later B1).lt
    go_wp2_with fail
    first | go_region_held3 (fun w' => (w'.cell? ⟨w.heap.size, 0, none⟩ = some (.int .i64 (n : Int)) ∧ w'.cell? ⟨w.heap.size, 1, none⟩ = some (.slice ua va.length uc)) ∧ w'.cell? ⟨w.heap.size + 1, 0, none⟩ = some (.int .i64 (n : Int)) ∧ w'.cell? ⟨w.heap.size + 1, 1, none⟩ = some (.slice va' vb.length vc)) (first | exact ⟨⟨x0, x1⟩, y0, y1⟩ | exact ⟨⟨p0, p1⟩, p2, p3⟩ | exact ⟨⟨q0, q1⟩, q2, q3⟩)
      (first | (go_at_call 53; ((with_reducible refine (RefList_any n (.slice ua va.length uc) va fa hn4 HL1.out _ hA1d).mono ?_); rintro e w2 ⟨l, rfl, hl, B2'⟩; obtain ⟨la, lc, rfl⟩ := own_form hl; have B2 : Below w1.heap.size w1 w2 := ⟨B2'.os, B2'.tape, B2'.output, B2'.size, B2'.block⟩; have bA2 := bA1.later B2; have bB2 := bB1.later B2; have p0 := bA2.c0; have p1 := bA2.c1; have p2 := bB2.c0; have p3 := bB2.c1; have hB2 := hB1.later B2)) | (go_at_call 53; ((with_reducible refine (RefList_any n (.slice va' vb.length vc) vb fb hn4 HL2.out _ hB2).mono ?_); rintro e w3 ⟨m, rfl, hm, B3'⟩; obtain ⟨ma, mc, rfl⟩ := own_form hm; have B3 : Below w2.heap.size w2 w3 := ⟨B3'.os, B3'.tape, B3'.output, B3'.size, B3'.block⟩; have B13 := B2.trans (B3.mono B2.size); have bA3 := bA1.later B13; have bB3 := bB1.later B13; have q0 := bA3.c0; have q1 := bA3.c1; have q2 := bB3.c0; have q3 := bB3.c1))) | fail
    have hl3 := hl.kept (grown_of_below B3) (Classical.em _)
    have hgl : ∀ j, (Value.slice la n lc).ownBlock = some j → w1.heap.size + 1 ≤ j ∧ j < w2.heap.size := hl.lt
    have hgm : ∀ j, (Value.slice ma n mc).ownBlock = some j → w2.heap.size + 1 ≤ j ∧ j < w3.heap.size := hm.lt
    rw [bitL_fL, ← mixL_none n (fun x y => x && y) _ (btW vb)] at hl3
    rw [bitL_fL] at hm
    have hAB3 := hAB.trans ((B1.trans (B13.mono B1.size)).mono hAB.size)
    have hbw : w.heap.size ≤ w1.heap.size := by omega
    have hb12 := B2.size
    have hrA3 := (rA.later B1).later B13
    replace hl3 : w3.ownsRow (w1.heap.size + 1) 4 1 (.slice la n lc) n (fL n (mixL (fun x y => x && y) 0 (btW va) (btW vb))) := hl3
    clear hl
    go_wp2_with fail
    go_loopw [9] (fun i wr => ∃ k : Nat, k ≤ n ∧ i = .int .i64 k ∧ BBox wr (w.heap.size + 1 + 1) 0 (.slice none 0 0) ∧ wr.ownsRow (w1.heap.size + 1) 4 1 (.slice la n lc) n (fL n (mixL (fun x y => x && y) k (btW va) (btW vb))) ∧ wr.ownsRow (w2.heap.size + 1) 4 1 (.slice ma n mc) n (fL n (btW vb)) ∧ Below w.heap.size w wr) (fun i _ => n - (intOf i).toNat)
    case atStart => exact ⟨0, Nat.zero_le _, rfl, hrA3, hl3, hm, hAB3⟩
    case round =>
      obtain ⟨k, hk, rfl, hrA, hr, hmr, hAB⟩ := hrel
      by_cases hlt : k < n
      · have hlt1 : (k : Int) < (n : Int) := by omega
        obtain ⟨gl, rfl, hcr⟩ := own_at hr k hlt _ (fL_at n _ k hlt)
        obtain ⟨gm, rfl, hcm⟩ := own_at hmr k hlt _ (fL_at n _ k hlt)
        have hgl1 := hgl gl rfl
        have hgm1 := hgm gm rfl
        have hne : gm ≠ gl := by omega
        obtain ⟨x, hx⟩ : ∃ x, btW va k = x := ⟨_, rfl⟩
        obtain ⟨y, hy⟩ : ∃ y, btW vb k = y := ⟨_, rfl⟩
        rw [mixL_at, hx] at hcr
        rw [hy] at hcm
        have h1 := (own_setv (k := k) hr (.bool ((fun x y => x && y) (btW va k) (btW vb k)))).1
        rw [mixL_set n (fun x y => x && y) k, hx, hy] at h1
        have hfz := (own_setv (k := k) hr (.bool true)).2.1
        have h2 := hmr.kept (grownBy_setAt wr gl k (.bool ((fun x y => x && y) x y))) (.inr fun e => hne (by simpa [Value.ownBlock] using e))
        have HS := Lib.hid h1
        have HT := Lib.hid h2
        clear h1 h2 hr hx hy
        cases x <;> cases y
        all_goals
          go_wp2
          go_roundw
          case rel => exact ⟨k + 1, by omega, by go_num, hrA.setOther (by omega) _ _, HS.out, HT.out, hAB.setCell (by dsimp only; omega) _⟩
          case measure => simp [intOf]; omega
      · have hkt : k = n := by omega
        rw [hkt, mixL_all] at hr
        have HR2 := Lib.hid hr
        clear hr hkt
        go_wp2_with fail
        refine (RefOf_any _ n _ _ _ hn4 _ HR2.out).mono ?_
        rintro e w3 ⟨z, rfl, hz, B3⟩
        obtain ⟨za, zn, zc, rfl⟩ := hz.form3
        have rA1 := hrA.later B3
        have s0 := rA1.c0
        have s1 := rA1.c1
        have t0 := rA1.fz 0
        have t1 := rA1.fz 1
        go_wp2
        have hW := rA1.write (M := n) (u := .slice za zn zc)
        have hG := write_grown w3 (w.heap.size + 1 + 1) (n) (.slice za zn zc)
        have hT : WAt _ (.slice za zn zc) _ := WAt.write (M := n) (u := .slice za zn zc) hz rA1
        obtain ⟨VW, hVW⟩ : ∃ x, (w3.setCell ⟨w.heap.size + 1 + 1, 0, none⟩ (.int .i64 (n))).setCell ⟨w.heap.size + 1 + 1, 1, none⟩ (.slice za zn zc) = x := ⟨_, rfl⟩
        rw [hVW] at hW hG hT ⊢
        have e0 := hW.c0
        have e1 := hW.c1
        refine bodyPost_ret (v := .tuple #[bv (n) (.slice za zn zc), .int .i64 (0)]) (by simp [results, Tryd.results42, go_sem, e0, e1]) rfl ⟨_, rfl, hT, ?_⟩
        have hbW := hAB.trans (B3.mono hAB.size)
        exact hbW.grown hG hbW.size (fun k e => by cases e; omega)
  · rw [if_pos h0] at hx
    obtain ⟨rfl, h1⟩ := Prod.mk.inj hx
    obtain ⟨rfl, rfl⟩ := Prod.mk.inj h1
    have hq : (r != 0) = true := by simp [h0]
    clear hx h1 hr h0
    go_enter Tryd.func42, Tryd.ntmps42
    go_wp2_with fail
    rw [HW.out]
    refine (RefBoth_is M N u v va vb fa fb r HR.out _ hA hB).mono ?_
    rintro e w1 ⟨rfl, B1⟩
    have rA1 := rA.later B1
    have hz := nil_at w1
    have s0 := rA1.c0
    have s1 := rA1.c1
    have t0 := rA1.fz 0
    have t1 := rA1.fz 1
    go_wp2
    have hW := rA1.write (M := 0) (u := .slice none 0 0)
    have hG := write_grown w1 (w.heap.size + 1 + 1) (0) (.slice none 0 0)
    have hT : WAt _ (.slice none 0 0) _ := WAt.write (M := 0) (u := .slice none 0 0) hz rA1
    obtain ⟨VW, hVW⟩ : ∃ x, (w1.setCell ⟨w.heap.size + 1 + 1, 0, none⟩ (.int .i64 (0))).setCell ⟨w.heap.size + 1 + 1, 1, none⟩ (.slice none 0 0) = x := ⟨_, rfl⟩
    rw [hVW] at hW hG hT ⊢
    have e0 := hW.c0
    have e1 := hW.c1
    refine bodyPost_ret (v := .tuple #[bv (0) (.slice none 0 0), .int .i64 (r)]) (by simp [results, Tryd.results42, go_sem, e0, e1]) rfl ⟨_, rfl, hT, ?_⟩
    have hbW := hAB.trans (B1.mono hAB.size)
    exact hbW.grown hG hbW.size (fun k e => by cases e; omega)

set_option maxRecDepth 100000 in
set_option maxHeartbeats 2000000 in
theorem RefOr_is (M N : Int) (u v : Value) (va vb : List Nat) (fa : Fit64 va) (fb : Fit64 vb) (K c : Int) (ws : List Nat) (hx : opB (fun x y => x || y) M va N vb = (K, ws, c)) (w : World) (ha : WAt w u va) (hb : WAt w v vb) :
    Calls Tryd.prog 44 #[bv M u, bv N v] w (RetB w K ws c) := by
  obtain ⟨r, hr⟩ : ∃ r, bothB M va N vb = r := ⟨_, rfl⟩
  obtain ⟨wA, hwA, hAB, hzA, bA, bB, rA⟩ := boxesJ w M N u v
  have hA := ha.later hAB
  have hB := hb.later hAB
  have HW := Lib.hid hwA
  have HR := Lib.hid hr
  unfold opB at hx
  rw [hr] at hx
  clear hwA hzA
  by_cases h0 : r = 0
  · rw [if_neg (by simp [h0])] at hx
    subst h0
    obtain ⟨rfl, h1⟩ := Prod.mk.inj hx
    obtain ⟨rfl, rfl⟩ := Prod.mk.inj h1
    obtain ⟨ca, cb, rfl⟩ := both_ok hr
    obtain ⟨n, rfl, hn4, hla⟩ := check_ok ca
    obtain ⟨n2, hn2, _, hlb⟩ := check_ok cb
    obtain rfl : n = n2 := by omega
    have hl1 : n ≤ 64 * va.length := by omega
    have hl2 : n ≤ 64 * vb.length := by omega
    have HL1 := Lib.hid hl1
    have HL2 := Lib.hid hl2
    obtain ⟨ua, uc, rfl⟩ := ha.form
    obtain ⟨va', vc, rfl⟩ := hb.form
    simp only [Int.toNat_natCast]
    clear hx h1 hr hla hlb hn2 ca cb hl1 hl2
    go_enter Tryd.func44, Tryd.ntmps44
    go_wp2_with fail
    rw [HW.out]
    refine (RefBoth_is n n _ _ va vb fa fb 0 HR.out _ hA hB).mono ?_
    rintro e w1 ⟨rfl, B1⟩
    have bA1 := bA.later B1
    have bB1 := bB.later B1
    have x0 := bA1.c0
    have x1 := bA1.c1
    have y0 := bB1.c0
    have y1 := bB1.c1
    have hA1 := hA.later B1
    have hA1d : WAt w1.drew (.slice ua va.length uc) va := hA1
    have hB1 := hB.later B1
    have z1 := bA1.lt
    have z2 := bB1.lt
    have z3 := (rA.later B1).lt
    go_wp2_with fail
    first | go_region_held3 (fun w' => (w'.cell? ⟨w.heap.size, 0, none⟩ = some (.int .i64 (n : Int)) ∧ w'.cell? ⟨w.heap.size, 1, none⟩ = some (.slice ua va.length uc)) ∧ w'.cell? ⟨w.heap.size + 1, 0, none⟩ = some (.int .i64 (n : Int)) ∧ w'.cell? ⟨w.heap.size + 1, 1, none⟩ = some (.slice va' vb.length vc)) (first | exact ⟨⟨x0, x1⟩, y0, y1⟩ | exact ⟨⟨p0, p1⟩, p2, p3⟩ | exact ⟨⟨q0, q1⟩, q2, q3⟩)
      (first | (go_at_call 53; ((with_reducible refine (RefList_any n (.slice ua va.length uc) va fa hn4 HL1.out _ hA1d).mono ?_); rintro e w2 ⟨l, rfl, hl, B2'⟩; obtain ⟨la, lc, rfl⟩ := own_form hl; have B2 : Below w1.heap.size w1 w2 := ⟨B2'.os, B2'.tape, B2'.output, B2'.size, B2'.block⟩; have bA2 := bA1.later B2; have bB2 := bB1.later B2; have p0 := bA2.c0; have p1 := bA2.c1; have p2 := bB2.c0; have p3 := bB2.c1; have hB2 := hB1.later B2)) | (go_at_call 53; ((with_reducible refine (RefList_any n (.slice va' vb.length vc) vb fb hn4 HL2.out _ hB2).mono ?_); rintro e w3 ⟨m, rfl, hm, B3'⟩; obtain ⟨ma, mc, rfl⟩ := own_form hm; have B3 : Below w2.heap.size w2 w3 := ⟨B3'.os, B3'.tape, B3'.output, B3'.size, B3'.block⟩; have B13 := B2.trans (B3.mono B2.size); have bA3 := bA1.later B13; have bB3 := bB1.later B13; have q0 := bA3.c0; have q1 := bA3.c1; have q2 := bB3.c0; have q3 := bB3.c1))) | fail
    have hl3 := hl.kept (grown_of_below B3) (Classical.em _)
    have hgl : ∀ j, (Value.slice la n lc).ownBlock = some j → w1.heap.size + 1 ≤ j ∧ j < w2.heap.size := hl.lt
    have hgm : ∀ j, (Value.slice ma n mc).ownBlock = some j → w2.heap.size + 1 ≤ j ∧ j < w3.heap.size := hm.lt
    rw [bitL_fL, ← mixL_none n (fun x y => x || y) _ (btW vb)] at hl3
    rw [bitL_fL] at hm
    have hAB3 := hAB.trans ((B1.trans (B13.mono B1.size)).mono hAB.size)
    have hbw : w.heap.size ≤ w1.heap.size := by omega
    have hb12 := B2.size
    have hrA3 := (rA.later B1).later B13
    replace hl3 : w3.ownsRow (w1.heap.size + 1) 4 1 (.slice la n lc) n (fL n (mixL (fun x y => x || y) 0 (btW va) (btW vb))) := hl3
    clear hl
    go_wp2_with fail
    go_loopw [9] (fun i wr => ∃ k : Nat, k ≤ n ∧ i = .int .i64 k ∧ BBox wr (w.heap.size + 1 + 1) 0 (.slice none 0 0) ∧ wr.ownsRow (w1.heap.size + 1) 4 1 (.slice la n lc) n (fL n (mixL (fun x y => x || y) k (btW va) (btW vb))) ∧ wr.ownsRow (w2.heap.size + 1) 4 1 (.slice ma n mc) n (fL n (btW vb)) ∧ Below w.heap.size w wr) (fun i _ => n - (intOf i).toNat)
    case atStart => exact ⟨0, Nat.zero_le _, rfl, hrA3, hl3, hm, hAB3⟩
    case round =>
      obtain ⟨k, hk, rfl, hrA, hr, hmr, hAB⟩ := hrel
      by_cases hlt : k < n
      · have hlt1 : (k : Int) < (n : Int) := by omega
        obtain ⟨gl, rfl, hcr⟩ := own_at hr k hlt _ (fL_at n _ k hlt)
        obtain ⟨gm, rfl, hcm⟩ := own_at hmr k hlt _ (fL_at n _ k hlt)
        have hgl1 := hgl gl rfl
        have hgm1 := hgm gm rfl
        have hne : gm ≠ gl := by omega
        obtain ⟨x, hx⟩ : ∃ x, btW va k = x := ⟨_, rfl⟩
        obtain ⟨y, hy⟩ : ∃ y, btW vb k = y := ⟨_, rfl⟩
        rw [mixL_at, hx] at hcr
        rw [hy] at hcm
        have h1 := (own_setv (k := k) hr (.bool ((fun x y => x || y) (btW va k) (btW vb k)))).1
        rw [mixL_set n (fun x y => x || y) k, hx, hy] at h1
        have hfz := (own_setv (k := k) hr (.bool true)).2.1
        have h2 := hmr.kept (grownBy_setAt wr gl k (.bool ((fun x y => x || y) x y))) (.inr fun e => hne (by simpa [Value.ownBlock] using e))
        have HS := Lib.hid h1
        have HT := Lib.hid h2
        clear h1 h2 hr hx hy
        cases x <;> cases y
        all_goals
          go_wp2
          go_roundw
          case rel => exact ⟨k + 1, by omega, by go_num, hrA.setOther (by omega) _ _, HS.out, HT.out, hAB.setCell (by dsimp only; omega) _⟩
          case measure => simp [intOf]; omega
      · have hkt : k = n := by omega
        rw [hkt, mixL_all] at hr
        have HR2 := Lib.hid hr
        clear hr hkt
        go_wp2_with fail
        refine (RefOf_any _ n _ _ _ hn4 _ HR2.out).mono ?_
        rintro e w3 ⟨z, rfl, hz, B3⟩
        obtain ⟨za, zn, zc, rfl⟩ := hz.form3
        have rA1 := hrA.later B3
        have s0 := rA1.c0
        have s1 := rA1.c1
        have t0 := rA1.fz 0
        have t1 := rA1.fz 1
        go_wp2
        have hW := rA1.write (M := n) (u := .slice za zn zc)
        have hG := write_grown w3 (w.heap.size + 1 + 1) (n) (.slice za zn zc)
        have hT : WAt _ (.slice za zn zc) _ := WAt.write (M := n) (u := .slice za zn zc) hz rA1
        obtain ⟨VW, hVW⟩ : ∃ x, (w3.setCell ⟨w.heap.size + 1 + 1, 0, none⟩ (.int .i64 (n))).setCell ⟨w.heap.size + 1 + 1, 1, none⟩ (.slice za zn zc) = x := ⟨_, rfl⟩
        rw [hVW] at hW hG hT ⊢
        have e0 := hW.c0
        have e1 := hW.c1
        refine bodyPost_ret (v := .tuple #[bv (n) (.slice za zn zc), .int .i64 (0)]) (by simp [results, Tryd.results44, go_sem, e0, e1]) rfl ⟨_, rfl, hT, ?_⟩
        have hbW := hAB.trans (B3.mono hAB.size)
        exact hbW.grown hG hbW.size (fun k e => by cases e; omega)
  · rw [if_pos h0] at hx
    obtain ⟨rfl, h1⟩ := Prod.mk.inj hx
    obtain ⟨rfl, rfl⟩ := Prod.mk.inj h1
    have hq : (r != 0) = true := by simp [h0]
    clear hx h1 hr h0
    go_enter Tryd.func44, Tryd.ntmps44
    go_wp2_with fail
    rw [HW.out]
    refine (RefBoth_is M N u v va vb fa fb r HR.out _ hA hB).mono ?_
    rintro e w1 ⟨rfl, B1⟩
    have rA1 := rA.later B1
    have hz := nil_at w1
    have s0 := rA1.c0
    have s1 := rA1.c1
    have t0 := rA1.fz 0
    have t1 := rA1.fz 1
    go_wp2
    have hW := rA1.write (M := 0) (u := .slice none 0 0)
    have hG := write_grown w1 (w.heap.size + 1 + 1) (0) (.slice none 0 0)
    have hT : WAt _ (.slice none 0 0) _ := WAt.write (M := 0) (u := .slice none 0 0) hz rA1
    obtain ⟨VW, hVW⟩ : ∃ x, (w1.setCell ⟨w.heap.size + 1 + 1, 0, none⟩ (.int .i64 (0))).setCell ⟨w.heap.size + 1 + 1, 1, none⟩ (.slice none 0 0) = x := ⟨_, rfl⟩
    rw [hVW] at hW hG hT ⊢
    have e0 := hW.c0
    have e1 := hW.c1
    refine bodyPost_ret (v := .tuple #[bv (0) (.slice none 0 0), .int .i64 (r)]) (by simp [results, Tryd.results44, go_sem, e0, e1]) rfl ⟨_, rfl, hT, ?_⟩
    have hbW := hAB.trans (B1.mono hAB.size)
    exact hbW.grown hG hbW.size (fun k e => by cases e; omega)

set_option maxRecDepth 100000 in
set_option maxHeartbeats 2000000 in
theorem RefLess_is (M N : Int) (u v : Value) (va vb : List Nat) (fa : Fit64 va) (fb : Fit64 vb) (K c : Int) (ws : List Nat) (hx : opB (fun x y => x && !y) M va N vb = (K, ws, c)) (w : World) (ha : WAt w u va) (hb : WAt w v vb) :
    Calls Tryd.prog 46 #[bv M u, bv N v] w (RetB w K ws c) := by
  obtain ⟨r, hr⟩ : ∃ r, bothB M va N vb = r := ⟨_, rfl⟩
  obtain ⟨wA, hwA, hAB, hzA, bA, bB, rA⟩ := boxesJ w M N u v
  have hA := ha.later hAB
  have hB := hb.later hAB
  have HW := Lib.hid hwA
  have HR := Lib.hid hr
  unfold opB at hx
  rw [hr] at hx
  clear hwA hzA
  by_cases h0 : r = 0
  · rw [if_neg (by simp [h0])] at hx
    subst h0
    obtain ⟨rfl, h1⟩ := Prod.mk.inj hx
    obtain ⟨rfl, rfl⟩ := Prod.mk.inj h1
    obtain ⟨ca, cb, rfl⟩ := both_ok hr
    obtain ⟨n, rfl, hn4, hla⟩ := check_ok ca
    obtain ⟨n2, hn2, _, hlb⟩ := check_ok cb
    obtain rfl : n = n2 := by omega
    have hl1 : n ≤ 64 * va.length := by omega
    have hl2 : n ≤ 64 * vb.length := by omega
    have HL1 := Lib.hid hl1
    have HL2 := Lib.hid hl2
    obtain ⟨ua, uc, rfl⟩ := ha.form
    obtain ⟨va', vc, rfl⟩ := hb.form
    simp only [Int.toNat_natCast]
    clear hx h1 hr hla hlb hn2 ca cb hl1 hl2
    go_enter Tryd.func46, Tryd.ntmps46
    go_wp2_with fail
    rw [HW.out]
    refine (RefBoth_is n n _ _ va vb fa fb 0 HR.out _ hA hB).mono ?_
    rintro e w1 ⟨rfl, B1⟩
    have bA1 := bA.later B1
    have bB1 := bB.later B1
    have x0 := bA1.c0
    have x1 := bA1.c1
    have y0 := bB1.c0
    have y1 := bB1.c1
    have hA1 := hA.later B1
    have hA1d : WAt w1.drew (.slice ua va.length uc) va := hA1
    have hB1 := hB.later B1
    have z1 := bA1.lt
    have z2 := bB1.lt
    have z3 := (rA.later B1).lt
    go_wp2_with fail
    first | go_region_held3 (fun w' => (w'.cell? ⟨w.heap.size, 0, none⟩ = some (.int .i64 (n : Int)) ∧ w'.cell? ⟨w.heap.size, 1, none⟩ = some (.slice ua va.length uc)) ∧ w'.cell? ⟨w.heap.size + 1, 0, none⟩ = some (.int .i64 (n : Int)) ∧ w'.cell? ⟨w.heap.size + 1, 1, none⟩ = some (.slice va' vb.length vc)) (first | exact ⟨⟨x0, x1⟩, y0, y1⟩ | exact ⟨⟨p0, p1⟩, p2, p3⟩ | exact ⟨⟨q0, q1⟩, q2, q3⟩)
      (first | (go_at_call 53; ((with_reducible refine (RefList_any n (.slice ua va.length uc) va fa hn4 HL1.out _ hA1d).mono ?_); rintro e w2 ⟨l, rfl, hl, B2'⟩; obtain ⟨la, lc, rfl⟩ := own_form hl; have B2 : Below w1.heap.size w1 w2 := ⟨B2'.os, B2'.tape, B2'.output, B2'.size, B2'.block⟩; have bA2 := bA1.later B2; have bB2 := bB1.later B2; have p0 := bA2.c0; have p1 := bA2.c1; have p2 := bB2.c0; have p3 := bB2.c1; have hB2 := hB1.later B2)) | (go_at_call 53; ((with_reducible refine (RefList_any n (.slice va' vb.length vc) vb fb hn4 HL2.out _ hB2).mono ?_); rintro e w3 ⟨m, rfl, hm, B3'⟩; obtain ⟨ma, mc, rfl⟩ := own_form hm; have B3 : Below w2.heap.size w2 w3 := ⟨B3'.os, B3'.tape, B3'.output, B3'.size, B3'.block⟩; have B13 := B2.trans (B3.mono B2.size); have bA3 := bA1.later B13; have bB3 := bB1.later B13; have q0 := bA3.c0; have q1 := bA3.c1; have q2 := bB3.c0; have q3 := bB3.c1))) | fail
    have hl3 := hl.kept (grown_of_below B3) (Classical.em _)
    have hgl : ∀ j, (Value.slice la n lc).ownBlock = some j → w1.heap.size + 1 ≤ j ∧ j < w2.heap.size := hl.lt
    have hgm : ∀ j, (Value.slice ma n mc).ownBlock = some j → w2.heap.size + 1 ≤ j ∧ j < w3.heap.size := hm.lt
    rw [bitL_fL, ← mixL_none n (fun x y => x && !y) _ (btW vb)] at hl3
    rw [bitL_fL] at hm
    have hAB3 := hAB.trans ((B1.trans (B13.mono B1.size)).mono hAB.size)
    have hbw : w.heap.size ≤ w1.heap.size := by omega
    have hb12 := B2.size
    have hrA3 := (rA.later B1).later B13
    replace hl3 : w3.ownsRow (w1.heap.size + 1) 4 1 (.slice la n lc) n (fL n (mixL (fun x y => x && !y) 0 (btW va) (btW vb))) := hl3
    clear hl
    go_wp2_with fail
    go_loopw [9] (fun i wr => ∃ k : Nat, k ≤ n ∧ i = .int .i64 k ∧ BBox wr (w.heap.size + 1 + 1) 0 (.slice none 0 0) ∧ wr.ownsRow (w1.heap.size + 1) 4 1 (.slice la n lc) n (fL n (mixL (fun x y => x && !y) k (btW va) (btW vb))) ∧ wr.ownsRow (w2.heap.size + 1) 4 1 (.slice ma n mc) n (fL n (btW vb)) ∧ Below w.heap.size w wr) (fun i _ => n - (intOf i).toNat)
    case atStart => exact ⟨0, Nat.zero_le _, rfl, hrA3, hl3, hm, hAB3⟩
    case round =>
      obtain ⟨k, hk, rfl, hrA, hr, hmr, hAB⟩ := hrel
      by_cases hlt : k < n
      · have hlt1 : (k : Int) < (n : Int) := by omega
        obtain ⟨gl, rfl, hcr⟩ := own_at hr k hlt _ (fL_at n _ k hlt)
        obtain ⟨gm, rfl, hcm⟩ := own_at hmr k hlt _ (fL_at n _ k hlt)
        have hgl1 := hgl gl rfl
        have hgm1 := hgm gm rfl
        have hne : gm ≠ gl := by omega
        obtain ⟨x, hx⟩ : ∃ x, btW va k = x := ⟨_, rfl⟩
        obtain ⟨y, hy⟩ : ∃ y, btW vb k = y := ⟨_, rfl⟩
        rw [mixL_at, hx] at hcr
        rw [hy] at hcm
        have h1 := (own_setv (k := k) hr (.bool ((fun x y => x && !y) (btW va k) (btW vb k)))).1
        rw [mixL_set n (fun x y => x && !y) k, hx, hy] at h1
        have hfz := (own_setv (k := k) hr (.bool true)).2.1
        have h2 := hmr.kept (grownBy_setAt wr gl k (.bool ((fun x y => x && !y) x y))) (.inr fun e => hne (by simpa [Value.ownBlock] using e))
        have HS := Lib.hid h1
        have HT := Lib.hid h2
        clear h1 h2 hr hx hy
        cases x <;> cases y
        all_goals
          go_wp2
          go_roundw
          case rel => exact ⟨k + 1, by omega, by go_num, hrA.setOther (by omega) _ _, HS.out, HT.out, hAB.setCell (by dsimp only; omega) _⟩
          case measure => simp [intOf]; omega
      · have hkt : k = n := by omega
        rw [hkt, mixL_all] at hr
        have HR2 := Lib.hid hr
        clear hr hkt
        go_wp2_with fail
        refine (RefOf_any _ n _ _ _ hn4 _ HR2.out).mono ?_
        rintro e w3 ⟨z, rfl, hz, B3⟩
        obtain ⟨za, zn, zc, rfl⟩ := hz.form3
        have rA1 := hrA.later B3
        have s0 := rA1.c0
        have s1 := rA1.c1
        have t0 := rA1.fz 0
        have t1 := rA1.fz 1
        go_wp2
        have hW := rA1.write (M := n) (u := .slice za zn zc)
        have hG := write_grown w3 (w.heap.size + 1 + 1) (n) (.slice za zn zc)
        have hT : WAt _ (.slice za zn zc) _ := WAt.write (M := n) (u := .slice za zn zc) hz rA1
        obtain ⟨VW, hVW⟩ : ∃ x, (w3.setCell ⟨w.heap.size + 1 + 1, 0, none⟩ (.int .i64 (n))).setCell ⟨w.heap.size + 1 + 1, 1, none⟩ (.slice za zn zc) = x := ⟨_, rfl⟩
        rw [hVW] at hW hG hT ⊢
        have e0 := hW.c0
        have e1 := hW.c1
        refine bodyPost_ret (v := .tuple #[bv (n) (.slice za zn zc), .int .i64 (0)]) (by simp [results, Tryd.results46, go_sem, e0, e1]) rfl ⟨_, rfl, hT, ?_⟩
        have hbW := hAB.trans (B3.mono hAB.size)
        exact hbW.grown hG hbW.size (fun k e => by cases e; omega)
  · rw [if_pos h0] at hx
    obtain ⟨rfl, h1⟩ := Prod.mk.inj hx
    obtain ⟨rfl, rfl⟩ := Prod.mk.inj h1
    have hq : (r != 0) = true := by simp [h0]
    clear hx h1 hr h0
    go_enter Tryd.func46, Tryd.ntmps46
    go_wp2_with fail
    rw [HW.out]
    refine (RefBoth_is M N u v va vb fa fb r HR.out _ hA hB).mono ?_
    rintro e w1 ⟨rfl, B1⟩
    have rA1 := rA.later B1
    have hz := nil_at w1
    have s0 := rA1.c0
    have s1 := rA1.c1
    have t0 := rA1.fz 0
    have t1 := rA1.fz 1
    go_wp2
    have hW := rA1.write (M := 0) (u := .slice none 0 0)
    have hG := write_grown w1 (w.heap.size + 1 + 1) (0) (.slice none 0 0)
    have hT : WAt _ (.slice none 0 0) _ := WAt.write (M := 0) (u := .slice none 0 0) hz rA1
    obtain ⟨VW, hVW⟩ : ∃ x, (w1.setCell ⟨w.heap.size + 1 + 1, 0, none⟩ (.int .i64 (0))).setCell ⟨w.heap.size + 1 + 1, 1, none⟩ (.slice none 0 0) = x := ⟨_, rfl⟩
    rw [hVW] at hW hG hT ⊢
    have e0 := hW.c0
    have e1 := hW.c1
    refine bodyPost_ret (v := .tuple #[bv (0) (.slice none 0 0), .int .i64 (r)]) (by simp [results, Tryd.results46, go_sem, e0, e1]) rfl ⟨_, rfl, hT, ?_⟩
    have hbW := hAB.trans (B1.mono hAB.size)
    exact hbW.grown hG hbW.size (fun k e => by cases e; omega)

set_option maxRecDepth 100000 in
set_option maxHeartbeats 1000000 in
theorem RefFlip_is (N : Int) (u : Value) (va : List Nat) (hf : Fit64 va) (K c : Int) (ws : List Nat) (hx : flipB N va = (K, ws, c)) (w : World) (h : WAt w u va) :
    Calls Tryd.prog 48 #[bv N u] w (RetB w K ws c) := by
  obtain ⟨r, hr⟩ : ∃ r, checkB N va = r := ⟨_, rfl⟩
  obtain ⟨wA, hwA, hAB, bA, rA⟩ := argres w N u
  have hA := h.later hAB
  have HW := Lib.hid hwA
  have HR := Lib.hid hr
  unfold flipB at hx
  rw [hr] at hx
  by_cases h0 : r = 0
  · rw [if_neg (by simp [h0])] at hx
    subst h0
    obtain ⟨rfl, h1⟩ := Prod.mk.inj hx
    obtain ⟨rfl, rfl⟩ := Prod.mk.inj h1
    obtain ⟨n, rfl, hn4, hlen⟩ := check_ok hr
    have hl : n ≤ 64 * va.length := by omega
    have HL := Lib.hid hl
    simp only [Int.toNat_natCast]
    clear hwA hx h1 hr hlen hl
    go_enter Tryd.func48, Tryd.ntmps48
    go_wp2_with fail
    rw [HW.out]
    refine (RefCheck_is n u va hf _ hA 0 HR.out).mono ?_
    rintro e w1 ⟨rfl, B1⟩
    have c0 := (bA.later B1).c0
    have c1 := (bA.later B1).c1
    go_wp2_with fail
    refine (RefList_any n u va hf hn4 HL.out w1 (hA.later B1)).mono ?_
    rintro e w2 ⟨l, rfl, hl, B2'⟩
    obtain ⟨la, lc, rfl⟩ := own_form hl
    have B2 := B1.trans (B2'.mono B1.size)
    rw [bitL_fL, ← mixL_none n (fun x _ => !x) _ (fun _ => false)] at hl
    have hAB2 := hAB.trans (B2.mono hAB.size)
    have hq : w.heap.size + 1 < w1.heap.size := (rA.later B1).lt
    go_wp2_with fail
    go_loopw [6] (fun i wr => ∃ k : Nat, k ≤ n ∧ i = .int .i64 k ∧ BBox wr (w.heap.size + 1) 0 (.slice none 0 0) ∧ wr.ownsRow (w1.heap.size + 1) 4 1 (.slice la n lc) n (fL n (mixL (fun x _ => !x) k (btW va) (fun _ => false))) ∧ Below w.heap.size w wr) (fun i _ => n - (intOf i).toNat)
    case atStart => exact ⟨0, Nat.zero_le _, rfl, rA.later B2, hl, hAB2⟩
    case round =>
      obtain ⟨k, hk, rfl, hrA, hr, hAB⟩ := hrel
      by_cases hlt : k < n
      · have hlt1 : (k : Int) < (n : Int) := by omega
        obtain ⟨gl, rfl, hcr⟩ := own_at hr k hlt _ (fL_at n _ k hlt)
        obtain ⟨x, hx⟩ : ∃ x, btW va k = x := ⟨_, rfl⟩
        rw [mixL_at, hx] at hcr
        have h1 := (own_setv (k := k) hr (.bool ((fun x _ => !x) (btW va k) ((fun _ => false) k)))).1
        rw [mixL_set n (fun x _ => !x) k, hx] at h1
        have hfz := (own_setv (k := k) hr (.bool true)).2.1
        have hgl1 := (own_setv (k := k) hr (.bool true)).2.2.1
        have HS := Lib.hid h1
        clear h1 hr hx
        cases x
        all_goals
          go_wp2
          go_roundw
          case rel => exact ⟨k + 1, by omega, by go_num, hrA.setOther (by omega) _ _, HS.out, hAB.setCell (by dsimp only; omega) _⟩
          case measure => simp [intOf]; omega
      · have hkt : k = n := by omega
        rw [hkt, mixL_all] at hr
        have HR2 := Lib.hid hr
        clear hr hkt
        go_wp2_with fail
        refine (RefOf_any _ n _ _ _ hn4 _ HR2.out).mono ?_
        rintro e w3 ⟨z, rfl, hz, B3⟩
        obtain ⟨za, zn, zc, rfl⟩ := hz.form3
        have rA1 := hrA.later B3
        have s0 := rA1.c0
        have s1 := rA1.c1
        have t0 := rA1.fz 0
        have t1 := rA1.fz 1
        go_wp2
        have hW := rA1.write (M := n) (u := .slice za zn zc)
        have hG := write_grown w3 (w.heap.size + 1) (n) (.slice za zn zc)
        have hT : WAt _ (.slice za zn zc) _ := WAt.write (M := n) (u := .slice za zn zc) hz rA1
        obtain ⟨VW, hVW⟩ : ∃ x, (w3.setCell ⟨w.heap.size + 1, 0, none⟩ (.int .i64 (n))).setCell ⟨w.heap.size + 1, 1, none⟩ (.slice za zn zc) = x := ⟨_, rfl⟩
        rw [hVW] at hW hG hT ⊢
        have e0 := hW.c0
        have e1 := hW.c1
        refine bodyPost_ret (v := .tuple #[bv (n) (.slice za zn zc), .int .i64 (0)]) (by simp [results, Tryd.results48, go_sem, e0, e1]) rfl ⟨_, rfl, hT, ?_⟩
        have hbW := hAB.trans (B3.mono hAB.size)
        exact hbW.grown hG hbW.size (fun k e => by cases e; omega)
  · rw [if_pos h0] at hx
    obtain ⟨rfl, h1⟩ := Prod.mk.inj hx
    obtain ⟨rfl, rfl⟩ := Prod.mk.inj h1
    have hq : (r != 0) = true := by simp [h0]
    clear hwA hx h1 hr h0
    go_enter Tryd.func48, Tryd.ntmps48
    go_wp2_with fail
    rw [HW.out]
    refine (RefCheck_is N u va hf _ hA r HR.out).mono ?_
    rintro e w1 ⟨rfl, B1⟩
    have rA1 := rA.later B1
    have hz := nil_at w1
    have s0 := rA1.c0
    have s1 := rA1.c1
    have t0 := rA1.fz 0
    have t1 := rA1.fz 1
    go_wp2
    have hW := rA1.write (M := 0) (u := .slice none 0 0)
    have hG := write_grown w1 (w.heap.size + 1) (0) (.slice none 0 0)
    have hT : WAt _ (.slice none 0 0) _ := WAt.write (M := 0) (u := .slice none 0 0) hz rA1
    obtain ⟨VW, hVW⟩ : ∃ x, (w1.setCell ⟨w.heap.size + 1, 0, none⟩ (.int .i64 (0))).setCell ⟨w.heap.size + 1, 1, none⟩ (.slice none 0 0) = x := ⟨_, rfl⟩
    rw [hVW] at hW hG hT ⊢
    have e0 := hW.c0
    have e1 := hW.c1
    refine bodyPost_ret (v := .tuple #[bv (0) (.slice none 0 0), .int .i64 (r)]) (by simp [results, Tryd.results48, go_sem, e0, e1]) rfl ⟨_, rfl, hT, ?_⟩
    have hbW := hAB.trans (B1.mono hAB.size)
    exact hbW.grown hG hbW.size (fun k e => by cases e; omega)
end Go.Proofs.YtpplleojdcgceaaDoor
