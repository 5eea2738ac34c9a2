/- The reference's New, Set. -/
import Derived.Test.YtpplleojdcgceaaDoorRefOf
namespace Go.Proofs.YtpplleojdcgceaaDoor
open Go.RowKit Go.Shelf
attribute [local go_sem] Oper.semAt_some

theorem WAt.form3 {W : World} {v : Value} {ws : List Nat} (h : WAt W v ws) : ∃ a n c, v = .slice a n c := by
  obtain ⟨a, c, rfl⟩ := h.form
  exact ⟨_, _, _, rfl⟩
theorem fL_congr {n : Nat} {f g : Nat → Bool} (h : ∀ i, i < n → f i = g i) : fL n f = fL n g := by
  unfold fL
  apply List.map_congr_left
  intro j hj
  rw [h j (by simpa using hj)]
theorem fL_const (n : Nat) (b : Bool) : fL n (fun _ => b) = List.replicate n (.bool b) := by
  unfold fL; rw [List.map_const', List.length_range]
theorem made_false (n : Nat) : (madeCells #[Value.bool false] n).toList = fL n fun _ => false := by
  rw [fL_const]
  apply List.ext_getElem?
  intro j
  rw [List.getElem?_replicate]
  by_cases h : j < n <;> simp [madeCells, h, Nat.mod_one]
theorem make_bools (n : Nat) (hn : n ≤ 4096) (W : World) : (Instr.makeSlice 61 (.int .i64 (n : Int)) (.int .i64 (n : Int))).run Tryd.prog W = .ok (.slice (some ⟨W.heap.size, 0, none⟩) n n) (W.alloc (.cells (madeCells #[.bool false] n) 4)) := by
  obtain ⟨i0, hi, hz0, hz1, hz2⟩ := info_parts Tryd.infoBool
  have h := run_make (P := Tryd.prog) W 61 4 i0 _ Tryd.underlying61 hi hz0 .i64 .i64 n n (by omega) (by omega) (by rw [hz2]; omega) (by omega)
  simp only [Int.toNat_natCast, hz1, Nat.mul_one] at h
  exact h
/-- The list after so many were set. -/
def onL (on : Bool) (a k : Nat) (f : Nat → Bool) : Nat → Bool := fun i => if a ≤ i ∧ i < k then on else f i
theorem onL_set (n : Nat) (on : Bool) (a k : Nat) (f : Nat → Bool) (ha : a ≤ k) : (fL n (onL on a k f)).set k (.bool on) = fL n (onL on a (k + 1) f) := by
  rw [fL_set]
  refine fL_congr fun i _ => ?_
  unfold onL
  by_cases h : i = k
  · subst h; simp [ha]
  · by_cases h2 : a ≤ i ∧ i < k
    · rw [if_neg h, if_pos h2, if_pos (by omega)]
    · rw [if_neg h, if_neg h2, if_neg (by omega)]
theorem onL_none (n : Nat) (on : Bool) (a : Nat) (f : Nat → Bool) : fL n (onL on a a f) = fL n f := fL_congr fun i _ => by unfold onL; rw [if_neg (by omega)]

set_option maxRecDepth 100000 in
set_option maxHeartbeats 1000000 in
theorem RefNew_ok (n : Nat) (on : Bool) (hn : n ≤ 4096) (w : World) :
    Calls Tryd.prog 16 #[.int .i64 n, .bool on] w (RetB w n (mkW n fun _ => on) 0) := by
  have q1 : ¬ (n : Int) < 0 := by omega
  have q2 : ¬ (4096 < (n : Int)) := by omega
  have hmk := make_bools n hn
  obtain ⟨w2, hw2⟩ : ∃ x, (w.alloc (.cells #[.int .i64 0, .slice none 0 0] 24)).alloc (.cells (madeCells #[.bool false] n) 4) = x := ⟨_, rfl⟩
  have hb2 : Below w.heap.size w w2 := by rw [← hw2]; exact ((Below.refl _ _).alloc (Nat.le_refl _) _).alloc (by simp) _
  have b2 : BBox w2 w.heap.size 0 (.slice none 0 0) := by rw [← hw2]; exact (BBox.new w 0 _).alloc _
  have hown : w2.ownsRow (w.heap.size + 1) 4 1 (.slice (some ⟨w.heap.size + 1, 0, none⟩) n n) n (fL n (onL on 0 0 fun _ => false)) := by
    have h1 := World.ownsRow_lit (base := w.heap.size + 1) (e := 4) (size := 1) (w.alloc (.cells #[.int .i64 0, .slice none 0 0] 24)) (madeCells #[.bool false] n) n (by simp) (by unfold maxLen; omega) (by rw [size_madeCells]; omega)
    rw [World.size_alloc, hw2] at h1
    rw [onL_none, ← made_false]
    exact h1
  have hsz2 : w2.heap.size = w.heap.size + 2 := by rw [← hw2]; simp
  have HW := Lib.hid hw2
  clear hw2
  go_enter Tryd.func16, Tryd.ntmps16
  go_wp2_with fail
  rw [HW.out]
  have hAB2 := hb2
  go_loopw [7] (fun i wr => ∃ k : Nat, k ≤ n ∧ i = .int .i64 k ∧ BBox wr w.heap.size 0 (.slice none 0 0) ∧ wr.ownsRow (w.heap.size + 1) 4 1 (.slice (some ⟨w.heap.size + 1, 0, none⟩) n n) n (fL n (onL on 0 k fun _ => false)) ∧ Below w.heap.size w wr) (fun i _ => n - (intOf i).toNat)
  case atStart => exact ⟨0, Nat.zero_le _, rfl, b2, hown, hb2⟩
  case round =>
    obtain ⟨k, hk, rfl, hrA, hr, hAB⟩ := hrel
    by_cases hlt : k < n
    · have hlt1 : (k : Int) < (n : Int) := by omega
      obtain ⟨h1, hfz, hgb, _⟩ := own_setv (k := k) hr (.bool on)
      rw [onL_set n on 0 k _ (Nat.zero_le _)] at h1
      obtain ⟨_, hcr⟩ := own_at hr k hlt _ (fL_at n _ k hlt)
      have hcr' := hcr.2
      have g1 := hcr.1
      cases g1
      have HS := Lib.hid h1
      clear h1 hcr hr
      go_wp2
      go_roundw
      case rel => exact ⟨k + 1, by omega, by go_num, hrA.setOther (by omega) _ _, HS.out, hAB.setCell (by simp) _⟩
      case measure => simp [intOf]; omega
    · have hkn : k = n := by omega
      have hr2 : wr.ownsRow (w.heap.size + 1) 4 1 (.slice (some ⟨w.heap.size + 1, 0, none⟩) n n) n (fL n fun _ => on) := by
        rw [hkn] at hr
        rw [fL_congr (g := onL on 0 n fun _ => false) (fun i hi => by unfold onL; rw [if_pos ⟨Nat.zero_le _, hi⟩])]
        exact hr
      have HR := Lib.hid hr2
      clear hr hr2 hkn
      go_wp2_with fail
      refine (RefOf_any _ n _ _ _ hn _ HR.out).mono ?_
      rintro e w3 ⟨z, rfl, hz, B3⟩
      obtain ⟨za, zn, zc, rfl⟩ := hz.form3
      have rA1 := hrA.later B3
      have s0 := rA1.c0
      have s1 := rA1.c1
      have t0 := rA1.fz 0
      have t1 := rA1.fz 1
      go_wp2
      have hW := rA1.write (M := n) (u := .slice za zn zc)
      have hG := write_grown w3 (w.heap.size) (n) (.slice za zn zc)
      have hT : WAt _ (.slice za zn zc) _ := WAt.write (M := n) (u := .slice za zn zc) hz rA1
      obtain ⟨VW, hVW⟩ : ∃ x, (w3.setCell ⟨w.heap.size, 0, none⟩ (.int .i64 (n))).setCell ⟨w.heap.size, 1, none⟩ (.slice za zn zc) = x := ⟨_, rfl⟩
      rw [hVW] at hW hG hT ⊢
      have e0 := hW.c0
      have e1 := hW.c1
      refine bodyPost_ret (v := .tuple #[bv (n) (.slice za zn zc), .int .i64 (0)]) (by simp [results, Tryd.results16, go_sem, e0, e1]) rfl ⟨_, rfl, hT, ?_⟩
      have hbW := hAB.trans (B3.mono hAB.size)
      exact hbW.grown hG hbW.size (fun k e => by cases e; omega)
theorem RefNew_is (N : Int) (on : Bool) (K c : Int) (ws : List Nat) (hx : newB N on = (K, ws, c)) (w : World) : Calls Tryd.prog 16 #[.int .i64 N, .bool on] w (RetB w K ws c) := by
  by_cases h0 : N < 0 ∨ 4096 < N
  · unfold newB at hx
    rw [if_pos h0] at hx
    obtain ⟨rfl, h1⟩ := Prod.mk.inj hx
    obtain ⟨rfl, rfl⟩ := Prod.mk.inj h1
    clear hx h1
    by_cases q1 : N < 0
    · clear h0
      go_enter Tryd.func16, Tryd.ntmps16
      go_wp2
      exact bodyPost_ret (v := .tuple #[bv 0 (.slice none 0 0), .int .i64 7]) (by simp [results, Tryd.results16, go_sem]) rfl ⟨_, rfl, nil_at _, (Below.refl _ _).alloc (Nat.le_refl _) _⟩
    · have q2 : 4096 < N := by omega
      clear h0
      go_enter Tryd.func16, Tryd.ntmps16
      go_wp2
      exact bodyPost_ret (v := .tuple #[bv 0 (.slice none 0 0), .int .i64 7]) (by simp [results, Tryd.results16, go_sem]) rfl ⟨_, rfl, nil_at _, (Below.refl _ _).alloc (Nat.le_refl _) _⟩
  · unfold newB at hx
    rw [if_neg h0] at hx
    obtain ⟨rfl, h1⟩ := Prod.mk.inj hx
    obtain ⟨rfl, rfl⟩ := Prod.mk.inj h1
    obtain ⟨n, rfl⟩ : ∃ n : Nat, N = n := ⟨N.toNat, by omega⟩
    exact RefNew_ok n on (by omega) w

set_option maxRecDepth 100000 in
set_option maxHeartbeats 1000000 in
theorem RefSet_is (N a t : Int) (on : Bool) (u : Value) (va : List Nat) (hf : Fit64 va) (K c : Int) (ws : List Nat) (hx : setB N va a t on = (K, ws, c)) (w : World) (h : WAt w u va) :
    Calls Tryd.prog 23 #[bv N u, .int .i64 a, .int .i64 t, .bool on] w (RetB w K ws c) := by
  obtain ⟨r, hr⟩ : ∃ r, runB N va a t = r := ⟨_, rfl⟩
  obtain ⟨wA, hwA, hAB, bA, rA⟩ := argres w N u
  have hA := h.later hAB
  have HW := Lib.hid hwA
  have HR := Lib.hid hr
  unfold setB at hx
  rw [hr] at hx
  by_cases h0 : r = 0
  · rw [if_neg (by simp [h0])] at hx
    subst h0
    obtain ⟨rfl, h1⟩ := Prod.mk.inj hx
    obtain ⟨rfl, rfl⟩ := Prod.mk.inj h1
    obtain ⟨n, a', t', rfl, rfl, rfl, hat, htn, hn4, hlen⟩ := run_ok hr
    have hck := run_chk hr
    have hl : n ≤ 64 * va.length := by omega
    have HL := Lib.hid hl
    simp only [Int.toNat_natCast]
    clear hwA hx h1 hr hlen hl hck
    go_enter Tryd.func23, Tryd.ntmps23
    go_wp2_with fail
    rw [HW.out]
    refine (RefPart_is n a' t' u va 0 HR.out hf _ hA).mono ?_
    rintro e w1 ⟨rfl, B1⟩
    have c0 := (bA.later B1).c0
    have c1 := (bA.later B1).c1
    go_wp2_with fail
    refine (RefList_any n u va hf hn4 HL.out w1 (hA.later B1)).mono ?_
    rintro e w2 ⟨l, rfl, hl, B2'⟩
    obtain ⟨la, lc, rfl⟩ := own_form hl
    have B2 := B1.trans (B2'.mono B1.size)
    rw [bitL_fL, ← onL_none n on a'] at hl
    have hAB2 := hAB.trans (B2.mono hAB.size)
    have hq : w.heap.size + 1 < w1.heap.size := (rA.later B1).lt
    go_wp2_with fail
    go_loopw [12] (fun i wr => ∃ k : Nat, a' ≤ k ∧ k ≤ t' ∧ i = .int .i64 k ∧ BBox wr (w.heap.size + 1) 0 (.slice none 0 0) ∧ wr.ownsRow (w1.heap.size + 1) 4 1 (.slice la n lc) n (fL n (onL on a' k (btW va))) ∧ Below w.heap.size w wr) (fun i _ => t' - (intOf i).toNat)
    case atStart => exact ⟨a', Nat.le_refl _, hat, rfl, rA.later B2, hl, hAB2⟩
    case round =>
      obtain ⟨k, hak, hk, rfl, hrA, hr, hAB⟩ := hrel
      by_cases hlt : k < t'
      · have hlt1 : (k : Int) < (t' : Int) := by omega
        have hkn : k < n := by omega
        obtain ⟨g, rfl, hcr⟩ := own_at hr k hkn _ (fL_at n _ k hkn)
        obtain ⟨h1, hfz, hgb, _⟩ := own_setv (k := k) hr (.bool on)
        rw [onL_set n on a' k _ hak] at h1
        have HS := Lib.hid h1
        clear h1 hr
        go_wp2
        go_roundw
        case rel => exact ⟨k + 1, by omega, by omega, by go_num, hrA.setOther (by omega) _ _, HS.out, hAB.setCell (by dsimp only; omega) _⟩
        case measure => simp [intOf]; omega
      · have hkt : k = t' := by omega
        rw [hkt] at hr
        have HR2 := Lib.hid hr
        clear hr hkt
        go_wp2_with fail
        refine (RefOf_any _ n _ _ _ hn4 _ HR2.out).mono ?_
        rintro e w3 ⟨z, rfl, hz, B3⟩
        obtain ⟨za, zn, zc, rfl⟩ := hz.form3
        have rA1 := hrA.later B3
        have s0 := rA1.c0
        have s1 := rA1.c1
        have t0 := rA1.fz 0
        have t1 := rA1.fz 1
        go_wp2
        have hW := rA1.write (M := n) (u := .slice za zn zc)
        have hG := write_grown w3 (w.heap.size + 1) (n) (.slice za zn zc)
        have hT : WAt _ (.slice za zn zc) _ := WAt.write (M := n) (u := .slice za zn zc) hz rA1
        obtain ⟨VW, hVW⟩ : ∃ x, (w3.setCell ⟨w.heap.size + 1, 0, none⟩ (.int .i64 (n))).setCell ⟨w.heap.size + 1, 1, none⟩ (.slice za zn zc) = x := ⟨_, rfl⟩
        rw [hVW] at hW hG hT ⊢
        have e0 := hW.c0
        have e1 := hW.c1
        refine bodyPost_ret (v := .tuple #[bv (n) (.slice za zn zc), .int .i64 (0)]) (by simp [results, Tryd.results23, go_sem, e0, e1]) rfl ⟨_, rfl, hT, ?_⟩
        have hbW := hAB.trans (B3.mono hAB.size)
        exact hbW.grown hG hbW.size (fun k e => by cases e; omega)
  · rw [if_pos h0] at hx
    obtain ⟨rfl, h1⟩ := Prod.mk.inj hx
    obtain ⟨rfl, rfl⟩ := Prod.mk.inj h1
    have hq : (r != 0) = true := by simp [h0]
    clear hwA hx h1 hr h0
    go_enter Tryd.func23, Tryd.ntmps23
    go_wp2_with fail
    rw [HW.out]
    refine (RefPart_is N a t u va r HR.out hf _ hA).mono ?_
    rintro e w1 ⟨rfl, B1⟩
    have rA1 := rA.later B1
    have hz := nil_at w1
    have s0 := rA1.c0
    have s1 := rA1.c1
    have t0 := rA1.fz 0
    have t1 := rA1.fz 1
    go_wp2
    have hW := rA1.write (M := 0) (u := .slice none 0 0)
    have hG := write_grown w1 (w.heap.size + 1) (0) (.slice none 0 0)
    have hT : WAt _ (.slice none 0 0) _ := WAt.write (M := 0) (u := .slice none 0 0) hz rA1
    obtain ⟨VW, hVW⟩ : ∃ x, (w1.setCell ⟨w.heap.size + 1, 0, none⟩ (.int .i64 (0))).setCell ⟨w.heap.size + 1, 1, none⟩ (.slice none 0 0) = x := ⟨_, rfl⟩
    rw [hVW] at hW hG hT ⊢
    have e0 := hW.c0
    have e1 := hW.c1
    refine bodyPost_ret (v := .tuple #[bv (0) (.slice none 0 0), .int .i64 (r)]) (by simp [results, Tryd.results23, go_sem, e0, e1]) rfl ⟨_, rfl, hT, ?_⟩
    have hbW := hAB.trans (B1.mono hAB.size)
    exact hbW.grown hG hbW.size (fun k e => by cases e; omega)
end Go.Proofs.YtpplleojdcgceaaDoor
