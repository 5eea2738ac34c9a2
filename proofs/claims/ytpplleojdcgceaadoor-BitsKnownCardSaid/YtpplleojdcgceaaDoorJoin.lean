/- join, And, Or, Less, Flip. -/
import Derived.Test.YtpplleojdcgceaaDoorNewSet
namespace Go.Proofs.YtpplleojdcgceaaDoor
open Go.RowKit Go.Shelf
attribute [local go_sem] Oper.semAt_some

/-- What the two bitmaps' errors are. -/
def bothB (M : Int) (va : List Nat) (N : Int) (vb : List Nat) : Int := if checkB M va ≠ 0 then checkB M va else if checkB N vb ≠ 0 then checkB N vb else if M ≠ N then 2 else 0

theorem make_run (W : World) (m : Nat) (hm : m ≤ 64) : (Instr.makeSlice 22 (.int .i64 (m : Int)) (.int .i64 (m : Int))).run Tryd.prog W = .ok (.slice (some ⟨W.heap.size, 0, none⟩) m m) (W.alloc (.cells (madeCells (Value.int .u64 0).cells m) 58)) := by
  obtain ⟨i0, hi, hz0, hz1, hz2⟩ := info_parts Tryd.infoU64
  have h := run_make (P := Tryd.prog) W 22 58 i0 _ Tryd.underlying22 hi hz0 .i64 .i64 m m (by omega) (by omega) (by rw [hz2]; omega) (by omega)
  simp only [Int.toNat_natCast, hz1, Nat.mul_one] at h
  exact h
theorem BBox.drew {W : World} {k : Nat} {N : Int} {v : Value} (h : BBox W k N v) : BBox W.drew k N v := h
theorem BBox.setOther {W : World} {k j : Nat} {N : Int} {v : Value} (h : BBox W k N v) (hne : k ≠ j) (o : Nat) (u : Value) : BBox (W.setCell ⟨j, o, none⟩ u) k N v := (Below.heap_setCell _ _ _ _ (by simpa using hne)).trans h
/-- The words joined so far. -/
def joinP (p : Nat → Nat → Nat) (a b : List Nat) (k : Nat) : List Nat := (List.range a.length).map fun j => if j < k then p (a[j]?.getD 0) (b[j]?.getD 0) else 0
theorem joinP_zero (p : Nat → Nat → Nat) (a b : List Nat) : (madeCells #[Value.int .u64 0] a.length).toList = wv (joinP p a b 0) := by
  have h : (madeCells #[Value.int .u64 0] (a.length * 1)).toList = wv (List.replicate a.length 0) := made_zero a.length
  rw [Nat.mul_one] at h
  rw [h]
  unfold joinP
  simp only [Nat.not_lt_zero, if_false, List.map_const', List.length_range]
theorem joinP_all (p : Nat → Nat → Nat) (a b : List Nat) : joinP p a b a.length = joinW p a b := by
  unfold joinP joinW
  apply List.map_congr_left
  intro j hj
  rw [if_pos (by simpa using hj)]
theorem joinP_set (p : Nat → Nat → Nat) (a b : List Nat) (k x y : Nat) (ha : k < a.length) (hb : k < b.length) (hx : a[k] = x) (hy : b[k] = y) : (wv (joinP p a b k)).set k (.int .u64 (p x y : Nat)) = wv (joinP p a b (k + 1)) := by
  unfold wv joinP
  apply List.ext_getElem (by simp)
  intro j h1 h2
  simp at h1 h2
  rw [List.getElem_set]
  by_cases h : k = j
  · subst h
    simp [List.getElem?_eq_getElem ha, List.getElem?_eq_getElem hb, hx, hy]
  · rw [if_neg h]
    by_cases h3 : j < k
    · simp [h3, show j < k + 1 by omega]
    · simp [h3, show ¬ j < k + 1 by omega]
theorem boxesJ (w : World) (M N : Int) (u v : Value) : ∃ wA, ((w.alloc (.cells #[.int .i64 M, u] 24)).alloc (.cells #[.int .i64 N, v] 24)).alloc (.cells #[.int .i64 0, .slice none 0 0] 24) = wA ∧ Below w.heap.size w wA ∧ wA.heap.size = w.heap.size + 3 ∧ BBox wA w.heap.size M u ∧ BBox wA (w.heap.size + 1) N v ∧ BBox wA (w.heap.size + 1 + 1) 0 (.slice none 0 0) := by
  refine ⟨_, rfl, (((Below.refl _ _).alloc (Nat.le_refl _) _).alloc (by simp) _).alloc (by simp; omega) _, by simp, ((BBox.new w M u).alloc _).alloc _, ?_, ?_⟩
  · have := BBox.new (w.alloc (.cells #[.int .i64 M, u] 24)) N v
    rw [World.size_alloc] at this
    exact this.alloc _
  · have := BBox.new ((w.alloc (.cells #[.int .i64 M, u] 24)).alloc (.cells #[.int .i64 N, v] 24)) 0 (.slice none 0 0)
    rw [World.size_alloc, World.size_alloc] at this
    exact this

set_option maxRecDepth 100000 in
set_option maxHeartbeats 1000000 in
theorem join_ok (f : Nat) (hent : ∀ args w, (callFunc f args).run Tryd.prog w = .ok (.enter f args) w) (p : Nat → Nat → Nat) (n : Nat) (u v : Value) (va vb : List Nat) (fa : Fit64 va) (fb : Fit64 vb) (ca : checkB n va = 0) (cb : checkB n vb = 0) (w : World) (ha : WAt w u va) (hb : WAt w v vb)
    (hf : ∀ (x y : Nat) w, x < 2 ^ 64 → y < 2 ^ 64 → Calls Tryd.prog f #[.int .u64 x, .int .u64 y] w fun e w' => e = .returned (.int .u64 (p x y : Nat)) ∧ w = w') :
    Calls Tryd.prog 70 #[bv n u, bv n v, .func (.func f) #[] #[]] w fun e w' => ∃ z, e = .returned (.tuple #[bv n z, .int .i64 0]) ∧ WAt w' z (joinW p va vb) ∧ Below w.heap.size w w' := by
  obtain ⟨wA, hwA, hAB, hzA, bA, bB, rA⟩ := boxesJ w n n u v
  have hA := ha.later hAB
  have hB := hb.later hAB
  have i0 : ∀ W, (Instr.index 87 (.agg #[.int .i64 (n : Int), u, .int .i64 (n : Int), v]) (.int .i64 0)).run Tryd.prog W = .ok (.agg #[.int .i64 (n : Int), u]) W := fun _ => by kernel_rfl
  have i1 : ∀ W, (Instr.index 87 (.agg #[.int .i64 (n : Int), u, .int .i64 (n : Int), v]) (.int .i64 1)).run Tryd.prog W = .ok (.agg #[.int .i64 (n : Int), v]) W := fun _ => by kernel_rfl
  obtain ⟨n', hn', hn4, hla⟩ := check_ok ca
  obtain ⟨n2, hn2, _, hlb⟩ := check_ok cb
  obtain rfl : n = n' := by omega
  obtain rfl : n = n2 := by omega
  have HCA := Lib.hid ca
  have HCB := Lib.hid cb
  have HW := Lib.hid hwA
  have HLA := Lib.hid hla
  have HLB := Lib.hid hlb
  have HZ := Lib.hid hzA
  have HF := Lib.hid hf
  clear ca cb hwA hla hlb hzA hn' hn2 hf
  obtain ⟨ua, uc, rfl⟩ := ha.form
  obtain ⟨va', vc, rfl⟩ := hb.form
  go_enter Tryd.func70, Tryd.ntmps70
  go_wp2_with fail
  rw [HW.out]
  refine wp_loop_rounds 3 ?_
  rw [rounds_succ]
  go_wp2_with fail
  refine (Check_is n _ va 0 HCA.out fa _ (hA.later ((Below.refl _ _).alloc (Nat.le_refl _) _))).mono ?_
  rintro e w1 ⟨rfl, hB1⟩
  go_wp2_with fail
  rw [rounds_succ]
  go_wp2_with fail
  have B1 : Below wA.heap.size wA w1 := ((Below.refl _ wA).alloc (Nat.le_refl _) _).trans (hB1.mono (by simp))
  refine (Check_is n _ vb 0 HCB.out fb _ ((hB.later B1).later ((Below.refl _ _).alloc (Nat.le_refl _) _))).mono ?_
  rintro e w2 ⟨rfl, hB2⟩
  have B2 : Below wA.heap.size wA w2 := B1.trans (((Below.refl _ w1).alloc (Nat.le_refl _) _).trans (hB2.mono (by simp)) |>.mono B1.size)
  clear hB1 hB2
  go_wp2_with fail
  rw [rounds_succ]
  have bA2 := bA.later B2
  have bB2 := bB.later B2
  have x0 := bA2.c0
  have x1 := bA2.c1
  have y0 := bB2.c0
  have y1 := bB2.c1
  go_wp2_with fail
  have hA2 := hA.later B2
  have hB2 := hB.later B2
  have hmk : ∀ W, (Instr.makeSlice 22 (.int .i64 (va.length : Int)) (.int .i64 (va.length : Int))).run Tryd.prog W = .ok (.slice (some ⟨W.heap.size, 0, none⟩) va.length va.length) (W.alloc (.cells (madeCells #[.int .u64 0] va.length) 58)) := fun W => make_run W va.length (by have := HLA.out; omega)
  first | go_region_held3 (fun w' => w'.cell? ⟨w.heap.size, 0, none⟩ = some (.int .i64 (n : Int)) ∧ w'.cell? ⟨w.heap.size, 1, none⟩ = some (.slice ua va.length uc)) (go_keep) (fail) | fail
  · have hbx0 := BBox.new (w2.alloc (.cells (madeCells #[.int .u64 0] va.length) 58)) n (.slice (some ⟨w2.heap.size, 0, none⟩) va.length va.length)
    rw [World.size_alloc] at hbx0
    have hrow0 := World.ownsRow_lit (base := w2.heap.size) (e := 58) (size := 1) w2 (madeCells #[.int .u64 0] va.length) va.length (Nat.le_refl _) (by unfold maxLen; have := HLA.out; omega) (by rw [size_madeCells]; omega)
    replace hrow0 := hrow0.alloc (.cells #[.int .i64 (n : Int), .slice (some ⟨w2.heap.size, 0, none⟩) va.length va.length] 24)
    replace hrow0 := hrow0.drew
    replace hbx0 := hbx0.drew
    rw [joinP_zero p va vb] at hrow0
    obtain ⟨V, hV⟩ : ∃ V, ((w2.alloc (.cells (madeCells #[.int .u64 0] va.length) 58)).alloc (.cells #[.int .i64 (n : Int), .slice (some ⟨w2.heap.size, 0, none⟩) va.length va.length] 24)).drew = V := ⟨_, rfl⟩
    rw [hV] at hbx0 hrow0
    have hB3 : Below w2.heap.size w2 V := by rw [← hV]; exact ((Below.refl _ w2).alloc (Nat.le_refl _) _).alloc (by simp) _ |>.drew
    have hm64 : va.length ≤ 64 := by have := HLA.out; omega
    have HV := Lib.hid hV
    clear hV i0 i1 hmk
    go_wp2_with fail
    rw [HV.out]
    go_loopw [12, 42] (fun _ i wr => ∃ k : Nat, k ≤ va.length ∧ i = .int .i64 k ∧ BBox wr (w2.heap.size + 1) n (.slice (some ⟨w2.heap.size, 0, none⟩) va.length va.length) ∧ wr.ownsRow w2.heap.size 58 1 (.slice (some ⟨w2.heap.size, 0, none⟩) va.length va.length) va.length (wv (joinP p va vb k)) ∧ Below w2.heap.size w2 wr) (fun _ i _ => va.length - (intOf i).toNat)
    case atStart => exact ⟨0, Nat.zero_le _, rfl, hbx0, hrow0, hB3⟩
    case round =>
      obtain ⟨k, hk, rfl, hbx, hrow, hBw⟩ := hrel
      have c1 := hbx.c1
      by_cases hlt : k < va.length
      · have hkb : k < vb.length := by have := HLA.out; have := HLB.out; omega
        have hBB : Below w2.heap.size w2 wr := hBw
        obtain ⟨ba, oa, rfl, hba, hca⟩ := hA2.at k hlt
        obtain ⟨bb, ob, rfl, hbb, hcb⟩ := hB2.at k hkb
        obtain ⟨x, hx⟩ : ∃ x, va[k] = x := ⟨_, rfl⟩
        obtain ⟨y, hy⟩ : ∃ y, vb[k] = y := ⟨_, rfl⟩
        have hx2 : x < 2 ^ 64 := by rw [← hx]; exact fa _ (List.getElem_mem hlt)
        have hy2 : y < 2 ^ 64 := by rw [← hy]; exact fb _ (List.getElem_mem hkb)
        rw [hx] at hca
        rw [hy] at hcb
        have hca' := cell_later hBB hca
        have hcb' := cell_later hBB hcb
        have xx1 := (bA2.later hBB).c1
        have yy1 := (bB2.later hBB).c1
        have hS : Hid ((wr.setCell ⟨w2.heap.size, k, none⟩ (.int .u64 (p x y : Nat))).ownsRow w2.heap.size 58 1 (.slice (some ⟨w2.heap.size, 0, none⟩) va.length va.length) va.length (wv (joinP p va vb (k + 1)))) := by
          have h1 := (own_setv (k := k) hrow (.int .u64 (p x y : Nat))).1
          rw [joinP_set p va vb k x y hlt hkb hx hy] at h1
          exact h1
        obtain ⟨_, hfz, _, hgl⟩ := own_setv (k := k) hrow (.int .u64 0)
        obtain ⟨z, hz⟩ : ∃ z, p x y = z := ⟨_, rfl⟩
        have HC : Hid (∀ w, Calls Tryd.prog f #[.int .u64 (x : Int), .int .u64 (y : Int)] w fun e w' => e = .returned (.int .u64 (z : Int)) ∧ w = w') := fun w => by rw [← hz]; exact HF.out x y w hx2 hy2
        rw [hz] at hS
        obtain ⟨_, hcr⟩ := own_at hrow k hlt _ (wv_at (joinP p va vb k) k (by unfold joinP; simpa using hlt))
        have hcr' := hcr.2
        have g1 := hcr.1
        cases g1
        clear hcr
        have hi1 : (k : Int) < (va.length : Int) := by omega
        have hi2 : (k : Int) < (vb.length : Int) := by omega
        have n1 : ¬ w.heap.size = w2.heap.size := by have := bA2.lt; omega
        have n2 : ¬ w.heap.size + 1 = w2.heap.size := by have := bB2.lt; omega
        have n3 : ¬ ba = w2.heap.size := by omega
        have n4 : ¬ bb = w2.heap.size := by omega
        have hG := grownBy_setAt wr (w2.heap.size) k (.int .u64 (z : Int))
        have d1 := hG.cell c1 (by simp)
        have d2 := hG.cell xx1 (by simpa using n1)
        have d3 := hG.cell yy1 (by simpa using n2)
        have d4 := hG.cell hca' (by simpa using n3)
        have d5 := hG.cell hcb' (by simpa using n4)
        clear hx hy hz hG
        go_wp2_with fail
        first | go_region_held3 (fun w' => w'.cell? ⟨w2.heap.size + 1, 1, none⟩ = some (.slice (some ⟨w2.heap.size, 0, none⟩) va.length va.length) ∧ w'.cell? ⟨w.heap.size, 1, none⟩ = some (.slice (some ⟨ba, oa, none⟩) va.length uc) ∧ w'.cell? ⟨w.heap.size + 1, 1, none⟩ = some (.slice (some ⟨bb, ob, none⟩) vb.length vc) ∧ w'.cell? ⟨ba, oa + k, none⟩ = some (.int .u64 (x : Int)) ∧ w'.cell? ⟨bb, ob + k, none⟩ = some (.int .u64 (y : Int))) (first | go_keep | exact ⟨d1, d2, d3, d4, d5⟩) (first | ((with_reducible refine (HC.out _).mono ?_); rintro e w' ⟨rfl, rfl⟩)) | fail
        all_goals
          go_wp2
          refine ⟨⟨k + 1, by omega, by go_num, (hbx.setOther (by omega) k (.int .u64 (z : Int))).drew, hS.out.drew, (hBw.setCell (by simp) _).drew⟩, by simp [intOf]; omega⟩
      · have hkm : k = va.length := by omega
        have rAw := (rA.later B2).later hBw
        have c0 := hbx.c0
        have s0 := rAw.c0
        have s1 := rAw.c1
        have t0 := rAw.fz 0
        have t1 := rAw.fz 1
        have HR := Lib.hid hrow
        have HK := Lib.hid hkm
        clear hrow hkm
        go_wp2
        have hW := rAw.write (M := n) (u := .slice (some ⟨w2.heap.size, 0, none⟩) va.length va.length)
        have hG := write_grown wr (w.heap.size + 1 + 1) n (.slice (some ⟨w2.heap.size, 0, none⟩) va.length va.length)
        obtain ⟨VW, hVW⟩ : ∃ x, (wr.setCell ⟨w.heap.size + 1 + 1, 0, none⟩ (.int .i64 (n : Int))).setCell ⟨w.heap.size + 1 + 1, 1, none⟩ (.slice (some ⟨w2.heap.size, 0, none⟩) va.length va.length) = x := ⟨_, rfl⟩
        rw [hVW] at hW hG ⊢
        have e0 := hW.c0
        have e1 := hW.c1
        refine bodyPost_ret (v := .tuple #[bv n (.slice (some ⟨w2.heap.size, 0, none⟩) va.length va.length), .int .i64 0]) (by simp [results, Tryd.results70, go_sem, e0, e1]) rfl ⟨_, rfl, ?_, ?_⟩
        · have h4 := HR.out.kept hG (.inr fun e => by have := (HR.out.lt _ e).1; have := rA.lt; have := B2.size; omega)
          rw [HK.out, joinP_all] at h4
          have h5 : WOwn VW w2.heap.size (.slice (some ⟨w2.heap.size, 0, none⟩) va.length va.length) (joinW p va vb) := by
            unfold WOwn
            rw [show (joinW p va vb).length = va.length by unfold joinW; simp]
            exact h4
          exact WOwn.at h5
        · have hb13 : Below w.heap.size w wr := hAB.trans ((B2.trans (hBw.mono B2.size)).mono hAB.size)
          exact hb13.grown hG hb13.size (fun k e => by cases e; omega)
  · have hbx0 : BBox ((w2.alloc (.cells #[.int .i64 (n : Int), .slice (some ⟨w2.heap.size + 1, 0, none⟩) va.length va.length] 24)).alloc (.cells (madeCells #[.int .u64 0] va.length) 58)) w2.heap.size n (.slice (some ⟨w2.heap.size + 1, 0, none⟩) va.length va.length) := (BBox.new w2 n _).alloc _
    have hrow0 := World.ownsRow_lit (base := w2.heap.size) (e := 58) (size := 1) (w2.alloc (.cells #[.int .i64 (n : Int), .slice (some ⟨w2.heap.size + 1, 0, none⟩) va.length va.length] 24)) (madeCells #[.int .u64 0] va.length) va.length (by simp) (by unfold maxLen; have := HLA.out; omega) (by rw [size_madeCells]; omega)
    rw [World.size_alloc] at hrow0
    replace hrow0 := hrow0.drew
    replace hbx0 := hbx0.drew
    rw [joinP_zero p va vb] at hrow0
    obtain ⟨V, hV⟩ : ∃ V, ((w2.alloc (.cells #[.int .i64 (n : Int), .slice (some ⟨w2.heap.size + 1, 0, none⟩) va.length va.length] 24)).alloc (.cells (madeCells #[.int .u64 0] va.length) 58)).drew = V := ⟨_, rfl⟩
    rw [hV] at hbx0 hrow0
    have hB3 : Below w2.heap.size w2 V := by rw [← hV]; exact ((Below.refl _ w2).alloc (Nat.le_refl _) _).alloc (by simp) _ |>.drew
    have hm64 : va.length ≤ 64 := by have := HLA.out; omega
    have HV := Lib.hid hV
    clear hV i0 i1 hmk
    go_wp2_with fail
    rw [HV.out]
    go_loopw [12, 42] (fun _ i wr => ∃ k : Nat, k ≤ va.length ∧ i = .int .i64 k ∧ BBox wr (w2.heap.size) n (.slice (some ⟨w2.heap.size + 1, 0, none⟩) va.length va.length) ∧ wr.ownsRow w2.heap.size 58 1 (.slice (some ⟨w2.heap.size + 1, 0, none⟩) va.length va.length) va.length (wv (joinP p va vb k)) ∧ Below w2.heap.size w2 wr) (fun _ i _ => va.length - (intOf i).toNat)
    case atStart => exact ⟨0, Nat.zero_le _, rfl, hbx0, hrow0, hB3⟩
    case round =>
      obtain ⟨k, hk, rfl, hbx, hrow, hBw⟩ := hrel
      have c1 := hbx.c1
      by_cases hlt : k < va.length
      · have hkb : k < vb.length := by have := HLA.out; have := HLB.out; omega
        have hBB : Below w2.heap.size w2 wr := hBw
        obtain ⟨ba, oa, rfl, hba, hca⟩ := hA2.at k hlt
        obtain ⟨bb, ob, rfl, hbb, hcb⟩ := hB2.at k hkb
        obtain ⟨x, hx⟩ : ∃ x, va[k] = x := ⟨_, rfl⟩
        obtain ⟨y, hy⟩ : ∃ y, vb[k] = y := ⟨_, rfl⟩
        have hx2 : x < 2 ^ 64 := by rw [← hx]; exact fa _ (List.getElem_mem hlt)
        have hy2 : y < 2 ^ 64 := by rw [← hy]; exact fb _ (List.getElem_mem hkb)
        rw [hx] at hca
        rw [hy] at hcb
        have hca' := cell_later hBB hca
        have hcb' := cell_later hBB hcb
        have xx1 := (bA2.later hBB).c1
        have yy1 := (bB2.later hBB).c1
        have hS : Hid ((wr.setCell ⟨w2.heap.size + 1, k, none⟩ (.int .u64 (p x y : Nat))).ownsRow w2.heap.size 58 1 (.slice (some ⟨w2.heap.size + 1, 0, none⟩) va.length va.length) va.length (wv (joinP p va vb (k + 1)))) := by
          have h1 := (own_setv (k := k) hrow (.int .u64 (p x y : Nat))).1
          rw [joinP_set p va vb k x y hlt hkb hx hy] at h1
          exact h1
        obtain ⟨_, hfz, _, hgl⟩ := own_setv (k := k) hrow (.int .u64 0)
        obtain ⟨z, hz⟩ : ∃ z, p x y = z := ⟨_, rfl⟩
        have HC : Hid (∀ w, Calls Tryd.prog f #[.int .u64 (x : Int), .int .u64 (y : Int)] w fun e w' => e = .returned (.int .u64 (z : Int)) ∧ w = w') := fun w => by rw [← hz]; exact HF.out x y w hx2 hy2
        rw [hz] at hS
        obtain ⟨_, hcr⟩ := own_at hrow k hlt _ (wv_at (joinP p va vb k) k (by unfold joinP; simpa using hlt))
        have hcr' := hcr.2
        have g1 := hcr.1
        cases g1
        clear hcr
        have hi1 : (k : Int) < (va.length : Int) := by omega
        have hi2 : (k : Int) < (vb.length : Int) := by omega
        have n1 : ¬ w.heap.size = w2.heap.size + 1 := by have := bA2.lt; omega
        have n2 : ¬ w.heap.size + 1 = w2.heap.size + 1 := by have := bB2.lt; omega
        have n3 : ¬ ba = w2.heap.size + 1 := by omega
        have n4 : ¬ bb = w2.heap.size + 1 := by omega
        have hG := grownBy_setAt wr (w2.heap.size + 1) k (.int .u64 (z : Int))
        have d1 := hG.cell c1 (by simp)
        have d2 := hG.cell xx1 (by simpa using n1)
        have d3 := hG.cell yy1 (by simpa using n2)
        have d4 := hG.cell hca' (by simpa using n3)
        have d5 := hG.cell hcb' (by simpa using n4)
        clear hx hy hz hG
        go_wp2_with fail
        first | go_region_held3 (fun w' => w'.cell? ⟨w2.heap.size, 1, none⟩ = some (.slice (some ⟨w2.heap.size + 1, 0, none⟩) va.length va.length) ∧ w'.cell? ⟨w.heap.size, 1, none⟩ = some (.slice (some ⟨ba, oa, none⟩) va.length uc) ∧ w'.cell? ⟨w.heap.size + 1, 1, none⟩ = some (.slice (some ⟨bb, ob, none⟩) vb.length vc) ∧ w'.cell? ⟨ba, oa + k, none⟩ = some (.int .u64 (x : Int)) ∧ w'.cell? ⟨bb, ob + k, none⟩ = some (.int .u64 (y : Int))) (first | go_keep | exact ⟨d1, d2, d3, d4, d5⟩) (first | ((with_reducible refine (HC.out _).mono ?_); rintro e w' ⟨rfl, rfl⟩)) | fail
        all_goals
          go_wp2
          refine ⟨⟨k + 1, by omega, by go_num, (hbx.setOther (by omega) k (.int .u64 (z : Int))).drew, hS.out.drew, (hBw.setCell (by simp) _).drew⟩, by simp [intOf]; omega⟩
      · have hkm : k = va.length := by omega
        have rAw := (rA.later B2).later hBw
        have c0 := hbx.c0
        have s0 := rAw.c0
        have s1 := rAw.c1
        have t0 := rAw.fz 0
        have t1 := rAw.fz 1
        have HR := Lib.hid hrow
        have HK := Lib.hid hkm
        clear hrow hkm
        go_wp2
        have hW := rAw.write (M := n) (u := .slice (some ⟨w2.heap.size + 1, 0, none⟩) va.length va.length)
        have hG := write_grown wr (w.heap.size + 1 + 1) n (.slice (some ⟨w2.heap.size + 1, 0, none⟩) va.length va.length)
        obtain ⟨VW, hVW⟩ : ∃ x, (wr.setCell ⟨w.heap.size + 1 + 1, 0, none⟩ (.int .i64 (n : Int))).setCell ⟨w.heap.size + 1 + 1, 1, none⟩ (.slice (some ⟨w2.heap.size + 1, 0, none⟩) va.length va.length) = x := ⟨_, rfl⟩
        rw [hVW] at hW hG ⊢
        have e0 := hW.c0
        have e1 := hW.c1
        refine bodyPost_ret (v := .tuple #[bv n (.slice (some ⟨w2.heap.size + 1, 0, none⟩) va.length va.length), .int .i64 0]) (by simp [results, Tryd.results70, go_sem, e0, e1]) rfl ⟨_, rfl, ?_, ?_⟩
        · have h4 := HR.out.kept hG (.inr fun e => by have := (HR.out.lt _ e).1; have := rA.lt; have := B2.size; omega)
          rw [HK.out, joinP_all] at h4
          have h5 : WOwn VW w2.heap.size (.slice (some ⟨w2.heap.size + 1, 0, none⟩) va.length va.length) (joinW p va vb) := by
            unfold WOwn
            rw [show (joinW p va vb).length = va.length by unfold joinW; simp]
            exact h4
          exact WOwn.at h5
        · have hb13 : Below w.heap.size w wr := hAB.trans ((B2.trans (hBw.mono B2.size)).mono hAB.size)
          exact hb13.grown hG hb13.size (fun k e => by cases e; omega)
end Go.Proofs.YtpplleojdcgceaaDoor
