/- Two saved states with the same runs, huge pages, data and refusals are the same. -/
import Derived.Test.YtjplihljmohpjaaKt
namespace Go.Proofs.Ytjplihljmohpjaa
open Go.RowKit Go.Shelf
attribute [local go_sem] Oper.semAt_some

theorem quiet_load_mid {P : Program} {C : World → Prop} {o : Oper} {a : Act} {K : Act → Prop} (ty : TypeId) (x : Operand) (ho : o.op = .load ty x) (b off : Nat) (hx : a.eval x = .pointer (some ⟨b, off, none⟩)) (cs : List Value) (d : TypeDesc)
    (hc : ∀ w, C w → w.rangeAt b off cs) (hu : P.underlying ty = some d) (hd : d.isRow = true) (hi : (P.info? ty).map (·.size) = some cs.length) (hk : K (a.put o.dst (.agg cs.toArray))) : o.quiet P a C K :=
  ⟨.agg cs.toArray, fun w hw => by
    unfold Oper.quietAt
    rw [exec_load_mid ty x ho b off hx cs d (hc w hw) hu hd hi]
    exact ⟨rfl, rfl⟩, hk⟩
theorem flat_at {α : Type} (F : α → List Value) (z : Nat) (hF : ∀ x, (F x).length = z) : ∀ (l : List α) (k : Nat) (x : α), l[k]? = some x → ∀ i, i < z → (l.flatMap F)[k * z + i]? = (F x)[i]?
  | [], k, x, h, _, _ => by simp at h
  | y :: l, 0, x, h, i, hi => by
    have : y = x := by simpa using h
    subst this
    rw [List.flatMap_cons, Nat.zero_mul, Nat.zero_add, List.getElem?_append_left (by rw [hF]; exact hi)]
  | y :: l, k + 1, x, h, i, hi => by
    rw [List.flatMap_cons, List.getElem?_append_right (by rw [hF, Nat.add_mul]; omega), hF, show (k + 1) * z + i - z = k * z + i by rw [Nat.add_mul]; omega]
    exact flat_at F z hF l k x (by simpa using h) i hi
theorem rowI_at (l : List Nat) (k x : Nat) (h : l[k]? = some x) : (rowI l)[k]? = some (.int .i64 (x : Int)) := by unfold rowI; rw [List.getElem?_map, h]; rfl
theorem rowN_at (l : List Rn) (k : Nat) (x : Rn) (h : l[k]? = some x) (i : Nat) (hi : i < 3) : (rowN l)[k * 3 + i]? = [Value.int .i64 (x.1 : Int), .int .i64 (x.2.1 : Int), .int .i64 x.2.2][i]? := flat_at _ 3 (fun _ => rfl) l k x h i hi
theorem rowD_at (f : Pages) (l : List Nat) (k x : Nat) (h : l[k]? = some x) (i : Nat) (hi : i < 65) : (rowD f l)[k * 65 + i]? = (Value.int .i64 (x : Int) :: bytesL (f x).by')[i]? := flat_at _ 65 (fun _ => by rw [List.length_cons, bytesL_len]) l k x h i hi
theorem own_pos {W : World} {B : Nat} {e : TypeId} {z n : Nat} {a : Option Addr} {c : Nat} {xs : List Value} (h : W.ownsRow B e z (.slice a n c) n xs) (hn : 0 < n) : ∃ g, a = some ⟨g, 0, none⟩ := by
  obtain ⟨_, ⟨_, h0⟩ | ⟨g, cap', cur, hv, _⟩⟩ := h
  · omega
  · cases hv; exact ⟨g, rfl⟩
theorem own_len {W : World} {B : Nat} {e : TypeId} {z n : Nat} {v : Value} {xs : List Value} (h : W.ownsRow B e z v n xs) : n ≤ 9223372036854775807 := by
  obtain ⟨_, ⟨_, h0⟩ | ⟨g, cap', cur, hv, _, _, h1, h2, _⟩⟩ := h
  · omega
  · unfold maxLen at h2; omega
set_option maxRecDepth 100000 in
set_option maxHeartbeats 16000000 in
theorem Same_is (f : Pages) (rs : List Rn) (gs ds : List Nat) (L : List Ru) (c h : Nat → Int) (ur ug ud u vr vg vd v : Value) (B1 B2 : Nat) (w : World)
    (hr1 : w.ownsRow B1 94 3 ur rs.length (rowN rs)) (hg1 : w.ownsRow B1 3 1 ug gs.length (rowI gs)) (hd1 : w.ownsRow B1 96 65 ud ds.length (rowD f ds)) (hu1 : RAt w u (toI L))
    (hr2 : w.ownsRow B2 94 3 vr rs.length (rowN rs)) (hg2 : w.ownsRow B2 3 1 vg gs.length (rowI gs)) (hd2 : w.ownsRow B2 96 65 vd ds.length (rowD f ds)) (hu2 : RAt w v (toI L)) :
    Calls Try.prog 16 #[vsV ur ug ud u c h, vsV vr vg vd v c h] w fun e w' => e = .returned (.bool true) ∧ Below w.heap.size w w' := by
  obtain ⟨ra, rc, rfl⟩ := own_shape hr1
  obtain ⟨ga, gc, rfl⟩ := own_shape hg1
  obtain ⟨da, dc, rfl⟩ := own_shape hd1
  obtain ⟨xa, xc, rfl⟩ := own_shape hr2
  obtain ⟨ya, yc, rfl⟩ := own_shape hg2
  obtain ⟨za, zc, rfl⟩ := own_shape hd2
  obtain ⟨nr, hnr⟩ : ∃ n, rs.length = n := ⟨_, rfl⟩
  obtain ⟨ng, hng⟩ : ∃ n, gs.length = n := ⟨_, rfl⟩
  obtain ⟨nd, hnd⟩ : ∃ n, ds.length = n := ⟨_, rfl⟩
  have HNR := Lib.hid hnr
  have HNG := Lib.hid hng
  have HND := Lib.hid hnd
  rw [hnr] at hr1 hr2 ⊢
  rw [hng] at hg1 hg2 ⊢
  rw [hnd] at hd1 hd2 ⊢
  clear hnr hng hnd
  have l1 := own_len hr1
  have l2 := own_len hg1
  have l3 := own_len hd1
  obtain ⟨W1, hW1⟩ : ∃ x, (w.alloc (.cells (vsA (.slice ra nr rc) (.slice ga ng gc) (.slice da nd dc) u c h) 47)).alloc (.cells (vsA (.slice xa nr xc) (.slice ya ng yc) (.slice za nd zc) v c h) 47) = x := ⟨_, rfl⟩
  have hb1 : Below w.heap.size w W1 := by rw [← hW1]; exact ((Below.refl _ _).alloc (Nat.le_refl _) _).alloc (by simp) _
  have b1 : VBox W1 w.heap.size (.slice ra nr rc) (.slice ga ng gc) (.slice da nd dc) u c h := by rw [← hW1]; exact (Below.heap_alloc _ _ _ (by simp)).trans (VBox.new w _ _ _ _ _ _)
  have b2 : VBox W1 (w.heap.size + 1) (.slice xa nr xc) (.slice ya ng yc) (.slice za nd zc) v c h := by
    have := VBox.new (w.alloc (.cells (vsA (.slice ra nr rc) (.slice ga ng gc) (.slice da nd dc) u c h) 47)) (.slice xa nr xc) (.slice ya ng yc) (.slice za nd zc) v c h
    rw [World.size_alloc] at this
    rw [← hW1]; exact this
  have p0 := (b1.cell 0).trans (rfl : _ = some (Value.slice ra nr rc))
  have q0 := (b2.cell 0).trans (rfl : _ = some (Value.slice xa nr xc))
  have p1 := (b1.cell 1).trans (rfl : _ = some (Value.slice ga ng gc))
  have q1 := (b2.cell 1).trans (rfl : _ = some (Value.slice ya ng yc))
  have p2 := (b1.cell 2).trans (rfl : _ = some (Value.slice da nd dc))
  have q2 := (b2.cell 2).trans (rfl : _ = some (Value.slice za nd zc))
  have p3 := (b1.cell 3).trans (rfl : _ = some (u : Value))
  have q3 := (b2.cell 3).trans (rfl : _ = some (v : Value))
  have p4 := (b1.cell 4).trans (rfl : _ = some (.int .i64 (c 0) : Value))
  have q4 := (b2.cell 4).trans (rfl : _ = some (.int .i64 (c 0) : Value))
  have p5 := (b1.cell 5).trans (rfl : _ = some (.int .i64 (c 1) : Value))
  have q5 := (b2.cell 5).trans (rfl : _ = some (.int .i64 (c 1) : Value))
  have p6 := (b1.cell 6).trans (rfl : _ = some (.int .i64 (c 2) : Value))
  have q6 := (b2.cell 6).trans (rfl : _ = some (.int .i64 (c 2) : Value))
  have p7 := (b1.cell 7).trans (rfl : _ = some (.int .i64 (c 3) : Value))
  have q7 := (b2.cell 7).trans (rfl : _ = some (.int .i64 (c 3) : Value))
  have p8 := (b1.cell 8).trans (rfl : _ = some (.int .i64 (c 4) : Value))
  have q8 := (b2.cell 8).trans (rfl : _ = some (.int .i64 (c 4) : Value))
  have p9 := (b1.cell 9).trans (rfl : _ = some (.int .i64 (c 5) : Value))
  have q9 := (b2.cell 9).trans (rfl : _ = some (.int .i64 (c 5) : Value))
  have p10 := (b1.cell 10).trans (rfl : _ = some (.int .i64 (c 6) : Value))
  have q10 := (b2.cell 10).trans (rfl : _ = some (.int .i64 (c 6) : Value))
  have p11 := (b1.cell 11).trans (rfl : _ = some (.int .i64 (h 0) : Value))
  have q11 := (b2.cell 11).trans (rfl : _ = some (.int .i64 (h 0) : Value))
  have p12 := (b1.cell 12).trans (rfl : _ = some (.int .i64 (h 1) : Value))
  have q12 := (b2.cell 12).trans (rfl : _ = some (.int .i64 (h 1) : Value))
  have p13 := (b1.cell 13).trans (rfl : _ = some (.int .i64 (h 2) : Value))
  have q13 := (b2.cell 13).trans (rfl : _ = some (.int .i64 (h 2) : Value))
  have p14 := (b1.cell 14).trans (rfl : _ = some (.int .i64 (h 3) : Value))
  have q14 := (b2.cell 14).trans (rfl : _ = some (.int .i64 (h 3) : Value))
  have p15 := (b1.cell 15).trans (rfl : _ = some (.int .i64 (h 4) : Value))
  have q15 := (b2.cell 15).trans (rfl : _ = some (.int .i64 (h 4) : Value))
  have p16 := (b1.cell 16).trans (rfl : _ = some (.int .i64 (h 5) : Value))
  have q16 := (b2.cell 16).trans (rfl : _ = some (.int .i64 (h 5) : Value))
  have p17 := (b1.cell 17).trans (rfl : _ = some (.int .i64 (h 6) : Value))
  have q17 := (b2.cell 17).trans (rfl : _ = some (.int .i64 (h 6) : Value))
  have HS := Lib.hid (SameState_is u v c h (toI L) W1 (hu1.later hb1) (hu2.later hb1))
  have HR1 := Lib.hid (hr1.kept (grown_of_below hb1) (Classical.em _))
  have HR2 := Lib.hid (hr2.kept (grown_of_below hb1) (Classical.em _))
  have HG1 := Lib.hid (hg1.kept (grown_of_below hb1) (Classical.em _))
  have HG2 := Lib.hid (hg2.kept (grown_of_below hb1) (Classical.em _))
  have HD1 := Lib.hid (hd1.kept (grown_of_below hb1) (Classical.em _))
  have HD2 := Lib.hid (hd2.kept (grown_of_below hb1) (Classical.em _))
  have hN1 := neqN
  have hN2 := neqD
  clear hr1 hr2 hg1 hg2 hd1 hd2 hu1 hu2 b1 b2
  go_enter Try.func16, Try.ntmps16
  go_wp2_with fail
  try rw [hW1]
  refine HS.out.mono ?_
  rintro e w1 ⟨rfl, B1⟩
  have p0 := cell_later B1 p0
  have q0 := cell_later B1 q0
  have p1 := cell_later B1 p1
  have q1 := cell_later B1 q1
  have p2 := cell_later B1 p2
  have q2 := cell_later B1 q2
  have hB := hb1.trans (B1.mono hb1.size)
  clear p3 q3 p4 q4 p5 q5 p6 q6 p7 q7 p8 q8 p9 q9 p10 q10 p11 q11 p12 q12 p13 q13 p14 q14 p15 q15 p16 q16 p17 q17 hW1 HS
  have HB1 := Lib.hid B1
  go_wp2_with fail
  go_loopw [5] (fun i wr => ∃ k : Nat, k ≤ nr ∧ i = .int .i64 k ∧ Below w1.heap.size w1 wr) (fun i _ => nr - (intOf i).toNat)
  case atStart => exact ⟨0, Nat.zero_le _, rfl, Below.refl _ _⟩
  case round =>
    obtain ⟨k, hk, rfl, hbw⟩ := hrel
    have hz := cell_later hbw p0
    have hy := cell_later hbw q0
    obtain ⟨V0, rfl⟩ : ∃ V, V = wr := ⟨_, rfl⟩
    by_cases hlt : k < nr
    · have hi1 : (k : Int) < (nr : Int) := by omega
      have hk0 : decide ((k : Int) < 0) = false := by simp
      have hk7 : decide ((nr : Int) ≤ (k : Int)) = false := by simp; omega
      obtain ⟨x, hx⟩ : ∃ x, rs[k]? = some x := ⟨_, List.getElem?_eq_getElem (by rw [HNR.out]; exact hlt)⟩
      obtain ⟨g1, rfl⟩ := own_pos HR1.out (by omega)
      obtain ⟨g2, rfl⟩ := own_pos HR2.out (by omega)
      obtain ⟨x1, x2, x3⟩ := x
      have kk : ∀ {W : World} {B g cp : Nat} (ho : W.ownsRow B 94 3 (.slice (some ⟨g, 0, none⟩) nr cp) nr (rowN rs)) (i : Nat) (y : Value), i < 3 → [Value.int .i64 (x1 : Int), .int .i64 (x2 : Int), .int .i64 x3][i]? = some y → W.cell? ⟨g, k * 3 + i, none⟩ = some y := fun ho i y hi hy => by rw [World.ownsRow.cellAt ho _ (by omega), rowN_at rs k _ hx i hi]; exact hy
      have a0 := cell_later hbw (cell_later HB1.out (kk HR1.out 0 _ (by decide) rfl))
      have a1 := cell_later hbw (cell_later HB1.out (kk HR1.out 1 _ (by decide) rfl))
      have a2 := cell_later hbw (cell_later HB1.out (kk HR1.out 2 _ (by decide) rfl))
      have e0 := cell_later hbw (cell_later HB1.out (kk HR2.out 0 _ (by decide) rfl))
      have e1 := cell_later hbw (cell_later HB1.out (kk HR2.out 1 _ (by decide) rfl))
      have e2 := cell_later hbw (cell_later HB1.out (kk HR2.out 2 _ (by decide) rfl))
      rw [Nat.add_zero] at a0 e0
      clear hx kk
      go_wp2_with fail
      go_quiet (fail)
      go_wp2_with fail
      go_roundw
      case rel => exact ⟨k + 1, by omega, by go_num, hbw.trans ⟨rfl, rfl, rfl, Nat.le_refl _, fun _ _ => rfl⟩⟩
      case measure => simp [intOf]; omega
    · have hi1 : ¬ ((k : Int) < (nr : Int)) := by omega
      have HBQ := Lib.hid hbw
      have p1 := cell_later hbw p1
      have q1 := cell_later hbw q1
      have p2 := cell_later hbw p2
      have q2 := cell_later hbw q2
      go_wp2_with fail
      go_loopw [6] (fun i wr => ∃ k : Nat, k ≤ ng ∧ i = .int .i64 k ∧ Below V0.heap.size V0 wr) (fun i _ => ng - (intOf i).toNat)
      case atStart => exact ⟨0, Nat.zero_le _, rfl, Below.refl _ _⟩
      case round =>
        obtain ⟨k, hk, rfl, hbw⟩ := hrel
        have hz := cell_later hbw p1
        have hy := cell_later hbw q1
        obtain ⟨V1, rfl⟩ : ∃ V, V = wr := ⟨_, rfl⟩
        by_cases hlt : k < ng
        · have hi1 : (k : Int) < (ng : Int) := by omega
          have hk0 : decide ((k : Int) < 0) = false := by simp
          have hk7 : decide ((ng : Int) ≤ (k : Int)) = false := by simp; omega
          obtain ⟨x, hx⟩ : ∃ x, gs[k]? = some x := ⟨_, List.getElem?_eq_getElem (by rw [HNG.out]; exact hlt)⟩
          obtain ⟨g1, rfl⟩ := own_pos HG1.out (by omega)
          obtain ⟨g2, rfl⟩ := own_pos HG2.out (by omega)
          have a0 := cell_later (HBQ.out.trans (hbw.mono HBQ.out.size)) (cell_later HB1.out ((World.ownsRow.cellAt HG1.out k (by omega)).trans (rowI_at gs k x hx)))
          have e0 := cell_later (HBQ.out.trans (hbw.mono HBQ.out.size)) (cell_later HB1.out ((World.ownsRow.cellAt HG2.out k (by omega)).trans (rowI_at gs k x hx)))
          clear hx
          go_wp2_with fail
          go_quiet (fail)
          go_wp2_with fail
          go_roundw
          case rel => exact ⟨k + 1, by omega, by go_num, hbw.trans ⟨rfl, rfl, rfl, Nat.le_refl _, fun _ _ => rfl⟩⟩
          case measure => simp [intOf]; omega
        · have hi1 : ¬ ((k : Int) < (ng : Int)) := by omega
          replace HBQ := Lib.hid (HBQ.out.trans (hbw.mono HBQ.out.size))
          have p2 := cell_later hbw p2
          have q2 := cell_later hbw q2
          go_wp2_with fail
          go_loopw [7] (fun i wr => ∃ k : Nat, k ≤ nd ∧ i = .int .i64 k ∧ Below V1.heap.size V1 wr) (fun i _ => nd - (intOf i).toNat)
          case atStart => exact ⟨0, Nat.zero_le _, rfl, Below.refl _ _⟩
          case round =>
            obtain ⟨k, hk, rfl, hbw⟩ := hrel
            have hz := cell_later hbw p2
            have hy := cell_later hbw q2
            obtain ⟨V2, rfl⟩ : ∃ V, V = wr := ⟨_, rfl⟩
            by_cases hlt : k < nd
            · have hi1 : (k : Int) < (nd : Int) := by omega
              have hk0 : decide ((k : Int) < 0) = false := by simp
              have hk7 : decide ((nd : Int) ≤ (k : Int)) = false := by simp; omega
              obtain ⟨x, hx⟩ : ∃ x, ds[k]? = some x := ⟨_, List.getElem?_eq_getElem (by rw [HND.out]; exact hlt)⟩
              obtain ⟨g1, rfl⟩ := own_pos HD1.out (by omega)
              obtain ⟨g2, rfl⟩ := own_pos HD2.out (by omega)
              have kk : ∀ {W : World} {B g cp : Nat} (ho : W.ownsRow B 96 65 (.slice (some ⟨g, 0, none⟩) nd cp) nd (rowD f ds)), W.rangeAt g (k * 65) (Value.int .i64 (x : Int) :: bytesL (f x).by') := fun ho i y hy => by
                have hi : i < 65 := by have := (List.getElem?_eq_some_iff.1 hy).1; rw [List.length_cons, bytesL_len] at this; exact this
                rw [World.ownsRow.cellAt ho _ (by omega), rowD_at f ds k x hx i hi]; exact hy
              have HA := Lib.hid (kk HD1.out)
              have HE := Lib.hid (kk HD2.out)
              have hn2 := neqD (x : Int) (f x).by'
              clear hx kk hN2
              go_wp2_with fail
              refine wp_region_quiet_lit (by kernel_rfl) (by kernel_rfl) ?_
              iterate 4 (go_big_quiet_step (fail))
              go_big_quiet_want
              refine quiet_load_mid 96 _ rfl g1 (k * 65) rfl (Value.int .i64 (x : Int) :: bytesL (f x).by') _ (fun w hw => by obtain ⟨n, rfl⟩ := hw; exact fun i u hu => by have := cell_later (HBQ.out.trans (hbw.mono HBQ.out.size)) (cell_later HB1.out (HA.out i u hu)); exact this) Try.underlying96 rfl (by kernel_rfl) ?_
              go_big_quiet_on
              simp only [Act.put, List.setIfInBounds_toArray, List.set_cons_succ, List.set_cons_zero]
              iterate 4 (go_big_quiet_step (fail))
              go_big_quiet_want
              refine quiet_load_mid 96 _ rfl g2 (k * 65) rfl (Value.int .i64 (x : Int) :: bytesL (f x).by') _ (fun w hw => by obtain ⟨n, rfl⟩ := hw; exact fun i u hu => by have := cell_later (HBQ.out.trans (hbw.mono HBQ.out.size)) (cell_later HB1.out (HE.out i u hu)); exact this) Try.underlying96 rfl (by kernel_rfl) ?_
              go_big_quiet_on
              simp only [Act.put, List.setIfInBounds_toArray, List.set_cons_succ, List.set_cons_zero]
              generalize (Value.int .i64 (x : Int) :: bytesL (f x).by').toArray = AD at hn2 ⊢
              go_big_quiet_step (fail)
              refine wpQuiet_nil ?_
              rintro _ ⟨nq, rfl⟩
              go_wp2_with fail
              go_roundw
              case rel => exact ⟨k + 1, by omega, by go_num, hbw.trans ⟨rfl, rfl, rfl, Nat.le_refl _, fun _ _ => rfl⟩⟩
              case measure => simp [intOf]; omega
            · have hi1 : ¬ ((k : Int) < (nd : Int)) := by omega
              have hBz := hB.trans ((HBQ.out.trans (hbw.mono HBQ.out.size)).mono hB.size)
              go_wp2_with fail
              go_ret
              exact ⟨rfl, hBz⟩
end Go.Proofs.Ytjplihljmohpjaa
