/- Plans; the reference's New. -/
import Derived.Test.YtnmeeddhagmjdaaVmX
namespace Go.Proofs.Ytnmeeddhagmjdaa
open Go.RowKit Go.Shelf
attribute [local go_sem] Oper.semAt_some
variable {R : Nat} {kd : Nat → Int} {hg : Nat → Bool} {bt : Nat → Nat → Int} {st : Array Value}

theorem zero_state (w : World) : ∃ W, w.alloc (.cells #[.slice none 0 0, .int .i64 0, .int .i64 0, .int .i64 0, .int .i64 0, .int .i64 0, .int .i64 0, .int .i64 0, .int .i64 0, .int .i64 0, .int .i64 0, .int .i64 0, .int .i64 0, .int .i64 0, .int .i64 0] 45) = W ∧ Below w.heap.size w W ∧ SBox W w.heap.size (.slice none 0 0) zer zer := ⟨_, rfl, (Below.refl _ _).alloc (Nat.le_refl _) _, SBox.new w (.slice none 0 0) zer zer⟩
theorem fold_splice (Z : Array Value) (v : Value) (c h : Nat → Int) : Array.foldl (fun (cs : Array Value) (x : Value × Nat) => cs.setIfInBounds (66624 + x.snd) x.fst) Z (stA v c h).zipIdx 0 15 = splice Z 66624 (stA v c h).toList := by kernel_rfl
theorem rnew_row (v : Value) (c h : Nat → Int) : RRow (splice Try.zeroCells91 66624 (stA v c h).toList) (kdF freeF) (hgF freeF) (btF freeF) (stA v c h) := by
  obtain ⟨Z, hZ, hz, h1, h2, h3⟩ := rzero_cells
  rw [← hZ]
  have hl : (stA v c h).toList.length = 15 := rfl
  refine ⟨by rw [splice_size]; exact hz, fun j hj => ?_, fun g hg => ?_, fun j hj i hi => ?_, fun i hi => ?_⟩
  · rw [splice_out _ _ _ _ (by omega)]; exact h1 j hj
  · rw [splice_out _ _ _ _ (by omega)]; exact h2 g hg
  · rw [splice_out _ _ _ _ (by omega)]; exact h3 _ (by omega)
  · rw [splice_in _ _ _ _ (by omega) (by omega), Array.getElem?_toList]
set_option maxRecDepth 1000000 in
set_option maxHeartbeats 2000000 in
theorem RNew_ok (v : Value) (L : List Ru) (hL : OkL L) (w : World) (h : RAt w v (toI L)) :
    Calls Try.prog 14 #[.agg #[v]] w fun e w' => ∃ R, e = .returned (.tuple #[.pointer (some ⟨R, 0, none⟩), .int .i64 0]) ∧ w.heap.size ≤ R ∧ RAtS w' R (kdF freeF) (hgF freeF) (btF freeF) (stA v zer zer) ∧ Below w.heap.size w w' := by
  obtain ⟨W1, hW1⟩ : ∃ x, w.alloc (.cells #[v] 24) = x := ⟨_, rfl⟩
  have hb1 : Below w.heap.size w W1 := by rw [← hW1]; exact (Below.refl _ _).alloc (Nat.le_refl _) _
  have bP : Boxed W1 w.heap.size 24 v := by rw [← hW1]; exact Boxed.new w _ _
  have HS := Lib.hid (RStart_ok v L hL W1 (h.later hb1))
  have q1 := bP.cell
  have hv1 := h.one
  go_enter Try.func14, Try.ntmps14
  go_wp2_with fail
  try rw [hW1]
  refine HS.out.mono ?_
  rintro e w1 ⟨rfl, B1⟩
  obtain ⟨W2, hW2, hb2, sN⟩ := zero_state w1
  have hB1 := hb1.trans (B1.mono hb1.size)
  have hB2 := hB1.trans (hb2.mono hB1.size)
  have sM := sN.row v zer zer
  have hsz := stA_size v zer zer
  clear hW1
  go_wp2_with (first | rw [hW2] | refine wpList_store_row rfl 45 _ _ rfl w1.heap.size (stA v zer zer) rfl rfl 45 _ sN (st_i _ _ _) rfl (stA_one _ hv1 _ _) ?_ | refine wpList_load_row rfl 45 _ rfl w1.heap.size rfl 45 _ (0, 0) _ sM Try.underlying45 rfl (st_i _ _ _) ?_)
  · go_ret2
    have hB3 : Below w.heap.size w (W2.setRow w1.heap.size (stA v zer zer)) := below_row hB2 _ hB1.size _
    refine ⟨_, rfl, hB2.size, ⟨_, ?_, rnew_row v zer zer⟩, hB3.alloc (by rw [setRow_size]; exact hB2.size) _⟩
    rw [fold_splice]
    have h9 := World.alloc_heap_new (W2.setRow w1.heap.size (stA v zer zer)) (.cells (splice Try.zeroCells91 66624 (stA v zer zer).toList) 91)
    rw [setRow_size] at h9
    exact h9
theorem RNew_bad (v : Value) (l : List RlI) (i : Nat) (c : Int) (hc : chkP l = (i, c)) (h0 : c ≠ 0) (w : World) (h : RAt w v l) :
    Calls Try.prog 14 #[.agg #[v]] w fun e w' => e = .returned (.tuple #[.pointer none, .int .i64 c]) ∧ Below w.heap.size w w' := by
  obtain ⟨W1, hW1⟩ : ∃ x, w.alloc (.cells #[v] 24) = x := ⟨_, rfl⟩
  have hb1 : Below w.heap.size w W1 := by rw [← hW1]; exact (Below.refl _ _).alloc (Nat.le_refl _) _
  have bP : Boxed W1 w.heap.size 24 v := by rw [← hW1]; exact Boxed.new w _ _
  have HS := Lib.hid (RStart_bad v l i c hc h0 W1 (h.later hb1))
  have q1 := bP.cell
  have hq : (c != 0) = true := by simpa using h0
  clear hc h0
  go_enter Try.func14, Try.ntmps14
  go_wp2_with fail
  try rw [hW1]
  refine HS.out.mono ?_
  rintro e w1 ⟨rfl, B1⟩
  obtain ⟨W2, hW2, hb2, sN⟩ := zero_state w1
  have hB1 := hb1.trans (B1.mono hb1.size)
  have hB2 := hB1.trans (hb2.mono hB1.size)
  clear hW1
  go_wp2_with (first | rw [hW2] | refine wpList_store_row rfl 45 _ _ rfl w1.heap.size (stA (.slice none 0 0) zer zer) rfl rfl 45 _ sN (st_i _ _ _) rfl (stA_one _ rfl _ _) ?_)
  go_ret2
  exact ⟨rfl, below_row hB2 _ hB1.size _⟩
set_option maxRecDepth 100000 in
set_option maxHeartbeats 2000000 in
theorem RPlan_bad (Y : Nat → Prop) (f : Pages) (L : List Ru) (m : Nat → Nat) (u : Value) (v : Value) (l : List RlI) (i : Nat) (c : Int) (hc : chkP l = (i, c)) (h0 : c ≠ 0) (w : World) (hs : RfS w R Y f L m u) (h : RAt w v l) :
    Calls Try.prog 52 #[.pointer (some ⟨R, 0, none⟩), .agg #[v]] w fun e w' => e = .returned (.int .i64 c) ∧ RfS w' R Y f L m u ∧ Keep (· = R) w w' := by
  obtain ⟨W1, hW1⟩ : ∃ x, w.alloc (.cells #[v] 24) = x := ⟨_, rfl⟩
  have hb1 : Below w.heap.size w W1 := by rw [← hW1]; exact (Below.refl _ _).alloc (Nat.le_refl _) _
  have bP : Boxed W1 w.heap.size 24 v := by rw [← hW1]; exact Boxed.new w _ _
  have HS := Lib.hid (RStart_bad v l i c hc h0 W1 (h.later hb1))
  have q1 := bP.cell
  have hq : (c == 0) = false := by simpa using h0
  clear hc h0
  go_enter Try.func52, Try.ntmps52
  go_wp2_with fail
  try rw [hW1]
  refine HS.out.mono ?_
  rintro e w1 ⟨rfl, B1⟩
  obtain ⟨W2, hW2, hb2, sN⟩ := zero_state w1
  have hB1 := hb1.trans (B1.mono hb1.size)
  have hB2 := hB1.trans (hb2.mono hB1.size)
  clear hW1
  go_wp2_with (first | rw [hW2] | refine wpList_store_row rfl 45 _ _ rfl w1.heap.size (stA (.slice none 0 0) zer zer) rfl rfl 45 _ sN (st_i _ _ _) rfl (stA_one _ rfl _ _) ?_)
  go_ret
  have hB3 := below_row hB2 w1.heap.size hB1.size (stA (.slice none 0 0) zer zer)
  exact ⟨rfl, hs.later hB3, Keep.of_below hB3⟩
set_option maxRecDepth 100000 in
set_option maxHeartbeats 2000000 in
theorem RPlan_ok (Y : Nat → Prop) (f : Pages) (L : List Ru) (m : Nat → Nat) (u : Value) (v : Value) (L' : List Ru) (hL : OkL L') (w : World) (hs : RfS w R Y f L m u) (h : RAt w v (toI L')) (hv : ∀ b, obk v = some b → b ≠ R ∧ ¬ Y b) :
    Calls Try.prog 52 #[.pointer (some ⟨R, 0, none⟩), .agg #[v]] w fun e w' => e = .returned (.int .i64 0) ∧ RfS w' R Y f L' (fun _ => 0) v ∧ Keep (· = R) w w' := by
  obtain ⟨W1, hW1⟩ : ∃ x, w.alloc (.cells #[v] 24) = x := ⟨_, rfl⟩
  have hb1 : Below w.heap.size w W1 := by rw [← hW1]; exact (Below.refl _ _).alloc (Nat.le_refl _) _
  have bP : Boxed W1 w.heap.size 24 v := by rw [← hW1]; exact Boxed.new w _ _
  have HS := Lib.hid (RStart_ok v L' hL W1 (h.later hb1))
  have q1 := bP.cell
  have hv1 := h.one
  go_enter Try.func52, Try.ntmps52
  go_wp2_with fail
  try rw [hW1]
  refine HS.out.mono ?_
  rintro e w1 ⟨rfl, B1⟩
  obtain ⟨W2, hW2, hb2, sN⟩ := zero_state w1
  have hB1 := hb1.trans (B1.mono hb1.size)
  have hB2 := hB1.trans (hb2.mono hB1.size)
  have sM := sN.row v zer zer
  have hB3 := below_row hB2 w1.heap.size hB1.size (stA v zer zer)
  have s3 := hs.later hB3
  have htR := s3.row.there 66624 15 (by omega)
  have hone : (stA v zer zer).all (·.oneCell') = true := stA_one v hv1 _ _
  clear hW1
  go_wp2_with (first | rw [hW2] | refine wpList_store_row rfl 45 _ _ rfl w1.heap.size (stA v zer zer) rfl rfl 45 _ sN (st_i _ _ _) rfl hone ?_ | refine wpList_load_row rfl 45 _ rfl w1.heap.size rfl 45 _ (0, 0) _ sM Try.underlying45 rfl (st_i _ _ _) ?_ | refine wpList_store_mid rfl 45 _ _ rfl R 66624 (stA v zer zer) rfl rfl htR (st_i _ _ _) hone ?_)
  go_ret
  have hK1 : Keep (· = R) (W2.setRow w1.heap.size (stA v zer zer)) ((W2.setRow w1.heap.size (stA v zer zer)).setCells R 66624 (stA v zer zer).toList) := Keep.setCells (q := (· = R)) R (.inl rfl) _ _ _ (Keep.refl _ _)
  refine ⟨rfl, ⟨by rw [ci0, hf0 L' hL]; exact s3.row.putS _ (stA_size _ _ _), (h.later hB3).keep hK1 (fun b hb2 e => (hv b hb2).1 e), hv, s3.far⟩, (Keep.of_below hB3).trans hK1⟩
set_option maxRecDepth 100000 in
set_option maxHeartbeats 2000000 in
theorem Plan_bad (S P : Nat) (X : Nat → Prop) (f : Pages) (L : List Ru) (m : Nat → Nat) (v : Value) (l : List RlI) (i : Nat) (c : Int) (hc : chkP l = (i, c)) (h0 : c ≠ 0) (w : World) (hs : Sys w S P X f L m) (h : RAt w v l) :
    Calls Try.prog 23 #[.pointer (some ⟨S, 0, none⟩), .agg #[v]] w fun e w' => e = .returned (.int .i64 c) ∧ Sys w' S P X f L m ∧ Keep (SP S P) w w' := by
  obtain ⟨W1, hW1⟩ : ∃ x, w.alloc (.cells #[v] 24) = x := ⟨_, rfl⟩
  have hb1 : Below w.heap.size w W1 := by rw [← hW1]; exact (Below.refl _ _).alloc (Nat.le_refl _) _
  have bP : Boxed W1 w.heap.size 24 v := by rw [← hW1]; exact Boxed.new w _ _
  have HS := Lib.hid (Start_bad v l i c hc h0 W1 (h.later hb1))
  obtain ⟨vs, sV⟩ := hs
  have HM := Lib.hid (made_yes S P vs _ _ W1 (sV.box.later hb1))
  have q1 := bP.cell
  have hq : (c != 0) = true := by simpa using h0
  clear hc h0
  go_enter Try.func23, Try.ntmps23
  go_wp2_with fail
  try rw [hW1]
  refine HM.out.mono ?_
  rintro e w' ⟨rfl, rfl⟩
  go_wp2_with fail
  refine HS.out.mono ?_
  rintro e w1 ⟨rfl, B1⟩
  obtain ⟨W2, hW2, hb2, sN⟩ := zero_state w1
  have hB1 := hb1.trans (B1.mono hb1.size)
  have hB2 := hB1.trans (hb2.mono hB1.size)
  clear hW1
  go_wp2_with (first | rw [hW2] | refine wpList_store_row rfl 45 _ _ rfl w1.heap.size (stA (.slice none 0 0) zer zer) rfl rfl 45 _ sN (st_i _ _ _) rfl (stA_one _ rfl _ _) ?_)
  go_ret
  have hB3 := below_row hB2 w1.heap.size hB1.size (stA (.slice none 0 0) zer zer)
  exact ⟨rfl, ⟨vs, sV.later hB3⟩, Keep.of_below hB3⟩
set_option maxRecDepth 100000 in
set_option maxHeartbeats 2000000 in
theorem Plan_ok (S P : Nat) (X : Nat → Prop) (f : Pages) (L : List Ru) (m : Nat → Nat) (v : Value) (L' : List Ru) (hL : OkL L') (w : World) (hs : Sys w S P X f L m) (h : RAt w v (toI L')) :
    Calls Try.prog 23 #[.pointer (some ⟨S, 0, none⟩), .agg #[v]] w fun e w' => e = .returned (.int .i64 0) ∧ Sys w' S P X f L' (fun _ => 0) ∧ Keep (SP S P) w w' := by
  obtain ⟨W1, hW1⟩ : ∃ x, w.alloc (.cells #[v] 24) = x := ⟨_, rfl⟩
  have hb1 : Below w.heap.size w W1 := by rw [← hW1]; exact (Below.refl _ _).alloc (Nat.le_refl _) _
  have bP : Boxed W1 w.heap.size 24 v := by rw [← hW1]; exact Boxed.new w _ _
  have HS := Lib.hid (Start_ok v L' hL W1 (h.later hb1))
  obtain ⟨vs, sV⟩ := hs
  have HM := Lib.hid (made_yes S P vs _ _ W1 (sV.box.later hb1))
  have q1 := bP.cell
  go_enter Try.func23, Try.ntmps23
  go_wp2_with fail
  try rw [hW1]
  refine HM.out.mono ?_
  rintro e w' ⟨rfl, rfl⟩
  go_wp2_with fail
  refine HS.out.mono ?_
  rintro e w1 ⟨u, rfl, hru, hfr, B1⟩
  obtain ⟨W2, hW2, hb2, sN⟩ := zero_state w1
  have hB1 := hb1.trans (B1.mono hb1.size)
  have hB2 := hB1.trans (hb2.mono hB1.size)
  have hu1 := hru.one
  have hr2 := hru.later hb2
  have sM := sN.row u zer zer
  have hB3 := below_row hB2 w1.heap.size hB1.size (stA u zer zer)
  have s3 := sV.later hB3
  have htS := s3.box.there
  have hone : (stA u zer zer).all (·.oneCell') = true := stA_one u hu1 _ _
  clear hW1
  go_wp2_with (first | rw [hW2] | refine wpList_store_row rfl 45 _ _ rfl w1.heap.size (stA u zer zer) rfl rfl 45 _ sN (st_i _ _ _) rfl hone ?_ | refine wpList_load_row rfl 45 _ rfl w1.heap.size rfl 45 _ (0, 0) _ sM Try.underlying45 rfl (st_i _ _ _) ?_ | refine wpList_store_mid rfl 45 _ _ rfl S 1 (stA u zer zer) rfl rfl htS (st_i _ _ _) hone ?_)
  go_ret
  have hK1 : Keep (· = S) (W2.setRow w1.heap.size (stA u zer zer)) ((W2.setRow w1.heap.size (stA u zer zer)).setCells S 1 (stA u zer zer).toList) := Keep.setCells (q := (· = S)) S (.inl rfl) _ _ _ (Keep.refl _ _)
  have hS0 := sV.box.lt
  have hP0 := sV.pg.lt
  have hz1 := hb1.size
  have hr3 : RAt (W2.setRow w1.heap.size (stA u zer zer)) u (toI L') := hr2.row (b := w1.heap.size) _ (fun e => by have := hfr _ e; omega)
  refine ⟨rfl, ⟨u, by rw [ci0, hf0 L' hL]; exact s3.box.put u zer zer, s3.pg.keep hK1 (fun e => s3.ne e.symm), hr3.keep hK1 (fun b hb e => by have := hfr b (obk_own hb); omega), s3.ne, fun b hb => ?_, fun b hb => ⟨Nat.lt_of_lt_of_le (s3.far b hb).1 hK1.size, (s3.far b hb).2⟩⟩, (Keep.of_below hB3).trans (hK1.mono fun _ _ h => .inl h)⟩
  have := hfr b hb
  exact ⟨by omega, by omega, fun hX => by have := (sV.far b hX).1; omega⟩
end Go.Proofs.Ytnmeeddhagmjdaa
