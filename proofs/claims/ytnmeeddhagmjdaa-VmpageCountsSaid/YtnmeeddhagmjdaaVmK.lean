/- Kinds of pages; systems are made. -/
import Derived.Test.YtnmeeddhagmjdaaVmJ
import Derived.Deep.RegionHeld3
namespace Go.Proofs.Ytnmeeddhagmjdaa
open Go.RowKit Go.Shelf
attribute [local go_sem] Oper.semAt_some

theorem zeroCells_size : Try.zeroCells104.size = 66 := by kernel_rfl
theorem areB_one {a : Int} (h : areB a 1 = true) : ∃ j : Nat, a = (j : Int) ∧ j < 1024 := by obtain ⟨j, y, h1, h2, h3, h4⟩ := areB_nat h; exact ⟨j, h1, by omega⟩
/-- What Kind answers. -/
def knE (f : Pages) (a : Int) : Int × Bool × Int := if areB a 1 = true then ((f a.toNat).kd, (f a.toNat).hu, 0) else (0, false, 7)
set_option maxRecDepth 100000 in
theorem Kind_no (s : Value) (a : Int) (w : World) (hs : Unmade w s) :
    Calls Try.prog 26 #[s, .int .i64 a] w fun e w' => e = .returned (.tuple #[.int .i64 0, .bool false, .int .i64 1]) ∧ w = w' := by
  have HM := Lib.hid (made_no s w hs)
  clear hs
  go_enter Try.func26, Try.ntmps26
  go_wp2_with fail
  refine HM.out.mono ?_
  rintro e w' ⟨rfl, rfl⟩
  go_wp2_with fail
  go_ret3
  exact ⟨rfl, rfl⟩
set_option maxRecDepth 100000 in
theorem Kind_is (S P : Nat) (v : Value) (c h : Nat → Int) (f : Pages) (a : Int) (ha : I64 a) (w : World) (hs : SyBox w S P v c h) (hp : PgAt w P f) (r : Int × Bool × Int) (hr : knE f a = r) :
    Calls Try.prog 26 #[.pointer (some ⟨S, 0, none⟩), .int .i64 a] w fun e w' => e = .returned (.tuple #[.int .i64 r.1, .bool r.2.1, .int .i64 r.2.2]) ∧ Below w.heap.size w w' := by
  have HM := Lib.hid (made_yes S P v c h w hs)
  unfold knE at hr
  obtain ⟨b, hb⟩ : ∃ b, areB a 1 = b := ⟨_, rfl⟩
  have HA := Lib.hid (arePages_is a 1 ha b hb w)
  rw [hb] at hr
  cases b
  · rw [if_neg (by simp)] at hr
    subst hr
    clear hb
    go_enter Try.func26, Try.ntmps26
    go_wp2_with fail
    refine HM.out.mono ?_
    rintro e w' ⟨rfl, rfl⟩
    go_wp2_with fail
    refine HA.out.mono ?_
    rintro e w' ⟨rfl, rfl⟩
    go_wp2_with fail
    go_ret3
    exact ⟨rfl, Below.refl _ _⟩
  · obtain ⟨j, rfl, hj⟩ := areB_one hb
    rw [if_pos rfl, Int.toNat_natCast] at hr
    have hj1 : (j : Int) < 1024 := by omega
    have c0 := hs.pages
    have hrg := hp.range j hj
    have hR := Lib.hid hr
    obtain ⟨p, hpj⟩ : ∃ p, f j = p := ⟨_, rfl⟩
    rw [hpj] at hrg hR
    have hpi : (Try.prog.info? 104).map (·.size) = some (pgL p).length := by rw [pgL_len]; kernel_rfl
    obtain ⟨W1, hW1⟩ : ∃ x, w.alloc (.cells Try.zeroCells104 104) = x := ⟨_, rfl⟩
    have hb1 : Below w.heap.size w W1 := by rw [← hW1]; exact (Below.refl _ _).alloc (Nat.le_refl _) _
    have hg1 : W1.heap[w.heap.size]? = some (.cells Try.zeroCells104 104 (0, 0)) := by rw [← hW1]; exact World.alloc_heap_new w _
    have hzs : Try.zeroCells104.size = (pgL p).toArray.size := zeroCells_size.trans (by rw [List.size_toArray, pgL_len])
    have hone := all_oneCell_toArray (pgL_one p)
    have hg2 := setRow_heap W1 w.heap.size _ (pgL p).toArray _ _ hg1
    have k0 : (W1.setRow w.heap.size (pgL p).toArray).cell? ⟨w.heap.size, 0, none⟩ = some (.int .i64 p.kd) := by simp only [World.cell?, hg2]; unfold pgL; simp
    have k1 : (W1.setRow w.heap.size (pgL p).toArray).cell? ⟨w.heap.size, 1, none⟩ = some (.bool p.hu) := by simp only [World.cell?, hg2]; unfold pgL; simp
    clear hb hr hpj
    go_enter Try.func26, Try.ntmps26
    go_wp2_with fail
    refine HM.out.mono ?_
    rintro e w' ⟨rfl, rfl⟩
    go_wp2_with fail
    refine HA.out.mono ?_
    rintro e w' ⟨rfl, rfl⟩
    go_wp2_with (first | rw [hW1] | refine wpList_load_mid rfl 104 _ rfl P (j * 66) rfl (pgL p) _ hrg Try.underlying104 rfl hpi ?_ | refine wpList_store_row rfl 104 _ _ rfl w.heap.size (pgL p).toArray rfl rfl 104 _ hg1 (page_i _) hzs hone ?_)
    go_quiet (fail)
    go_wp2_with fail
    go_ret3
    rw [← hR.out]
    exact ⟨rfl, below_drewN (below_row hb1 _ (by omega) _) _⟩
noncomputable def zeroPages : Array Value := madeCells Try.zeroCells104 (1024 * 66)
def freeF : Pages := fun _ => freeP
theorem zeroCells_is : Try.zeroCells104 = (pgL freeP).toArray := by kernel_rfl
theorem zeroPages_row : PgRow zeroPages freeF := by
  have hz := zeroCells_size
  have hat : ∀ i, i < 67584 → zeroPages[i]? = some ((Try.zeroCells104 : Array Value)[i % 66]!) := fun i hi => by
    unfold zeroPages madeCells
    rw [Array.getElem?_map, Array.getElem?_range, if_pos (by omega), hz, Option.map_some]
  have hget : ∀ (i : Nat) (u : Value), (pgL freeP)[i]? = some u → (Try.zeroCells104 : Array Value)[i]! = u := fun i u hu => by
    rw [zeroCells_is, getElem!_def, List.getElem?_toArray, hu]
  refine ⟨by unfold zeroPages; rw [size_madeCells], fun j hj => ⟨?_, ?_, fun k hk => ?_⟩⟩
  · rw [hat _ (by omega), show 66 * j % 66 = 0 by omega, hget 0 (.int .i64 0) (by unfold pgL freeP; rfl)]; rfl
  · rw [hat _ (by omega), show (66 * j + 1) % 66 = 1 by omega, hget 1 (.bool false) (by unfold pgL freeP; rfl)]; rfl
  · rw [hat _ (by omega), show (66 * j + 2 + k) % 66 = 2 + k by omega, hget (2 + k) (.int .u8 0) (by rw [pgL_by _ k hk]; rfl)]; rfl
theorem Try.infoPg : (Try.prog.info? 104).map (fun i => (i.zero, i.size, i.bytes)) = some (some (.agg Try.zeroCells104), 66, 80) := by kernel_rfl
theorem run_make_pages (W : World) : (Instr.makeSlice 77 (.int .i64 1024) (.int .i64 1024)).run Try.prog W = .ok (.slice (some ⟨W.heap.size, 0, none⟩) 1024 1024) (W.alloc (.cells zeroPages 104)) := by
  obtain ⟨i0, hi, hz0, hz1, hz2⟩ := info_parts Try.infoPg
  have hr := run_make (P := Try.prog) W 77 104 i0 _ Try.underlying77 hi hz0 .i64 .i64 1024 1024 (by omega) (Int.le_refl _) (by rw [hz2]; omega) (by omega)
  rw [hz1] at hr
  exact hr
theorem pages_made : ∃ Z : Array Value, (∀ W : World, (Instr.makeSlice 77 (.int .i64 1024) (.int .i64 1024)).run Try.prog W = .ok (.slice (some ⟨W.heap.size, 0, none⟩) 1024 1024) (W.alloc (.cells Z 104))) ∧ PgRow Z freeF := ⟨zeroPages, run_make_pages, zeroPages_row⟩
set_option maxRecDepth 100000 in
set_option maxHeartbeats 2000000 in
theorem unused_is (v : Value) (c h : Nat → Int) (w : World) :
    Calls Try.prog 38 #[stV v c h] w fun e w' => e = .returned (.pointer (some ⟨w.heap.size + 2, 0, none⟩)) ∧ SyBox w' (w.heap.size + 2) (w.heap.size + 1) v c h ∧ PgAt w' (w.heap.size + 1) freeF ∧ Below w.heap.size w w' := by
  obtain ⟨W1, hW1⟩ : ∃ x, w.alloc (.cells (stA v c h) 45) = x := ⟨_, rfl⟩
  have sS : SBox W1 w.heap.size v c h := by rw [← hW1]; exact SBox.new w v c h
  obtain ⟨Z, hmk, hZ⟩ := pages_made
  go_enter Try.func38, Try.ntmps38
  go_wp2_with fail
  try rw [hW1]
  have e0 := sS.cell 0
  have e1 := sS.cell 1
  have e2 := sS.cell 2
  have e3 := sS.cell 3
  have e4 := sS.cell 4
  have e5 := sS.cell 5
  have e6 := sS.cell 6
  have e7 := sS.cell 7
  have e8 := sS.cell 8
  have e9 := sS.cell 9
  have e10 := sS.cell 10
  have e11 := sS.cell 11
  have e12 := sS.cell 12
  have e13 := sS.cell 13
  have e14 := sS.cell 14
  simp only [stA] at e0 e1 e2 e3 e4 e5 e6 e7 e8 e9 e10 e11 e12 e13 e14
  simp at e0 e1 e2 e3 e4 e5 e6 e7 e8 e9 e10 e11 e12 e13 e14
  first | go_region_held3 (fun W => W.cell? ⟨w.heap.size, 0, none⟩ = some v ∧ W.cell? ⟨w.heap.size, 1, none⟩ = some (.int .i64 (c 0)) ∧ W.cell? ⟨w.heap.size, 2, none⟩ = some (.int .i64 (c 1)) ∧ W.cell? ⟨w.heap.size, 3, none⟩ = some (.int .i64 (c 2)) ∧ W.cell? ⟨w.heap.size, 4, none⟩ = some (.int .i64 (c 3)) ∧ W.cell? ⟨w.heap.size, 5, none⟩ = some (.int .i64 (c 4)) ∧ W.cell? ⟨w.heap.size, 6, none⟩ = some (.int .i64 (c 5)) ∧ W.cell? ⟨w.heap.size, 7, none⟩ = some (.int .i64 (c 6)) ∧ W.cell? ⟨w.heap.size, 8, none⟩ = some (.int .i64 (h 0)) ∧ W.cell? ⟨w.heap.size, 9, none⟩ = some (.int .i64 (h 1)) ∧ W.cell? ⟨w.heap.size, 10, none⟩ = some (.int .i64 (h 2)) ∧ W.cell? ⟨w.heap.size, 11, none⟩ = some (.int .i64 (h 3)) ∧ W.cell? ⟨w.heap.size, 12, none⟩ = some (.int .i64 (h 4)) ∧ W.cell? ⟨w.heap.size, 13, none⟩ = some (.int .i64 (h 5)) ∧ W.cell? ⟨w.heap.size, 14, none⟩ = some (.int .i64 (h 6))) (go_keep) (fail) | fail
  all_goals (go_wp2_with fail)
  rename_i hH
  clear hH e0 e1 e2 e3 e4 e5 e6 e7 e8 e9 e10 e11 e12 e13 e14 hmk
  go_ret
  have hz : W1.heap.size = w.heap.size + 1 := by rw [← hW1]; simp
  have hb1 : Below w.heap.size w W1 := by rw [← hW1]; exact (Below.refl _ _).alloc (Nat.le_refl _) _
  have g1 := World.alloc_heap_new (W1.alloc (.cells Z 104)) (.cells (syA W1.heap.size v c h) 79)
  have g2 := (World.alloc_heap_new W1 (.cells Z 104))
  have g3 := (Below.heap_alloc (W1.alloc (.cells Z 104)) (.cells (syA W1.heap.size v c h) 79) W1.heap.size (by simp)).trans g2
  rw [World.size_alloc] at g1
  rw [hz] at g1 g3 ⊢
  refine ⟨rfl, g1, ⟨Z, g3, hZ⟩, ?_⟩
  have hb3 := ((hb1.alloc hb1.size (.cells Z 104)).alloc (by rw [World.size_alloc]; omega) (.cells (syA W1.heap.size v c h) 79))
  rw [hz] at hb3
  exact hb3.trans ⟨rfl, rfl, rfl, Nat.le_refl _, fun _ _ => rfl⟩
theorem ci0 : ci (fun _ => 0) = zer := by funext k; rfl
theorem hf0 (L : List Ru) (hL : OkL L) : ci (hf L fun _ => 0) = zer := by
  funext k
  have := hitN_le L k 0 hL.2
  show ((hitN L k 0 : Nat) : Int) = 0
  omega
set_option maxRecDepth 100000 in
set_option maxHeartbeats 2000000 in
theorem New_bad (v : Value) (l : List RlI) (i : Nat) (c : Int) (hc : chkP l = (i, c)) (h0 : c ≠ 0) (w : World) (h : RAt w v l) :
    Calls Try.prog 13 #[.agg #[v]] w fun e w' => e = .returned (.tuple #[.pointer none, .int .i64 c]) ∧ Below w.heap.size w w' := by
  obtain ⟨W1, hW1⟩ : ∃ x, w.alloc (.cells #[v] 24) = x := ⟨_, rfl⟩
  have hb1 : Below w.heap.size w W1 := by rw [← hW1]; exact (Below.refl _ _).alloc (Nat.le_refl _) _
  have bP : Boxed W1 w.heap.size 24 v := by rw [← hW1]; exact Boxed.new w _ _
  have HS := Lib.hid (Start_bad v l i c hc h0 W1 (h.later hb1))
  have q1 := bP.cell
  have hq : (c != 0) = true := by simpa using h0
  clear hc h0
  go_enter Try.func13, Try.ntmps13
  go_wp2_with fail
  try rw [hW1]
  refine HS.out.mono ?_
  rintro e w1 ⟨rfl, B1⟩
  obtain ⟨W2, hW2⟩ : ∃ x, w1.alloc (.cells #[.slice none 0 0, .int .i64 0, .int .i64 0, .int .i64 0, .int .i64 0, .int .i64 0, .int .i64 0, .int .i64 0, .int .i64 0, .int .i64 0, .int .i64 0, .int .i64 0, .int .i64 0, .int .i64 0, .int .i64 0] 45) = x := ⟨_, rfl⟩
  have hB1 := hb1.trans (B1.mono hb1.size)
  have hb2 : Below w1.heap.size w1 W2 := by rw [← hW2]; exact (Below.refl _ _).alloc (Nat.le_refl _) _
  have sN : SBox W2 w1.heap.size (.slice none 0 0) zer zer := by rw [← hW2]; exact SBox.new w1 (.slice none 0 0) zer zer
  have hB2 := hB1.trans (hb2.mono hB1.size)
  clear hW1
  go_wp2_with (first | rw [hW2] | refine wpList_store_row rfl 45 _ _ rfl w1.heap.size (stA (.slice none 0 0) zer zer) rfl rfl 45 _ sN (st_i _ _ _) rfl (stA_one _ rfl _ _) ?_)
  go_ret2
  exact ⟨rfl, below_row hB2 _ hB1.size _⟩
set_option maxRecDepth 100000 in
set_option maxHeartbeats 2000000 in
theorem New_ok (v : Value) (L : List Ru) (hL : OkL L) (X : Nat → Prop) (w : World) (hX : ∀ b, X b → b < w.heap.size) (h : RAt w v (toI L)) :
    Calls Try.prog 13 #[.agg #[v]] w fun e w' => ∃ S P, e = .returned (.tuple #[.pointer (some ⟨S, 0, none⟩), .int .i64 0]) ∧ w.heap.size ≤ S ∧ w.heap.size ≤ P ∧ Sys w' S P X freeF L (fun _ => 0) ∧ Below w.heap.size w w' := by
  obtain ⟨W1, hW1⟩ : ∃ x, w.alloc (.cells #[v] 24) = x := ⟨_, rfl⟩
  have hb1 : Below w.heap.size w W1 := by rw [← hW1]; exact (Below.refl _ _).alloc (Nat.le_refl _) _
  have bP : Boxed W1 w.heap.size 24 v := by rw [← hW1]; exact Boxed.new w _ _
  have HS := Lib.hid (Start_ok v L hL W1 (h.later hb1))
  have q1 := bP.cell
  go_enter Try.func13, Try.ntmps13
  go_wp2_with fail
  try rw [hW1]
  refine HS.out.mono ?_
  rintro e w1 ⟨u, rfl, hru, hfr, B1⟩
  obtain ⟨W2, hW2⟩ : ∃ x, w1.alloc (.cells #[.slice none 0 0, .int .i64 0, .int .i64 0, .int .i64 0, .int .i64 0, .int .i64 0, .int .i64 0, .int .i64 0, .int .i64 0, .int .i64 0, .int .i64 0, .int .i64 0, .int .i64 0, .int .i64 0, .int .i64 0] 45) = x := ⟨_, rfl⟩
  have hB1 := hb1.trans (B1.mono hb1.size)
  have hb2 : Below w1.heap.size w1 W2 := by rw [← hW2]; exact (Below.refl _ _).alloc (Nat.le_refl _) _
  have sN : SBox W2 w1.heap.size (.slice none 0 0) zer zer := by rw [← hW2]; exact SBox.new w1 (.slice none 0 0) zer zer
  have hB2 := hB1.trans (hb2.mono hB1.size)
  have hu1 := hru.one
  have hr2 := hru.later hb2
  have sM := sN.row u zer zer
  have hlt1 := sN.lt
  clear hW1
  go_wp2_with (first | rw [hW2] | refine wpList_store_row rfl 45 _ _ rfl w1.heap.size (stA u zer zer) rfl rfl 45 _ sN (st_i _ _ _) rfl (stA_one _ hu1 _ _) ?_ | refine wpList_load_row rfl 45 _ rfl w1.heap.size rfl 45 _ (0, 0) _ sM Try.underlying45 rfl (st_i _ _ _) ?_)
  refine (unused_is u zer zer _).mono ?_
  rintro e w3 ⟨rfl, g1, g2, B3⟩
  go_wp2_with fail
  go_ret2
  simp only [setRow_size] at g1 g2 B3 ⊢
  have hB3 : Below w.heap.size w w3 := (below_row hB2 _ hB1.size _).trans (B3.mono hB2.size)
  have hsz := hb2.size
  have hsz2 := hB2.size
  have hru3 : RAt w3 u (toI L) := (hr2.row (b := w1.heap.size) _ (fun e => by have := hfr _ e; omega)).later (by rw [setRow_size]; exact B3)
  refine ⟨_, _, rfl, by omega, by omega, ⟨u, by rw [ci0, hf0 L hL]; exact g1, g2, hru3, by omega, fun b hb => ?_, fun b hb => ?_⟩, hB3⟩
  · have := hfr b hb
    exact ⟨by omega, by omega, fun hx => by have := hX b hx; have := hb1.size; omega⟩
  · have := hX b hb
    exact ⟨Nat.lt_of_lt_of_le this hB3.size, by omega, by omega⟩
end Go.Proofs.Ytnmeeddhagmjdaa
