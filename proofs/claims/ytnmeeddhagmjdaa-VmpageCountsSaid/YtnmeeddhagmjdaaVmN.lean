/- Systems that were not made. -/
import Derived.Test.YtnmeeddhagmjdaaVmM
namespace Go.Proofs.Ytnmeeddhagmjdaa
open Go.RowKit Go.Shelf
attribute [local go_sem] Oper.semAt_some

/-- The cells of a state of a system. -/
def vsA (r g d v : Value) (c h : Nat → Int) : Array Value := #[r, g, d, v, .int .i64 (c 0), .int .i64 (c 1), .int .i64 (c 2), .int .i64 (c 3), .int .i64 (c 4), .int .i64 (c 5), .int .i64 (c 6), .int .i64 (h 0), .int .i64 (h 1), .int .i64 (h 2), .int .i64 (h 3), .int .i64 (h 4), .int .i64 (h 5), .int .i64 (h 6)]
abbrev vsV (r g d v : Value) (c h : Nat → Int) : Value := .agg (vsA r g d v c h)
abbrev nilS : Value := .slice none 0 0
abbrev zeroS : Value := vsV nilS nilS nilS nilS zer zer
theorem vs_i (r g d v : Value) (c h : Nat → Int) : (Try.prog.info? 47).map (·.size) = some (vsA r g d v c h).size := by show _ = some 18; kernel_rfl
theorem vs_one (r g d v : Value) (c h : Nat → Int) (h1 : r.oneCell' = true) (h2 : g.oneCell' = true) (h3 : d.oneCell' = true) (h4 : v.oneCell' = true) : (vsA r g d v c h).all (·.oneCell') = true := by
  rw [Array.all_eq_true_iff_forall_mem]
  intro x hx
  unfold vsA at hx
  simp at hx
  rcases hx with rfl | rfl | rfl | rfl | hx
  · exact h1
  · exact h2
  · exact h3
  · exact h4
  · rcases hx with rfl | rfl | rfl | rfl | rfl | rfl | rfl | rfl | rfl | rfl | rfl | rfl | rfl | rfl <;> rfl
def VBox (W : World) (b : Nat) (r g d v : Value) (c h : Nat → Int) : Prop := W.heap[b]? = some (.cells (vsA r g d v c h) 47 (0, 0))
theorem VBox.lt {W : World} {b : Nat} {r g d v : Value} {c h : Nat → Int} (s : VBox W b r g d v c h) : b < W.heap.size := (Array.getElem?_eq_some_iff.1 s).1
theorem VBox.later {W V : World} {b : Nat} {r g d v : Value} {c h : Nat → Int} (s : VBox W b r g d v c h) (hb : Below W.heap.size W V) : VBox V b r g d v c h := (hb.block b s.lt).trans s
theorem VBox.cell {W : World} {b : Nat} {r g d v : Value} {c h : Nat → Int} (s : VBox W b r g d v c h) (j : Nat) : W.cell? ⟨b, j, none⟩ = (vsA r g d v c h)[j]? := by unfold VBox at s; simp [World.cell?, s]
theorem VBox.new (W : World) (r g d v : Value) (c h : Nat → Int) : VBox (W.alloc (.cells (vsA r g d v c h) 47)) W.heap.size r g d v c h := World.alloc_heap_new W _
theorem VBox.row {W : World} {b : Nat} {r g d v : Value} {c h : Nat → Int} (s : VBox W b r g d v c h) (r' g' d' v' : Value) (c' h' : Nat → Int) : VBox (W.setRow b (vsA r' g' d' v' c' h')) b r' g' d' v' c' h' := setRow_heap W b _ _ _ _ s
theorem vs_load {W : World} {b : Nat} {r g d v : Value} {c h : Nat → Int} (s : VBox W b r g d v c h) : (loadVar 47 ⟨b, 0, none⟩).run Try.prog W = .ok (.agg (vsA r g d v c h)) W :=
  run_loadVar_row W b 47 47 _ _ _ s Try.underlying47 rfl (vs_i r g d v c h)
theorem VBox.range {W : World} {b : Nat} {r g d v : Value} {c h : Nat → Int} (s : VBox W b r g d v c h) : W.rangeAt b 3 (stA v c h).toList := fun j u hu => by
  rw [s.cell, ← hu, Array.getElem?_toList]
  show (#[_, _, _] ++ stA v c h)[3 + j]? = _
  rw [Array.getElem?_append_right (by simp)]; simp
set_option maxRecDepth 100000 in
theorem Save_no (s : Value) (w : World) (hs : Unmade w s) :
    Calls Try.prog 17 #[s] w fun e w' => e = .returned zeroS ∧ Below w.heap.size w w' := by
  obtain ⟨W1, hW1⟩ : ∃ x, w.alloc (.cells #[nilS, nilS, nilS, nilS, .int .i64 0, .int .i64 0, .int .i64 0, .int .i64 0, .int .i64 0, .int .i64 0, .int .i64 0, .int .i64 0, .int .i64 0, .int .i64 0, .int .i64 0, .int .i64 0, .int .i64 0, .int .i64 0] 47) = x := ⟨_, rfl⟩
  have hb1 : Below w.heap.size w W1 := by rw [← hW1]; exact (Below.refl _ _).alloc (Nat.le_refl _) _
  have bN : VBox W1 w.heap.size nilS nilS nilS nilS zer zer := by rw [← hW1]; exact VBox.new w nilS nilS nilS nilS zer zer
  have HM := Lib.hid (made_no s W1 (hs.later hb1))
  have hone := vs_one nilS nilS nilS nilS zer zer rfl rfl rfl rfl
  clear hs
  go_enter Try.func17, Try.ntmps17
  go_wp2_with fail
  try rw [hW1]
  refine HM.out.mono ?_
  rintro e w' ⟨rfl, rfl⟩
  go_wp2_with (refine wpList_store_row rfl 47 _ _ rfl w.heap.size (vsA nilS nilS nilS nilS zer zer) rfl rfl 47 _ bN (vs_i _ _ _ _ _ _) rfl hone ?_)
  have hld := vs_load (bN.row nilS nilS nilS nilS zer zer)
  exact bodyPost_ret (v := zeroS) (by simp [results, Try.results17, asAddr, Act.put, hld]) rfl ⟨rfl, below_row hb1 _ (by omega) _⟩
set_option maxRecDepth 100000 in
theorem Plan_no (s r : Value) (w : World) (hs : Unmade w s) :
    Calls Try.prog 23 #[s, .agg #[r]] w (NilE w) := by
  obtain ⟨W1, hW1⟩ : ∃ x, w.alloc (.cells #[r] 24) = x := ⟨_, rfl⟩
  have hb1 : Below w.heap.size w W1 := by rw [← hW1]; exact (Below.refl _ _).alloc (Nat.le_refl _) _
  have HM := Lib.hid (made_no s W1 (hs.later hb1))
  clear hs
  go_enter Try.func23, Try.ntmps23
  go_wp2_with fail
  try rw [hW1]
  refine HM.out.mono ?_
  rintro e w' ⟨rfl, rfl⟩
  go_wp2_with fail
  go_ret
  exact ⟨rfl, hb1⟩
/-- A call as data. -/
abbrev acA (q a n t b : Int) (r : Value) : Array Value := #[.int .u8 q, .int .i64 a, .int .i64 n, .int .i64 t, .int .u8 b, r]
def ABx (W : World) (g : Nat) (q a n t b : Int) (r : Value) : Prop := W.heap[g]? = some (.cells (acA q a n t b r) 38 (0, 0))
theorem ABx.lt {W : World} {g : Nat} {q a n t b : Int} {r : Value} (s : ABx W g q a n t b r) : g < W.heap.size := (Array.getElem?_eq_some_iff.1 s).1
theorem ABx.later {W V : World} {g : Nat} {q a n t b : Int} {r : Value} (s : ABx W g q a n t b r) (hb : Below W.heap.size W V) : ABx V g q a n t b r := (hb.block g s.lt).trans s
theorem ABx.keep {W V : World} {g : Nat} {q a n t b : Int} {r : Value} {k : Nat → Prop} (s : ABx W g q a n t b r) (hb : Keep k W V) (hk : ¬ k g) : ABx V g q a n t b r := (hb.block g s.lt hk).trans s
theorem ABx.c0 {W : World} {g : Nat} {q a n t b : Int} {r : Value} (s : ABx W g q a n t b r) : W.cell? ⟨g, 0, none⟩ = some (.int .u8 q) := by unfold ABx at s; simp [World.cell?, s]
theorem ABx.c1 {W : World} {g : Nat} {q a n t b : Int} {r : Value} (s : ABx W g q a n t b r) : W.cell? ⟨g, 1, none⟩ = some (.int .i64 a) := by unfold ABx at s; simp [World.cell?, s]
theorem ABx.c2 {W : World} {g : Nat} {q a n t b : Int} {r : Value} (s : ABx W g q a n t b r) : W.cell? ⟨g, 2, none⟩ = some (.int .i64 n) := by unfold ABx at s; simp [World.cell?, s]
theorem ABx.c3 {W : World} {g : Nat} {q a n t b : Int} {r : Value} (s : ABx W g q a n t b r) : W.cell? ⟨g, 3, none⟩ = some (.int .i64 t) := by unfold ABx at s; simp [World.cell?, s]
theorem ABx.c4 {W : World} {g : Nat} {q a n t b : Int} {r : Value} (s : ABx W g q a n t b r) : W.cell? ⟨g, 4, none⟩ = some (.int .u8 b) := by unfold ABx at s; simp [World.cell?, s]
theorem ABx.c5 {W : World} {g : Nat} {q a n t b : Int} {r : Value} (s : ABx W g q a n t b r) : W.cell? ⟨g, 5, none⟩ = some r := by unfold ABx at s; simp [World.cell?, s]
theorem Protect_no (s : Value) (a n : Int) (b : Bool) (w : World) (hs : Unmade w s) : Calls Try.prog 33 #[s, .int .i64 a, .int .i64 n, .bool b] w (NilE w) := by
  cases b
  · exact Unguard_no s a n w hs
  · exact Guard_no s a n w hs
theorem what_cases {q : Int} (h0 : 0 ≤ q) (_ : q < 256) : ∃ k : Nat, k < 19 ∧ q.tmod 19 = (k : Int) := ⟨(q % 19).toNat, by omega, by rw [Int.tmod_eq_emod_of_nonneg h0]; omega⟩
set_option maxRecDepth 100000 in
set_option maxHeartbeats 8000000 in
theorem call_no (s : Value) (q a n t b : Int) (h0 : 0 ≤ q) (h1 : q < 256) (r : Value) (w : World) (hs : Unmade w s) :
    Calls Try.prog 22 #[s, .agg (acA q a n t b r)] w (NilE w) := by
  obtain ⟨W1, hW1⟩ : ∃ x, w.alloc (.cells (acA q a n t b r) 38) = x := ⟨_, rfl⟩
  have hb1 : Below w.heap.size w W1 := by rw [← hW1]; exact (Below.refl _ _).alloc (Nat.le_refl _) _
  have bA : ABx W1 w.heap.size q a n t b r := by rw [← hW1]; exact World.alloc_heap_new w _
  have HS := Lib.hid (hs.later hb1)
  have c0 := bA.c0
  have c1 := bA.c1
  have c2 := bA.c2
  have c3 := bA.c3
  have c4 := bA.c4
  have c5 := bA.c5
  obtain ⟨k, hk, hq⟩ := what_cases h0 h1
  clear hs h0 h1 bA
  go_enter Try.func22, Try.ntmps22
  have hk2 : k = 0 ∨ k = 1 ∨ k = 2 ∨ k = 3 ∨ k = 4 ∨ k = 5 ∨ k = 6 ∨ k = 7 ∨ k = 8 ∨ k = 9 ∨ k = 10 ∨ k = 11 ∨ k = 12 ∨ k = 13 ∨ k = 14 ∨ k = 15 ∨ k = 16 ∨ k = 17 ∨ k = 18 := by omega
  clear hk
  rcases hk2 with rfl | rfl | rfl | rfl | rfl | rfl | rfl | rfl | rfl | rfl | rfl | rfl | rfl | rfl | rfl | rfl | rfl | rfl | rfl
  · go_wp2_with fail
    try rw [hW1]
    refine (Reserve_no s a n W1 HS.out).mono ?_
    rintro e w2 ⟨rfl, B2⟩
    go_wp2_with fail
    go_ret
    exact ⟨rfl, hb1.trans (B2.mono hb1.size)⟩
  · go_wp2_with fail
    try rw [hW1]
    refine (Reserve_no s a n W1 HS.out).mono ?_
    rintro e w2 ⟨rfl, B2⟩
    go_wp2_with fail
    go_ret
    exact ⟨rfl, hb1.trans (B2.mono hb1.size)⟩
  · go_wp2_with fail
    try rw [hW1]
    refine (Release_no s a n W1 HS.out).mono ?_
    rintro e w2 ⟨rfl, B2⟩
    go_wp2_with fail
    go_ret
    exact ⟨rfl, hb1.trans (B2.mono hb1.size)⟩
  · go_wp2_with fail
    try rw [hW1]
    refine (Commit_no s a n W1 HS.out).mono ?_
    rintro e w2 ⟨rfl, B2⟩
    go_wp2_with fail
    go_ret
    exact ⟨rfl, hb1.trans (B2.mono hb1.size)⟩
  · go_wp2_with fail
    try rw [hW1]
    refine (Commit_no s a n W1 HS.out).mono ?_
    rintro e w2 ⟨rfl, B2⟩
    go_wp2_with fail
    go_ret
    exact ⟨rfl, hb1.trans (B2.mono hb1.size)⟩
  · go_wp2_with fail
    try rw [hW1]
    refine (Commit_no s a n W1 HS.out).mono ?_
    rintro e w2 ⟨rfl, B2⟩
    go_wp2_with fail
    go_ret
    exact ⟨rfl, hb1.trans (B2.mono hb1.size)⟩
  · go_wp2_with fail
    try rw [hW1]
    refine (Decommit_no s a n W1 HS.out).mono ?_
    rintro e w2 ⟨rfl, B2⟩
    go_wp2_with fail
    go_ret
    exact ⟨rfl, hb1.trans (B2.mono hb1.size)⟩
  · go_wp2_with fail
    try rw [hW1]
    refine (Decommit_no s a n W1 HS.out).mono ?_
    rintro e w2 ⟨rfl, B2⟩
    go_wp2_with fail
    go_ret
    exact ⟨rfl, hb1.trans (B2.mono hb1.size)⟩
  · go_wp2_with fail
    try rw [hW1]
    refine (Protect_no s a n _ W1 HS.out).mono ?_
    rintro e w2 ⟨rfl, B2⟩
    go_wp2_with fail
    go_ret
    exact ⟨rfl, hb1.trans (B2.mono hb1.size)⟩
  · go_wp2_with fail
    try rw [hW1]
    refine (Protect_no s a n _ W1 HS.out).mono ?_
    rintro e w2 ⟨rfl, B2⟩
    go_wp2_with fail
    go_ret
    exact ⟨rfl, hb1.trans (B2.mono hb1.size)⟩
  · go_wp2_with fail
    try rw [hW1]
    refine (Join_no s a W1 HS.out).mono ?_
    rintro e w2 ⟨rfl, B2⟩
    go_wp2_with fail
    go_ret
    exact ⟨rfl, hb1.trans (B2.mono hb1.size)⟩
  · go_wp2_with fail
    try rw [hW1]
    refine (Join_no s a W1 HS.out).mono ?_
    rintro e w2 ⟨rfl, B2⟩
    go_wp2_with fail
    go_ret
    exact ⟨rfl, hb1.trans (B2.mono hb1.size)⟩
  · go_wp2_with fail
    try rw [hW1]
    refine (Split_no s a W1 HS.out).mono ?_
    rintro e w2 ⟨rfl, B2⟩
    go_wp2_with fail
    go_ret
    exact ⟨rfl, hb1.trans (B2.mono hb1.size)⟩
  · go_wp2_with fail
    try rw [hW1]
    refine (Write_no s t b W1 HS.out).mono ?_
    rintro e w2 ⟨rfl, B2⟩
    go_wp2_with fail
    go_ret
    exact ⟨rfl, hb1.trans (B2.mono hb1.size)⟩
  · go_wp2_with fail
    try rw [hW1]
    refine (Write_no s t b W1 HS.out).mono ?_
    rintro e w2 ⟨rfl, B2⟩
    go_wp2_with fail
    go_ret
    exact ⟨rfl, hb1.trans (B2.mono hb1.size)⟩
  · go_wp2_with fail
    try rw [hW1]
    refine (Write_no s t b W1 HS.out).mono ?_
    rintro e w2 ⟨rfl, B2⟩
    go_wp2_with fail
    go_ret
    exact ⟨rfl, hb1.trans (B2.mono hb1.size)⟩
  · go_wp2_with fail
    try rw [hW1]
    refine (Plan_no s r W1 HS.out).mono ?_
    rintro e w2 ⟨rfl, B2⟩
    go_wp2_with fail
    go_ret
    exact ⟨rfl, hb1.trans (B2.mono hb1.size)⟩
  · go_wp2_with fail
    try rw [hW1]
    refine (Plan_no s r W1 HS.out).mono ?_
    rintro e w2 ⟨rfl, B2⟩
    go_wp2_with fail
    go_ret
    exact ⟨rfl, hb1.trans (B2.mono hb1.size)⟩
  · go_wp2_with fail
    try rw [hW1]
    refine (Plan_no s r W1 HS.out).mono ?_
    rintro e w2 ⟨rfl, B2⟩
    go_wp2_with fail
    go_ret
    exact ⟨rfl, hb1.trans (B2.mono hb1.size)⟩
/-- The cells of the zero system. -/
def ZSy (W : World) (g : Nat) : Prop := W.heap[g]? = some (.cells #[nilS, nilS, .int .i64 0, .int .i64 0, .int .i64 0, .int .i64 0, .int .i64 0, .int .i64 0, .int .i64 0, .int .i64 0, .int .i64 0, .int .i64 0, .int .i64 0, .int .i64 0, .int .i64 0, .int .i64 0] 79 (0, 0))
theorem neq5 (a b c d e : Int) (w : World) : (Go.binOp .neq 67 (.agg #[.int .i64 a, .int .i64 b, .int .i64 c, .int .i64 d, .int .i64 e]) (.agg #[.int .i64 a, .int .i64 b, .int .i64 c, .int .i64 d, .int .i64 e])).run Try.prog w = Result.ok (.bool false) w := by
  have ht : Try.prog.underlying 67 = some (.struct (Try.prog.fieldsOf 67)) := by kernel_rfl
  have hp : Try.prog.stoodInHeld 67 = false := by kernel_rfl
  obtain ⟨f0, f1, f2, f3, f4, hu, o0, o1, o2, o3, o4, t0, t1, t2, t3, t4⟩ : ∃ f0 f1 f2 f3 f4 : Field, Try.prog.underlying 67 = some (.struct #[f0, f1, f2, f3, f4]) ∧ f0.offset = 0 ∧ f1.offset = 1 ∧ f2.offset = 2 ∧ f3.offset = 3 ∧ f4.offset = 4 ∧ f0.type = 3 ∧ f1.type = 3 ∧ f2.type = 3 ∧ f3.type = 3 ∧ f4.type = 3 :=
    ⟨_, _, _, _, _, Try.underlying67, rfl, rfl, rfl, rfl, rfl, rfl, rfl, rfl, rfl, rfl⟩
  have hf : Try.prog.fieldsOf 67 = #[f0, f1, f2, f3, f4] := by
    have := ht.symm.trans hu
    simpa using this
  rw [run_neq_struct, run_equalIn_agg w 9999 67 _ _ ht hp, hf, eqF]
  · rfl
  · intro f hm
    simp at hm
    rcases hm with rfl | rfl | rfl | rfl | rfl
    · exact ⟨t0, a, fun W => by rw [t0, o0]; kernel_rfl⟩
    · exact ⟨t1, b, fun W => by rw [t1, o1]; kernel_rfl⟩
    · exact ⟨t2, c, fun W => by rw [t2, o2]; kernel_rfl⟩
    · exact ⟨t3, d, fun W => by rw [t3, o3]; kernel_rfl⟩
    · exact ⟨t4, e, fun W => by rw [t4, o4]; kernel_rfl⟩

set_option maxRecDepth 100000 in
set_option maxHeartbeats 4000000 in
theorem Same_zero (w : World) : Calls Try.prog 16 #[zeroS, zeroS] w fun e w' => e = .returned (.bool true) ∧ Below w.heap.size w w' := by
  obtain ⟨W1, hW1⟩ : ∃ x, (w.alloc (.cells (vsA nilS nilS nilS nilS zer zer) 47)).alloc (.cells (vsA nilS nilS nilS nilS zer zer) 47) = x := ⟨_, rfl⟩
  have hb1 : Below w.heap.size w W1 := by rw [← hW1]; exact ((Below.refl _ _).alloc (Nat.le_refl _) _).alloc (by simp) _
  have b1 : VBox W1 w.heap.size nilS nilS nilS nilS zer zer := by rw [← hW1]; exact (Below.heap_alloc _ _ _ (by simp)).trans (VBox.new w nilS nilS nilS nilS zer zer)
  have b2 : VBox W1 (w.heap.size + 1) nilS nilS nilS nilS zer zer := by
    have := VBox.new (w.alloc (.cells (vsA nilS nilS nilS nilS zer zer) 47)) nilS nilS nilS nilS zer zer
    rw [World.size_alloc] at this
    rw [← hW1]; exact this
  have p0 := b1.cell 0
  have p1 := b1.cell 1
  have p2 := b1.cell 2
  have p3 := b1.cell 3
  have p4 := b1.cell 4
  have p5 := b1.cell 5
  have p6 := b1.cell 6
  have p7 := b1.cell 7
  have p8 := b1.cell 8
  have p9 := b1.cell 9
  have p10 := b1.cell 10
  have p11 := b1.cell 11
  have p12 := b1.cell 12
  have p13 := b1.cell 13
  have p14 := b1.cell 14
  have p15 := b1.cell 15
  have p16 := b1.cell 16
  have p17 := b1.cell 17
  have q0 := b2.cell 0
  have q1 := b2.cell 1
  have q2 := b2.cell 2
  have q3 := b2.cell 3
  have q4 := b2.cell 4
  have q5 := b2.cell 5
  have q6 := b2.cell 6
  have q7 := b2.cell 7
  have q8 := b2.cell 8
  have q9 := b2.cell 9
  have q10 := b2.cell 10
  have q11 := b2.cell 11
  have q12 := b2.cell 12
  have q13 := b2.cell 13
  have q14 := b2.cell 14
  have q15 := b2.cell 15
  have q16 := b2.cell 16
  have q17 := b2.cell 17
  simp only [vsA, zer] at p0 p1 p2 p3 p4 p5 p6 p7 p8 p9 p10 p11 p12 p13 p14 p15 p16 p17 q0 q1 q2 q3 q4 q5 q6 q7 q8 q9 q10 q11 q12 q13 q14 q15 q16 q17
  simp at p0 p1 p2 p3 p4 p5 p6 p7 p8 p9 p10 p11 p12 p13 p14 p15 p16 p17 q0 q1 q2 q3 q4 q5 q6 q7 q8 q9 q10 q11 q12 q13 q14 q15 q16 q17
  have HS := Lib.hid (SameState_is nilS nilS zer zer [] W1 (nil_at _) (nil_at _))
  go_enter Try.func16, Try.ntmps16
  go_wp2_with fail
  try rw [hW1]
  refine HS.out.mono ?_
  rintro e w1 ⟨rfl, B1⟩
  have p0 := cell_later B1 p0
  have p1 := cell_later B1 p1
  have p2 := cell_later B1 p2
  have hB := hb1.trans (B1.mono hb1.size)
  go_wp2_with fail
  refine wp_loop_once ?_
  go_wp2_with fail
  refine wp_loop_once ?_
  go_wp2_with fail
  refine wp_loop_once ?_
  go_wp2_with fail
  go_ret
  exact ⟨rfl, hB⟩
end Go.Proofs.Ytnmeeddhagmjdaa
