/- States in memory; Start. -/
import Derived.Test.YtnmeeddhagmjdaaRfSt
namespace Go.Proofs.Ytnmeeddhagmjdaa
open Go.RowKit Go.Shelf
attribute [local go_sem] Oper.semAt_some

/-- The cells of a state: its plan, the calls, the hits. -/
def stA (v : Value) (c h : Nat → Int) : Array Value := #[v, .int .i64 (c 0), .int .i64 (c 1), .int .i64 (c 2), .int .i64 (c 3), .int .i64 (c 4), .int .i64 (c 5), .int .i64 (c 6), .int .i64 (h 0), .int .i64 (h 1), .int .i64 (h 2), .int .i64 (h 3), .int .i64 (h 4), .int .i64 (h 5), .int .i64 (h 6)]
def upd (c : Nat → Int) (k : Nat) (x : Int) : Nat → Int := fun j => if j = k then x else c j
theorem k7 {k : Nat} (h : k < 7) : k = 0 ∨ k = 1 ∨ k = 2 ∨ k = 3 ∨ k = 4 ∨ k = 5 ∨ k = 6 := by omega
theorem stA_size (v : Value) (c h : Nat → Int) : (stA v c h).size = 15 := rfl
theorem stA_one (v : Value) (hv : v.oneCell' = true) (c h : Nat → Int) : (stA v c h).all (·.oneCell') = true := by
  rw [Array.all_eq_true_iff_forall_mem]
  intro x hx
  unfold stA at hx
  simp at hx
  rcases hx with rfl | hx
  · exact hv
  · rcases hx with rfl | rfl | rfl | rfl | rfl | rfl | rfl | rfl | rfl | rfl | rfl | rfl | rfl | rfl <;> rfl
theorem stA_c (v : Value) (c h : Nat → Int) (k : Nat) (hk : k < 7) : (stA v c h)[1 + k]? = some (.int .i64 (c k)) := by
  rcases k7 hk with rfl | rfl | rfl | rfl | rfl | rfl | rfl <;> rfl
theorem stA_h (v : Value) (c h : Nat → Int) (k : Nat) (hk : k < 7) : (stA v c h)[8 + k]? = some (.int .i64 (h k)) := by
  rcases k7 hk with rfl | rfl | rfl | rfl | rfl | rfl | rfl <;> rfl
theorem stA_setc (v : Value) (c h : Nat → Int) (k : Nat) (hk : k < 7) (x : Int) : (stA v c h).setIfInBounds (1 + k) (.int .i64 x) = stA v (upd c k x) h := by
  rcases k7 hk with rfl | rfl | rfl | rfl | rfl | rfl | rfl <;> rfl
theorem stA_seth (v : Value) (c h : Nat → Int) (k : Nat) (hk : k < 7) (x : Int) : (stA v c h).setIfInBounds (8 + k) (.int .i64 x) = stA v c (upd h k x) := by
  rcases k7 hk with rfl | rfl | rfl | rfl | rfl | rfl | rfl <;> rfl
theorem stA_setv (v u : Value) (c h : Nat → Int) : (stA v c h).setIfInBounds 0 u = stA u c h := rfl
/-- A block that holds a state. -/
def SBox (W : World) (b : Nat) (v : Value) (c h : Nat → Int) : Prop := W.heap[b]? = some (.cells (stA v c h) 45 (0, 0))
theorem SBox.lt {W : World} {b : Nat} {v : Value} {c h : Nat → Int} (s : SBox W b v c h) : b < W.heap.size := (Array.getElem?_eq_some_iff.1 s).1
theorem SBox.later {W V : World} {b : Nat} {v : Value} {c h : Nat → Int} (s : SBox W b v c h) (hb : Below W.heap.size W V) : SBox V b v c h := (hb.block b s.lt).trans s
theorem SBox.cell {W : World} {b : Nat} {v : Value} {c h : Nat → Int} (s : SBox W b v c h) (j : Nat) : W.cell? ⟨b, j, none⟩ = (stA v c h)[j]? := by unfold SBox at s; simp [World.cell?, s]
theorem SBox.v {W : World} {b : Nat} {v : Value} {c h : Nat → Int} (s : SBox W b v c h) : W.cell? ⟨b, 0, none⟩ = some v := s.cell 0
theorem SBox.c {W : World} {b : Nat} {v : Value} {c h : Nat → Int} (s : SBox W b v c h) (k : Nat) (hk : k < 7) : W.cell? ⟨b, 1 + k, none⟩ = some (.int .i64 (c k)) := (s.cell _).trans (stA_c v c h k hk)
theorem SBox.h {W : World} {b : Nat} {v : Value} {c h : Nat → Int} (s : SBox W b v c h) (k : Nat) (hk : k < 7) : W.cell? ⟨b, 8 + k, none⟩ = some (.int .i64 (h k)) := (s.cell _).trans (stA_h v c h k hk)
theorem SBox.frozen {W : World} {b : Nat} {v : Value} {c h : Nat → Int} (s : SBox W b v c h) (j : Nat) : W.frozen? ⟨b, j, none⟩ = false := by unfold SBox at s; simp [World.frozen?, s]
theorem SBox.setc {W : World} {b : Nat} {v : Value} {c h : Nat → Int} (s : SBox W b v c h) (k : Nat) (hk : k < 7) (x : Int) : SBox (W.setCell ⟨b, 1 + k, none⟩ (.int .i64 x)) b v (upd c k x) h := by
  unfold SBox; rw [← stA_setc v c h k hk]; exact heap_setCell_same W b _ _ _ _ s
theorem SBox.seth {W : World} {b : Nat} {v : Value} {c h : Nat → Int} (s : SBox W b v c h) (k : Nat) (hk : k < 7) (x : Int) : SBox (W.setCell ⟨b, 8 + k, none⟩ (.int .i64 x)) b v c (upd h k x) := by
  unfold SBox; rw [← stA_seth v c h k hk]; exact heap_setCell_same W b _ _ _ _ s
theorem SBox.setv {W : World} {b : Nat} {v : Value} {c h : Nat → Int} (s : SBox W b v c h) (u : Value) : SBox (W.setCell ⟨b, 0, none⟩ u) b u c h := by
  unfold SBox; rw [← stA_setv v u c h]; exact heap_setCell_same W b _ _ _ _ s
theorem SBox.other {W : World} {b : Nat} {v : Value} {c h : Nat → Int} (s : SBox W b v c h) {a : Addr} (ha : b ≠ a.block) (u : Value) : SBox (W.setCell a u) b v c h := (Below.heap_setCell _ _ _ _ ha).trans s
theorem SBox.alloc {W : World} {b : Nat} {v : Value} {c h : Nat → Int} (s : SBox W b v c h) (o : Obj) : SBox (W.alloc o) b v c h := (Below.heap_alloc W o b s.lt).trans s
theorem SBox.new (W : World) (v : Value) (c h : Nat → Int) : SBox (W.alloc (.cells (stA v c h) 45)) W.heap.size v c h := World.alloc_heap_new W _
abbrev stV (v : Value) (c h : Nat → Int) : Value := .agg (stA v c h)
def zer : Nat → Int := fun _ => 0

theorem st_i (v : Value) (c h : Nat → Int) : (Try.prog.info? 45).map (·.size) = some (stA v c h).size := by rw [stA_size]; kernel_rfl
theorem st_load {W : World} {b : Nat} {v : Value} {c h : Nat → Int} (s : SBox W b v c h) : (loadVar 45 ⟨b, 0, none⟩).run Try.prog W = .ok (.agg (stA v c h)) W :=
  run_loadVar_row W b 45 45 _ _ _ s Try.underlying45 rfl (st_i v c h)
theorem SBox.row {W : World} {b : Nat} {v : Value} {c h : Nat → Int} (s : SBox W b v c h) (u : Value) (d g : Nat → Int) : SBox (W.setRow b (stA u d g)) b u d g := setRow_heap W b _ _ _ _ s
theorem below_row {B : Nat} {w W : World} (h : Below B w W) (b : Nat) (hb : B ≤ b) (cs : Array Value) : Below B w (W.setRow b cs) :=
  ⟨h.os, h.tape, h.output, by rw [setRow_size]; exact h.size, fun j hj => (setRow_other W b j cs (by omega)).trans (h.block j hj)⟩
theorem RAt.row {W : World} {b : Nat} {u : Value} {l : List RlI} (r : RAt W u l) (cs : Array Value) (hn : u.ownBlock ≠ some b) : RAt (W.setRow b cs) u l := by
  rcases r with h | ⟨g, off, cap, rfl, h1, h2, hc⟩
  · exact .inl h
  · have hg : g ≠ b := fun e => hn (by simp [Value.ownBlock, e])
    refine .inr ⟨g, off, cap, rfl, h1, h2, fun j x hx => ?_⟩
    have := hc j x hx
    have e : ∀ o, (W.setRow b cs).cell? ⟨g, o, none⟩ = W.cell? ⟨g, o, none⟩ := fun o => World.cell?_of_block (w := W) (setRow_other W b g cs hg)
    rw [e, e, e, e]; exact this
theorem start_world (w : World) (v : Value) : ∃ WL, (w.alloc (.cells #[v] 24)).alloc (.cells #[.slice none 0 0, .int .i64 0, .int .i64 0, .int .i64 0, .int .i64 0, .int .i64 0, .int .i64 0, .int .i64 0, .int .i64 0, .int .i64 0, .int .i64 0, .int .i64 0, .int .i64 0, .int .i64 0, .int .i64 0] 45) = WL ∧ Below w.heap.size w WL ∧ Boxed WL w.heap.size 24 v ∧ SBox WL (w.heap.size + 1) (.slice none 0 0) zer zer := by
  refine ⟨_, rfl, ((Below.refl _ _).alloc (Nat.le_refl _) _).alloc (by simp) _, (Boxed.new w _ _).alloc _, ?_⟩
  have := SBox.new (w.alloc (.cells #[v] 24)) (.slice none 0 0) zer zer
  rw [World.size_alloc] at this
  exact this

set_option maxRecDepth 100000 in
set_option maxHeartbeats 1000000 in
theorem Start_bad (v : Value) (l : List RlI) (i : Nat) (c : Int) (hc : chkP l = (i, c)) (h0 : c ≠ 0) (w : World) (h : RAt w v l) :
    Calls Try.prog 37 #[.agg #[v]] w fun e w' => e = .returned (.tuple #[stV (.slice none 0 0) zer zer, .int .i64 c]) ∧ Below w.heap.size w w' := by
  obtain ⟨WL, hWL, hb, bP, sR⟩ := start_world w v
  have HC := Lib.hid (Check_is v l i c hc WL (h.later hb))
  have hq : (c != 0) = true := by simp [h0]
  have q1 := bP.cell
  clear hc h0
  go_enter Try.func37, Try.ntmps37
  go_wp2_with fail
  try rw [hWL]
  refine HC.out.mono ?_
  rintro e w1 ⟨rfl, B1⟩
  have sR1 := sR.later B1
  have hB1 := hb.trans (B1.mono hb.size)
  clear hWL
  go_wp2_with (refine wpList_store_row rfl 45 _ _ rfl (w.heap.size + 1) (stA (.slice none 0 0) zer zer) rfl rfl 45 _ sR1 (st_i _ _ _) rfl (stA_one _ rfl _ _) ?_)
  have sR2 := sR1.row (.slice none 0 0) zer zer
  have hld := st_load sR2
  refine bodyPost_ret (v := .tuple #[stV (.slice none 0 0) zer zer, .int .i64 c]) (by simp [results, Try.results37, asAddr, hld]) rfl ⟨rfl, below_row hB1 _ (by omega) _⟩

set_option maxRecDepth 100000 in
set_option maxHeartbeats 1000000 in
theorem Start_ok (v : Value) (L : List Ru) (hL : OkL L) (w : World) (h : RAt w v (toI L)) :
    Calls Try.prog 37 #[.agg #[v]] w fun e w' => ∃ u, e = .returned (.tuple #[stV u zer zer, .int .i64 0]) ∧ RAt w' u (toI L) ∧ (∀ b, u.ownBlock = some b → w.heap.size ≤ b ∧ b < w'.heap.size) ∧ Below w.heap.size w w' := by
  obtain ⟨WL, hWL, hb, bP, sR⟩ := start_world w v
  have HC := Lib.hid (Check_is v (toI L) 0 0 (chkP_of hL) WL (h.later hb))
  have q1 := bP.cell
  have hl4 : (toI L).length ≤ 4000000 := by rw [toI_len]; have := hL.1; omega
  go_enter Try.func37, Try.ntmps37
  go_wp2_with fail
  try rw [hWL]
  refine HC.out.mono ?_
  rintro e w1 ⟨rfl, B1⟩
  have sR1 := sR.later B1
  have hB1 := hb.trans (B1.mono hb.size)
  have q2 := (bP.kept (grown_of_below B1) (by simp)).cell
  have h1 := (h.later hb).later B1
  clear hWL
  go_wp2_with fail
  refine (clone_is (toI L) hl4 v _ h1).mono ?_
  rintro e w2 ⟨u, rfl, h2, hfr, B2⟩
  have sR2 := sR1.later B2
  have hB2 := hB1.trans (B2.mono hB1.size)
  have hlt := sR1.lt
  obtain ⟨ua, uc, rfl⟩ := h2.form
  obtain ⟨n, hn⟩ : ∃ n, (toI L).length = n := ⟨_, rfl⟩
  rw [hn] at h2 ⊢
  have hnb : (Value.slice ua n uc).ownBlock ≠ some (w.heap.size + 1) := fun e => by
    have := hfr _ (by rw [hn]; exact e)
    omega
  have hfr2 : ∀ b, (Value.slice ua n uc).ownBlock = some b → w.heap.size ≤ b ∧ b < w2.heap.size := fun b e => by
    have := hfr b (by rw [hn]; exact e)
    exact ⟨Nat.le_trans hB1.size this.1, this.2⟩
  clear hn
  go_wp2_with (refine wpList_store_row rfl 45 _ _ rfl (w.heap.size + 1) (stA (.slice ua n uc) zer zer) rfl rfl 45 _ sR2 (st_i _ _ _) rfl (stA_one _ rfl _ _) ?_)
  have sR3 := sR2.row (.slice ua n uc) zer zer
  have hld := st_load sR3
  refine bodyPost_ret (v := .tuple #[stV (.slice ua n uc) zer zer, .int .i64 0]) (by simp [results, Try.results37, asAddr, hld]) rfl ⟨_, rfl, h2.row _ hnb, fun b e => by rw [setRow_size]; exact hfr2 b e, below_row hB2 _ (by omega) _⟩
end Go.Proofs.Ytnmeeddhagmjdaa
