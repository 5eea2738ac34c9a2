/- States of refusals. -/
import Derived.Laws.StructEq
import Derived.Test.YtjplihljmohpjaaKb
import Derived.Test.YtjplihljmohpjaaShelf
/- States: their cells; clone, Start. -/
namespace Go.Proofs.Ytjplihljmohpjaa
open Go.RowKit Go.Shelf
attribute [local go_sem] Oper.semAt_some

theorem Try.infoRl : (Try.prog.info? 134).map (fun i => (i.zero, i.size, i.bytes)) = some (some (.agg #[.int .i64 0, .int .i64 0, .int .i64 0, .int .i64 0]), 4, 32) := by kernel_rfl
theorem rowU_cells {W : World} {b o : Nat} {l : List RlI} (hc : ∀ (j : Nat) (x : RlI), l[j]? = some x → W.cell? ⟨b, o + j * 4, none⟩ = some (.int .i64 x.k) ∧ W.cell? ⟨b, o + j * 4 + 1, none⟩ = some (.int .i64 x.f) ∧ W.cell? ⟨b, o + j * 4 + 2, none⟩ = some (.int .i64 x.e) ∧ W.cell? ⟨b, o + j * 4 + 3, none⟩ = some (.int .i64 x.t)) : ∀ j u, (rowU l)[j]? = some u → W.cell? ⟨b, o + j, none⟩ = some u := by
  intro j u hu
  have hj : j < 4 * l.length := by have := (List.getElem?_eq_some_iff.1 hu).1; rwa [rowU_len] at this
  obtain ⟨x, hx⟩ : ∃ x, l[j / 4]? = some x := ⟨_, List.getElem?_eq_getElem (by omega)⟩
  obtain ⟨r0, r1, r2, r3⟩ := rowU_at l (j / 4) x hx
  obtain ⟨c0, c1, c2, c3⟩ := hc (j / 4) x hx
  have hm : j % 4 = 0 ∨ j % 4 = 1 ∨ j % 4 = 2 ∨ j % 4 = 3 := by omega
  rcases hm with hm | hm | hm | hm
  · rw [show 4 * (j / 4) = j by omega, hu] at r0
    rw [show o + j / 4 * 4 = o + j by omega] at c0
    rw [c0, ← r0]
  · rw [show 4 * (j / 4) + 1 = j by omega, hu] at r1
    rw [show o + j / 4 * 4 + 1 = o + j by omega] at c1
    rw [c1, ← r1]
  · rw [show 4 * (j / 4) + 2 = j by omega, hu] at r2
    rw [show o + j / 4 * 4 + 2 = o + j by omega] at c2
    rw [c2, ← r2]
  · rw [show 4 * (j / 4) + 3 = j by omega, hu] at r3
    rw [show o + j / 4 * 4 + 3 = o + j by omega] at c3
    rw [c3, ← r3]
theorem rowU_one (l : List RlI) : ∀ u ∈ rowU l, u.oneCell' = true := by
  intro u hu
  unfold rowU at hu
  obtain ⟨x, _, hx⟩ := List.mem_flatMap.1 hu
  simp at hx
  rcases hx with rfl | rfl | rfl | rfl <;> rfl

/-- slices.Clone of an empty slice, whatever its address. -/
theorem Clone_empty {P : Program} {ρ : Ren} (L : SlLaysE0.n41 P ρ) (i0 : TypeInfo) (z : Value) (size bytes : Nat) (hi : P.info? (ρ.t 23) = some i0) (hz0 : i0.zero = some z) (hz1 : i0.size = size) (hz2 : i0.bytes = bytes) (hzs : z.cells.size = size) (hsz : 0 < size)
    (z23 : ∀ w, (Go.sizeOf (ρ.t 23)).run P w = .ok size w) (a : Addr) (w : World) :
    Calls P (ρ.f 41) #[.slice (some a) 0 0] w fun e w' => ∃ v', e = .returned v' ∧ w'.ownsRow w.heap.size (ρ.t 23) size v' 0 [] ∧ Below w.heap.size w w' := by
  have mixed := L.mixed; have t4 := L.t4; have a4 := L.a4; have z4 := L.z4; have v4 := L.v4; have t22 := L.t22; have a22 := L.a22; have z22 := L.z22; have v22 := L.v22
  have q22 : ∀ (w : World) (a : Option Addr) (n c n' c' : Nat), (binOp .eql (ρ.t 22) (.slice a n c) (.slice none n' c')).run P w = .ok (.bool a.isNone) w := fun w a n c n' c' => Lib.run_eql_slice_nil w _ _ a n c n' c' L.t22
  have u22 : ∀ w, Sem.run P (underlying (ρ.t 22)) w = .ok (TypeDesc.slice (ρ.t 23)) w := run_underlying t22
  obtain ⟨_, _, FG⟩ := L.f41
  go_enter FG, SlBodyN.n41_ntmps ρ
  go_wp2_with (at_builtin; refine wpList_append_own _ rfl _ _ (ρ.t 22) rfl w.heap.size (ρ.t 23) i0 z size bytes t22 hi hz0 hz1 hz2 hzs hsz _ _ _ rfl (World.ownsRow_made w #[] 0 (Nat.le_refl _) (Nat.zero_le _) (by simp)) a 0 0 [] rfl ?qc1 ?qc2 ?qc3 ?qc4 ?qc5 ?qc6 ?_)
  case qc1 => simp
  case qc2 => intro j u hj; simp at hj
  case qc3 => intro u hu; cases hu
  case qc4 => simp
  case qc5 => simp
  case qc6 => simp
  intro v' w1 hown hgrow hnil
  go_wp2
  go_ret
  refine ⟨v', rfl, by simpa using hown, ?_⟩
  exact ((Below.refl _ w).alloc (Nat.le_refl _) _).grown hgrow (by simp) (by intro k hk; simp [Value.ownBlock] at hk; omega)
theorem Clone_is (l : List RlI) (hl : l.length ≤ 4000000) (v : Value) (w : World) (h : RAt w v l) :
    Calls Try.prog 82 #[v] w fun e w' => ∃ u, e = .returned u ∧ UOwn w' w.heap.size u l ∧ Below w.heap.size w w' := by
  rcases h with ⟨⟨a, rfl⟩, rfl⟩ | ⟨b, off, cap, rfl, h1, h2, hc⟩
  · cases a with
    | none =>
      have hcon := AnyE.slices_Clone_nil Try.cloneRl 0 0 w
      change Calls Try.prog 82 _ _ _ at hcon
      refine hcon.mono ?_
      rintro e w' ⟨rfl, rfl⟩
      exact ⟨_, rfl, World.ownsRow_nil _ _ _ _, Below.refl _ _⟩
    | some a =>
      obtain ⟨i0, hi, hz0, hz1, hz2⟩ := info_parts Try.infoRl
      have hcon := Clone_empty Try.cloneRl i0 (.agg #[.int .i64 0, .int .i64 0, .int .i64 0, .int .i64 0]) 4 32 hi hz0 hz1 hz2 rfl (by decide) Try.sizeOf134 a w
      change Calls Try.prog 82 _ _ _ at hcon
      refine hcon.mono ?_
      rintro e w' ⟨u, rfl, ho, hB⟩
      exact ⟨u, rfl, ho, hB⟩
  · obtain ⟨i0, hi, hz0, hz1, hz2⟩ := info_parts Try.infoRl
    have hcon := AnyE.slices_Clone Try.cloneRl i0 (.agg #[.int .i64 0, .int .i64 0, .int .i64 0, .int .i64 0]) 4 32 hi hz0 hz1 hz2 rfl (by decide) Try.sizeOf134 b off l.length cap (rowU l) w (by rw [rowU_len]; omega) (by omega) (by omega) (fun j u hu => rowU_cells hc j u hu) (rowU_one l)
    change Calls Try.prog 82 _ _ _ at hcon
    refine hcon.mono ?_
    rintro e w' ⟨u, rfl, ho, _, hB⟩
    exact ⟨u, rfl, ho, hB⟩
set_option maxRecDepth 100000 in
set_option maxHeartbeats 1000000 in
theorem clone_is (l : List RlI) (hl : l.length ≤ 4000000) (v : Value) (w : World) (h : RAt w v l) :
    Calls Try.prog 76 #[.agg #[v]] w fun e w' => ∃ u, e = .returned (.agg #[u]) ∧ RAt w' u l ∧ (∀ b, u.ownBlock = some b → w.heap.size ≤ b ∧ b < w'.heap.size) ∧ Below w.heap.size w w' := by
  obtain ⟨WL, hWL⟩ : ∃ x, (w.alloc (.cells #[v] 24)).alloc (.cells #[.slice none 0 0] 24) = x := ⟨_, rfl⟩
  have hb : Below w.heap.size w WL := by rw [← hWL]; exact ((Below.refl _ _).alloc (Nat.le_refl _) _).alloc (by simp) _
  have b1 : Boxed WL w.heap.size 24 v := by rw [← hWL]; exact (Boxed.new w _ _).alloc _
  have b2 : Boxed WL (w.heap.size + 1) 24 (.slice none 0 0) := by
    have := Boxed.new (w.alloc (.cells #[v] 24)) 24 (.slice none 0 0)
    rw [World.size_alloc] at this
    rw [← hWL]; exact this
  have q1 := b1.cell
  go_enter Try.func76, Try.ntmps76
  go_wp2_with fail
  try rw [hWL]
  refine (Clone_is l hl v WL (h.later hb)).mono ?_
  rintro e w1 ⟨u, rfl, ho, B1⟩
  have b3 : Boxed w1 (w.heap.size + 1) 24 (.slice none 0 0) := b2.kept (grown_of_below B1) (by simp)
  have q2 := b3.frozen
  have q3 := b3.cell
  have hl3 := b3.lt
  have hsz := hb.size
  have ho' := UOwn.at ho
  obtain ⟨ua, uc, rfl⟩ := ho'.form
  have hB1 : Below w.heap.size w w1 := hb.trans (B1.mono hsz)
  have HO := Lib.hid ho
  clear hWL ho
  go_wp2_with fail
  have b4 : Boxed (w1.setCell ⟨w.heap.size + 1, 0, none⟩ (.slice ua l.length uc)) (w.heap.size + 1) 24 (.slice ua l.length uc) := b3.set _
  have q4 := b4.cell
  refine bodyPost_ret (v := .agg #[.slice ua l.length uc]) (by simp [results, Try.results76, go_sem, q4]) rfl ⟨_, rfl, ?_, fun b hb2 => ⟨Nat.le_trans hsz (World.ownsRow.lt HO.out b hb2).1, Nat.lt_of_lt_of_le (World.ownsRow.lt HO.out b hb2).2 (KeepsWalks.setCell w1 _ _).size⟩, hB1.setCell (by dsimp only; omega) _⟩
  have hg := grownBy_setCell' w1 (w.heap.size + 1) (.slice ua l.length uc)
  exact UOwn.at (World.ownsRow.kept HO.out hg (.inr (fun e => by have := (World.ownsRow.lt HO.out _ e).1; have := b2.lt; omega)))
end Go.Proofs.Ytjplihljmohpjaa

/- States in memory; Start. -/
namespace Go.Proofs.Ytjplihljmohpjaa
open Go.RowKit Go.Shelf
attribute [local go_sem] Oper.semAt_some

/-- The cells of a state: its plan, the calls, the hits. -/
def stA (v : Value) (c h : Nat → Int) : Array Value := #[v, .int .i64 (c 0), .int .i64 (c 1), .int .i64 (c 2), .int .i64 (c 3), .int .i64 (c 4), .int .i64 (c 5), .int .i64 (c 6), .int .i64 (h 0), .int .i64 (h 1), .int .i64 (h 2), .int .i64 (h 3), .int .i64 (h 4), .int .i64 (h 5), .int .i64 (h 6)]
def upd (c : Nat → Int) (k : Nat) (x : Int) : Nat → Int := fun j => if j = k then x else c j
theorem k7 {k : Nat} (h : k < 7) : k = 0 ∨ k = 1 ∨ k = 2 ∨ k = 3 ∨ k = 4 ∨ k = 5 ∨ k = 6 := by omega
theorem stA_size (v : Value) (c h : Nat → Int) : (stA v c h).size = 15 := rfl
theorem stA_one (v : Value) (hv : v.oneCell' = true) (c h : Nat → Int) : (stA v c h).all (·.oneCell') = true := by
  rw [Array.all_eq_true_iff_forall_mem]
  intro x hx
  unfold stA at hx
  simp at hx
  rcases hx with rfl | hx
  · exact hv
  · rcases hx with rfl | rfl | rfl | rfl | rfl | rfl | rfl | rfl | rfl | rfl | rfl | rfl | rfl | rfl <;> rfl
theorem stA_c (v : Value) (c h : Nat → Int) (k : Nat) (hk : k < 7) : (stA v c h)[1 + k]? = some (.int .i64 (c k)) := by
  rcases k7 hk with rfl | rfl | rfl | rfl | rfl | rfl | rfl <;> rfl
theorem stA_h (v : Value) (c h : Nat → Int) (k : Nat) (hk : k < 7) : (stA v c h)[8 + k]? = some (.int .i64 (h k)) := by
  rcases k7 hk with rfl | rfl | rfl | rfl | rfl | rfl | rfl <;> rfl
theorem stA_setc (v : Value) (c h : Nat → Int) (k : Nat) (hk : k < 7) (x : Int) : (stA v c h).setIfInBounds (1 + k) (.int .i64 x) = stA v (upd c k x) h := by
  rcases k7 hk with rfl | rfl | rfl | rfl | rfl | rfl | rfl <;> rfl
theorem stA_seth (v : Value) (c h : Nat → Int) (k : Nat) (hk : k < 7) (x : Int) : (stA v c h).setIfInBounds (8 + k) (.int .i64 x) = stA v c (upd h k x) := by
  rcases k7 hk with rfl | rfl | rfl | rfl | rfl | rfl | rfl <;> rfl
theorem stA_setv (v u : Value) (c h : Nat → Int) : (stA v c h).setIfInBounds 0 u = stA u c h := rfl
/-- A block that holds a state. -/
def SBox (W : World) (b : Nat) (v : Value) (c h : Nat → Int) : Prop := W.heap[b]? = some (.cells (stA v c h) 45 (0, 0))
theorem SBox.lt {W : World} {b : Nat} {v : Value} {c h : Nat → Int} (s : SBox W b v c h) : b < W.heap.size := (Array.getElem?_eq_some_iff.1 s).1
theorem SBox.later {W V : World} {b : Nat} {v : Value} {c h : Nat → Int} (s : SBox W b v c h) (hb : Below W.heap.size W V) : SBox V b v c h := (hb.block b s.lt).trans s
theorem SBox.cell {W : World} {b : Nat} {v : Value} {c h : Nat → Int} (s : SBox W b v c h) (j : Nat) : W.cell? ⟨b, j, none⟩ = (stA v c h)[j]? := by unfold SBox at s; simp [World.cell?, s]
theorem SBox.v {W : World} {b : Nat} {v : Value} {c h : Nat → Int} (s : SBox W b v c h) : W.cell? ⟨b, 0, none⟩ = some v := s.cell 0
theorem SBox.c {W : World} {b : Nat} {v : Value} {c h : Nat → Int} (s : SBox W b v c h) (k : Nat) (hk : k < 7) : W.cell? ⟨b, 1 + k, none⟩ = some (.int .i64 (c k)) := (s.cell _).trans (stA_c v c h k hk)
theorem SBox.h {W : World} {b : Nat} {v : Value} {c h : Nat → Int} (s : SBox W b v c h) (k : Nat) (hk : k < 7) : W.cell? ⟨b, 8 + k, none⟩ = some (.int .i64 (h k)) := (s.cell _).trans (stA_h v c h k hk)
theorem SBox.frozen {W : World} {b : Nat} {v : Value} {c h : Nat → Int} (s : SBox W b v c h) (j : Nat) : W.frozen? ⟨b, j, none⟩ = false := by unfold SBox at s; simp [World.frozen?, s]
theorem SBox.setc {W : World} {b : Nat} {v : Value} {c h : Nat → Int} (s : SBox W b v c h) (k : Nat) (hk : k < 7) (x : Int) : SBox (W.setCell ⟨b, 1 + k, none⟩ (.int .i64 x)) b v (upd c k x) h := by
  unfold SBox; rw [← stA_setc v c h k hk]; exact heap_setCell_same W b _ _ _ _ s
theorem SBox.seth {W : World} {b : Nat} {v : Value} {c h : Nat → Int} (s : SBox W b v c h) (k : Nat) (hk : k < 7) (x : Int) : SBox (W.setCell ⟨b, 8 + k, none⟩ (.int .i64 x)) b v c (upd h k x) := by
  unfold SBox; rw [← stA_seth v c h k hk]; exact heap_setCell_same W b _ _ _ _ s
theorem SBox.setv {W : World} {b : Nat} {v : Value} {c h : Nat → Int} (s : SBox W b v c h) (u : Value) : SBox (W.setCell ⟨b, 0, none⟩ u) b u c h := by
  unfold SBox; rw [← stA_setv v u c h]; exact heap_setCell_same W b _ _ _ _ s
theorem SBox.other {W : World} {b : Nat} {v : Value} {c h : Nat → Int} (s : SBox W b v c h) {a : Addr} (ha : b ≠ a.block) (u : Value) : SBox (W.setCell a u) b v c h := (Below.heap_setCell _ _ _ _ ha).trans s
theorem SBox.alloc {W : World} {b : Nat} {v : Value} {c h : Nat → Int} (s : SBox W b v c h) (o : Obj) : SBox (W.alloc o) b v c h := (Below.heap_alloc W o b s.lt).trans s
theorem SBox.new (W : World) (v : Value) (c h : Nat → Int) : SBox (W.alloc (.cells (stA v c h) 45)) W.heap.size v c h := World.alloc_heap_new W _
abbrev stV (v : Value) (c h : Nat → Int) : Value := .agg (stA v c h)
def zer : Nat → Int := fun _ => 0

theorem st_i (v : Value) (c h : Nat → Int) : (Try.prog.info? 45).map (·.size) = some (stA v c h).size := by rw [stA_size]; kernel_rfl
theorem st_load {W : World} {b : Nat} {v : Value} {c h : Nat → Int} (s : SBox W b v c h) : (loadVar 45 ⟨b, 0, none⟩).run Try.prog W = .ok (.agg (stA v c h)) W :=
  run_loadVar_row W b 45 45 _ _ _ s Try.underlying45 rfl (st_i v c h)
theorem SBox.row {W : World} {b : Nat} {v : Value} {c h : Nat → Int} (s : SBox W b v c h) (u : Value) (d g : Nat → Int) : SBox (W.setRow b (stA u d g)) b u d g := setRow_heap W b _ _ _ _ s
theorem below_row {B : Nat} {w W : World} (h : Below B w W) (b : Nat) (hb : B ≤ b) (cs : Array Value) : Below B w (W.setRow b cs) :=
  ⟨h.os, h.tape, h.output, by rw [setRow_size]; exact h.size, fun j hj => (setRow_other W b j cs (by omega)).trans (h.block j hj)⟩
theorem RAt.row {W : World} {b : Nat} {u : Value} {l : List RlI} (r : RAt W u l) (cs : Array Value) (hn : u.ownBlock ≠ some b) : RAt (W.setRow b cs) u l := by
  rcases r with h | ⟨g, off, cap, rfl, h1, h2, hc⟩
  · exact .inl h
  · have hg : g ≠ b := fun e => hn (by simp [Value.ownBlock, e])
    refine .inr ⟨g, off, cap, rfl, h1, h2, fun j x hx => ?_⟩
    have := hc j x hx
    have e : ∀ o, (W.setRow b cs).cell? ⟨g, o, none⟩ = W.cell? ⟨g, o, none⟩ := fun o => World.cell?_of_block (w := W) (setRow_other W b g cs hg)
    rw [e, e, e, e]; exact this
theorem start_world (w : World) (v : Value) : ∃ WL, (w.alloc (.cells #[v] 24)).alloc (.cells #[.slice none 0 0, .int .i64 0, .int .i64 0, .int .i64 0, .int .i64 0, .int .i64 0, .int .i64 0, .int .i64 0, .int .i64 0, .int .i64 0, .int .i64 0, .int .i64 0, .int .i64 0, .int .i64 0, .int .i64 0] 45) = WL ∧ Below w.heap.size w WL ∧ Boxed WL w.heap.size 24 v ∧ SBox WL (w.heap.size + 1) (.slice none 0 0) zer zer := by
  refine ⟨_, rfl, ((Below.refl _ _).alloc (Nat.le_refl _) _).alloc (by simp) _, (Boxed.new w _ _).alloc _, ?_⟩
  have := SBox.new (w.alloc (.cells #[v] 24)) (.slice none 0 0) zer zer
  rw [World.size_alloc] at this
  exact this

set_option maxRecDepth 100000 in
set_option maxHeartbeats 1000000 in
theorem Start_bad (v : Value) (l : List RlI) (i : Nat) (c : Int) (hc : chkP l = (i, c)) (h0 : c ≠ 0) (w : World) (h : RAt w v l) :
    Calls Try.prog 37 #[.agg #[v]] w fun e w' => e = .returned (.tuple #[stV (.slice none 0 0) zer zer, .int .i64 c]) ∧ Below w.heap.size w w' := by
  obtain ⟨WL, hWL, hb, bP, sR⟩ := start_world w v
  have HC := Lib.hid (Check_is v l i c hc WL (h.later hb))
  have hq : (c != 0) = true := by simp [h0]
  have q1 := bP.cell
  clear hc h0
  go_enter Try.func37, Try.ntmps37
  go_wp2_with fail
  try rw [hWL]
  refine HC.out.mono ?_
  rintro e w1 ⟨rfl, B1⟩
  have sR1 := sR.later B1
  have hB1 := hb.trans (B1.mono hb.size)
  clear hWL
  go_wp2_with (refine wpList_store_row rfl 45 _ _ rfl (w.heap.size + 1) (stA (.slice none 0 0) zer zer) rfl rfl 45 _ sR1 (st_i _ _ _) rfl (stA_one _ rfl _ _) ?_)
  have sR2 := sR1.row (.slice none 0 0) zer zer
  have hld := st_load sR2
  refine bodyPost_ret (v := .tuple #[stV (.slice none 0 0) zer zer, .int .i64 c]) (by simp [results, Try.results37, asAddr, hld]) rfl ⟨rfl, below_row hB1 _ (by omega) _⟩

set_option maxRecDepth 100000 in
set_option maxHeartbeats 1000000 in
theorem Start_ok (v : Value) (L : List Ru) (hL : OkL L) (w : World) (h : RAt w v (toI L)) :
    Calls Try.prog 37 #[.agg #[v]] w fun e w' => ∃ u, e = .returned (.tuple #[stV u zer zer, .int .i64 0]) ∧ RAt w' u (toI L) ∧ (∀ b, u.ownBlock = some b → w.heap.size ≤ b ∧ b < w'.heap.size) ∧ Below w.heap.size w w' := by
  obtain ⟨WL, hWL, hb, bP, sR⟩ := start_world w v
  have HC := Lib.hid (Check_is v (toI L) 0 0 (chkP_of hL) WL (h.later hb))
  have q1 := bP.cell
  have hl4 : (toI L).length ≤ 4000000 := by rw [toI_len]; have := hL.1; omega
  go_enter Try.func37, Try.ntmps37
  go_wp2_with fail
  try rw [hWL]
  refine HC.out.mono ?_
  rintro e w1 ⟨rfl, B1⟩
  have sR1 := sR.later B1
  have hB1 := hb.trans (B1.mono hb.size)
  have q2 := (bP.kept (grown_of_below B1) (by simp)).cell
  have h1 := (h.later hb).later B1
  clear hWL
  go_wp2_with fail
  refine (clone_is (toI L) hl4 v _ h1).mono ?_
  rintro e w2 ⟨u, rfl, h2, hfr, B2⟩
  have sR2 := sR1.later B2
  have hB2 := hB1.trans (B2.mono hB1.size)
  have hlt := sR1.lt
  obtain ⟨ua, uc, rfl⟩ := h2.form
  obtain ⟨n, hn⟩ : ∃ n, (toI L).length = n := ⟨_, rfl⟩
  rw [hn] at h2 ⊢
  have hnb : (Value.slice ua n uc).ownBlock ≠ some (w.heap.size + 1) := fun e => by
    have := hfr _ (by rw [hn]; exact e)
    omega
  have hfr2 : ∀ b, (Value.slice ua n uc).ownBlock = some b → w.heap.size ≤ b ∧ b < w2.heap.size := fun b e => by
    have := hfr b (by rw [hn]; exact e)
    exact ⟨Nat.le_trans hB1.size this.1, this.2⟩
  clear hn
  go_wp2_with (refine wpList_store_row rfl 45 _ _ rfl (w.heap.size + 1) (stA (.slice ua n uc) zer zer) rfl rfl 45 _ sR2 (st_i _ _ _) rfl (stA_one _ rfl _ _) ?_)
  have sR3 := sR2.row (.slice ua n uc) zer zer
  have hld := st_load sR3
  refine bodyPost_ret (v := .tuple #[stV (.slice ua n uc) zer zer, .int .i64 0]) (by simp [results, Try.results37, asAddr, hld]) rfl ⟨_, rfl, h2.row _ hnb, fun b e => by rw [setRow_size]; exact hfr2 b e, below_row hB2 _ (by omega) _⟩
end Go.Proofs.Ytjplihljmohpjaa

/- CheckState. -/
namespace Go.Proofs.Ytjplihljmohpjaa
open Go.RowKit Go.Shelf
attribute [local go_sem] Oper.semAt_some

/-- Are the numbers of a kind right? -/
def okS (L : List Ru) (c h : Nat → Int) (k : Nat) : Bool := decide (0 ≤ c k) && decide (c k ≤ 1000000) && decide (h k = (hitN L k (c k).toNat : Nat))
/-- What is wrong with the numbers of a state whose plan is valid. -/
def csF (L : List Ru) (c h : Nat → Int) : Int := if (List.range 7).all (okS L c h) = true then 0 else 6
theorem csF_cut {L : List Ru} {c h : Nat → Int} {k : Nat} (hk : k < 7) (ho : okS L c h k = false) : csF L c h = 6 := by
  unfold csF; rw [if_neg]; intro h2; have := List.all_eq_true.1 h2 k (List.mem_range.2 hk); rw [this] at ho; cases ho
theorem csF_all {L : List Ru} {c h : Nat → Int} (ho : ∀ k, k < 7 → okS L c h k = true) : csF L c h = 0 := by unfold csF; rw [if_pos (List.all_eq_true.2 fun k hk => ho k (List.mem_range.1 hk))]
theorem okS_num {L : List Ru} {c h : Nat → Int} {k : Nat} (ho : okS L c h k = true) : ∃ n : Nat, c k = (n : Int) ∧ n ≤ 1000000 ∧ h k = (hitN L k n : Nat) := by
  unfold okS at ho
  simp at ho
  obtain ⟨⟨h1, h2⟩, h3⟩ := ho
  exact ⟨(c k).toNat, by omega, by omega, h3⟩
abbrev arr (c : Nat → Int) : Array Value := #[.int .i64 (c 0), .int .i64 (c 1), .int .i64 (c 2), .int .i64 (c 3), .int .i64 (c 4), .int .i64 (c 5), .int .i64 (c 6)]
theorem idx7 (c : Nat → Int) (k : Nat) (hk : k < 7) (W : World) : (Instr.index 43 (.agg (arr c)) (.int .i64 (k : Int))).run Try.prog W = .ok (.int .i64 (c k)) W := by
  rcases k7 hk with rfl | rfl | rfl | rfl | rfl | rfl | rfl <;> kernel_rfl
theorem arr7 : Try.prog.arrayLen 43 = 7 := by kernel_rfl

set_option maxRecDepth 100000 in
set_option maxHeartbeats 1000000 in
theorem CheckState_bad (v : Value) (l : List RlI) (i : Nat) (e : Int) (hc : chkP l = (i, e)) (h0 : e ≠ 0) (c h : Nat → Int) (w : World) (hr : RAt w v l) :
    Calls Try.prog 59 #[stV v c h] w fun x w' => x = .returned (.int .i64 e) ∧ Below w.heap.size w w' := by
  obtain ⟨WL, hWL⟩ : ∃ x, w.alloc (.cells (stA v c h) 45) = x := ⟨_, rfl⟩
  have hb : Below w.heap.size w WL := by rw [← hWL]; exact (Below.refl _ _).alloc (Nat.le_refl _) _
  have sS : SBox WL w.heap.size v c h := by rw [← hWL]; exact SBox.new w v c h
  have HC := Lib.hid (Check_is v l i e hc WL (hr.later hb))
  have hq : (e != 0) = true := by simp [h0]
  have q1 := sS.v
  clear hc h0
  go_enter Try.func59, Try.ntmps59
  go_wp2_with fail
  try rw [hWL]
  refine HC.out.mono ?_
  rintro e w1 ⟨rfl, B1⟩
  go_wp2
  go_ret
  exact ⟨rfl, hb.trans (B1.mono hb.size)⟩

set_option maxRecDepth 100000 in
set_option maxHeartbeats 4000000 in
theorem CheckState_is (v : Value) (L : List Ru) (hL : OkL L) (c h : Nat → Int) (hs : ∀ k, k < 7 → c k ≤ 49708 ∨ 1000000 < c k) (r : Int) (hrs : csF L c h = r) (w : World) (hr : RAt w v (toI L)) :
    Calls Try.prog 59 #[stV v c h] w fun x w' => x = .returned (.int .i64 r) ∧ Below w.heap.size w w' := by
  obtain ⟨WL, hWL⟩ : ∃ x, w.alloc (.cells (stA v c h) 45) = x := ⟨_, rfl⟩
  have hb : Below w.heap.size w WL := by rw [← hWL]; exact (Below.refl _ _).alloc (Nat.le_refl _) _
  have sS : SBox WL w.heap.size v c h := by rw [← hWL]; exact SBox.new w v c h
  have hrL := hr.later hb
  have HC := Lib.hid (Check_is v (toI L) 0 0 (chkP_of hL) WL hrL)
  have q1 := sS.v
  have HRS := Lib.hid hrs
  have HS := Lib.hid hs
  have HL := Lib.hid hL
  clear hrs hs
  go_enter Try.func59, Try.ntmps59
  go_wp2_with fail
  try rw [hWL]
  refine HC.out.mono ?_
  rintro e w1 ⟨rfl, B1⟩
  have s1 := sS.later B1
  have hB1 := hb.trans (B1.mono hb.size)
  have c0 := s1.c 0 (by decide)
  have c1 := s1.c 1 (by decide)
  have c2 := s1.c 2 (by decide)
  have c3 := s1.c 3 (by decide)
  have c4 := s1.c 4 (by decide)
  have c5 := s1.c 5 (by decide)
  have c6 := s1.c 6 (by decide)
  simp only [Nat.reduceAdd] at c0 c1 c2 c3 c4 c5 c6
  have hr1 := hrL.later B1
  have hsz1 := s1.lt
  clear hWL
  go_wp2_with fail
  clear c0 c1 c2 c3 c4 c5 c6
  have q1 := s1.v
  go_loopw [18] (fun i wr => ∃ k : Nat, k ≤ 7 ∧ i = .int .i64 k ∧ Hid (∀ j, j < k → okS L c h j = true) ∧ Below w1.heap.size w1 wr) (fun i _ => 7 - (intOf i).toNat)
  case atStart => exact ⟨0, Nat.zero_le _, rfl, (fun j hj => by omega), Below.refl _ _⟩
  case round =>
    obtain ⟨k, hk, rfl, HO, hB⟩ := hrel
    by_cases hlt : k < 7
    · have hix := fun W => idx7 c k hlt W
      have hh := s1.h k hlt
      have hi1 : (k : Int) < 7 := by omega
      have hk0 : decide ((k : Int) < 0) = false := by simp
      have hk7 : decide ((7 : Int) ≤ (k : Int)) = false := by simp; omega
      have hsk := HS.out k hlt
      replace hh := cell_later hB hh
      have hq1 := cell_later hB q1
      have hr2 := hr1.later hB
      obtain ⟨ck, hck⟩ : ∃ x, c k = x := ⟨_, rfl⟩
      obtain ⟨hv, hhv⟩ : ∃ x, h k = x := ⟨_, rfl⟩
      rw [hck] at hix hsk
      rw [hhv] at hh
      by_cases hneg : ck < 0
      · have d1 : decide (ck < 0) = true := by simpa using hneg
        have hr6 : r = 6 := by rw [← HRS.out]; exact csF_cut hlt (by unfold okS; rw [hck]; simp; omega)
        subst hr6
        clear hck hhv
        go_wp2_with fail
        go_quiet (fail)
        go_wp2_with fail
        go_ret
        exact ⟨rfl, hB1.trans ((below_drewN hB _).mono hB1.size)⟩
      · by_cases hbig : 1000000 < ck
        · have d1 : decide (ck < 0) = false := by simpa using hneg
          have d2 : decide (1000000 < ck) = true := by simpa using hbig
          have hr6 : r = 6 := by rw [← HRS.out]; exact csF_cut hlt (by unfold okS; rw [hck]; simp; omega)
          subst hr6
          clear hck hhv
          go_wp2_with fail
          go_quiet (fail)
          go_wp2_with fail
          go_ret
          exact ⟨rfl, hB1.trans ((below_drewN hB _).mono hB1.size)⟩
        · have d1 : decide (ck < 0) = false := by simpa using hneg
          have d2 : decide (1000000 < ck) = false := by simpa using hbig
          obtain ⟨n, rfl⟩ : ∃ n : Nat, ck = (n : Int) := ⟨ck.toNat, by omega⟩
          have HH := Lib.hid (fun W hW => hits_is L HL.out k n (by omega) v W hW)
          obtain ⟨m, hm⟩ : ∃ m, hitN L k n = m := ⟨_, rfl⟩
          rw [hm] at HH
          have x0 := fun x : Beh wr => Beh.cell hq1 x
          have xh := fun x : Beh wr => Beh.cell hh x
          by_cases heq : hv = (m : Int)
          · have hq : (hv != (m : Int)) = false := by simp [heq]
            have HO2 : Hid (∀ j, j < k + 1 → okS L c h j = true) := fun j hj => by
              by_cases hjk : j < k
              · exact HO.out j hjk
              · obtain rfl : j = k := by omega
                unfold okS
                rw [hck, hhv, Int.toNat_natCast, hm, heq]
                simp; omega
            clear hck hhv hm HO heq
            go_wp2_with fail
            refine region_beh (by kernel_rfl) (by kernel_rfl) ?_
            repeat (go_big_quiet_step ((go_at_call 85; rename_i x; refine (HH.out _ (hr2.later x.h)).mono ?_; rintro e w3 ⟨rfl, B3⟩; exact ⟨rfl, ⟨_, x.h.trans (B3.mono x.h.size)⟩, rfl⟩)))
            refine wpQuiet_nil ?_
            intro _ hw'
            obtain ⟨x, rfl⟩ := hw'
            go_wp2_with fail
            go_roundw
            case rel => exact ⟨k + 1, by omega, by go_num, HO2, hB.trans (x.h.mono hB.size)⟩
            case measure => simp [intOf]; omega
          · have hq : (hv != (m : Int)) = true := by simp [heq]
            have hr6 : r = 6 := by
              rw [← HRS.out]
              refine csF_cut hlt ?_
              unfold okS
              rw [hck, hhv, Int.toNat_natCast, hm]
              simp [heq]
            subst hr6
            clear hck hhv hm HO heq
            go_wp2_with fail
            refine region_beh (by kernel_rfl) (by kernel_rfl) ?_
            repeat (go_big_quiet_step ((go_at_call 85; rename_i x; refine (HH.out _ (hr2.later x.h)).mono ?_; rintro e w3 ⟨rfl, B3⟩; exact ⟨rfl, ⟨_, x.h.trans (B3.mono x.h.size)⟩, rfl⟩)))
            refine wpQuiet_nil ?_
            intro _ hw'
            obtain ⟨x, rfl⟩ := hw'
            go_wp2_with fail
            go_ret
            exact ⟨rfl, hB1.trans ((hB.trans (x.h.mono hB.size)).mono hB1.size)⟩
    · have hi1 : ¬ ((k : Int) < 7) := by omega
      have hr0 : r = 0 := by rw [← HRS.out]; exact csF_all fun j hj => HO.out j (by omega)
      subst hr0
      go_wp2
      go_ret
      exact ⟨rfl, hB1.trans (hB.mono hB1.size)⟩
end Go.Proofs.Ytjplihljmohpjaa

/- Next. -/
namespace Go.Proofs.Ytjplihljmohpjaa
open Go.RowKit Go.Shelf
attribute [local go_sem] Oper.semAt_some

theorem next_world (w : World) (v : Value) (c h : Nat → Int) : ∃ WL, (w.alloc (.cells (stA v c h) 45)).alloc (.cells #[.slice none 0 0, .int .i64 0, .int .i64 0, .int .i64 0, .int .i64 0, .int .i64 0, .int .i64 0, .int .i64 0, .int .i64 0, .int .i64 0, .int .i64 0, .int .i64 0, .int .i64 0, .int .i64 0, .int .i64 0] 45) = WL ∧ Below w.heap.size w WL ∧ SBox WL w.heap.size v c h ∧ SBox WL (w.heap.size + 1) (.slice none 0 0) zer zer := by
  refine ⟨_, rfl, ((Below.refl _ _).alloc (Nat.le_refl _) _).alloc (by simp) _, (SBox.new w v c h).alloc _, ?_⟩
  have := SBox.new (w.alloc (.cells (stA v c h) 45)) (.slice none 0 0) zer zer
  rw [World.size_alloc] at this
  exact this

def nxH (L : List Ru) (h : Nat → Int) (kd n : Nat) : Nat → Int := if refP L kd (n + 1) then upd h kd (h kd + 1) else h

set_option maxRecDepth 100000 in
set_option maxHeartbeats 4000000 in
theorem Next_ok (v : Value) (L : List Ru) (hL : OkL L) (c h : Nat → Int) (hs : ∀ k, k < 7 → c k ≤ 49708 ∨ 1000000 < c k) (hrs : csF L c h = 0) (kd n : Nat) (hkd : kd < 7) (hn : c kd = (n : Int)) (hn2 : n < 49708) (w : World) (hr : RAt w v (toI L)) :
    Calls Try.prog 104 #[stV v c h, .int .i64 (kd : Int)] w fun x w' => ∃ u, x = .returned (.tuple #[stV u (upd c kd (n + 1 : Nat)) (nxH L h kd n), .bool (refP L kd (n + 1)), .int .i64 0]) ∧ RAt w' u (toI L) ∧ (∀ b, u.ownBlock = some b → w.heap.size ≤ b ∧ b < w'.heap.size) ∧ Below w.heap.size w w' := by
  obtain ⟨va, vc, hv⟩ := hr.form
  have hv1 : v.oneCell' = true := by rw [hv]; rfl
  obtain ⟨WL, hWL, hb, sS, sR⟩ := next_world w v c h
  have hrL := hr.later hb
  have HC := Lib.hid (CheckState_is v L hL c h hs 0 hrs WL hrL)
  obtain ⟨m, hm, hmn⟩ : ∃ m : Nat, h kd = (m : Int) ∧ m ≤ n := by
    have ho : okS L c h kd = true := by
      cases hq : okS L c h kd
      · rw [csF_cut hkd hq] at hrs; cases hrs
      · rfl
    obtain ⟨n', h1, _, h3⟩ := okS_num ho
    obtain rfl : n' = n := by omega
    exact ⟨_, h3, hitN_le L kd n' hL.2⟩
  have q1 : (loadVar 45 ⟨w.heap.size, 0, none⟩).run Try.prog WL = _ := st_load sS
  have HL := Lib.hid hL
  have hlen : (toI L).length ≤ 4000000 := by rw [toI_len]; have := hL.1; omega
  have hkB : isK (kd : Int) = true := by unfold isK; simp; omega
  have HK := Lib.hid hkB
  have hkc := sS.c kd hkd
  have hkc0 := sS.v
  rw [hn] at hkc
  clear hrs hs hv hkB
  go_enter Try.func104, Try.ntmps104
  go_wp2_with (refine wpList_load_row rfl 45 _ rfl w.heap.size rfl 45 _ (0, 0) _ sS Try.underlying45 rfl (st_i _ _ _) ?_)
  try rw [hWL]
  refine HC.out.mono ?_
  rintro e w1 ⟨rfl, B1⟩
  have s1 := sS.later B1
  have r1 := sR.later B1
  have hr1 := hrL.later B1
  have hB1 := hb.trans (B1.mono hb.size)
  have k1 := s1.c kd hkd
  have v1 := s1.v
  rw [hn] at k1
  have hkd1 : (kd : Int) < 7 := by omega
  have hn3 : ((n : Int) == 1000000) = false := by simp; omega
  have hsl1 := s1.lt
  have har := arr7
  clear hWL hkc hkc0 q1
  go_wp2_with fail
  refine (isKind_is kd true HK.out _).mono ?_
  rintro e w1' ⟨rfl, rfl⟩
  go_wp2_with fail
  refine (clone_is (toI L) hlen v _ hr1).mono ?_
  rintro e w2 ⟨u, rfl, h2, hfr, B2⟩
  have s2 := s1.later B2
  have r2 := r1.later B2
  have hB2 := hB1.trans (B2.mono hB1.size)
  have hrl1 := r1.lt
  obtain ⟨ua, uc, rfl⟩ := h2.form
  obtain ⟨nL, hnL⟩ : ∃ m, (toI L).length = m := ⟨_, rfl⟩
  rw [hnL] at h2 hfr
  rw [hnL]
  have hfr2 : ∀ b, (Value.slice ua nL uc).ownBlock = some b → b ≠ w.heap.size ∧ b ≠ w.heap.size + 1 := fun b hb2 => by have := hfr b hb2; omega
  have sv := s2.setv (.slice ua nL uc)
  have sc := sv.setc kd hkd ((n : Int) + 1)
  have zf := s2.frozen 0
  have zv := s2.v
  have zk := sv.c kd hkd
  have zkf := sv.frozen (1 + kd)
  rw [hn] at zk
  obtain ⟨W3, hW3⟩ : ∃ x, (w2.setCell ⟨w.heap.size, 0, none⟩ (.slice ua nL uc)).setCell ⟨w.heap.size, 1 + kd, none⟩ (.int .i64 ((n : Int) + 1)) = x := ⟨_, rfl⟩
  have rc : SBox W3 (w.heap.size + 1) (.slice none 0 0) zer zer := by
    rw [← hW3]; exact (r2.other (by show w.heap.size + 1 ≠ w.heap.size; omega) _).other (by show w.heap.size + 1 ≠ w.heap.size; omega) _
  have hB3 : Below w.heap.size w W3 := by rw [← hW3]; exact (hB2.setCell (by dsimp only; omega) _).setCell (by dsimp only; omega) _
  have hr3 : RAt W3 (.slice ua nL uc) (toI L) := by
    rw [← hW3]
    rcases h2 with h2 | ⟨g, off, cap, hg, h5, h6, hc⟩
    · exact .inl h2
    · have hgn := (hfr2 g (by rw [hg]; rfl)).1
      refine .inr ⟨g, off, cap, hg, h5, h6, fun j x hx => ?_⟩
      have h7 := hc j x hx
      have e : ∀ o, ((w2.setCell ⟨w.heap.size, 0, none⟩ (.slice ua nL uc)).setCell ⟨w.heap.size, 1 + kd, none⟩ (.int .i64 ((n : Int) + 1))).cell? ⟨g, o, none⟩ = w2.cell? ⟨g, o, none⟩ := fun o =>
        World.cell?_of_block (w := w2) ((Below.heap_setCell _ _ _ _ hgn).trans (Below.heap_setCell _ _ _ _ hgn))
      rw [e, e, e, e]; exact h7
  rw [hW3] at sc
  have HW3 := Lib.hid hW3
  clear hW3 hnL
  go_wp2_with fail
  rw [HW3.out]
  have y0 := fun x : Beh W3 => Beh.cell sc.v x
  have y1 := fun x : Beh W3 => Beh.cell (sc.c kd hkd) x
  rw [show upd c kd ((n : Int) + 1) kd = (n : Int) + 1 by unfold upd; rw [if_pos rfl]] at y1
  have HR := Lib.hid (fun W hW => refuses_is L HL.out kd (n + 1) (by omega) (by omega) (.slice ua nL uc) W hW)
  rw [show ((n + 1 : Nat) : Int) = (n : Int) + 1 by omega] at HR
  have hk0 : decide ((kd : Int) < 0) = false := by simp
  have hk7 : decide ((7 : Int) ≤ (kd : Int)) = false := by simp; omega
  refine region_beh (by kernel_rfl) (by kernel_rfl) ?_
  repeat (go_big_quiet_step ((go_at_call 106; rename_i x; refine (HR.out _ (hr3.later x.h)).mono ?_; rintro e w3 ⟨rfl, B3⟩; exact ⟨rfl, ⟨_, x.h.trans (B3.mono x.h.size)⟩, rfl⟩)))
  refine wpQuiet_nil ?_
  intro _ hw'
  obtain ⟨x, rfl⟩ := hw'
  have sX := sc.later x.h
  have rX := rc.later x.h
  have hrX := hr3.later x.h
  have hBX := hB3.trans (x.h.mono hB3.size)
  have hfX : ∀ b, (Value.slice ua nL uc).ownBlock = some b → w.heap.size ≤ b ∧ b < x.W.heap.size := fun b e => by
    have h1 := hfr b e
    have h2 : w2.heap.size ≤ W3.heap.size := by rw [← HW3.out]; exact Nat.le_trans (KeepsWalks.setCell w2 _ _).size (KeepsWalks.setCell _ _ _).size
    have h3 := x.h.size
    have h4 := hB1.size
    omega
  generalize x.W = X at sX rX hrX hBX hfX ⊢
  have hzX := sX.h kd hkd
  rw [hm] at hzX
  have hzf := sX.frozen (8 + kd)
  have hu1 : (Value.slice ua nL uc).oneCell' = true := rfl
  have hupd : upd c kd ((n : Int) + 1) = upd c kd (n + 1 : Nat) := by congr 1
  have HU := Lib.hid hupd
  clear hupd
  cases hq : refP L kd (n + 1)
  · clear hzX hzf
    have HN := Lib.hid (show nxH L h kd n = h by unfold nxH; rw [hq]; simp)
    go_wp2_with (first | (refine wpList_load_row rfl 45 _ rfl w.heap.size rfl 45 _ (0, 0) _ sX Try.underlying45 rfl (st_i _ _ _) ?_) | (refine wpList_store_row rfl 45 _ _ rfl (w.heap.size + 1) (stA (.slice ua nL uc) (upd c kd ((n : Int) + 1)) h) rfl rfl 45 _ rX (st_i _ _ _) rfl (stA_one _ hu1 _ _) ?_))
    have sF := rX.row (.slice ua nL uc) (upd c kd ((n : Int) + 1)) h
    have hld := st_load sF
    refine bodyPost_ret (v := .tuple #[stV (.slice ua nL uc) (upd c kd ((n : Int) + 1)) h, .bool false, .int .i64 0]) (by simp [results, Try.results104, asAddr, hld]) rfl ⟨_, ?_, hrX.row _ (fun e => (hfr2 _ e).2 rfl), fun b e => (by rw [setRow_size]; exact hfX b e), below_row hBX _ (by omega) _⟩
    rw [HU.out, HN.out, hq]
  · have HN := Lib.hid (show nxH L h kd n = upd h kd ((m : Int) + 1) by unfold nxH; rw [hq, hm]; simp)
    have sY := sX.seth kd hkd ((m : Int) + 1)
    have rY : SBox (X.setCell ⟨w.heap.size, 8 + kd, none⟩ (.int .i64 ((m : Int) + 1))) (w.heap.size + 1) (.slice none 0 0) zer zer := rX.other (by show w.heap.size + 1 ≠ w.heap.size; omega) _
    have hBY : Below w.heap.size w (X.setCell ⟨w.heap.size, 8 + kd, none⟩ (.int .i64 ((m : Int) + 1))) := hBX.setCell (by dsimp only; omega) _
    have hrY : RAt (X.setCell ⟨w.heap.size, 8 + kd, none⟩ (.int .i64 ((m : Int) + 1))) (.slice ua nL uc) (toI L) := by
      rcases hrX with h2 | ⟨g, off, cap, hg, h5, h6, hc⟩
      · exact .inl h2
      · have hgn := (hfr2 g (by rw [hg]; rfl)).1
        refine .inr ⟨g, off, cap, hg, h5, h6, fun j x hx => ?_⟩
        have h7 := hc j x hx
        have e : ∀ o, (X.setCell ⟨w.heap.size, 8 + kd, none⟩ (.int .i64 ((m : Int) + 1))).cell? ⟨g, o, none⟩ = X.cell? ⟨g, o, none⟩ := fun o => World.cell?_of_block (w := X) (Below.heap_setCell _ _ _ _ hgn)
        rw [e, e, e, e]; exact h7
    go_wp2_with (first | (refine wpList_load_row rfl 45 _ rfl w.heap.size rfl 45 _ (0, 0) _ sY Try.underlying45 rfl (st_i _ _ _) ?_) | (refine wpList_store_row rfl 45 _ _ rfl (w.heap.size + 1) (stA (.slice ua nL uc) (upd c kd ((n : Int) + 1)) (upd h kd ((m : Int) + 1))) rfl rfl 45 _ rY (st_i _ _ _) rfl (stA_one _ hu1 _ _) ?_))
    have sF := rY.row (.slice ua nL uc) (upd c kd ((n : Int) + 1)) (upd h kd ((m : Int) + 1))
    have hld := st_load sF
    refine bodyPost_ret (v := .tuple #[stV (.slice ua nL uc) (upd c kd ((n : Int) + 1)) (upd h kd ((m : Int) + 1)), .bool true, .int .i64 0]) (by simp [results, Try.results104, asAddr, hld]) rfl ⟨_, ?_, hrY.row _ (fun e => (hfr2 _ e).2 rfl), fun b e => (by rw [setRow_size]; exact ⟨(hfX b e).1, Nat.lt_of_lt_of_le (hfX b e).2 (KeepsWalks.setCell X _ _).size⟩), below_row hBY _ (by omega) _⟩
    rw [HU.out, HN.out, hq]
end Go.Proofs.Ytjplihljmohpjaa

/- Arrays of seven numbers are compared. -/
namespace Go.Proofs.Ytjplihljmohpjaa
open Go.RowKit Go.Shelf
attribute [local go_sem] Oper.semAt_some

theorem part7 (c : Nat → Int) (k : Nat) (hk : k < 7) (W : World) : (part 3 (arr c) k).run Try.prog W = .ok (.int .i64 (c k)) W := by
  rcases k7 hk with rfl | rfl | rfl | rfl | rfl | rfl | rfl <;> kernel_rfl
theorem eq7 (c : Nat → Int) (D : Nat) (hi : ∀ (x : Int) W, (Op.equalIn D 3 (.int .i64 x) (.int .i64 x)).run Try.prog W = .ok true W) (w : World) : (Op.equalIn (D + 1) 43 (.agg (arr c)) (.agg (arr c))).run Try.prog w = .ok true w := by
  have hz : ∀ W, (Go.sizeOf 3).run Try.prog W = .ok 1 W := Try.sizeOf3
  have hp := fun k hk W => part7 c k hk W
  have p0 := hp 0 (by decide)
  have p1 := hp 1 (by decide)
  have p2 := hp 2 (by decide)
  have p3 := hp 3 (by decide)
  have p4 := hp 4 (by decide)
  have p5 := hp 5 (by decide)
  have p6 := hp 6 (by decide)
  simp only [Op.equalIn, Sem.run_bind, run_underlying Try.underlying43, Result.andThen_ok, hz]
  simp only [Std.Legacy.Range.forIn_eq_forIn_range', Std.Legacy.Range.size, Nat.sub_zero, Nat.add_sub_cancel, Nat.div_one, List.range'_succ, List.range'_zero, List.forIn_cons, List.forIn_nil]
  simp [p0, p1, p2, p3, p4, p5, p6, hi]
theorem neq7 (c : Nat → Int) (w : World) : (Go.binOp .neq 43 (.agg (arr c)) (.agg (arr c))).run Try.prog w = Result.ok (.bool false) w := by
  rw [run_neq_struct, eq7 c 9999 (fun x W => by rw [run_equalIn_int W 9998 3 .i64 .i64 x x Try.underlying3]; simp) w]; rfl
end Go.Proofs.Ytjplihljmohpjaa
