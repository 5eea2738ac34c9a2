/- A table of small numbers, one for each call. -/
import Derived.Test.YtnmeeddhagmjdaaRfIt
import Derived.Laws.MakeOwn
namespace Go.Proofs.Ytnmeeddhagmjdaa
open Go.RowKit Go.Shelf
attribute [local go_sem] Oper.semAt_some

theorem Try.infoU8 : (Try.prog.info? 5).map (fun i => (i.zero, i.size, i.bytes)) = some (some (.int .u8 0), 1, 1) := by kernel_rfl
def tbl (m : Nat) (c : Nat → Nat) : Array Value := ((List.range m).map fun n => Value.int .u8 ((c n % 256 : Nat) : Int)).toArray
theorem tbl_size (m : Nat) (c : Nat → Nat) : (tbl m c).size = m := by unfold tbl; rw [List.size_toArray, List.length_map, List.length_range]
theorem tbl_at (m : Nat) (c : Nat → Nat) (p : Nat) (hp : p < m) : (tbl m c)[p]? = some (.int .u8 ((c p % 256 : Nat) : Int)) := by
  unfold tbl; rw [List.getElem?_toArray, List.getElem?_map, List.getElem?_range hp]; rfl
theorem tbl_set (m : Nat) (c : Nat → Nat) (p : Nat) (x : Nat) : (tbl m c).setIfInBounds p (.int .u8 ((x % 256 : Nat) : Int)) = tbl m (fun y => if y = p then x else c y) := by
  apply Array.ext_getElem?
  intro j
  rw [Array.getElem?_setIfInBounds, tbl_size]
  by_cases hj : j < m
  · rw [tbl_at _ _ j hj, tbl_at _ _ j hj]
    by_cases he : p = j
    · subst he; simp [hj]
    · rw [if_neg he, if_neg (Ne.symm he)]
  · have h1 : ∀ g, (tbl m g)[j]? = none := fun g => by rw [Array.getElem?_eq_none]; rw [tbl_size]; omega
    rw [h1, h1]
    split
    · rw [if_neg (by omega)]
    · rfl
theorem tbl_congr (m : Nat) {c d : Nat → Nat} (h : ∀ p, p < m → c p = d p) : tbl m c = tbl m d := by
  unfold tbl
  rw [List.map_congr_left (g := fun n => Value.int .u8 ((d n % 256 : Nat) : Int)) fun p hp => by rw [h p (List.mem_range.1 hp)]]
/-- A block that holds the table. -/
def TBox (W : World) (g m : Nat) (c : Nat → Nat) : Prop := W.heap[g]? = some (.cells (tbl m c) 5 (0, 0))
theorem TBox.lt {W : World} {g m : Nat} {c : Nat → Nat} (h : TBox W g m c) : g < W.heap.size := (Array.getElem?_eq_some_iff.1 h).1
theorem TBox.later {W V : World} {g m : Nat} {c : Nat → Nat} (h : TBox W g m c) (hb : Below W.heap.size W V) : TBox V g m c := (hb.block g h.lt).trans h
theorem TBox.cell {W : World} {g m : Nat} {c : Nat → Nat} (h : TBox W g m c) (p : Nat) (hp : p < m) : W.cell? ⟨g, p, none⟩ = some (.int .u8 ((c p % 256 : Nat) : Int)) := by
  unfold TBox at h; simp only [World.cell?, h]; exact tbl_at m c p hp
theorem TBox.frozen {W : World} {g m : Nat} {c : Nat → Nat} (h : TBox W g m c) (p : Nat) : W.frozen? ⟨g, p, none⟩ = false := by unfold TBox at h; simp [World.frozen?, h]
theorem TBox.set {W : World} {g m : Nat} {c : Nat → Nat} (h : TBox W g m c) (p x : Nat) : TBox (W.setCell ⟨g, p, none⟩ (.int .u8 ((x % 256 : Nat) : Int))) g m (fun y => if y = p then x else c y) := by
  unfold TBox
  rw [← tbl_set]
  exact heap_setCell_same W g p _ _ _ h
theorem TBox.congr {W : World} {g m : Nat} {c d : Nat → Nat} (h : TBox W g m c) (e : ∀ p, p < m → c p = d p) : TBox W g m d := by unfold TBox at *; rw [← tbl_congr m e]; exact h
theorem own_TBox {β : Type} (B g m : Nat) (f : β → Nat → Nat) : OwnFrom B (fun (s : β) W => TBox W g m (f s)) := fun s A C row hs hg hr =>
  (hg.block g (Array.getElem?_eq_some_iff.1 hs).1 (fun e => by
    obtain ⟨_, o', h1, h2⟩ := hr g e.symm
    unfold TBox at hs
    rw [hs] at h1; cases h1; cases h2)).trans hs
theorem made_tbl (m : Nat) : (madeCells (Value.int .u8 0).cells (m * 1)) = tbl m (fun _ => 0) := by
  apply Array.ext_getElem?
  intro j
  by_cases h : j < m
  · rw [tbl_at _ _ j h]
    simp [madeCells, h, Value.cells, Nat.mod_one]
  · rw [Array.getElem?_eq_none (by simp [madeCells]; omega), Array.getElem?_eq_none (by rw [tbl_size]; omega)]
theorem run_make_tbl (w : World) (m : Nat) (hm : m ≤ 1000000) : (Instr.makeSlice 56 (.int .i64 (m : Int)) (.int .i64 (m : Int))).run Try.prog w = .ok (.slice (some ⟨w.heap.size, 0, none⟩) m m) (w.alloc (.cells (tbl m fun _ => 0) 5)) := by
  obtain ⟨i0, hi, hz0, hz1, hz2⟩ := info_parts Try.infoU8
  have hr := run_make (P := Try.prog) w 56 5 i0 _ Try.underlying56 hi hz0 .i64 .i64 m m (by omega) (Int.le_refl _) (by rw [hz2]; omega) (by omega)
  simp only [Int.toNat_natCast] at hr
  rw [hz1, made_tbl] at hr
  exact hr
end Go.Proofs.Ytnmeeddhagmjdaa
