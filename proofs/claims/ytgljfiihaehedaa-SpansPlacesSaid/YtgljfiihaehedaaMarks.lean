/- The other way's table of pages. -/
import Derived.Test.YtgljfiihaehedaaRChk
namespace Go.Proofs.Ytgljfiihaehedaa
open Go.RowKit
attribute [local go_sem] Oper.semAt_some

/-- A table of so many pages. -/
def mkN (n : Nat) (f : Nat → Bool) : Array Value := ((List.range n).map fun p => Value.bool (f p)).toArray
theorem mkN_size (n : Nat) (f : Nat → Bool) : (mkN n f).size = n := by unfold mkN; rw [List.size_toArray, List.length_map, List.length_range]
theorem mkN_at (n : Nat) (f : Nat → Bool) (p : Nat) (hp : p < n) : (mkN n f)[p]? = some (.bool (f p)) := by
  unfold mkN; rw [List.getElem?_toArray, List.getElem?_map, List.getElem?_range hp]; rfl
theorem mkN_set (n : Nat) (f : Nat → Bool) (p : Nat) (b : Bool) : (mkN n f).setIfInBounds p (.bool b) = mkN n (fun x => if x = p then b else f x) := by
  apply Array.ext_getElem?
  intro j
  rw [Array.getElem?_setIfInBounds, mkN_size]
  by_cases hj : j < n
  · rw [mkN_at _ _ j hj, mkN_at _ _ j hj]
    by_cases he : p = j
    · subst he; simp [hj]
    · rw [if_neg he, if_neg (Ne.symm he)]
  · have h1 : ∀ g, (mkN n g)[j]? = none := fun g => by rw [Array.getElem?_eq_none]; rw [mkN_size]; omega
    rw [h1, h1]
    split
    · rw [if_neg (by omega)]
    · rfl
theorem mkN_congr (n : Nat) {f g : Nat → Bool} (h : ∀ p, p < n → f p = g p) : mkN n f = mkN n g := by
  unfold mkN
  rw [List.map_congr_left (g := fun p => Value.bool (g p)) fun p hp => by rw [h p (List.mem_range.1 hp)]]
theorem mkN_one (n : Nat) (f : Nat → Bool) : (mkN n f).all (·.oneCell') = true := by
  rw [Array.all_eq_true_iff_forall_mem]
  intro v hv
  unfold mkN at hv
  simp at hv
  obtain ⟨p, _, rfl⟩ := hv
  rfl
def mkA (f : Nat → Bool) : Array Value := mkN 1024 f
theorem mkA_size (f : Nat → Bool) : (mkA f).size = 1024 := mkN_size _ _
theorem mkA_at (f : Nat → Bool) (p : Nat) (hp : p < 1024) : (mkA f)[p]? = some (.bool (f p)) := mkN_at _ f p hp
theorem mkA_set (f : Nat → Bool) (p : Nat) (b : Bool) : (mkA f).setIfInBounds p (.bool b) = mkA (fun x => if x = p then b else f x) := mkN_set _ f p b
theorem mkA_congr {f g : Nat → Bool} (h : ∀ p, p < 1024 → f p = g p) : mkA f = mkA g := mkN_congr _ h
theorem mkA_one (f : Nat → Bool) : (mkA f).all (·.oneCell') = true := mkN_one _ f
theorem zero_mkA : Try.zeroCells69 = mkA (fun _ => false) := by unfold mkA mkN; kernel_rfl
/-- A box of a table of pages. -/
def ABox (W : World) (k : Nat) (f : Nat → Bool) : Prop := W.heap[k]? = some (.cells (mkA f) 69 (0, 0))
theorem ABox.lt {W : World} {k : Nat} {f : Nat → Bool} (h : ABox W k f) : k < W.heap.size := (Array.getElem?_eq_some_iff.1 h).1
theorem ABox.later {W V : World} {k : Nat} {f : Nat → Bool} (h : ABox W k f) (hb : Below W.heap.size W V) : ABox V k f := (hb.block k h.lt).trans h
theorem ABox.cell {W : World} {k : Nat} {f : Nat → Bool} (h : ABox W k f) (p : Nat) (hp : p < 1024) : W.cell? ⟨k, p, none⟩ = some (.bool (f p)) := by
  unfold ABox at h; simp only [World.cell?, h]; exact mkA_at f p hp
theorem ABox.frozen {W : World} {k : Nat} {f : Nat → Bool} (h : ABox W k f) (p : Nat) : W.frozen? ⟨k, p, none⟩ = false := by unfold ABox at h; simp [World.frozen?, h]
theorem ABox.set {W : World} {k : Nat} {f : Nat → Bool} (h : ABox W k f) (p : Nat) (b : Bool) : ABox (W.setCell ⟨k, p, none⟩ (.bool b)) k (fun x => if x = p then b else f x) := by
  unfold ABox
  rw [← mkA_set]
  exact heap_setCell_same W k p _ _ _ h
theorem ABox.congr {W : World} {k : Nat} {f g : Nat → Bool} (h : ABox W k f) (e : ∀ p, p < 1024 → f p = g p) : ABox W k g := by unfold ABox at *; rw [← mkA_congr e]; exact h
theorem ABox.other {W : World} {k : Nat} {f : Nat → Bool} (h : ABox W k f) {a : Addr} (ha : k ≠ a.block) (v : Value) : ABox (W.setCell a v) k f := (Below.heap_setCell _ _ _ _ ha).trans h
theorem ABox.alloc {W : World} {k : Nat} {f : Nat → Bool} (h : ABox W k f) (o : Obj) : ABox (W.alloc o) k f := (Below.heap_alloc W o k h.lt).trans h
theorem inS_take (L : List Sp) (k : Nat) (x : Sp) (h : L[k]? = some x) (p : Nat) : inS (L.take (k + 1)) p = (inS (L.take k) p || (decide (x.1 ≤ p) && decide (p < x.1 + x.2))) := by
  rw [List.take_add_one, h, inS_append]; simp [inS_one]
theorem bx_two (w : World) : ∃ WL, (w.alloc (.cells Try.zeroCells69 69)).alloc (.cells Try.zeroCells69 69) = WL ∧ Below w.heap.size w WL ∧ ABox WL w.heap.size (fun _ => false) ∧ ABox WL (w.heap.size + 1) (fun _ => false) := by
  refine ⟨_, rfl, ((Below.refl _ w).alloc (Nat.le_refl _) _).alloc (by simp) _, ?_, ?_⟩
  · unfold ABox; rw [← zero_mkA]; exact (Below.heap_alloc _ _ _ (by simp)).trans (World.alloc_heap_new w _)
  · unfold ABox; rw [← zero_mkA]
    have := World.alloc_heap_new (w.alloc (.cells Try.zeroCells69 69)) (.cells Try.zeroCells69 69)
    rw [World.size_alloc] at this
    exact this
theorem arr_len : Try.prog.arrayLen 69 = 1024 := by kernel_rfl

set_option maxRecDepth 100000 in
set_option maxHeartbeats 1000000 in
theorem Marks_is (L : List Sp) (hL : ValL L) (hl : L.length ≤ 5000) (v : Value) (w : World) (h : SAt w v (toI L)) :
    Calls Try.prog 51 #[v] w fun e w' => e = .returned (.agg (mkA (inS L))) ∧ Below w.heap.size w w' := by
  obtain ⟨va, vc, rfl⟩ := h.form
  obtain ⟨n, hn⟩ : ∃ n, L.length = n := ⟨_, rfl⟩
  have HN := Lib.hid hn
  rw [toI_len, hn] at h ⊢
  rw [hn] at hl
  obtain ⟨WL, hWL, hbL, a0, a1⟩ := bx_two w
  clear hn
  go_enter Try.func51, Try.ntmps51
  go_wp2_with fail
  try rw [hWL]
  clear hWL
  go_loopw [4] (fun i wr => ∃ k : Nat, k ≤ n ∧ i = .int .i64 k ∧ ABox wr w.heap.size (fun _ => false) ∧ ABox wr (w.heap.size + 1) (inS (L.take k)) ∧ Below w.heap.size w wr) (fun i _ => n - (intOf i).toNat)
  case atStart => exact ⟨0, Nat.zero_le _, rfl, a0, a1, hbL⟩
  case round =>
    clear a0 a1 hbL
    obtain ⟨k, hk, rfl, a0, a1, hB⟩ := hrel
    by_cases hlt : k < n
    · obtain ⟨x, hx⟩ : ∃ x, L[k]? = some x := ⟨_, List.getElem?_eq_getElem (by rw [HN.out]; exact hlt)⟩
      have vx := hL _ (List.mem_of_getElem? hx)
      have htk := inS_take L k x hx
      obtain ⟨p, q⟩ := x
      have ix := toI_some hx
      simp only at vx htk ix
      obtain ⟨b, off, rfl, hbl, k1, k2⟩ := h.at k _ ix
      simp only at k1 k2
      have hi1 : (k : Int) < (n : Int) := by omega
      have HT := Lib.hid htk
      clear hx ix htk
      have j1 := cell_later hB k1
      have j2 := cell_later hB k2
      have hbw := Nat.lt_of_lt_of_le hbl hB.size
      go_wp2_with fail
      clear j1 j2 hbw
      have a1s : ABox wr (w.heap.size + 1) (fun y => inS (L.take k) y || (decide (p ≤ y) && decide (y < p))) := a1.congr (fun y _ => by simp; omega)
      go_loopw [5] (fun i w2 => ∃ a : Nat, p ≤ a ∧ a ≤ p + q ∧ i = .int .i64 a ∧ ABox w2 w.heap.size (fun _ => false) ∧ ABox w2 (w.heap.size + 1) (fun y => inS (L.take k) y || (decide (p ≤ y) && decide (y < a))) ∧ Below w.heap.size w w2) (fun i _ => 1024 - (intOf i).toNat)
      case atStart => exact ⟨p, Nat.le_refl _, by omega, rfl, a0, a1s, hB⟩
      case round =>
        clear a0 a1 a1s hB
        obtain ⟨a, ha1, ha2, rfl, a0, a1, hB⟩ := hrel
        have j1 := cell_later hB k1
        have j2 := cell_later hB k2
        have hbw := Nat.lt_of_lt_of_le hbl hB.size
        by_cases hae : a < p + q
        · have hae1 : (a : Int) < (p : Int) + (q : Int) := by omega
          have hd : decide ((a : Int) < (p : Int) + (q : Int)) = true := by simpa using hae1
          have ha3 : a < 1024 := by omega
          have cA := a1.cell a ha3
          have cF := a1.frozen a
          have hz1 := a1.lt
          have ha4 : (a : Int) < 1024 := by omega
          have hal := arr_len
          go_wp2_with fail
          go_quiet (fail)
          go_wp2_with fail
          go_roundw
          case rel =>
            refine ⟨a + 1, by omega, by omega, by go_num, ABox.other (W := wr.drewN nq) a0 (by show w.heap.size ≠ w.heap.size + 1; omega) _, ?_, (below_drewN hB nq).setCell (by dsimp only; omega) _⟩
            refine (ABox.set (W := wr.drewN nq) a1 a true).congr fun y _ => ?_
            by_cases hy : y = a
            · subst hy
              rw [if_pos rfl, Bool.eq_iff_iff]; simp; omega
            · rw [if_neg hy, show decide (y < a + 1) = decide (y < a) by rw [Bool.eq_iff_iff]; simp; omega]
          case measure => simp [intOf]; omega
        · have hae2 : a = p + q := by omega
          have hae1 : ¬ (a : Int) < (p : Int) + (q : Int) := by omega
          have hd : decide ((a : Int) < (p : Int) + (q : Int)) = false := by simpa using hae1
          have a2 : ABox wr (w.heap.size + 1) (inS (L.take (k + 1))) := a1.congr fun y _ => by rw [HT.out y, hae2]
          go_wp2_with fail
          go_quiet (fail)
          go_wp2_with fail
          go_roundw
          case rel => exact ⟨k + 1, by omega, by go_num, a0, a2, below_drewN hB nq⟩
          case measure => simp [intOf]; omega
    · have hi1 : ¬ ((k : Int) < (n : Int)) := by omega
      have hkn : k = n := by omega
      rw [hkn, ← HN.out, List.take_length] at a1
      clear hkn
      go_wp2_with (first | (refine wpList_load_row rfl 69 _ rfl (w.heap.size + 1) rfl 69 _ (0, 0) _ a1 Try.underlying69 rfl (by rw [mkA_size]; kernel_rfl) ?_) | (refine wpList_store_row rfl 69 _ _ rfl w.heap.size (mkA (inS L)) rfl rfl 69 _ a0 (by rw [mkA_size]; kernel_rfl) (by rw [mkA_size, mkA_size]) (mkA_one _) ?_))
      have aR : (wr.setRow w.heap.size (mkA (inS L))).heap[w.heap.size]? = some (.cells (mkA (inS L)) 69 (0, 0)) := setRow_heap wr _ _ _ _ _ a0
      refine bodyPost_ret (results_cell_row (P := Try.prog) rfl _ _ w.heap.size 69 (mkA (inS L)) (0, 0) _ rfl aR Try.underlying69 rfl (by rw [mkA_size]; kernel_rfl)) rfl ?_
      exact ⟨rfl, ⟨hB.os, hB.tape, hB.output, by rw [setRow_size]; exact hB.size, fun j hj => (setRow_other wr _ j _ (by omega)).trans (hB.block j hj)⟩⟩
end Go.Proofs.Ytgljfiihaehedaa
