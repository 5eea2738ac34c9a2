/- strings.SplitSeq at a comma. -/
import Derived.Test.YtdcgfbebeiheiaaGreatDoorRange
import Derived.Test.YtdcgfbebeiheiaaGreatDoorItems
import Derived.Lib.IndexLaws
import Derived.Deep.RegionHeld
namespace Go.Proofs.YtdcgfbebeiheiaaGreatDoor
open Go.RowKit Go.Shelf
attribute [local go_sem] Oper.semAt_some

def spl : Nat → BA → List BA
  | 0, _ => []
  | f + 1, r => if Lib.indexByte r.data.toList 44 < 0 then [r] else r.extract 0 (Lib.indexByte r.data.toList 44).toNat :: spl f (r.extract ((Lib.indexByte r.data.toList 44).toNat + 1) r.size)
def splL (s : BA) : List BA := spl (s.size + 1) s
abbrev Pl := { x : BA // x.size ≤ 4096 }
theorem exl_size (r : BA) (a b : Nat) (h : b ≤ r.size) : (r.extract a b).size = b - a := by rw [Lib.size_eq, Lib.extract_data]; simp only [List.length_take, List.length_drop]; rw [← Lib.size_eq]; omega

/-- What may change between two rounds: new blocks; the text that is left. -/
def AbS (N : Nat) (A B : World) : Prop := A.grownBy B none ∨ ∃ v, B = A.setCell ⟨N, 0, none⟩ v
/-- The three boxes of the iterator stay. -/
def KpS (N : Nat) (A B : World) : Prop := ∀ k, N ≤ k → k ≤ N + 2 → k < A.heap.size → B.heap[k]? = A.heap[k]?
theorem KpS.cell {N : Nat} {A B : World} (h : KpS N A B) {k o : Nat} {v : Value} (h1 : N ≤ k) (h2 : k ≤ N + 2) (hc : A.cell? ⟨k, o, none⟩ = some v) : B.cell? ⟨k, o, none⟩ = some v := by
  have hlt : k < A.heap.size := World.block_lt_of_cell? _ _ hc
  rw [World.cell?_of_block (w := A) (h k h1 h2 hlt)]; exact hc
theorem KpS.frozen {N : Nat} {A B : World} (h : KpS N A B) {k o : Nat} {v : Value} (h1 : N ≤ k) (h2 : k ≤ N + 2) (hc : A.cell? ⟨k, o, none⟩ = some v) : B.frozen? ⟨k, o, none⟩ = A.frozen? ⟨k, o, none⟩ := by
  have hlt : k < A.heap.size := World.block_lt_of_cell? _ _ hc
  exact World.frozen?_of_block (w := A) (h k h1 h2 hlt)
def leftS (N : Nat) (W : World) : Nat := match W.cell? ⟨N, 0, none⟩ with | some (.string r) => r.size | _ => 0
theorem leftS_eq {N : Nat} {W : World} {r : BA} (h : W.cell? ⟨N, 0, none⟩ = some (.string r)) : leftS N W = r.size := by unfold leftS; rw [h]

theorem Index_44 (s : BA) (w : World) : Calls Tryz.prog 64 #[.string s, .string ⟨#[44]⟩] w fun e w' => e = .returned (.int .i64 (Lib.indexByte s.data.toList 44)) ∧ w = w' :=
  (Tryz.strings_Index_one s 44 w).mono fun _ _ ⟨h, h'⟩ => ⟨h, h'.symm⟩

set_option maxRecDepth 100000 in
set_option maxHeartbeats 4000000 in
theorem seq1_in (n : Nat) (hn : 1 ≤ n) (l N : Nat) (s : BA) (hs : s.size ≤ 4096) (J Jx : List Pl → World → Prop) (W0 : World)
    (hJ : ∀ s A B, AbS N A B → J s A → J s B)
    (hY : ∀ (pre : List Pl) x W, J pre W → pre.length < 5000 → YieldAt Fence.wide (n - 1) Tryz.prog l #[.string x.1] W fun e W' =>
      (e = .returned (.bool true) ∧ J (pre ++ [x]) W' ∧ KpS N W W') ∨ (e = .returned (.bool false) ∧ Jx (pre ++ [x]) W'))
    (hc0 : W0.cell? ⟨N, 0, none⟩ = some (.string s)) (hf0 : W0.frozen? ⟨N, 0, none⟩ = false) (hc1 : W0.cell? ⟨N + 1, 0, none⟩ = some (.string ⟨#[44]⟩)) (hc2 : W0.cell? ⟨N + 2, 0, none⟩ = some (.int .i64 0)) (h0 : J [] W0) :
    CallsIn Fence.wide n Tryz.prog 85 #[.func (.yield l) #[] #[], .pointer (some ⟨N + 1, 0, none⟩), .pointer (some ⟨N, 0, none⟩), .pointer (some ⟨N + 2, 0, none⟩)] W0 fun e W' => (∃ v, e = .returned v) ∧
      ((∃ ys, ys.map Subtype.val = splL s ∧ J ys W') ∨ (∃ pre : List Pl, pre.map Subtype.val <+: splL s ∧ Jx pre W')) := by
  refine callsIn_of_wp Tryz.func85 rfl trivial ?_ rfl
  simp only [Tryz.ntmps85, List.size_toArray, List.length_cons, List.length_nil, Nat.reduceAdd, Nat.reduceSub, Array.replicate_succ, Array.replicate_zero, List.push_toArray, List.append_toArray, List.nil_append, List.cons_append]
  have hf1 := wide_fn 64
  gi_wp2_with fail
  gi_loopw [7] (fun _ wr => ∃ (r : BA) (f : Nat) (pre : List Pl), r.size ≤ 4096 ∧ r.size < f ∧ wr.cell? ⟨N, 0, none⟩ = some (.string r) ∧ wr.frozen? ⟨N, 0, none⟩ = false ∧ wr.cell? ⟨N + 1, 0, none⟩ = some (.string ⟨#[44]⟩) ∧ wr.cell? ⟨N + 2, 0, none⟩ = some (.int .i64 0) ∧ J pre wr ∧ Hid (pre.map Subtype.val ++ spl f r = splL s) ∧ pre.length + r.size ≤ 4096) (fun _ wr => leftS N wr)
  case atStart => exact ⟨s, s.size + 1, [], hs, Nat.lt_succ_self _, hc0, hf0, hc1, hc2, h0, rfl, by simpa using hs⟩
  case round =>
    obtain ⟨r, f, pre, hrs, hf, hq0, hg0, hq1, hq2, hJs, HP, hpl⟩ := hrel
    obtain ⟨f, rfl⟩ : ∃ g, f = g + 1 := ⟨f - 1, by omega⟩
    have hPd := HP.out
    rw [spl] at hPd
    have hge := Lib.indexByte_ge r.data.toList 44
    by_cases hi : Lib.indexByte r.data.toList 44 < 0
    · rw [if_pos hi] at hPd
      have HPd := Lib.hid hPd
      obtain ⟨fn, tmps, assign, body, hy, hR⟩ := hY pre ⟨r, hrs⟩ wr hJs (by omega)
      dsimp only at hy
      clear hPd
      gi_wp2_with (gi_at_call 64; refine (callsIn_wide.2 (Index_44 r _)).mono ?_; rintro e w' ⟨rfl, rfl⟩)
      refine hR.mono ?_
      rintro e W2 (⟨rfl, hJ2, _⟩ | ⟨rfl, hJx2⟩)
      · gi_wp2
        go_end0
        exact ⟨⟨_, rfl⟩, .inl ⟨_, by simpa using HPd.out, hJ2⟩⟩
      · gi_wp2
        go_end0
        exact ⟨⟨_, rfl⟩, .inr ⟨_, by rw [← HPd.out]; simp, hJx2⟩⟩
    · obtain ⟨E, hE⟩ : ∃ E : Nat, Lib.indexByte r.data.toList 44 = (E : Int) := ⟨(Lib.indexByte r.data.toList 44).toNat, by omega⟩
      have hlt : E < r.size := by
        have h1 := (Lib.indexByte_some hE).1
        rw [Lib.size_eq]
        rcases Nat.lt_or_ge E r.data.toList.length with h | h
        · exact h
        · rw [List.getElem?_eq_none h] at h1; cases h1
      rw [if_neg hi, hE, Int.toNat_natCast] at hPd
      have HPd := Lib.hid hPd
      have HE := Lib.hid hE
      have hx : (r.extract 0 E).size ≤ 4096 := by rw [exl_size _ _ _ (by omega)]; omega
      have hsz := exl_size r (E + 1) r.size (Nat.le_refl _)
      obtain ⟨fn, tmps, assign, body, hy, hR⟩ := hY pre ⟨r.extract 0 E, hx⟩ wr hJs (by omega)
      dsimp only at hy
      have hi1 : (E : Int) ≤ (r.size : Int) := by omega
      clear hPd hE hi hge
      gi_wp2_with (gi_at_call 64; refine (callsIn_wide.2 (Index_44 r _)).mono ?_; rintro e w' ⟨rfl, rfl⟩; rw [HE.out])
      refine hR.mono ?_
      rintro e W2 (⟨rfl, hJ2, hk2⟩ | ⟨rfl, hJx2⟩)
      · have p0 := hk2.cell (Nat.le_refl N) (by omega) hq0
        have g0 := (hk2.frozen (Nat.le_refl N) (by omega) hq0).trans hg0
        have p1 := hk2.cell (show N ≤ N + 1 by omega) (by omega) hq1
        have p2 := hk2.cell (show N ≤ N + 2 by omega) (by omega) hq2
        have HQ := Lib.hid hq0
        clear hq0 hg0 hq1 hq2
        gi_wp2
        go_roundw
        case rel => exact ⟨r.extract (E + 1) r.size, f, _, by rw [hsz]; omega, by rw [hsz]; omega, World.cell?_setCell_same' _ _ _ (by rw [p0]; rfl), by rw [World.frozen?_setCell]; exact g0, by rw [World.cell?_setCell_far _ _ _ _ (by simp)]; exact p1, by rw [World.cell?_setCell_far _ _ _ _ (by simp)]; exact p2, hJ _ _ _ (.inr ⟨_, rfl⟩) hJ2, by unfold Hid; simpa using HPd.out, by rw [hsz]; simp; omega⟩
        case measure => rw [leftS_eq (World.cell?_setCell_same' _ _ _ (by rw [p0]; rfl)), leftS_eq HQ.out, hsz]; omega
      · gi_wp2
        refine bodyPost_ret (results_none rfl _ _ _) rfl ?_
        exact ⟨⟨_, rfl⟩, .inr ⟨_, by rw [← HPd.out]; simp, hJx2⟩⟩

theorem splitSeq_any (n : Nat) (s : BA) (w : World) :
    CallsIn Fence.wide n Tryz.prog 71 #[.string s, .string ⟨#[44]⟩, .int .i64 0] w fun e w' => e = .returned (.func (.func 85) #[] #[.pointer (some ⟨w.heap.size + 1, 0, none⟩), .pointer (some ⟨w.heap.size, 0, none⟩), .pointer (some ⟨w.heap.size + 2, 0, none⟩)]) ∧ ((w.alloc (.cells #[.string s] 9)).alloc (.cells #[.string ⟨#[44]⟩] 9)).alloc (.cells #[.int .i64 0] 3) = w' := by
  refine callsIn_of_wp Tryz.func71 rfl trivial ?_ rfl
  simp only [Tryz.ntmps71, List.size_toArray, List.length_cons, List.length_nil, Nat.reduceAdd, Nat.reduceSub, Array.replicate_succ, Array.replicate_zero, List.push_toArray, List.append_toArray, List.nil_append, List.cons_append]
  gi_wp2
  go_ret
  exact ⟨rfl, rfl⟩
theorem SplitSeq_any (n : Nat) (hn : 1 ≤ n) (s : BA) (w : World) :
    CallsIn Fence.wide n Tryz.prog 49 #[.string s, .string ⟨#[44]⟩] w fun e w' => e = .returned (.func (.func 85) #[] #[.pointer (some ⟨w.heap.size + 1, 0, none⟩), .pointer (some ⟨w.heap.size, 0, none⟩), .pointer (some ⟨w.heap.size + 2, 0, none⟩)]) ∧ ((w.alloc (.cells #[.string s] 9)).alloc (.cells #[.string ⟨#[44]⟩] 9)).alloc (.cells #[.int .i64 0] 3) = w' := by
  have hf1 := wide_fn 71
  refine callsIn_of_wp Tryz.func49 rfl trivial ?_ rfl
  simp only [Tryz.ntmps49, List.size_toArray, List.length_cons, List.length_nil, Nat.reduceAdd, Nat.reduceSub, Array.replicate_succ, Array.replicate_zero, List.push_toArray, List.append_toArray, List.nil_append, List.cons_append]
  gi_wp2_with (gi_at_call 71; refine (splitSeq_any _ s _).mono ?_; rintro e w' ⟨rfl, rfl⟩)
  go_ret
  exact ⟨rfl, rfl⟩
end Go.Proofs.YtdcgfbebeiheiaaGreatDoor
