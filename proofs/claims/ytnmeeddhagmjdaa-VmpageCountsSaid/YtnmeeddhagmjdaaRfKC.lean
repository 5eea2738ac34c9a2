/- What a loop over a range function must keep of the world. -/
import Derived.Test.YtnmeeddhagmjdaaRangeW
import Derived.RangeFuncCalls
import Derived.Shelf.RegionOpen
import Derived.Sort.LoopGhostIn
import Derived.Shelf.Abstract
import Derived.OwnWalkIn
import Derived.TacticsInMore
import Derived.LoopNIn
import Derived.Outline
import Derived.Sort.QuietIn
namespace Go.Proofs.Ytnmeeddhagmjdaa
open Go.RowKit Go.Shelf

theorem wide_fn (f : FuncId) : Fence.wide.fn f := by simp [Fence.wide]
theorem round_in {m m' l0 : Nat} {P : Program} {l : Nat} {f : FuncId} {tmps : Array Value} {assign body : Code} {w : World} {R : Ending → World → Prop}
    (h : RoundIn Fence.wide m P l f tmps assign body w R) : RoundIn (Fence.wide.inRound l0) m' P l f tmps assign body w R := ⟨h.1, fun c cs _ => h.2 c cs (room_wide _)⟩
theorem keepsFrom_up {B B' : Nat} {A C : World} (h : KeepsFrom B A C) (hB : B ≤ B') : KeepsFrom B' A C := ⟨h.size, fun k o h1 => h.same k o (Nat.le_trans hB h1)⟩
/-- The cells' blocks that p names lie as they lay. -/
def KC (p : Nat → Prop) (A C : World) : Prop := ∀ k o, p k → A.heap[k]? = some o → o.isCells = true → C.heap[k]? = some o
theorem KC.trans {p : Nat → Prop} {A B C : World} (h : KC p A B) (k : KC p B C) : KC p A C := fun i o hp h1 h2 => k i o hp (h i o hp h1 h2) h2
theorem KC.refl (p : Nat → Prop) (A : World) : KC p A A := fun _ _ _ h _ => h
theorem KC.putObj {p : Nat → Prop} (W : World) (k : Nat) (o o' : Obj) (h : W.heap[k]? = some o) (hc : o.isCells = false) : KC p W (W.putObj k o') := fun i q _ h1 h2 => by
  by_cases e : i = k
  · subst e; rw [h] at h1; cases h1; rw [hc] at h2; cases h2
  · exact (World.putObj_heap_other (by omega)).trans h1
theorem KC.of_below {p : Nat → Prop} {A B : World} (h : Below A.heap.size A B) : KC p A B := fun i _ _ h1 _ => (h.block i (Array.getElem?_eq_some_iff.1 h1).1).trans h1
theorem KC.mono {p q : Nat → Prop} {A B : World} (h : KC p A B) (hq : ∀ k, q k → p k) : KC q A B := fun i o hp => h i o (hq i hp)
theorem KC.setCell {p : Nat → Prop} (W : World) (a : Addr) (u : Value) (hk : ¬ p a.block) : KC p W (W.setCell a u) := fun i _ hp h1 _ => (Below.heap_setCell _ _ _ _ (by intro e; exact hk (by rw [← show i = a.block from e]; exact hp))).trans h1
theorem own_KC {β : Type} (B : Nat) (p : Nat → Prop) (W0 : World) : OwnFrom B (fun (_ : β) V => KC p W0 V) := fun _ A C row hs hg hr k o hp h1 h2 => by
  have h3 := hs k o hp h1 h2
  refine (hg.block k (Array.getElem?_eq_some_iff.1 h3).1 (fun e => ?_)).trans h3
  obtain ⟨_, o', h4, h5⟩ := hr k e.symm
  rw [h3] at h4; cases h4; rw [h2] at h5; cases h5
theorem own_cells {β : Type} (B k : Nat) (o : Obj) (hc : o.isCells = true) : OwnFrom B (fun (_ : β) W => W.heap[k]? = some o) := fun _ A C row hs hg hr =>
  (hg.block k (Array.getElem?_eq_some_iff.1 hs).1 (fun e => by
    obtain ⟨_, o', h1, h2⟩ := hr k e.symm
    rw [hs] at h1; cases h1; rw [hc] at h2; cases h2)).trans hs
def markOf (D : Nat) : Deferred := { target := .collected D, args := #[] }
/-- The blocks for the rounds' deferred calls are taken up, one by one, at the function's return. -/
theorem leaves_marks {F : Fence} {n : Nat} {P : Program} {fn : Func} {tmps : Array Value} {R : Ending → World → Prop} (n0 : Nat) : ∀ (Ds : List Nat) (W : World), Ds.Nodup →
    (∀ D ∈ Ds, n0 ≤ D ∧ W.heap[D]? = some (.deferred (some []))) → (∀ W', (∀ k, k ∉ Ds → W'.heap[k]? = W.heap[k]?) → Below n0 W W' → LeavesInM F n P fn tmps R [] .returning W') → LeavesInM F n P fn tmps R (Ds.map markOf) .returning W
  | [], W, _, _, h => h W (fun _ _ => rfl) (Below.refl _ _)
  | D :: Ds, W, hnd, hD, h => by
    have hD0 := hD D List.mem_cons_self
    have hnd' := List.nodup_cons.1 hnd
    refine ⟨by simp, .inl ⟨D, _, rfl, run_takeDeferred hD0.2, ?_⟩⟩
    refine leaves_marks n0 Ds _ hnd'.2 (fun D' hD' => ?_) (fun W' hk hb => h W' (fun k hk' => ?_) ?_)
    · have := hD D' (List.mem_cons_of_mem _ hD')
      exact ⟨this.1, (World.putObj_heap_other (by intro e; subst e; exact hnd'.1 hD')).trans this.2⟩
    · rw [hk k (fun h => hk' (List.mem_cons_of_mem _ h)), World.putObj_heap_other (by intro e; subst e; exact hk' List.mem_cons_self)]
    · exact ((Below.refl n0 W).grown (grownBy_putObj' W D _) (Nat.le_trans hD0.1 (Nat.le_of_lt (Array.getElem?_eq_some_iff.1 hD0.2).1)) (fun k e => by cases e; exact hD0.1)).trans hb
end Go.Proofs.Ytnmeeddhagmjdaa
