/- What a loop over a range function must keep of the world. -/
import Derived.Test.YtgljfiihaehedaaRangeG
import Derived.RangeFuncCalls
import Derived.Shelf.RegionOpen
import Derived.Sort.LoopGhostIn
import Derived.Shelf.Abstract
import Derived.OwnWalkIn
import Derived.TacticsInMore
import Derived.LoopNIn
import Derived.Outline
import Derived.Sort.QuietIn
namespace Go.Proofs.Ytgljfiihaehedaa
open Go.RowKit Go.Shelf

theorem wide_fn (f : FuncId) : Fence.wide.fn f := by simp [Fence.wide]
theorem round_in {m m' l0 : Nat} {P : Program} {l : Nat} {f : FuncId} {tmps : Array Value} {assign body : Code} {w : World} {R : Ending → World → Prop}
    (h : RoundIn Fence.wide m P l f tmps assign body w R) : RoundIn (Fence.wide.inRound l0) m' P l f tmps assign body w R := ⟨h.1, fun c cs _ => h.2 c cs (room_wide _)⟩
theorem keepsFrom_up {B B' : Nat} {A C : World} (h : KeepsFrom B A C) (hB : B ≤ B') : KeepsFrom B' A C := ⟨h.size, fun k o h1 => h.same k o (Nat.le_trans hB h1)⟩
/-- The cells' blocks that p names lie as they lay. -/
def KC (p : Nat → Prop) (A C : World) : Prop := ∀ k o, p k → A.heap[k]? = some o → o.isCells = true → C.heap[k]? = some o
theorem KC.trans {p : Nat → Prop} {A B C : World} (h : KC p A B) (k : KC p B C) : KC p A C := fun i o hp h1 h2 => k i o hp (h i o hp h1 h2) h2
theorem KC.refl (p : Nat → Prop) (A : World) : KC p A A := fun _ _ _ h _ => h
theorem KC.putObj {p : Nat → Prop} (W : World) (k : Nat) (o o' : Obj) (h : W.heap[k]? = some o) (hc : o.isCells = false) : KC p W (W.putObj k o') := fun i q _ h1 h2 => by
  by_cases e : i = k
  · subst e; rw [h] at h1; cases h1; rw [hc] at h2; cases h2
  · exact (World.putObj_heap_other (by omega)).trans h1
theorem KC.of_below {p : Nat → Prop} {A B : World} (h : Below A.heap.size A B) : KC p A B := fun i _ _ h1 _ => (h.block i (Array.getElem?_eq_some_iff.1 h1).1).trans h1
theorem KC.mono {p q : Nat → Prop} {A B : World} (h : KC p A B) (hq : ∀ k, q k → p k) : KC q A B := fun i o hp => h i o (hq i hp)
theorem SAt.keep {p : Nat → Prop} {A C : World} {v : Value} {l : List SpI} (h : SAt A v l) (hk : KC p A C) (hp : l ≠ [] → ∀ k, v.ownBlock = some k → p k) : SAt C v l := by
  rcases h with h | ⟨b, off, cap, rfl, h1, h2, hc⟩
  · exact .inl h
  · refine .inr ⟨b, off, cap, rfl, h1, h2, fun j x hj => ?_⟩
    obtain ⟨c1, c2⟩ := hc j x hj
    obtain ⟨o, ho, hco⟩ := cells_of_cell c1
    have hb := (hk b o (hp (by intro e; rw [e] at hj; simp at hj) b rfl) ho hco).trans ho.symm
    exact ⟨by rw [World.cell?_of_block (w := A) hb]; exact c1, by rw [World.cell?_of_block (w := A) hb]; exact c2⟩
theorem SAt.own_lt {W : World} {v : Value} {l : List SpI} (h : SAt W v l) (hne : l ≠ []) (k : Nat) (hk : v.ownBlock = some k) : k < W.heap.size := by
  rcases h with ⟨_, h⟩ | ⟨b, off, cap, rfl, h1, h2, hc⟩
  · exact absurd h hne
  · simp [Value.ownBlock] at hk
    subst hk
    cases l with
    | nil => exact absurd rfl hne
    | cons a r => exact World.block_lt_of_cell? _ _ (hc 0 a rfl).1
theorem own_KC {β : Type} (B : Nat) (p : Nat → Prop) (W0 : World) : OwnFrom B (fun (_ : β) V => KC p W0 V) := fun _ A C row hs hg hr k o hp h1 h2 => by
  have h3 := hs k o hp h1 h2
  refine (hg.block k (Array.getElem?_eq_some_iff.1 h3).1 (fun e => ?_)).trans h3
  obtain ⟨_, o', h4, h5⟩ := hr k e.symm
  rw [h3] at h4; cases h4; rw [h2] at h5; cases h5
theorem own_map {α β : Type} {B : Nat} {J : List α → World → Prop} (h : OwnFrom B J) (f : β → α) : OwnFrom B (fun (pre : List β) V => J (pre.map f) V) := fun s W W' row hs hg hr => h (s.map f) W W' row hs hg hr
theorem KC_mid {p : Nat → Prop} {w A C : World} (hA : Below w.heap.size w A) (hC : Below w.heap.size w C) (hp : ∀ k, p k → k < w.heap.size) : KC p A C := fun k o hk h1 _ => by
  have h2 := hp k hk
  rw [hC.block k h2, ← hA.block k h2]; exact h1
end Go.Proofs.Ytgljfiihaehedaa
