/- What the walks of this seat lean on: the one table that the program reads, slices of words, and that they stay. -/
import Derived.Test.YtpplleojdcgceaaDoorProg
import Derived.Test.YtpplleojdcgceaaDoorMath
import Derived.WalkKit
import Derived.WalkSpells
import Derived.WalkLawsBesides
import Derived.Lib.Hide
import Derived.Lib.LaidTab
import Derived.RangeFuncBox
namespace Go.Proofs.YtpplleojdcgceaaDoor
open Go.RowKit

/-- What the package-level variable holds. -/
def Gd (w : World) : Prop := ∀ k : Nat, k < 64 → w.cell? ⟨0, k, none⟩ = some (.int .u8 (Lib.deBruijn64tab.getD k 0))
theorem Gd.later {w w' : World} (h : Gd w) (hb : Below w.heap.size w w') : Gd w' := fun k hk => cell_later hb (h k hk)
theorem Gd.drew {w : World} (h : Gd w) : Gd w.drew := h.later ((Below.refl _ w).drew)
theorem bcell {W w1 : World} (hb : Below W.heap.size W w1) : (∀ b o, b < W.heap.size → w1.cell? ⟨b, o, none⟩ = W.cell? ⟨b, o, none⟩) ∧ (∀ b o, b < W.heap.size → w1.frozen? ⟨b, o, none⟩ = W.frozen? ⟨b, o, none⟩) :=
  ⟨fun b o h => hb.cell (p := ⟨b, o, none⟩) h, fun b o h => hb.frozen (p := ⟨b, o, none⟩) h⟩
theorem ret_int {k : IntKind} {a b : Int} (h : a = b) : Ending.returned (.int k a) = .returned (.int k b) := by rw [h]
theorem ret_bool {a b : Bool} (h : a = b) : Ending.returned (.bool a) = .returned (.bool b) := by rw [h]

/-- A slice value that reads as a list of words. -/
def WAt (W : World) (v : Value) (ws : List Nat) : Prop :=
  (v = .slice none 0 0 ∧ ws = []) ∨ ∃ b off cap, v = .slice (some ⟨b, off, none⟩) ws.length cap ∧ ws.length ≤ cap ∧ cap ≤ maxLen ∧ ∀ (j : Nat) (h : j < ws.length), W.cell? ⟨b, off + j, none⟩ = some (.int .u64 (ws[j] : Nat))
theorem WAt.form {W : World} {v : Value} {ws : List Nat} (h : WAt W v ws) : ∃ a cap, v = .slice a ws.length cap := by
  rcases h with ⟨rfl, rfl⟩ | ⟨b, off, cap, rfl, _⟩
  · exact ⟨_, _, rfl⟩
  · exact ⟨_, _, rfl⟩
theorem WAt.at {W : World} {a : Option Addr} {n cap : Nat} {ws : List Nat} (h : WAt W (.slice a n cap) ws) (k : Nat) (hk : k < ws.length) : ∃ b off, a = some ⟨b, off, none⟩ ∧ b < W.heap.size ∧ W.cell? ⟨b, off + k, none⟩ = some (.int .u64 (ws[k] : Nat)) := by
  rcases h with ⟨_, rfl⟩ | ⟨b, off, cap', hv, _, _, hc⟩
  · simp at hk
  · cases hv; exact ⟨b, off, rfl, World.block_lt_of_cell? _ _ (hc k hk), hc k hk⟩
theorem WAt.later {w w' : World} {v : Value} {ws : List Nat} (h : WAt w v ws) (hb : Below w.heap.size w w') : WAt w' v ws := by
  rcases h with h | ⟨b, off, cap, rfl, h1, h2, hc⟩
  · exact .inl h
  · exact .inr ⟨b, off, cap, rfl, h1, h2, fun j hj => cell_later hb (hc j hj)⟩
/-- The cells' blocks that p names lie as they lay. -/
def KC (p : Nat → Prop) (A C : World) : Prop := ∀ k o, p k → A.heap[k]? = some o → o.isCells = true → C.heap[k]? = some o
theorem KC.trans {p : Nat → Prop} {A B C : World} (h : KC p A B) (k : KC p B C) : KC p A C := fun i o hp h1 h2 => k i o hp (h i o hp h1 h2) h2
theorem KC.refl (p : Nat → Prop) (A : World) : KC p A A := fun _ _ _ h _ => h
theorem KC.putObj {p : Nat → Prop} (W : World) (k : Nat) (o o' : Obj) (h : W.heap[k]? = some o) (hc : o.isCells = false) : KC p W (W.putObj k o') := fun i q _ h1 h2 => by
  by_cases e : i = k
  · subst e; rw [h] at h1; cases h1; rw [hc] at h2; cases h2
  · exact (World.putObj_heap_other (by omega)).trans h1
theorem KC.of_below {p : Nat → Prop} {A B : World} (h : Below A.heap.size A B) : KC p A B := fun i _ _ h1 _ => (h.block i (Array.getElem?_eq_some_iff.1 h1).1).trans h1
theorem KC.mono {p q : Nat → Prop} {A B : World} (h : KC p A B) (hq : ∀ k, q k → p k) : KC q A B := fun i o hp => h i o (hq i hp)
theorem WAt.keep {p : Nat → Prop} {A C : World} {v : Value} {ws : List Nat} (h : WAt A v ws) (hk : KC p A C) (hp : ws ≠ [] → ∀ k, v.ownBlock = some k → p k) : WAt C v ws := by
  rcases h with h | ⟨b, off, cap, rfl, h1, h2, hc⟩
  · exact .inl h
  · refine .inr ⟨b, off, cap, rfl, h1, h2, fun j hj => ?_⟩
    obtain ⟨o, ho, hco⟩ := cells_of_cell (hc j hj)
    rw [World.cell?_of_block (w := A) ((hk b o (hp (by intro e; rw [e] at hj; simp at hj) b rfl) ho hco).trans ho.symm)]
    exact hc j hj
theorem WAt.own_lt {W : World} {v : Value} {ws : List Nat} (h : WAt W v ws) (hne : ws ≠ []) (k : Nat) (hk : v.ownBlock = some k) : k < W.heap.size := by
  rcases h with ⟨_, h⟩ | ⟨b, off, cap, rfl, h1, h2, hc⟩
  · exact absurd h hne
  · simp [Value.ownBlock] at hk
    subst hk
    exact World.block_lt_of_cell? _ _ (hc 0 (by cases ws with | nil => exact absurd rfl hne | cons a l => simp))
theorem KC.setCell {p : Nat → Prop} (W : World) (k : Nat) (u : Value) (hk : ¬ p k) : KC p W (W.setCell ⟨k, 0, none⟩ u) := fun i _ hp h1 _ => (Below.heap_setCell _ _ _ _ (by intro e; exact hk (by rw [← show i = k from e]; exact hp))).trans h1
theorem KC.drew {p : Nat → Prop} {A B : World} (h : KC p A B) : KC p A B.drew := h
/-- All words fit. -/
def Fit64 (ws : List Nat) : Prop := ∀ x ∈ ws, x < 2 ^ 64
theorem Fit64.get {ws : List Nat} (h : Fit64 ws) (k : Nat) (hk : k < ws.length) : ws[k] < 18446744073709551616 := h _ (List.getElem_mem hk)
/-- Bits as a value. -/
abbrev bv (N : Int) (v : Value) : Value := .agg #[.int .i64 N, v]
end Go.Proofs.YtpplleojdcgceaaDoor
