/- What the walks of this seat lean on: the package-level variables that the program reads, and that they stay. -/
import Derived.Test.YtdcgfbebeiheiaaGreatDoorProg
import Derived.WalkKit
import Derived.WalkSpells
import Derived.WalkLawsBesides
import Derived.Lib.Hide
import Derived.Lib.LaidTab
import Derived.Lib.ItoaNum
namespace Go.Proofs.YtdcgfbebeiheiaaGreatDoor
open Go.RowKit

/-- The byte that stands for the digit k. -/
def hexB (k : Nat) : Int := if k < 10 then 48 + k else 87 + k

theorem var?_later {P : Program} {n : String} {g : Nat} {cs : Array Value} {w w' : World} (hg : P.globalNamed n = some g) (h : w.var? P n = some cs) (hb : Below w.heap.size w w') : w'.var? P n = some cs := by
  unfold World.var? at h ⊢
  rw [hg] at h ⊢
  simp only [Option.bind_some] at h ⊢
  have hlt : g < w.heap.size := by
    rcases Nat.lt_or_ge g w.heap.size with h' | h'
    · exact h'
    · rw [Array.getElem?_eq_none h'] at h; cases h
  rw [hb.block g hlt]
  exact h

/-- What the package-level variables hold. -/
structure Gd (w : World) : Prop where
  dig : ∀ k : Nat, k < 16 → w.cell? ⟨3, k, none⟩ = some (.int .u8 (hexB k))
  ml : ∃ m, w.cell? ⟨0, 0, none⟩ = some (.int .i64 m)
  pow : Lib.TabIs Tryz.prog w "internal/strconv.uint64pow10" .u64 Lib.pow10Tab
  es : ∃ tp p, w.var? Tryz.prog "strconv.ErrSyntax" = some #[.iface tp p]
  er : ∃ tp p, w.var? Tryz.prog "strconv.ErrRange" = some #[.iface tp p]

theorem gPow : Tryz.prog.globalNamed "internal/strconv.uint64pow10" = some 4 := by kernel_rfl
theorem gEs : Tryz.prog.globalNamed "strconv.ErrSyntax" = some 5 := by kernel_rfl
theorem gEr : Tryz.prog.globalNamed "strconv.ErrRange" = some 6 := by kernel_rfl

theorem Gd.later {w w' : World} (h : Gd w) (hb : Below w.heap.size w w') : Gd w' where
  dig k hk := cell_later hb (h.dig k hk)
  ml := let ⟨m, hm⟩ := h.ml; ⟨m, cell_later hb hm⟩
  pow := var?_later gPow h.pow hb
  es := let ⟨t, p, hp⟩ := h.es; ⟨t, p, var?_later gEs hp hb⟩
  er := let ⟨t, p, hp⟩ := h.er; ⟨t, p, var?_later gEr hp hb⟩

theorem Gd.drew {w : World} (h : Gd w) : Gd w.drew := h.later ((Below.refl _ w).drew)
theorem Gd.drewN {w : World} (h : Gd w) (n : Nat) : Gd (w.drewN n) := h.later ⟨rfl, rfl, rfl, Nat.le_refl _, fun _ _ => rfl⟩
theorem bcell {W w1 : World} (hb : Below W.heap.size W w1) : (∀ b o, b < W.heap.size → w1.cell? ⟨b, o, none⟩ = W.cell? ⟨b, o, none⟩) ∧ (∀ b o, b < W.heap.size → w1.frozen? ⟨b, o, none⟩ = W.frozen? ⟨b, o, none⟩) :=
  ⟨fun b o h => hb.cell (p := ⟨b, o, none⟩) h, fun b o h => hb.frozen (p := ⟨b, o, none⟩) h⟩
theorem ret_int {k : IntKind} {a b : Int} (h : a = b) : Ending.returned (.int k a) = .returned (.int k b) := by rw [h]
theorem ret_bool {a b : Bool} (h : a = b) : Ending.returned (.bool a) = .returned (.bool b) := by rw [h]
end Go.Proofs.YtdcgfbebeiheiaaGreatDoor
