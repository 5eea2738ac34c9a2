/- A region that draws its order, whose operations read and whose callees leave what lay there as it lay: walked once, in the order of the text. -/
import Derived.Test.YtnmeeddhagmjdaaRfB
import Derived.BigQuiet
namespace Go.Proofs.Ytnmeeddhagmjdaa
open Go.RowKit

/-- A world behind w, in which what lay in w lies as it lay. -/
structure Beh (w : World) where
  W : World
  h : Below w.heap.size w W
instance (w : World) : Nonempty (Beh w) := ⟨⟨w, Below.refl _ _⟩⟩
theorem Beh.cell {w : World} {p : Addr} {v : Value} (h : w.cell? p = some v) (x : Beh w) : x.W.cell? p = some v := cell_later x.h h
theorem region_beh {P : Program} {id : Nat} {Q : Exit → Act → World → Prop} {a : Act} {w : World} {l : List Oper} (hm : P.follows .mixedOrders = true) (hB : Region.lexB .any l.toArray = true)
    (h : wpQuiet P l.toArray (fun w' => ∃ x : Beh w, w' = x.W) (fun a' => ∀ w', (∃ x : Beh w, w' = x.W) → Q .normal a' w') l a) : (Code.region id l.toArray true).wp P Q a w :=
  wp_region_quiet (C := fun w' => ∃ x : Beh w, w' = x.W) hm hB ⟨⟨{ w with drawn := w.drawn + 1 }, ⟨rfl, rfl, rfl, Nat.le_refl _, fun _ _ => rfl⟩⟩, rfl⟩ h
end Go.Proofs.Ytnmeeddhagmjdaa
