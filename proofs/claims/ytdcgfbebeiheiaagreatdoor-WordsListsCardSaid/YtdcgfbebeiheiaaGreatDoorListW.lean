/- The laws of the best texts: their walks. -/
import Derived.Test.YtdcgfbebeiheiaaGreatDoorShown
import Derived.Test.YtdcgfbebeiheiaaGreatDoorListM
import Derived.Test.YtdcgfbebeiheiaaGreatDoorListNil
namespace Go.Proofs.YtdcgfbebeiheiaaGreatDoor
open Go.RowKit

theorem listA_ok {l : List Int} (h : Ok0 l) : listA l = (canonA l, 0) := by
  have h2 : l.all okZ = true := by
    refine List.all_eq_true.2 fun z hz => decide_eq_true ?_
    obtain ⟨j, hj, rfl⟩ := List.mem_iff_getElem.1 hz
    have := h.2 j
    rw [List.getElem?_eq_getElem hj] at this
    exact this
  unfold listA
  rw [if_neg (by have := h.1; omega), if_pos h2]
theorem can_ba (l : List Int) : (canonA l).data.toList = canL l := rfl

/-- A slice of numbers with its bounds. -/
def NumsAt (W : World) (v : Value) (l : List Int) : Prop := ∃ base, W.ownsRow base 3 1 v l.length (rowZ l)
theorem NumsAt.later {w w' : World} {v : Value} {l : List Int} (h : NumsAt w v l) (hb : Below w.heap.size w w') : NumsAt w' v l := by
  obtain ⟨base, h⟩ := h
  exact ⟨base, h.kept (grown_of_below hb) (Classical.em _)⟩
theorem NumsAt.ints {W : World} {v : Value} {l : List Int} (h : NumsAt W v l) : IntsAt W v l := by
  obtain ⟨base, h⟩ := h; exact IntsAt.of_row h
theorem ParseList_n (s : BA) (l : List Int) (err : Int) (he : pB s.data.toList = (l, err)) (hs0 : s.size ≤ maxLen) (w : World) (hgd : Gd w) :
    Calls Tryz.prog 10 #[.string s] w fun e w' => ∃ v, e = .returned (.tuple #[v, .int .i64 err]) ∧ NumsAt w' v l ∧ Below w.heap.size w w' :=
  (ParseList_any s hs0 w hgd (fun h => bdI_any s h)).mono fun _ _ ⟨v, h1, h2, h3⟩ => by rw [parse_eq, he] at h1 h2; exact ⟨v, h1, ⟨_, h2⟩, h3⟩
theorem List_n (v : Value) (l : List Int) (w : World) (hgd : Gd w) (h : NumsAt w v l) (hl : Ok0 l) :
    Calls Tryz.prog 8 #[v] w fun e w' => e = .returned (.tuple #[.string (canonA l), .int .i64 0]) ∧ Below w.heap.size w w' := by
  obtain ⟨base, h⟩ := h
  rcases h.2 with ⟨rfl, h2⟩ | ⟨g, cap, cur, rfl, _, _, hle, hmx, _⟩
  · obtain rfl := List.eq_nil_of_length_eq_zero h2
    exact List_nil w
  · have hL := List_any g 0 cap l hle hmx w hgd (fun j hj => by
      rw [Nat.zero_add, h.cellAt _ (by omega)]
      simp [rowZ, hj])
    rw [listA_ok hl] at hL
    exact hL
theorem ints_same (v1 v2 : Value) (l : List Int) (w : World) (h1 : IntsAt w v1 l) (h2 : IntsAt w v2 l) (hm1 : l.length ≤ 500) :
    Calls Tryz.prog 12 #[v1, v2] w fun e w' => e = .returned (.bool true) ∧ Below w.heap.size w w' := by
  have h := ints_any v1 v2 l l w h1 h2 (by omega)
  rw [decide_eq_true rfl] at h
  exact h

end Go.Proofs.YtdcgfbebeiheiaaGreatDoor
