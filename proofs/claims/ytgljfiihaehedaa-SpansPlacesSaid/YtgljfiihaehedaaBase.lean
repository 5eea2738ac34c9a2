/- Spans in memory, and the contracts of the small functions on them. -/
import Derived.Test.YtgljfiihaehedaaProg
import Derived.Test.YtgljfiihaehedaaSpM
import Derived.WalkKit
import Derived.WalkSpells
import Derived.WalkLawsBesides
import Derived.Lib.Hide
import Derived.RangeFuncBox
import Derived.Deep.QuietTactic
import Derived.BigQuiet
import Derived.Outline
import Derived.Laws.OwnMore
import Derived.OwnWalk
namespace Go.Proofs.Ytgljfiihaehedaa
open Go.RowKit

theorem bcell {W w1 : World} (hb : Below W.heap.size W w1) : (∀ b o, b < W.heap.size → w1.cell? ⟨b, o, none⟩ = W.cell? ⟨b, o, none⟩) ∧ (∀ b o, b < W.heap.size → w1.frozen? ⟨b, o, none⟩ = W.frozen? ⟨b, o, none⟩) :=
  ⟨fun b o h => hb.cell (p := ⟨b, o, none⟩) h, fun b o h => hb.frozen (p := ⟨b, o, none⟩) h⟩
theorem ret_int {k : IntKind} {a b : Int} (h : a = b) : Ending.returned (.int k a) = .returned (.int k b) := by rw [h]
theorem ret_bool {a b : Bool} (h : a = b) : Ending.returned (.bool a) = .returned (.bool b) := by rw [h]
theorem below_drewN {B : Nat} {w w' : World} (h : Below B w w') (n : Nat) : Below B w (w'.drewN n) := h.trans ⟨rfl, rfl, rfl, Nat.le_refl _, fun _ _ => rfl⟩
theorem grown_of_below {w w' : World} (h : Below w.heap.size w w') : w.grownBy w' none := ⟨h.os, h.tape, h.output, h.size, fun k hk _ => h.block k hk⟩

abbrev SpI := Int × Int
/-- A span as a value. -/
abbrev sv (x : SpI) : Value := .agg #[.int .i64 x.1, .int .i64 x.2]
def toI (l : List Sp) : List SpI := l.map fun x => ((x.1 : Int), (x.2 : Int))
theorem toI_len (l : List Sp) : (toI l).length = l.length := by unfold toI; simp
theorem toI_at (l : List Sp) (j : Nat) (h : j < l.length) : (toI l)[j]? = some ((l[j].1 : Int), (l[j].2 : Int)) := by unfold toI; simp [h]
/-- A slice value that reads as a list of spans. -/
def SAt (W : World) (v : Value) (l : List SpI) : Prop :=
  (v = .slice none 0 0 ∧ l = []) ∨ ∃ b off cap, v = .slice (some ⟨b, off, none⟩) l.length cap ∧ l.length ≤ cap ∧ cap ≤ maxLen ∧ ∀ (j : Nat) (x : SpI), l[j]? = some x → W.cell? ⟨b, off + j * 2, none⟩ = some (.int .i64 x.1) ∧ W.cell? ⟨b, off + j * 2 + 1, none⟩ = some (.int .i64 x.2)
theorem SAt.form {W : World} {v : Value} {l : List SpI} (h : SAt W v l) : ∃ a cap, v = .slice a l.length cap := by
  rcases h with ⟨rfl, rfl⟩ | ⟨b, off, cap, rfl, _⟩
  · exact ⟨_, _, rfl⟩
  · exact ⟨_, _, rfl⟩
theorem SAt.form3 {W : World} {v : Value} {l : List SpI} (h : SAt W v l) : ∃ a n cap, v = .slice a n cap := by
  obtain ⟨a, c, rfl⟩ := h.form
  exact ⟨_, _, _, rfl⟩
theorem SAt.at {W : World} {a : Option Addr} {n cap : Nat} {l : List SpI} (h : SAt W (.slice a n cap) l) (k : Nat) (x : SpI) (hx : l[k]? = some x) : ∃ b off, a = some ⟨b, off, none⟩ ∧ b < W.heap.size ∧ W.cell? ⟨b, off + k * 2, none⟩ = some (.int .i64 x.1) ∧ W.cell? ⟨b, off + k * 2 + 1, none⟩ = some (.int .i64 x.2) := by
  rcases h with ⟨_, rfl⟩ | ⟨b, off, cap', hv, _, _, hc⟩
  · simp at hx
  · cases hv; exact ⟨b, off, rfl, World.block_lt_of_cell? _ _ (hc k x hx).1, hc k x hx⟩
theorem SAt.later {w w' : World} {v : Value} {l : List SpI} (h : SAt w v l) (hb : Below w.heap.size w w') : SAt w' v l := by
  rcases h with h | ⟨b, off, cap, rfl, h1, h2, hc⟩
  · exact .inl h
  · exact .inr ⟨b, off, cap, rfl, h1, h2, fun j x hx => ⟨cell_later hb (hc j x hx).1, cell_later hb (hc j x hx).2⟩⟩
theorem nil_at (W : World) : SAt W (.slice none 0 0) [] := .inl ⟨rfl, rfl⟩
/-- The box of a span. -/
def XBox (W : World) (k : Nat) (x : SpI) : Prop := W.heap[k]? = some (.cells #[.int .i64 x.1, .int .i64 x.2] 31 (0, 0))
theorem XBox.new (W : World) (x : SpI) : XBox (W.alloc (.cells #[.int .i64 x.1, .int .i64 x.2] 31)) W.heap.size x := World.alloc_heap_new W _
theorem XBox.lt {W : World} {k : Nat} {x : SpI} (h : XBox W k x) : k < W.heap.size := (Array.getElem?_eq_some_iff.1 h).1
theorem XBox.alloc {W : World} {k : Nat} {x : SpI} (h : XBox W k x) (o : Obj) : XBox (W.alloc o) k x := (Below.heap_alloc W o k h.lt).trans h
theorem XBox.later {W V : World} {k : Nat} {x : SpI} (h : XBox W k x) (hb : Below W.heap.size W V) : XBox V k x := (hb.block k h.lt).trans h
theorem XBox.c0 {W : World} {k : Nat} {x : SpI} (h : XBox W k x) : W.cell? ⟨k, 0, none⟩ = some (.int .i64 x.1) := by unfold XBox at h; simp [World.cell?, h]
theorem XBox.c1 {W : World} {k : Nat} {x : SpI} (h : XBox W k x) : W.cell? ⟨k, 1, none⟩ = some (.int .i64 x.2) := by unfold XBox at h; simp [World.cell?, h]
theorem XBox.drew {W : World} {k : Nat} {x : SpI} (h : XBox W k x) : XBox W.drew k x := h
/-- A row of spans of the call's own. -/
def rowS (l : List SpI) : List Value := l.flatMap fun x => [.int .i64 x.1, .int .i64 x.2]
theorem rowS_snoc (l : List SpI) (x : SpI) : rowS (l ++ [x]) = rowS l ++ [.int .i64 x.1, .int .i64 x.2] := by unfold rowS; rw [List.flatMap_append, List.flatMap_singleton]
theorem rowS_app (l m : List SpI) : rowS (l ++ m) = rowS l ++ rowS m := by unfold rowS; rw [List.flatMap_append]
theorem rowS_len (l : List SpI) : (rowS l).length = 2 * l.length := by
  induction l with
  | nil => rfl
  | cons x l ih => show (rowS l).length + 1 + 1 = _; rw [ih, List.length_cons]; omega
theorem rowS_at : ∀ (l : List SpI) (k : Nat) (x : SpI), l[k]? = some x → (rowS l)[2 * k]? = some (.int .i64 x.1) ∧ (rowS l)[2 * k + 1]? = some (.int .i64 x.2)
  | [], _, _, h => by simp at h
  | y :: l, 0, x, h => by simp at h; subst h; exact ⟨rfl, rfl⟩
  | y :: l, k + 1, x, h => by
    have h2 := rowS_at l k x (by simpa using h)
    have e : rowS (y :: l) = .int .i64 y.1 :: .int .i64 y.2 :: rowS l := rfl
    rw [e, show 2 * (k + 1) = 2 * k + 1 + 1 by omega]
    simpa using h2
abbrev SOwn (W : World) (B : Nat) (v : Value) (l : List SpI) : Prop := W.ownsRow B 31 2 v l.length (rowS l)
theorem SOwn.at {W : World} {B : Nat} {v : Value} {l : List SpI} (h : SOwn W B v l) : SAt W v l := by
  obtain ⟨hl, ⟨hv, h0⟩ | ⟨g, cap, cur, hv, _, hg, h1, h2, h3, ht⟩⟩ := h
  · exact .inl ⟨hv, List.eq_nil_of_length_eq_zero h0⟩
  · refine .inr ⟨g, 0, cap, hv, h1, h2, fun j x hx => ?_⟩
    obtain ⟨r1, r2⟩ := rowS_at l j x hx
    have hj : j < l.length := (List.getElem?_eq_some_iff.1 hx).1
    rw [← ht, List.getElem?_take, if_pos (by omega)] at r1 r2
    rw [show 0 + j * 2 = 2 * j by omega]
    simp only [World.cell?, hg]
    exact ⟨by simpa using r1, by simpa using r2⟩
theorem SOwn.form {W : World} {B : Nat} {v : Value} {l : List SpI} (h : SOwn W B v l) : ∃ a cap, v = .slice a l.length cap := (SOwn.at h).form

/-- Is that a valid span? -/
def vld (x : SpI) : Bool := decide (0 ≤ x.1) && decide (1 ≤ x.2) && decide (x.2 ≤ 1024 - x.1)
def I64 (x : Int) : Prop := -9223372036854775808 ≤ x ∧ x ≤ 9223372036854775807
def Fit (l : List SpI) : Prop := ∀ x ∈ l, I64 x.1 ∧ I64 x.2
theorem vld_nat {x : SpI} (h : vld x = true) : ∃ a b : Nat, x = ((a : Int), (b : Int)) ∧ 1 ≤ b ∧ a + b ≤ 1024 := by
  unfold vld at h
  simp at h
  obtain ⟨p, q⟩ := x
  simp only at h
  exact ⟨p.toNat, q.toNat, by ext <;> simp <;> omega, by omega, by omega⟩

set_option maxRecDepth 100000 in
set_option maxHeartbeats 400000 in
theorem valid_is (a b : Int) (ha : I64 a) (r : Bool) (hr : vld (a, b) = r) (w : World) : Calls Try.prog 73 #[.agg #[.int .i64 a, .int .i64 b]] w fun e w' => e = .returned (.bool r) ∧ Below w.heap.size w w' := by
  unfold I64 at ha
  unfold vld at hr
  by_cases h1 : 0 ≤ a <;> by_cases h2 : 1 ≤ b <;> by_cases h3 : b ≤ 1024 - a
  all_goals first | (exfalso; omega) | skip
  all_goals
    have HR : Hid ((decide (0 ≤ a) && decide (1 ≤ b) && decide (b ≤ 1024 - a)) = r) := hr
    clear hr
    go_enter Try.func73, Try.ntmps73
    go_wp2
    go_ret
    exact ⟨ret_bool (by rw [← HR.out]; simp [h1, h2, h3]), (Below.refl _ _).alloc (Nat.le_refl _) _⟩

theorem end_is (x : SpI) (a b : Nat) (hx : x = ((a : Int), (b : Int))) (h : a + b ≤ 1024) (w : World) : Calls Try.prog 52 #[.agg #[.int .i64 x.1, .int .i64 x.2]] w fun e w' => e = .returned (.int .i64 ((a : Int) + (b : Int))) ∧ Below w.heap.size w w' := by
  subst hx
  have h1 : (a : Int) + (b : Int) ≤ 1024 := by omega
  go_enter Try.func52, Try.ntmps52
  go_wp2
  go_ret
  exact ⟨rfl, (Below.refl _ _).alloc (Nat.le_refl _) _⟩
end Go.Proofs.Ytgljfiihaehedaa
