/- Rules in memory. -/
import Derived.Test.YtnmeeddhagmjdaaProg
import Derived.Test.YtnmeeddhagmjdaaRfM
import Derived.WalkKit
import Derived.WalkSpells
import Derived.WalkLawsBesides
import Derived.Lib.Hide
import Derived.RangeFuncBox
import Derived.Deep.QuietTactic
import Derived.BigQuiet
import Derived.Outline
import Derived.Laws.OwnMore
import Derived.OwnWalk
namespace Go.Proofs.Ytnmeeddhagmjdaa
open Go.RowKit

theorem bcell {W w1 : World} (hb : Below W.heap.size W w1) : (∀ b o, b < W.heap.size → w1.cell? ⟨b, o, none⟩ = W.cell? ⟨b, o, none⟩) ∧ (∀ b o, b < W.heap.size → w1.frozen? ⟨b, o, none⟩ = W.frozen? ⟨b, o, none⟩) :=
  ⟨fun b o h => hb.cell (p := ⟨b, o, none⟩) h, fun b o h => hb.frozen (p := ⟨b, o, none⟩) h⟩
theorem ret_int {k : IntKind} {a b : Int} (h : a = b) : Ending.returned (.int k a) = .returned (.int k b) := by rw [h]
theorem ret_bool {a b : Bool} (h : a = b) : Ending.returned (.bool a) = .returned (.bool b) := by rw [h]
theorem below_drewN {B : Nat} {w w' : World} (h : Below B w w') (n : Nat) : Below B w (w'.drewN n) := h.trans ⟨rfl, rfl, rfl, Nat.le_refl _, fun _ _ => rfl⟩
theorem grown_of_below {w w' : World} (h : Below w.heap.size w w') : w.grownBy w' none := ⟨h.os, h.tape, h.output, h.size, fun k hk _ => h.block k hk⟩

/-- A rule as it is handed over: any four numbers. -/
structure RlI where
  k : Int
  f : Int
  e : Int
  t : Int
def Ru.toI (r : Ru) : RlI := ⟨r.k, r.f, r.e, r.t⟩
def toI (l : List Ru) : List RlI := l.map Ru.toI
theorem toI_len (l : List Ru) : (toI l).length = l.length := by unfold toI; simp
theorem toI_some {l : List Ru} {j : Nat} {r : Ru} (h : l[j]? = some r) : (toI l)[j]? = some r.toI := by unfold toI; rw [List.getElem?_map, h]; rfl
abbrev rv (x : RlI) : Value := .agg #[.int .i64 x.k, .int .i64 x.f, .int .i64 x.e, .int .i64 x.t]
/-- A slice value that reads as a list of rules. -/
def RAt (W : World) (v : Value) (l : List RlI) : Prop :=
  ((∃ a, v = .slice a 0 0) ∧ l = []) ∨ ∃ b off cap, v = .slice (some ⟨b, off, none⟩) l.length cap ∧ l.length ≤ cap ∧ cap ≤ maxLen ∧ ∀ (j : Nat) (x : RlI), l[j]? = some x →
    W.cell? ⟨b, off + j * 4, none⟩ = some (.int .i64 x.k) ∧ W.cell? ⟨b, off + j * 4 + 1, none⟩ = some (.int .i64 x.f) ∧ W.cell? ⟨b, off + j * 4 + 2, none⟩ = some (.int .i64 x.e) ∧ W.cell? ⟨b, off + j * 4 + 3, none⟩ = some (.int .i64 x.t)
theorem RAt.form {W : World} {v : Value} {l : List RlI} (h : RAt W v l) : ∃ a cap, v = .slice a l.length cap := by
  rcases h with ⟨⟨_, rfl⟩, rfl⟩ | ⟨b, off, cap, rfl, _⟩
  · exact ⟨_, _, rfl⟩
  · exact ⟨_, _, rfl⟩
theorem RAt.len {W : World} {v : Value} {l : List RlI} (h : RAt W v l) : l.length ≤ 9223372036854775807 := by
  rcases h with ⟨_, rfl⟩ | ⟨b, off, cap, _, h1, h2, _⟩
  · simp
  · unfold maxLen at h2; omega
theorem RAt.at {W : World} {a : Option Addr} {n cap : Nat} {l : List RlI} (h : RAt W (.slice a n cap) l) (k : Nat) (x : RlI) (hx : l[k]? = some x) : ∃ b off, a = some ⟨b, off, none⟩ ∧ b < W.heap.size ∧
    W.cell? ⟨b, off + k * 4, none⟩ = some (.int .i64 x.k) ∧ W.cell? ⟨b, off + k * 4 + 1, none⟩ = some (.int .i64 x.f) ∧ W.cell? ⟨b, off + k * 4 + 2, none⟩ = some (.int .i64 x.e) ∧ W.cell? ⟨b, off + k * 4 + 3, none⟩ = some (.int .i64 x.t) := by
  rcases h with ⟨_, rfl⟩ | ⟨b, off, cap', hv, _, _, hc⟩
  · simp at hx
  · cases hv; exact ⟨b, off, rfl, World.block_lt_of_cell? _ _ (hc k x hx).1, hc k x hx⟩
theorem RAt.later {w w' : World} {v : Value} {l : List RlI} (h : RAt w v l) (hb : Below w.heap.size w w') : RAt w' v l := by
  rcases h with h | ⟨b, off, cap, rfl, h1, h2, hc⟩
  · exact .inl h
  · exact .inr ⟨b, off, cap, rfl, h1, h2, fun j x hx => ⟨cell_later hb (hc j x hx).1, cell_later hb (hc j x hx).2.1, cell_later hb (hc j x hx).2.2.1, cell_later hb (hc j x hx).2.2.2⟩⟩
theorem RAt.of_heap {w w' : World} {v : Value} {l : List RlI} (h : RAt w v l) (hh : w'.heap = w.heap) : RAt w' v l := by
  rcases h with h | ⟨b, off, cap, rfl, h1, h2, hc⟩
  · exact .inl h
  · refine .inr ⟨b, off, cap, rfl, h1, h2, fun j x hx => ?_⟩
    have := hc j x hx
    simp only [World.cell?, hh] at this ⊢
    exact this
theorem nil_at (W : World) : RAt W (.slice none 0 0) [] := .inl ⟨⟨_, rfl⟩, rfl⟩
/-- The block of a slice that has cells. -/
def obk : Value → Option Nat
  | .slice (some a) _ (_ + 1) => some a.block
  | _ => none
theorem obk_own {v : Value} {b : Nat} (h : obk v = some b) : v.ownBlock = some b := by
  unfold obk at h; split at h
  · exact h
  · cases h
/-- The box of a rule. -/
def RBox (W : World) (k : Nat) (x : RlI) : Prop := W.heap[k]? = some (.cells #[.int .i64 x.k, .int .i64 x.f, .int .i64 x.e, .int .i64 x.t] 134 (0, 0))
theorem RBox.new (W : World) (x : RlI) : RBox (W.alloc (.cells #[.int .i64 x.k, .int .i64 x.f, .int .i64 x.e, .int .i64 x.t] 134)) W.heap.size x := World.alloc_heap_new W _
theorem RBox.lt {W : World} {k : Nat} {x : RlI} (h : RBox W k x) : k < W.heap.size := (Array.getElem?_eq_some_iff.1 h).1
theorem RBox.alloc {W : World} {k : Nat} {x : RlI} (h : RBox W k x) (o : Obj) : RBox (W.alloc o) k x := (Below.heap_alloc W o k h.lt).trans h
theorem RBox.later {W V : World} {k : Nat} {x : RlI} (h : RBox W k x) (hb : Below W.heap.size W V) : RBox V k x := (hb.block k h.lt).trans h
theorem RBox.c0 {W : World} {k : Nat} {x : RlI} (h : RBox W k x) : W.cell? ⟨k, 0, none⟩ = some (.int .i64 x.k) := by unfold RBox at h; simp [World.cell?, h]
theorem RBox.c1 {W : World} {k : Nat} {x : RlI} (h : RBox W k x) : W.cell? ⟨k, 1, none⟩ = some (.int .i64 x.f) := by unfold RBox at h; simp [World.cell?, h]
theorem RBox.c2 {W : World} {k : Nat} {x : RlI} (h : RBox W k x) : W.cell? ⟨k, 2, none⟩ = some (.int .i64 x.e) := by unfold RBox at h; simp [World.cell?, h]
theorem RBox.c3 {W : World} {k : Nat} {x : RlI} (h : RBox W k x) : W.cell? ⟨k, 3, none⟩ = some (.int .i64 x.t) := by unfold RBox at h; simp [World.cell?, h]
/-- A row of rules of the call's own. -/
def rowU (l : List RlI) : List Value := l.flatMap fun x => [.int .i64 x.k, .int .i64 x.f, .int .i64 x.e, .int .i64 x.t]
theorem rowU_snoc (l : List RlI) (x : RlI) : rowU (l ++ [x]) = rowU l ++ [.int .i64 x.k, .int .i64 x.f, .int .i64 x.e, .int .i64 x.t] := by unfold rowU; rw [List.flatMap_append, List.flatMap_singleton]
theorem rowU_len (l : List RlI) : (rowU l).length = 4 * l.length := by
  induction l with
  | nil => rfl
  | cons x l ih => show (rowU l).length + 1 + 1 + 1 + 1 = _; rw [ih, List.length_cons]; omega
theorem rowU_at : ∀ (l : List RlI) (k : Nat) (x : RlI), l[k]? = some x → (rowU l)[4 * k]? = some (.int .i64 x.k) ∧ (rowU l)[4 * k + 1]? = some (.int .i64 x.f) ∧ (rowU l)[4 * k + 2]? = some (.int .i64 x.e) ∧ (rowU l)[4 * k + 3]? = some (.int .i64 x.t)
  | [], _, _, h => by simp at h
  | y :: l, 0, x, h => by simp at h; subst h; exact ⟨rfl, rfl, rfl, rfl⟩
  | y :: l, k + 1, x, h => by
    have h2 := rowU_at l k x (by simpa using h)
    have e : rowU (y :: l) = .int .i64 y.k :: .int .i64 y.f :: .int .i64 y.e :: .int .i64 y.t :: rowU l := rfl
    rw [e, show 4 * (k + 1) = 4 * k + 1 + 1 + 1 + 1 by omega]
    simpa using h2
abbrev UOwn (W : World) (B : Nat) (v : Value) (l : List RlI) : Prop := W.ownsRow B 134 4 v l.length (rowU l)
theorem UOwn.at {W : World} {B : Nat} {v : Value} {l : List RlI} (h : UOwn W B v l) : RAt W v l := by
  obtain ⟨hl, ⟨hv, h0⟩ | ⟨g, cap, cur, hv, _, hg, h1, h2, h3, ht⟩⟩ := h
  · exact .inl ⟨⟨_, hv⟩, List.eq_nil_of_length_eq_zero h0⟩
  · refine .inr ⟨g, 0, cap, hv, h1, h2, fun j x hx => ?_⟩
    obtain ⟨r1, r2, r3, r4⟩ := rowU_at l j x hx
    have hj : j < l.length := (List.getElem?_eq_some_iff.1 hx).1
    rw [← ht, List.getElem?_take, if_pos (by omega)] at r1 r2 r3 r4
    rw [show 0 + j * 4 = 4 * j by omega]
    simp only [World.cell?, hg]
    exact ⟨by simpa using r1, by simpa using r2, by simpa using r3, by simpa using r4⟩

def I64 (x : Int) : Prop := -9223372036854775808 ≤ x ∧ x ≤ 9223372036854775807
def Fit (l : List RlI) : Prop := ∀ x ∈ l, I64 x.k ∧ I64 x.f ∧ I64 x.e ∧ I64 x.t
/-- What is wrong with a rule. -/
def chkR (x : RlI) : Int := if x.k < 0 ∨ 6 < x.k then 2 else if x.f < 1 ∨ 10000 < x.f ∨ x.e < 0 ∨ 12 < x.e ∨ x.t < 0 ∨ 1000 < x.t then 7 else if x.e = 0 ∧ x.t ≠ 1 then 6 else 0
theorem chkR_ok {x : RlI} (h : chkR x = 0) : ∃ r : Ru, x = r.toI ∧ r.ok := by
  unfold chkR at h
  split at h
  · cases h
  · split at h
    · cases h
    · split at h
      · cases h
      · obtain ⟨k, f, e, t⟩ := x
        simp only at *
        refine ⟨⟨k.toNat, f.toNat, e.toNat, t.toNat⟩, ?_, ⟨?_, ?_, ?_, ?_, ?_, ?_⟩⟩
        · unfold Ru.toI; simp only; congr <;> omega
        all_goals simp only; omega
theorem chkR_of {r : Ru} (h : r.ok) : chkR r.toI = 0 := by
  have h1 := h.k; have h2 := h.f1; have h3 := h.f2; have h4 := h.e2; have h5 := h.t2; have h6 := h.et
  unfold chkR Ru.toI
  simp only
  rw [if_neg (by omega), if_neg (by omega), if_neg (by omega)]
def chkF : List RlI → Nat → Nat × Int
  | [], _ => (0, 0)
  | x :: r, i => if chkR x = 0 then chkF r (i + 1) else (i, chkR x)
/-- What Check answers. -/
def chkP (l : List RlI) : Nat × Int := if 50 < l.length then (0, 3) else chkF l 0
theorem chkF_ok : ∀ {l : List RlI} {i : Nat}, (chkF l i).2 = 0 → ∃ L, l = toI L ∧ ∀ r ∈ L, r.ok
  | [], _, _ => ⟨[], rfl, fun r hr => by cases hr⟩
  | x :: l, i, h => by
    rw [chkF] at h
    by_cases hx : chkR x = 0
    · rw [if_pos hx] at h
      obtain ⟨r, rfl, hr⟩ := chkR_ok hx
      obtain ⟨L, rfl, hL⟩ := chkF_ok h
      refine ⟨r :: L, rfl, fun y hy => ?_⟩
      rcases List.mem_cons.1 hy with rfl | hy
      · exact hr
      · exact hL y hy
    · rw [if_neg hx] at h; exact absurd h hx
theorem chkF_of : ∀ {L : List Ru} (i : Nat), (∀ r ∈ L, r.ok) → chkF (toI L) i = (0, 0)
  | [], _, _ => rfl
  | r :: L, i, h => by
    show (if chkR r.toI = 0 then chkF (toI L) (i + 1) else _) = _
    rw [if_pos (chkR_of (h r (by simp)))]
    exact chkF_of (i + 1) fun x hx => h x (by simp [hx])
theorem chkP_ok {l : List RlI} (h : (chkP l).2 = 0) : ∃ L, l = toI L ∧ OkL L := by
  unfold chkP at h
  split at h
  · cases h
  · rename_i h1
    obtain ⟨L, rfl, hL⟩ := chkF_ok h
    rw [toI_len] at h1
    exact ⟨L, rfl, by omega, hL⟩
theorem chkP_of {L : List Ru} (h : OkL L) : chkP (toI L) = (0, 0) := by
  unfold chkP
  rw [if_neg (by rw [toI_len]; have := h.1; omega), chkF_of 0 h.2]
theorem chkF_ne : ∀ (l : List RlI) (i : Nat), (chkF l i).2 = 0 → (chkF l i).1 = 0
  | [], _, _ => rfl
  | x :: l, i, h => by
    rw [chkF] at h ⊢
    split at h
    · rename_i hx; rw [if_pos hx]; exact chkF_ne l _ h
    · rename_i hx; exact absurd h hx
theorem chkF_cut : ∀ (l : List RlI) (i k : Nat) (x : RlI), l[k]? = some x → (∀ j y, j < k → l[j]? = some y → chkR y = 0) → chkR x ≠ 0 → chkF l i = (i + k, chkR x)
  | [], _, _, _, h, _, _ => by simp at h
  | y :: l, i, 0, x, h, _, h2 => by
    simp at h; subst h
    rw [chkF, if_neg h2]; rfl
  | y :: l, i, k + 1, x, h, h1, h2 => by
    rw [chkF, if_pos (h1 0 y (by omega) rfl), chkF_cut l (i + 1) k x (by simpa using h) (fun j z hj hz => h1 (j + 1) z (by omega) (by simpa using hz)) h2]
    congr 1; omega
theorem chkF_all : ∀ (l : List RlI) (i : Nat), (∀ (j : Nat) (y : RlI), l[j]? = some y → chkR y = 0) → chkF l i = (0, 0)
  | [], _, _ => rfl
  | x :: l, i, h => by rw [chkF, if_pos (h 0 x rfl)]; exact chkF_all l (i + 1) fun j y hy => h (j + 1) y (by simpa using hy)
end Go.Proofs.Ytnmeeddhagmjdaa
