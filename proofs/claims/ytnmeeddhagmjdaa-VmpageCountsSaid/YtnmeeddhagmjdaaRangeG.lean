/- A loop over a range function that may itself hold a loop over a range function: what its elements are, and what each round owes, said from the world of its call on. -/
import Derived.Test.YtnmeeddhagmjdaaRfB
import Derived.RangeFuncBox
import Derived.RangeFuncLeaves
import Derived.RangeFuncFrom
import Derived.RangeFuncWrites
import Derived.RangeFuncNested
namespace Go.Proofs.Ytnmeeddhagmjdaa
open Go.RowKit

/-- An iterator: called in W (at or behind w), it yields elements; each round keeps Kp and what is no cells from W on. -/
def SeqG {α : Type} (F : Fence) (n : Nat) (P : Program) (g : Nat) (lb : Array Value) (encs : α → Array Value) (Kp : Nat → World → World → Prop) (S Sp : List α → Prop) (N : Nat) (w : World) : Prop :=
  ∀ (l : Nat) (J Jx : List α → World → Prop) (W : World), Below w.heap.size w W → OwnFrom W.heap.size J → OwnFrom W.heap.size Jx →
    (∀ pre x W1, J pre W1 → pre.length < N → YieldAt F (n - 1) P l (encs x) W1 fun e W' =>
      (e = .returned (.bool true) ∧ J (pre ++ [x]) W' ∧ Kp W.heap.size W1 W' ∧ KeepsFrom W.heap.size W1 W') ∨ (e = .returned (.bool false) ∧ Jx (pre ++ [x]) W' ∧ KeepsFrom W.heap.size W1 W')) →
    J [] W → CallsIn F n P g (#[.func (.yield l) #[] #[]] ++ lb) W fun e W' => (∃ v, e = .returned v) ∧ ((∃ xs, S xs ∧ J xs W') ∨ (∃ pre, Sp pre ∧ Jx pre W'))

theorem ownFrom_up {β : Type} {B B' : Nat} {I : β → World → Prop} (h : OwnFrom B I) (hB : B ≤ B') : OwnFrom B' I :=
  fun s W W' row hs hg hr => h s W W' row hs hg (fun r e => ⟨Nat.le_trans hB (hr r e).1, (hr r e).2⟩)
theorem ownFrom_block {β : Type} {B k : Nat} (o : Obj) (hk : k < B) : OwnFrom B (fun (_ : β) W => W.heap[k]? = some o) :=
  fun _ W W' row hs hg hr => (hg.block k (Array.getElem?_eq_some_iff.1 hs).1 (fun e => by have := (hr k e.symm).1; omega)).trans hs

variable {F : Fence} {n : Nat} {P : Program}

theorem range_g {α : Type} {g : Operand} {ps : Array Tmp} {assign body : Code} {Q : Exit → Act → World → Prop} {a : Act} {w : World}
    (hro : F.round = none) (h1 : 1 ≤ n) {gf : Nat} {lb : Array Value} (hg : a.eval g = .func (.func gf) #[] lb) (hFg : F.fn gf) (eg : ∀ args w, (callFunc gf args).run P w = .ok (.enter gf args) w)
    {encs : α → Array Value} {Kp : Nat → World → World → Prop} {S Sp : List α → Prop} {N : Nat} (hseq : SeqG F (n - 1) P gf lb encs Kp S Sp N w)
    (hKt : ∀ {b : Nat} {A B C : World}, Kp b A B → Kp b B C → Kp b A C) (hKb : ∀ (b : Nat) (W : World) (k : Nat) (o o' : Obj), W.heap[k]? = some o → o.isCells = false → o.isWalk = false → Kp b W (W.putObj k o'))
    (hps : ∀ x, (encs x).size = ps.size)
    (I : List α → World → Prop) (Ix : Code → List α → World → Prop) (hI : OwnFrom w.heap.size I) (hIx : ∀ c, OwnFrom w.heap.size (Ix c))
    (h0 : I [] w) (a₁ : α → Act)
    (hassign : ∀ (l : Nat) (x : α) (W : World) (K : Act → World → Prop), K (a₁ x) W → assign.wpIn (F.inRound l) (n - 1 - 1) P (Exit.then K (fun _ _ _ => False)) { tmps := (ps.zip (encs x)).foldl (fun t (p, v) => t.setIfInBounds p v) a.tmps, defers := [] } W)
    (hbody : ∀ (l : Nat) (pre : List α) (x : α) (W : World), I pre W → pre.length < N → body.wpIn (F.inRound l) (n - 1 - 1) P (ownPostG w.heap.size (Kp (w.heap.size + 2)) I Ix (pre ++ [x]) W) (a₁ x) W)
    (hdone : ∀ (D : Nat) (xs : List α) (W : World), w.heap.size ≤ D → S xs → I xs W → W.heap[D]? = some (.deferred (some [])) → Q .normal { a with defers := { target := .collected D, args := #[] } :: a.defers } W)
    (hstop : ∀ (D : Nat) (c : Code) (pre : List α) (W : World), w.heap.size ≤ D → Sp pre → Ix c pre W → W.heap[D]? = some (.deferred (some [])) → c.wpIn F n P Q { a with defers := { target := .collected D, args := #[] } :: a.defers } W) :
    (Code.rangeFunc g ps assign body).wpIn F n P Q a w := by
  refine wpIn_rangeFunc fun fn hfn => ?_
  rw [hro]
  obtain ⟨D, hD⟩ : ∃ D, w.heap.size = D := ⟨_, rfl⟩
  obtain ⟨lp, hlp⟩ : ∃ lp : LoopState → Option Code → Loop, lp = fun st pe => { state := st, pending := pe, fn, tmps := a.tmps, params := ps, assign, body, defers := w.heap.size } := ⟨_, rfl⟩
  obtain ⟨V, hV⟩ : ∃ V, (w.alloc (.deferred (some []))).alloc (.loop (lp .ready none)) = V := ⟨_, rfl⟩
  have vz : V.heap.size = D + 2 := by rw [← hV, ← hD]; simp
  have v1 : V.heap[D + 1]? = some (.loop (lp .ready none)) := by
    rw [← hV, ← hD]; simpa using World.alloc_heap_new (w.alloc (.deferred (some []))) (.loop (lp .ready none))
  have v2 : V.heap[D]? = some (.deferred (some [])) := by
    rw [← hV, ← hD]; exact (Below.heap_alloc _ _ _ (by simp)).trans (World.alloc_heap_new w _)
  have vI : I [] V := by rw [← hV]; exact hI.alloc _ (hI.alloc _ h0)
  have vB : Below w.heap.size w V := by rw [← hV]; exact ((Below.refl _ w).alloc (Nat.le_refl _) _).alloc (by simp) _
  refine ⟨D + 1, [{ target := .collected D, args := #[] }], V, { target := .fn (.func gf) lb, args := #[.func (.yield (D + 1)) #[] #[]] }, V, gf, #[.func (.yield (D + 1)) #[] #[]] ++ lb, V, ?_, ?_, ?_, ?_, fun _ => h1, ?_⟩
  · rw [← hV, hlp, ← hD]; exact run_enterLoop_outer _ _ _ _ _
  · simp only [resolve, hg]; simp [go_sem]
  · intro f' hf'; simp [Target.leads] at hf'; subst hf'; exact hFg
  · simp [invoke, go_sem, eg]
  have turn : ∀ (W3 : World) (jump : Option Code), (W3.heap[D + 1]? = some (.loop { lp .ready none with state := .busy })) → W3.heap[D]? = some (.deferred (some [])) →
      (Instr.endRound (D + 1) jump).run P W3 = .ok (.bool jump.isNone) (W3.putObj (D + 1) (.loop (lp (if jump.isNone then .ready else .done) jump))) ∧
      (W3.putObj (D + 1) (.loop (lp (if jump.isNone then .ready else .done) jump))).heap[D + 1]? = some (.loop (lp (if jump.isNone then .ready else .done) jump)) ∧
      (W3.putObj (D + 1) (.loop (lp (if jump.isNone then .ready else .done) jump))).heap[D]? = some (.deferred (some [])) := fun W3 jump e1 e2 => by
    have := run_endRound (P := P) jump e1
    rw [hlp] at this ⊢
    exact ⟨this, World.putObj_heap_same (Array.getElem?_eq_some_iff.1 e1).1, (World.putObj_heap_other (by omega)).trans e2⟩
  have far : ∀ (A : World) (o : Obj), KeepsFrom V.heap.size A (A.putObj (D + 1) o) := fun A o => KeepsFrom.of_grownBy (grownBy_putObj' A (D + 1) o) (fun j e => by cases e; omega)
  have hup : w.heap.size ≤ V.heap.size := by omega
  refine (hseq (D + 1) (fun pre W => I pre W ∧ W.heap[D + 1]? = some (.loop (lp .ready none)) ∧ W.heap[D]? = some (.deferred (some [])))
    (fun pre W => ∃ c, Ix c pre W ∧ W.heap[D + 1]? = some (.loop (lp .done (some c))) ∧ W.heap[D]? = some (.deferred (some []))) V vB
    (OwnFrom.and (ownFrom_up hI hup) (OwnFrom.and (ownFrom_block _ (by omega)) (ownFrom_block _ (by omega))))
    (fun s A B row ⟨c, h1, h2, h3⟩ hg hr => ⟨c, ownFrom_up (hIx c) hup s A B row h1 hg hr, ownFrom_block (β := List α) _ (by omega) s A B row h2 hg hr, ownFrom_block (β := List α) _ (by omega) s A B row h3 hg hr⟩) ?_ ⟨vI, v1, v2⟩).mono ?_
  · rintro pre x W ⟨hi, e1, e2⟩ hlen
    have hlt := (Array.getElem?_eq_some_iff.1 e1).1
    have hy := run_yield (P := P) (args := encs x) e1 (by rw [hlp]; exact hps x)
    rw [hlp] at hy
    refine ⟨fn, _, assign, body, hy, roundIn_of_wpIn hfn (hassign _ x W _ ⟨_, run_beginRound e1 (by rw [hlp]), ?_⟩)⟩
    have f1 : (W.putObj (D + 1) (.loop { lp .ready none with state := .busy })).heap[D + 1]? = some (.loop { lp .ready none with state := .busy }) := World.putObj_heap_same hlt
    have f2 : (W.putObj (D + 1) (.loop { lp .ready none with state := .busy })).heap[D]? = some (.deferred (some [])) := (World.putObj_heap_other (by omega)).trans e2
    refine wpIn_mono (hbody _ pre x _ (hI.putObj _ hi (by omega) e1 rfl) hlen) ?_
    have far2 : ∀ (W3 : World) (o o' : Obj), KeepsFrom w.heap.size (W.putObj (D + 1) o) W3 → KeepsFrom V.heap.size W (W3.putObj (D + 1) o') := fun W3 o o' hk =>
      ((far W o).trans ⟨hk.size, fun k q hk1 hk2 hk3 => hk.same k q (by omega) hk2 hk3⟩).trans (far W3 o')
    rintro e a3 W3 hp
    cases e with
    | normal =>
      obtain ⟨hk, hkp, hi3⟩ := hp
      obtain ⟨t1, t2, t3⟩ := turn W3 none (hk.same _ _ (by omega) f1 rfl) (hk.same _ _ (by omega) f2 rfl)
      refine ⟨_, _, t1, .inl ⟨rfl, ⟨hI.putObj _ hi3 (by omega) (hk.same _ _ (by omega) f1 rfl) rfl, t2, t3⟩, ?_, far2 _ _ _ hk⟩⟩
      rw [show V.heap.size = w.heap.size + 2 by omega]
      exact hKt (hKt (hKb _ _ _ _ _ e1 rfl rfl) hkp) (hKb _ _ _ _ _ (hk.same _ _ (by omega) f1 rfl) rfl rfl)
    | ret =>
      obtain ⟨hk, hi3⟩ := hp
      obtain ⟨t1, t2, t3⟩ := turn W3 (some .ret) (hk.same _ _ (by omega) f1 rfl) (hk.same _ _ (by omega) f2 rfl)
      exact ⟨_, _, t1, .inr ⟨rfl, ⟨.ret, (hIx _).putObj _ hi3 (by omega) (hk.same _ _ (by omega) f1 rfl) rfl, t2, t3⟩, far2 _ _ _ hk⟩⟩
    | exit id =>
      obtain ⟨hk, hi3⟩ := hp
      obtain ⟨t1, t2, t3⟩ := turn W3 (some (.exit id)) (hk.same _ _ (by omega) f1 rfl) (hk.same _ _ (by omega) f2 rfl)
      exact ⟨_, _, t1, .inr ⟨rfl, ⟨.exit id, (hIx _).putObj _ hi3 (by omega) (hk.same _ _ (by omega) f1 rfl) rfl, t2, t3⟩, far2 _ _ _ hk⟩⟩
    | goto t =>
      obtain ⟨hk, hi3⟩ := hp
      obtain ⟨t1, t2, t3⟩ := turn W3 (some (.goto t)) (hk.same _ _ (by omega) f1 rfl) (hk.same _ _ (by omega) f2 rfl)
      exact ⟨_, _, t1, .inr ⟨rfl, ⟨.goto t, (hIx _).putObj _ hi3 (by omega) (hk.same _ _ (by omega) f1 rfl) rfl, t2, t3⟩, far2 _ _ _ hk⟩⟩
    | panic ch => exact hp.elim
    | outgrown => exact hp.elim
  · rintro e W2 ⟨⟨v, rfl⟩, (⟨xs, hS, hi, e1, e2⟩ | ⟨pre, hSp, c, hi, e1, e2⟩)⟩
    · have hend := run_endLoop (P := P) e1 (by rw [hlp]; simp)
      rw [hlp] at hend
      exact ⟨none, _, hend, hdone D xs _ (by omega) hS (hI.putObj _ hi (by omega) e1 rfl) ((World.putObj_heap_other (by omega)).trans e2)⟩
    · have hend := run_endLoop (P := P) e1 (by rw [hlp]; simp)
      rw [hlp] at hend
      exact ⟨some c, _, hend, hstop D c pre _ (by omega) hSp ((hIx c).putObj _ hi (by omega) e1 rfl) ((World.putObj_heap_other (by omega)).trans e2)⟩
end Go.Proofs.Ytnmeeddhagmjdaa
