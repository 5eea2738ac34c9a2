/- A loop over a range function that keeps a state of its own in a cell: what may change between two rounds is a relation Ab that the iterator names; the loop's invariant abides it. -/
import Derived.Test.YtdcgfbebeiheiaaGreatDoorBase
import Derived.RangeFuncBox
import Derived.RangeFuncLeaves
import Derived.RangeFuncFrom
import Derived.RangeFuncNested
namespace Go.Proofs.YtdcgfbebeiheiaaGreatDoor
open Go.RowKit

def SeqAb {α : Type} (F : Fence) (n : Nat) (P : Program) (g : Nat) (lb : Array Value) (encs : α → Array Value) (Ab Kp : World → World → Prop) (S Sp : List α → Prop) (N : Nat) (w : World) : Prop :=
  ∀ (l : Nat) (J Jx : List α → World → Prop) (W : World), Below w.heap.size w W → (∀ s A B, Ab A B → J s A → J s B) → (∀ s A B, Ab A B → Jx s A → Jx s B) →
    (∀ pre x W1, J pre W1 → pre.length < N → YieldAt F (n - 1) P l (encs x) W1 fun e W' => (e = .returned (.bool true) ∧ J (pre ++ [x]) W' ∧ Kp W1 W') ∨ (e = .returned (.bool false) ∧ Jx (pre ++ [x]) W')) →
    J [] W → CallsIn F n P g (#[.func (.yield l) #[] #[]] ++ lb) W fun e W' => (∃ v, e = .returned v) ∧ ((∃ xs, S xs ∧ J xs W') ∨ (∃ pre, Sp pre ∧ Jx pre W'))

/-- How a round is left. -/
def abPost {α : Type} (Kp : World → World → Prop) (I : List α → World → Prop) (Ix : Code → List α → World → Prop) (xs : List α) (W : World) : Exit → Act → World → Prop
  | .normal, _, V => KeepsOthers W V ∧ Kp W V ∧ I xs V
  | .ret, _, V => KeepsOthers W V ∧ Ix .ret xs V
  | .exit id, _, V => KeepsOthers W V ∧ Ix (.exit id) xs V
  | .goto t, _, V => KeepsOthers W V ∧ Ix (.goto t) xs V
  | _, _, _ => False

variable {F : Fence} {n : Nat} {P : Program}

theorem range_ab {α : Type} {g : Operand} {ps : Array Tmp} {assign body : Code} {Q : Exit → Act → World → Prop} {a : Act} {w : World}
    (hro : F.round = none) (h1 : 1 ≤ n) {gf : Nat} {lb : Array Value} (hg : a.eval g = .func (.func gf) #[] lb) (hFg : F.fn gf) (eg : ∀ args w, (callFunc gf args).run P w = .ok (.enter gf args) w)
    {encs : α → Array Value} {Ab Kp : World → World → Prop} {S Sp : List α → Prop} {N : Nat} (hseq : SeqAb F (n - 1) P gf lb encs Ab Kp S Sp N w)
    (hKt : ∀ {A B C : World}, Kp A B → Kp B C → Kp A C) (hKb : ∀ (W : World) (k : Nat) (o o' : Obj), w.heap.size ≤ k → W.heap[k]? = some o → o.isCells = false → o.isWalk = false → Kp W (W.putObj k o'))
    (hAb : ∀ (A B : World) (k : Nat) (o : Obj), Ab A B → A.heap[k]? = some o → o.isCells = false → o.isWalk = false → B.heap[k]? = some o) (hps : ∀ x, (encs x).size = ps.size)
    (I : List α → World → Prop) (Ix : Code → List α → World → Prop) (hI : OwnFrom w.heap.size I) (hIx : ∀ c, OwnFrom w.heap.size (Ix c)) (hIA : ∀ s A B, Ab A B → I s A → I s B) (hIxA : ∀ c s A B, Ab A B → Ix c s A → Ix c s B)
    (h0 : I [] w) (a₁ : α → Act)
    (hassign : ∀ (l : Nat) (x : α) (W : World) (K : Act → World → Prop), K (a₁ x) W → assign.wpIn (F.inRound l) (n - 1 - 1) P (Exit.then K (fun _ _ _ => False)) { tmps := (ps.zip (encs x)).foldl (fun t (p, v) => t.setIfInBounds p v) a.tmps, defers := [] } W)
    (hbody : ∀ (l : Nat) (pre : List α) (x : α) (W : World), I pre W → pre.length < N → body.wpIn (F.inRound l) (n - 1 - 1) P (abPost Kp I Ix (pre ++ [x]) W) (a₁ x) W)
    (hdone : ∀ (D : Nat) (xs : List α) (W : World), w.heap.size ≤ D → S xs → I xs W → W.heap[D]? = some (.deferred (some [])) → Q .normal { a with defers := { target := .collected D, args := #[] } :: a.defers } W)
    (hstop : ∀ (D : Nat) (c : Code) (pre : List α) (W : World), w.heap.size ≤ D → Sp pre → Ix c pre W → W.heap[D]? = some (.deferred (some [])) → c.wpIn F n P Q { a with defers := { target := .collected D, args := #[] } :: a.defers } W) :
    (Code.rangeFunc g ps assign body).wpIn F n P Q a w := by
  refine wpIn_rangeFunc fun fn hfn => ?_
  rw [hro]
  obtain ⟨D, hD⟩ : ∃ D, w.heap.size = D := ⟨_, rfl⟩
  obtain ⟨lp, hlp⟩ : ∃ lp : LoopState → Option Code → Loop, lp = fun st pe => { state := st, pending := pe, fn, tmps := a.tmps, params := ps, assign, body, defers := w.heap.size } := ⟨_, rfl⟩
  obtain ⟨V, hV⟩ : ∃ V, (w.alloc (.deferred (some []))).alloc (.loop (lp .ready none)) = V := ⟨_, rfl⟩
  have v1 : V.heap[D + 1]? = some (.loop (lp .ready none)) := by
    rw [← hV, ← hD]; simpa using World.alloc_heap_new (w.alloc (.deferred (some []))) (.loop (lp .ready none))
  have v2 : V.heap[D]? = some (.deferred (some [])) := by
    rw [← hV, ← hD]; exact (Below.heap_alloc _ _ _ (by simp)).trans (World.alloc_heap_new w _)
  have vI : I [] V := by rw [← hV]; exact hI.alloc _ (hI.alloc _ h0)
  have vB : Below w.heap.size w V := by rw [← hV]; exact ((Below.refl _ w).alloc (Nat.le_refl _) _).alloc (by simp) _
  refine ⟨D + 1, [{ target := .collected D, args := #[] }], V, { target := .fn (.func gf) lb, args := #[.func (.yield (D + 1)) #[] #[]] }, V, gf, #[.func (.yield (D + 1)) #[] #[]] ++ lb, V, ?_, ?_, ?_, ?_, fun _ => h1, ?_⟩
  · rw [← hV, hlp, ← hD]; exact run_enterLoop_outer _ _ _ _ _
  · simp only [resolve, hg]; simp [go_sem]
  · intro f' hf'; simp [Target.leads] at hf'; subst hf'; exact hFg
  · simp [invoke, go_sem, eg]
  have turn : ∀ (W3 : World) (k : Nat) (jump : Option Code), (W3.heap[D + 1]? = some (.loop { lp .ready none with state := .busy })) → W3.heap[D]? = some (.deferred (some [])) → k = D →
      (Instr.endRound (D + 1) jump).run P W3 = .ok (.bool jump.isNone) (W3.putObj (D + 1) (.loop (lp (if jump.isNone then .ready else .done) jump))) ∧
      (W3.putObj (D + 1) (.loop (lp (if jump.isNone then .ready else .done) jump))).heap[D + 1]? = some (.loop (lp (if jump.isNone then .ready else .done) jump)) ∧
      (W3.putObj (D + 1) (.loop (lp (if jump.isNone then .ready else .done) jump))).heap[D]? = some (.deferred (some [])) := fun W3 k jump e1 e2 _ => by
    have := run_endRound (P := P) jump e1
    rw [hlp] at this ⊢
    exact ⟨this, World.putObj_heap_same (Array.getElem?_eq_some_iff.1 e1).1, (World.putObj_heap_other (by omega)).trans e2⟩
  refine (hseq (D + 1) (fun pre W => I pre W ∧ W.heap[D + 1]? = some (.loop (lp .ready none)) ∧ W.heap[D]? = some (.deferred (some [])))
    (fun pre W => ∃ c, Ix c pre W ∧ W.heap[D + 1]? = some (.loop (lp .done (some c))) ∧ W.heap[D]? = some (.deferred (some []))) V vB
    (fun s A B hab hs => ⟨hIA s A B hab hs.1, hAb A B _ _ hab hs.2.1 rfl rfl, hAb A B _ _ hab hs.2.2 rfl rfl⟩)
    (fun s A B hab ⟨c, hs⟩ => ⟨c, hIxA c s A B hab hs.1, hAb A B _ _ hab hs.2.1 rfl rfl, hAb A B _ _ hab hs.2.2 rfl rfl⟩) ?_ ⟨vI, v1, v2⟩).mono ?_
  · rintro pre x W ⟨hi, e1, e2⟩ hlen
    have hlt := (Array.getElem?_eq_some_iff.1 e1).1
    have hy := run_yield (P := P) (args := encs x) e1 (by rw [hlp]; exact hps x)
    rw [hlp] at hy
    refine ⟨fn, _, assign, body, hy, roundIn_of_wpIn hfn (hassign _ x W _ ⟨_, run_beginRound e1 (by rw [hlp]), ?_⟩)⟩
    have f1 : (W.putObj (D + 1) (.loop { lp .ready none with state := .busy })).heap[D + 1]? = some (.loop { lp .ready none with state := .busy }) := World.putObj_heap_same hlt
    have f2 : (W.putObj (D + 1) (.loop { lp .ready none with state := .busy })).heap[D]? = some (.deferred (some [])) := (World.putObj_heap_other (by omega)).trans e2
    refine wpIn_mono (hbody _ pre x _ (hI.putObj _ hi (by omega) e1 rfl) hlen) ?_
    rintro e a3 W3 hp
    cases e with
    | normal =>
      obtain ⟨hk, hkp, hi3⟩ := hp
      obtain ⟨t1, t2, t3⟩ := turn W3 D none (hk.same _ _ f1 rfl) (hk.same _ _ f2 rfl) rfl
      exact ⟨_, _, t1, .inl ⟨rfl, ⟨hI.putObj _ hi3 (by omega) (hk.same _ _ f1 rfl) rfl, t2, t3⟩, hKt (hKt (hKb _ _ _ _ (by omega) e1 rfl rfl) hkp) (hKb _ _ _ _ (by omega) (hk.same _ _ f1 rfl) rfl rfl)⟩⟩
    | ret =>
      obtain ⟨hk, hi3⟩ := hp
      obtain ⟨t1, t2, t3⟩ := turn W3 D (some .ret) (hk.same _ _ f1 rfl) (hk.same _ _ f2 rfl) rfl
      exact ⟨_, _, t1, .inr ⟨rfl, .ret, (hIx _).putObj _ hi3 (by omega) (hk.same _ _ f1 rfl) rfl, t2, t3⟩⟩
    | exit id =>
      obtain ⟨hk, hi3⟩ := hp
      obtain ⟨t1, t2, t3⟩ := turn W3 D (some (.exit id)) (hk.same _ _ f1 rfl) (hk.same _ _ f2 rfl) rfl
      exact ⟨_, _, t1, .inr ⟨rfl, .exit id, (hIx _).putObj _ hi3 (by omega) (hk.same _ _ f1 rfl) rfl, t2, t3⟩⟩
    | goto t =>
      obtain ⟨hk, hi3⟩ := hp
      obtain ⟨t1, t2, t3⟩ := turn W3 D (some (.goto t)) (hk.same _ _ f1 rfl) (hk.same _ _ f2 rfl) rfl
      exact ⟨_, _, t1, .inr ⟨rfl, .goto t, (hIx _).putObj _ hi3 (by omega) (hk.same _ _ f1 rfl) rfl, t2, t3⟩⟩
    | panic ch => exact hp.elim
    | outgrown => exact hp.elim
  · rintro e W2 ⟨⟨v, rfl⟩, (⟨xs, hS, hi, e1, e2⟩ | ⟨pre, hSp, c, hi, e1, e2⟩)⟩
    · have hend := run_endLoop (P := P) e1 (by rw [hlp]; simp)
      rw [hlp] at hend
      exact ⟨none, _, hend, hdone D xs _ (by omega) hS (hI.putObj _ hi (by omega) e1 rfl) ((World.putObj_heap_other (by omega)).trans e2)⟩
    · have hend := run_endLoop (P := P) e1 (by rw [hlp]; simp)
      rw [hlp] at hend
      exact ⟨some c, _, hend, hstop D c pre _ (by omega) hSp ((hIx c).putObj _ hi (by omega) e1 rfl) ((World.putObj_heap_other (by omega)).trans e2)⟩
end Go.Proofs.YtdcgfbebeiheiaaGreatDoor
