/- A consumer's changes, further laws: for an iterator that itself ranges. -/
import Derived.Test.YtgljfiihaehedaaIt
namespace Go.Proofs.Ytgljfiihaehedaa
open Go.RowKit Go.Shelf

structure Cons2 (G : World → Prop) (fr : World → Nat → Prop) (Kp : World → World → Prop) : Prop extends Cons G fr Kp where
  kt : ∀ {A B C : World}, Kp A B → Kp B C → Kp A C
  ko : ∀ {W W' : World} {row : Option Nat}, W.grownBy W' row → (∀ r, row = some r → ∃ o : Obj, W.heap[r]? = some o ∧ o.isCells = false) → Kp W W'
theorem Cons2.kb {G : World → Prop} {fr : World → Nat → Prop} {Kp : World → World → Prop} (h : Cons2 G fr Kp) (W : World) (k : Nat) (o o' : Obj) (h1 : W.heap[k]? = some o) (hc : o.isCells = false) : Kp W (W.putObj k o') :=
  h.ko (grownBy_putObj' W k o') (fun r e => by cases e; exact ⟨o, h1, hc⟩)
theorem Cons2.kw {G : World → Prop} {fr : World → Nat → Prop} {Kp : World → World → Prop} (h : Cons2 G fr Kp) {W W' : World} (hb : Below W.heap.size W W') : Kp W W' :=
  h.ko (grown_of_below hb) (fun r e => by cases e)
theorem Cons2.own {β : Type} {G : World → Prop} {fr : World → Nat → Prop} {Kp : World → World → Prop} (h : Cons2 G fr Kp) (B : Nat) (W0 : World) : OwnFrom B (fun (_ : β) V => Kp W0 V) :=
  fun _ _ _ _ hs hg hr => h.kt hs (h.ko hg fun r e => (hr r e).2)
theorem cons2_c (OB : Nat) (T : TypeId) : Cons2 (cG OB T) (cF OB T) (cK OB T) where
  toCons := cons_c OB T
  kt := cK_trans
  ko := fun {W W' row} hg hr => by
    rintro ⟨u, h1, h2⟩
    have hne : some OB ≠ row := fun e => by
      obtain ⟨o, ho, hc⟩ := hr OB e.symm
      unfold Boxed at h1
      rw [h1] at ho; cases ho; cases hc
    have h3 : Boxed W' OB T u := (hg.block OB h1.lt hne).trans h1
    refine ⟨⟨u, h3, fun g hgg => Nat.lt_of_lt_of_le (h2 g hgg) hg.size⟩, hg.size, fun a b ha hb => .inl (by rw [boxed_inj ha h1, boxed_inj hb h3]), fun j q _ hj hq => ?_⟩
    refine (hg.block j (Array.getElem?_eq_some_iff.1 hj).1 (fun e => ?_)).trans hj
    obtain ⟨o, ho, hc⟩ := hr j e.symm
    rw [hj] at ho; cases ho; rw [hq] at hc; cases hc
end Go.Proofs.Ytgljfiihaehedaa
