/- Spans as arguments: what they read as, before and behind the call. -/
import Derived.Test.YtgljfiihaehedaaRows
import Derived.Test.YtgljfiihaehedaaBase
import Derived.ProofKit
import Derived.OpenShut
import Derived.Deep.SlicePairs
import Derived.Lib.SmallJoins
import Derived.ChangeSlices
import Derived.Carry
import Derived.Stop.Joined
namespace Go.Proofs.Ytgljfiihaehedaa
open Go.ChangeShapes Go.WideShapes Go.ChangeAt Go.RowKit

theorem ownKnobNone : ownKnob Try.prog.godebug = none := by kernel_rfl
theorem laidOut : laidOutB Try.prog = true := by kernel_rfl

section
variable {H : Type} {enc : TypeId × Value → H} {W : World}
theorem i64_of_wf {N : Int} (w0 : (Lit.int .i64 N).wf = true) : I64 N := by
  unfold I64
  simp only [Lit.wf, IntKind.min, IntKind.max, IntKind.signed, IntKind.bits, Bool.and_eq_true, decide_eq_true_eq, if_true] at w0
  omega
set_option maxRecDepth 100000 in
theorem spot_of {b0 : Nat} {a : Addr} {len cap : Nat} (hval : Value.okWide Try.prog W .any b0 22 (.slice (some a) len cap)) : a.spot = none := by
  unfold Value.okWide at hval
  rw [Try.underlying22] at hval
  simp only at hval
  unfold Cell.okWide at hval
  rw [Try.underlying22] at hval
  simp only at hval
  unfold Cell.ok at hval
  rw [Try.underlying22] at hval
  exact hval.2.2.2.1
set_option maxRecDepth 100000 in
theorem open_spans {b0 : Nat} {v : Value} {d : DataW H} {ps : List MemPlace} (hval : Value.okWide Try.prog W .any b0 22 v) (h : DataW.Trod enc Try.prog W 0 (fun _ => true) true 22 v d ps) :
    ∃ l : List SpI, SAt W v l ∧ Fit l := by
  obtain ⟨a0, len0, cap0, rfl⟩ := okWide_slice Try.underlying22 hval
  obtain ⟨fuel, h⟩ := h
  have hc : (Value.slice a0 len0 cap0).cells.toList = [.slice a0 len0 cap0] := rfl
  rw [hc] at h
  rcases Go.Deep.open_slice_pairs Try.underlying22 Try.underlying31 (by kernel_rfl) rfl rfl (by kernel_rfl) (by kernel_rfl) h with ⟨e1, _⟩ | ⟨a, len, cap, m, n, V0, V1, D0, D1, P0, P1, hcs, _, hl, hm, hmeq, _, hall⟩
  · have g1 : Value.slice a0 len0 cap0 = .slice none 0 0 := by simpa using e1
    rw [g1]
    exact ⟨[], nil_at _, fun x hx => by cases hx⟩
  · have g1 : Value.slice a0 len0 cap0 = .slice (some a) len cap := by simpa using hcs
    rw [g1] at hval ⊢
    simp only [if_true] at hmeq
    subst hmeq
    have hsp := spot_of hval
    obtain ⟨b, off, sp⟩ := a
    simp only at hsp
    subst hsp
    have key : ∀ i, i < m → ∃ x : SpI, V0 i = .int .i64 x.1 ∧ V1 i = .int .i64 x.2 ∧ I64 x.1 ∧ I64 x.2 := fun i hi => by
      obtain ⟨_, _, t0, t1⟩ := hall i hi
      obtain ⟨k0, e0, _, w0⟩ := DataW.trod_int Try.underlying3 t0
      obtain ⟨k1, e1, _, w1⟩ := DataW.trod_int Try.underlying3 t1
      exact ⟨(k0, k1), by simpa using e0, by simpa using e1, i64_of_wf w0, i64_of_wf w1⟩
    obtain ⟨f, hf⟩ : ∃ f : Nat → SpI, ∀ i, i < m → V0 i = .int .i64 (f i).1 ∧ V1 i = .int .i64 (f i).2 ∧ I64 (f i).1 ∧ I64 (f i).2 :=
      ⟨fun i => if h : i < m then (key i h).choose else (0, 0), fun i hi => by simp only [dif_pos hi]; exact (key i hi).choose_spec⟩
    refine ⟨(List.range len).map f, .inr ⟨b, off, m, by simp, by simpa using hl, hm, fun j x hx => ?_⟩, fun x hx => ?_⟩
    · have hj : j < len := by have := (List.getElem?_eq_some_iff.1 hx).1; simpa using this
      have hxf : f j = x := by
        rw [List.getElem?_map, List.getElem?_range hj] at hx
        simpa using hx
      obtain ⟨c0, c1, _, _⟩ := hall j (by omega)
      obtain ⟨q0, q1, _, _⟩ := hf j (by omega)
      rw [← hxf, ← q0, ← q1]
      have h3 : ∀ k, (Addr.add ⟨b, off, none⟩ k) = ⟨b, off + k, none⟩ := fun k => by unfold Addr.add; split <;> simp_all
      rw [h3] at c0 c1
      exact ⟨c0, c1⟩
    · obtain ⟨j, hj, rfl⟩ := List.mem_map.1 hx
      have hj2 := List.mem_range.1 hj
      exact (hf j (by omega)).2.2
set_option maxRecDepth 100000 in
theorem open_span {b0 : Nat} {v : Value} {d : DataW H} {ps : List MemPlace} (hval : Value.okWide Try.prog W .any b0 31 v) (h : DataW.Trod enc Try.prog W 0 (fun _ => true) true 31 v d ps) :
    ∃ x : SpI, v = sv x ∧ I64 x.1 ∧ I64 x.2 := by
  obtain ⟨v0, v1, y0, y1, n, rfl, rfl, rfl, h0, h1⟩ := Go.Joins.open_agg2 Try.underlying31 (by kernel_rfl) (by kernel_rfl) hval h
  obtain ⟨k0, e0, _, w0⟩ := DataW.trod_int Try.underlying3 h0
  obtain ⟨k1, e1, _, w1⟩ := DataW.trod_int Try.underlying3 h1
  have g0 : v0 = .int .i64 k0 := by simpa using e0
  have g1 : v1 = .int .i64 k1 := by simpa using e1
  subst g0; subst g1
  exact ⟨(k0, k1), rfl, i64_of_wf w0, i64_of_wf w1⟩
end
end Go.Proofs.Ytgljfiihaehedaa
