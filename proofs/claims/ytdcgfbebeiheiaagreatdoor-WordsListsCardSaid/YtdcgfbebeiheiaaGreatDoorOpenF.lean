/- Fields as an argument: what they read as, before and behind the call. -/
import Derived.Test.YtdcgfbebeiheiaaGreatDoorRow
import Derived.Test.YtdcgfbebeiheiaaGreatDoorLaw
import Derived.Deep.SlicePairs
import Derived.Lib.SmallJoins
import Derived.ChangeSlices
import Derived.Carry
namespace Go.Proofs.YtdcgfbebeiheiaaGreatDoor
open Go.ChangeShapes Go.WideShapes Go.ChangeAt Go.RowKit

theorem laidOut : laidOutB Tryz.prog = true := by kernel_rfl

section
variable {H : Type} {enc : TypeId × Value → H} {W : World}
set_option maxRecDepth 100000 in
theorem spot_of {b0 : Nat} {a : Addr} {len cap : Nat} (hval : Value.okWide Tryz.prog W .any b0 31 (.slice (some a) len cap)) : a.spot = none := by
  unfold Value.okWide at hval
  rw [Tryz.underlying31] at hval
  simp only at hval
  unfold Cell.okWide at hval
  rw [Tryz.underlying31] at hval
  simp only at hval
  unfold Cell.ok at hval
  rw [Tryz.underlying31] at hval
  exact hval.2.2.2.1
set_option maxRecDepth 100000 in
theorem open_fields {b0 : Nat} {v : Value} {d : DataW H} {ps : List MemPlace} (hval : Value.okWide Tryz.prog W .any b0 31 v) (h : DataW.Trod enc Tryz.prog W 0 (fun _ => true) true 31 v d ps) :
    ∃ l : List Fd, FieldsAt W v l ∧ l.length ≤ maxLen ∧ ∀ x ∈ l, x.2.length ≤ maxLen := by
  obtain ⟨a0, len0, cap0, rfl⟩ := okWide_slice Tryz.underlying31 hval
  obtain ⟨fuel, h⟩ := h
  have hc : (Value.slice a0 len0 cap0).cells.toList = [.slice a0 len0 cap0] := rfl
  rw [hc] at h
  rcases Go.Deep.open_slice_pairs Tryz.underlying31 Tryz.underlying42 (by kernel_rfl) rfl rfl (by kernel_rfl) (by kernel_rfl) h with ⟨e1, _⟩ | ⟨a, len, cap, m, n, V0, V1, D0, D1, P0, P1, hcs, _, hl, hm, hmeq, _, hall⟩
  · have g1 : Value.slice a0 len0 cap0 = .slice none 0 0 := by simpa using e1
    rw [g1]
    exact ⟨[], .inl ⟨rfl, rfl⟩, Nat.zero_le _, fun x hx => by cases hx⟩
  · have g1 : Value.slice a0 len0 cap0 = .slice (some a) len cap := by simpa using hcs
    rw [g1] at hval ⊢
    simp only [if_true] at hmeq
    subst hmeq
    have hsp := spot_of hval
    obtain ⟨b, off, sp⟩ := a
    simp only at hsp
    subst hsp
    have key : ∀ i, i < m → ∃ x : Fd, V0 i = .bool x.1 ∧ V1 i = .string ⟨x.2.toArray⟩ ∧ x.2.length ≤ maxLen := fun i hi => by
      obtain ⟨_, _, t0, t1⟩ := hall i hi
      obtain ⟨q, e0, _⟩ := DataW.trod_bool Tryz.underlying4 t0
      obtain ⟨s, e1, _, w1⟩ := DataW.trod_string Tryz.underlying9 t1
      refine ⟨(q, s.data.toList), by simpa using e0, ?_, by rw [← Lib.size_eq]; exact w1⟩
      have : V1 i = .string s := by simpa using e1
      rw [this]
    obtain ⟨f, hf⟩ : ∃ f : Nat → Fd, ∀ i, i < m → V0 i = .bool (f i).1 ∧ V1 i = .string ⟨(f i).2.toArray⟩ ∧ (f i).2.length ≤ maxLen :=
      ⟨fun i => if h : i < m then (key i h).choose else (false, []), fun i hi => by simp only [dif_pos hi]; exact (key i hi).choose_spec⟩
    refine ⟨(List.range len).map f, .inr ⟨b, off, m, by simp, fun j hj => ?_⟩, by simp; omega, fun x hx => ?_⟩
    · have hj2 : j < len := by simpa using hj
      have hxf : ((List.range len).map f)[j] = f j := by simp
      obtain ⟨c0, c1, _, _⟩ := hall j (by omega)
      obtain ⟨q0, q1, _⟩ := hf j (by omega)
      rw [hxf, ← q0, ← q1]
      have h3 : ∀ k, (Addr.add ⟨b, off, none⟩ k) = ⟨b, off + k, none⟩ := fun k => by unfold Addr.add; split <;> simp_all
      rw [h3] at c0 c1
      exact ⟨c0, c1⟩
    · obtain ⟨j, hj, rfl⟩ := List.mem_map.1 hx
      have hj2 := List.mem_range.1 hj
      exact (hf j (by omega)).2.2
end
end Go.Proofs.YtdcgfbebeiheiaaGreatDoor
