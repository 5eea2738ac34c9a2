/- Bits as an argument: what they read as, before and behind the call. -/
import Derived.Test.YtpplleojdcgceaaDoorRow
import Derived.Test.YtpplleojdcgceaaDoorBase
import Derived.Lib.SmallJoins
import Derived.ChangeSlices
import Derived.Carry
namespace Go.Proofs.YtpplleojdcgceaaDoor
open Go.ChangeShapes Go.WideShapes Go.ChangeAt Go.RowKit

theorem laidOut : laidOutB Tryd.prog = true := by kernel_rfl

section
variable {H : Type} {enc : TypeId × Value → H} {W : World}
set_option maxRecDepth 100000 in
theorem spot_of {b0 : Nat} {N : Int} {a : Addr} {len cap : Nat} (hval : Value.okWide Tryd.prog W .any b0 24 (.agg #[.int .i64 N, .slice (some a) len cap])) : a.spot = none := by
  have h1 : Row.okWide Tryd.prog W .any b0 24 #[.int .i64 N, .slice (some a) len cap] := by
    unfold Value.okWide at hval
    rw [Tryd.underlying24] at hval
    obtain ⟨cs, h1, _, h3⟩ := hval
    cases h1
    exact h3
  obtain ⟨ts, h2, _, h4⟩ := h1
  obtain rfl : ts = [3, 22] := Option.some.inj (h2.symm.trans (by kernel_rfl))
  obtain ⟨u, h5, h6⟩ := h4 1 (.slice (some a) len cap) rfl
  obtain rfl : u = 22 := by simpa using h5.symm
  unfold Cell.okWide at h6
  rw [Tryd.underlying22] at h6
  simp only at h6
  unfold Cell.ok at h6
  rw [Tryd.underlying22] at h6
  exact h6.2.2.2.1

set_option maxRecDepth 100000 in
theorem open_bits {b0 : Nat} {v : Value} {d : DataW H} {ps : List MemPlace} (hval : Value.okWide Tryd.prog W .any b0 24 v) (h : DataW.Trod enc Tryd.prog W 0 (fun _ => true) true 24 v d ps) :
    ∃ (N : Int) (u : Value) (ws : List Nat), v = bv N u ∧ WAt W u ws ∧ Fit64 ws ∧ -9223372036854775808 ≤ N ∧ N ≤ 9223372036854775807 := by
  obtain ⟨v0, v1, y0, y1, n, rfl, rfl, rfl, h0, h1⟩ := Go.Joins.open_agg2 Tryd.underlying24 (by kernel_rfl) (by kernel_rfl) hval h
  obtain ⟨N, e0, f0, w0⟩ := DataW.trod_int Tryd.underlying3 h0
  have g0 : v0 = .int .i64 N := by simpa using e0
  subst g0
  have bN : -9223372036854775808 ≤ N ∧ N ≤ 9223372036854775807 := by
    simp only [Lit.wf, IntKind.min, IntKind.max, IntKind.signed, IntKind.bits, Bool.and_eq_true, decide_eq_true_eq, if_true] at w0
    omega
  rcases open_ints Tryd.underlying22 Tryd.underlying58 (by kernel_rfl) h1 with ⟨e1, _⟩ | ⟨a, len, cap, zs, e1, _, hlc, hcm, hzl, _, hc, hwf⟩
  · have g1 : v1 = .slice none 0 0 := by simpa using e1
    subst g1
    exact ⟨N, _, [], rfl, .inl ⟨rfl, rfl⟩, (fun x hx => by cases hx), bN⟩
  · have g1 : v1 = .slice (some a) len cap := by simpa using e1
    subst g1
    have hsp := spot_of hval
    obtain ⟨b, off, sp⟩ := a
    simp only at hsp
    subst hsp
    simp only [if_true] at hzl
    have hpos : ∀ z ∈ zs, 0 ≤ z ∧ z < 18446744073709551616 := fun z hz => by
      have := hwf z hz
      simp only [Lit.wf, IntKind.min, IntKind.max, IntKind.signed, IntKind.bits, Bool.and_eq_true, decide_eq_true_eq, Bool.false_eq_true, if_false] at this
      omega
    have hlen : ((zs.take len).map Int.toNat).length = len := by rw [List.length_map, List.length_take, hzl]; omega
    refine ⟨N, _, (zs.take len).map Int.toNat, rfl, .inr ⟨b, off, cap, by rw [hlen], by rw [hlen]; exact hlc, hcm, fun j hj => ?_⟩, fun x hx => ?_, bN⟩
    · rw [hlen] at hj
      have h2 := hc j (by omega)
      have h3 : (Addr.add ⟨b, off, none⟩ j) = ⟨b, off + j, none⟩ := by unfold Addr.add; split <;> simp_all
      rw [h3] at h2
      rw [h2]
      have hj2 : j < zs.length := by omega
      have h4 : zs.getD j 0 = zs[j] := by simp [hj2]
      have h5 := hpos zs[j] (List.getElem_mem hj2)
      rw [h4, List.getElem_map, List.getElem_take, Int.toNat_of_nonneg h5.1]
    · obtain ⟨z, hz, rfl⟩ := List.mem_map.1 hx
      have := hpos z (List.mem_of_mem_take hz)
      omega
end
end Go.Proofs.YtpplleojdcgceaaDoor
