/- A part as an argument. -/
import Derived.Test.YtpplleojdcgceaaDoorOpen
namespace Go.Proofs.YtpplleojdcgceaaDoor
open Go.ChangeShapes Go.WideShapes Go.ChangeAt Go.RowKit
section
variable {H : Type} {enc : TypeId × Value → H} {W : World}
set_option maxRecDepth 100000 in
theorem open_part {b0 : Nat} {v : Value} {d : DataW H} {ps : List MemPlace} (hval : Value.okWide Tryd.prog W .any b0 26 v) (h : DataW.Trod enc Tryd.prog W 0 (fun _ => true) true 26 v d ps) :
    ∃ (a t : Int) (on : Bool), v = .agg #[.int .i64 a, .int .i64 t, .bool on] ∧ (-9223372036854775808 ≤ a ∧ a ≤ 9223372036854775807) ∧ -9223372036854775808 ≤ t ∧ t ≤ 9223372036854775807 := by
  obtain ⟨v0, v1, v2, y0, y1, y2, n, rfl, rfl, rfl, h0, h1, h2⟩ := Go.Joins.open_agg3 Tryd.underlying26 (by kernel_rfl) (by kernel_rfl) hval h
  obtain ⟨a, e0, _, w0⟩ := DataW.trod_int Tryd.underlying3 h0
  obtain ⟨t, e1, _, w1⟩ := DataW.trod_int Tryd.underlying3 h1
  obtain ⟨on, e2, _⟩ := DataW.trod_bool Tryd.underlying4 h2
  have g0 : v0 = .int .i64 a := by simpa using e0
  have g1 : v1 = .int .i64 t := by simpa using e1
  have g2 : v2 = .bool on := by simpa using e2
  subst g0; subst g1; subst g2
  simp only [Lit.wf, IntKind.min, IntKind.max, IntKind.signed, IntKind.bits, Bool.and_eq_true, decide_eq_true_eq, if_true] at w0 w1
  exact ⟨a, t, on, rfl, by omega, by omega⟩
theorem int_max {n : Int} (h : (Lit.int .i64 n).wf = true) : n ≤ 9223372036854775807 := by
  simp only [Lit.wf, IntKind.min, IntKind.max, IntKind.signed, IntKind.bits, Bool.and_eq_true, decide_eq_true_eq, if_true] at h
  omega
end
end Go.Proofs.YtpplleojdcgceaaDoor
