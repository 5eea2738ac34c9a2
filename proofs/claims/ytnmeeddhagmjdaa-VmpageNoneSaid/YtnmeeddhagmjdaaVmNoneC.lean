/- VmpageNone returns true for every call, and leaves its argument as it read before; nothing is assumed of the argument. -/
import Derived.Test.YtnmeeddhagmjdaaRows
import Derived.Test.YtnmeeddhagmjdaaVmO
import Derived.ProofKit
import Derived.OpenShut
import Derived.Lib.SmallJoins
import Derived.ChangeSlices
import Derived.Carry
import Derived.Stop.Joined
import Derived.Deep.Slices
namespace Go.Proofs.Ytnmeeddhagmjdaa
open Go.ChangeShapes Go.WideShapes Go.ChangeAt Go.RowKit Go.WideMaps Go.WideElems

theorem ownKnobNone : ownKnob Try.prog.godebug = none := by kernel_rfl
theorem laidOut : laidOutB Try.prog = true := by kernel_rfl
theorem i64_of_wf {N : Int} (w0 : (Lit.int .i64 N).wf = true) : I64 N := by
  unfold I64
  simp only [Lit.wf, IntKind.min, IntKind.max, IntKind.signed, IntKind.bits, Bool.and_eq_true, decide_eq_true_eq, if_true] at w0
  omega
theorem u8_of_wf {N : Int} (w0 : (Lit.int .u8 N).wf = true) : 0 ≤ N ∧ N < 256 := by
  simp only [Lit.wf, IntKind.min, IntKind.max, IntKind.signed, IntKind.bits, Bool.and_eq_true, decide_eq_true_eq, Bool.false_eq_true, if_false] at w0
  omega
section
variable {H : Type} {enc : TypeId × Value → H} {W : World}
set_option maxRecDepth 100000 in
theorem open_act {b0 : Nat} {v : Value} {d : DataW H} {ps : List MemPlace} (hval : Value.okWide Try.prog W .any b0 38 v) (h : DataW.Trod enc Try.prog W 0 (fun _ => true) true 38 v d ps) :
    ∃ (q a n t b : Int) (r : Value), v = .agg (acA q a n t b r) ∧ 0 ≤ q ∧ q < 256 := by
  obtain ⟨cs, rfl, hsz⟩ := okWide_struct Try.underlying38 hval
  have hc1 : Try.prog.cellsOf 38 = 6 := by kernel_rfl
  rw [hc1] at hsz
  obtain ⟨L⟩ := cs
  match L, hsz with
  | [a0, a1, a2, a3, a4, a5], _ =>
    obtain ⟨fuel, hf⟩ := h
    have hci : Try.prog.cellsOf 3 = 1 := by kernel_rfl
    have hc8 : Try.prog.cellsOf 5 = 1 := by kernel_rfl
    have hc6 : Try.prog.cellsOf 2 = 1 := by kernel_rfl
    obtain ⟨xs, k, _, _, _, hxl, hff⟩ := DataW.trod_struct Try.underlying38 hf
    match xs, hxl with
    | [z0, z1, z2, z3, z4, z5], _ =>
      have k0 := hff 0 _ rfl
      have k1 := hff 1 _ rfl
      have k2 := hff 2 _ rfl
      have k3 := hff 3 _ rfl
      have k4 := hff 4 _ rfl
      simp [hci, hc8, hc6, Value.cells] at k0 k1 k2 k3 k4
      obtain ⟨n0, e0, _, w0⟩ := DataW.trod_int Try.underlying5 k0
      obtain ⟨n1, e1, _, _⟩ := DataW.trod_int Try.underlying3 k1
      obtain ⟨n2, e2, _, _⟩ := DataW.trod_int Try.underlying3 k2
      obtain ⟨n3, e3, _, _⟩ := DataW.trod_int Try.underlying2 k3
      obtain ⟨n4, e4, _, _⟩ := DataW.trod_int Try.underlying5 k4
      simp at e0 e1 e2 e3 e4
      subst e0 e1 e2 e3 e4
      exact ⟨n0, n1, n2, n3, n4, a5, rfl, u8_of_wf w0⟩
end
set_option maxRecDepth 100000 in
theorem vmpageNone_lifted (os : Os) (started : os.Started) (H : Type) (enc : TypeId × Value → H) :
    ReturnsInHanded {} Try.checked os 10 .any (Rows.vmpageNoneSpec.pre6 enc Try.prog Try.f10 Rows.vmpageNoneRow.domain false) (Rows.vmpageNoneSpec.post enc Try.prog Try.f10 false true false false) := by
  refine returnsInHanded_of_change (C := Try.checked) ownKnobNone started (by kernel_rfl) Try.func10
    (ChangeSpec.witness6 (enc := enc) (C := Try.checked) false ⟨#[], #[.agg #[.int .u8 0, .int .i64 0, .int .i64 0, .int .i64 0, .int .u8 0, .slice none 0 0]], []⟩ 8 (by kernel_rfl) (by kernel_rfl) (by kernel_rfl) (by kernel_rfl)) ?_
  intro W base args ds gs before hval0 hW _ _
  have hval : ∀ (j : Nat) t v, Try.f10.params[j]? = some t → args[j]? = some v → Value.okWide Try.prog W .any base t v := hval0
  have hW' := hW
  obtain ⟨p, q, hA0, hV, rfl, _, _⟩ := hW
  have hA : DataW.TrodAll enc Try.prog W 0 (fun _ => true) true Try.f10.params.toList args.toList ds p := hA0
  rw [Try.params10] at hA hval
  obtain ⟨v0, d0, rfl, rfl, h0⟩ := trodAll_one hA
  obtain ⟨rfl, rfl⟩ := trodVars_none hV
  obtain ⟨x0, x1, x2, x3, x4, x5, hx, y0, y1⟩ := open_act (hval 0 38 v0 rfl rfl) h0
  clear hA0 hval0
  simp only [List.append_nil] at hW'
  have hlt := hW'.lt
  have e1 : Rows.vmpageNoneSpec.fn H ([d0] ++ []) = { results := [.lit (.bool true)], args := [d0] } := by simp [Rows.vmpageNoneSpec]
  have hlaw := law_none x0 x1 x2 x3 x4 y0 y1 x5 W
  rw [← hx] at hlaw
  refine hlaw.mono fun e W' ⟨he, hB⟩ => ?_
  subst he
  refine ⟨_, rfl, _, _, _, [], p, [], hW', ?_, ?_, ?_, hB.frame _, fun h => by cases h⟩
  · rw [e1]; exact trodAll_mk1 (shut_bool Try.underlying4 true)
  · rw [e1]; exact trodAll_mk1 (Below.trod laidOut (by kernel_rfl) (of_decide_eq_true (by kernel_rfl)) h0 hB (fun x hx => hlt x (by simp [hx])))
  · rw [e1]; rfl

theorem vmpageNone_holds : Rows.VmpageNoneSaid :=
  OpenClaim.holds_of_wide 10 Try.f10 rfl rfl rfl rfl rfl rfl rfl ⟨rfl, rfl, rfl, rfl, rfl⟩ rfl rfl rfl rfl rfl (by kernel_rfl) Try.func10 (by kernel_rfl)
    (of_decide_eq_true (by kernel_rfl)) (by unfold Func.isWrapper; first | (rw [if_pos (by decide +kernel)]; kernel_rfl) | (rw [if_neg (by decide +kernel)]; exact ⟨rfl, rfl⟩))
    (fun os started H enc _ => vmpageNone_lifted os started H enc)
end Go.Proofs.Ytnmeeddhagmjdaa
