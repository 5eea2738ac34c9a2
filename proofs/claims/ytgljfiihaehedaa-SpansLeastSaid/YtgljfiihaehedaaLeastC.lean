/- SpansLeast returns true for every list of spans, every two numbers and every page, and leaves its arguments as they read before; nothing is assumed of the arguments. -/
import Derived.Test.YtgljfiihaehedaaOpn
import Derived.WideKeyPair
import Derived.Test.YtgljfiihaehedaaLeastL
namespace Go.Proofs.Ytgljfiihaehedaa
open Go.ChangeShapes Go.WideShapes Go.ChangeAt Go.RowKit Go.WideMaps Go.WideElems

theorem law_least (u : Value) (l : List SpI) (fl : Fit l) (m a : Int) (fa : I64 a) (pg : Nat) (hpg : pg < 65536) (w : World) (h : SAt w u l) :
    Calls Try.prog 9 #[u, .agg #[.int .i64 m, .int .i64 a], .int .u16 pg] w fun e w' => e = .returned (.bool true) ∧ Below w.heap.size w w' := by
  by_cases hg : 600 < l.length
  · exact least_far u l m a pg hpg w h hg
  · by_cases hc : fitE l m a = 0
    · obtain ⟨L, m', al, rfl, hL, rfl, rfl, q1, q2, q3, q4, q5⟩ := fitE_ok hc
      cases hF : L.filter (fits m' al) with
      | nil => exact least_none u L hL m' al q1 q2 q3 q4 q5 pg hpg w h (by omega) hF
      | cons x F => exact least_ok u L hL m' al q1 q2 q3 q4 q5 pg hpg w h (by omega) x F hF
    · exact least_bad u l fl m a fa pg hpg w h (by omega) _ rfl hc

set_option maxRecDepth 100000 in
theorem spansLeast_lifted (os : Os) (started : os.Started) (H : Type) (enc : TypeId × Value → H) :
    ReturnsInHanded {} Try.checked os 9 .any (Rows.spansLeastSpec.pre6 enc Try.prog Try.f9 Rows.spansLeastRow.domain false) (Rows.spansLeastSpec.post enc Try.prog Try.f9 false true false false) := by
  refine returnsInHanded_of_change (C := Try.checked) ownKnobNone started (by kernel_rfl) Try.func9
    (ChangeSpec.witness6 (enc := enc) (C := Try.checked) false ⟨#[], #[.slice none 0 0, .agg #[.int .i64 0, .int .i64 0], .int .u16 0], []⟩ 8 (by kernel_rfl) (by kernel_rfl) (by kernel_rfl) (by kernel_rfl)) ?_
  intro W base args ds gs before hval0 hW _ _
  have hval : ∀ (j : Nat) t v, Try.f9.params[j]? = some t → args[j]? = some v → Value.okWide Try.prog W .any base t v := hval0
  have hW' := hW
  obtain ⟨p, q, hA0, hV, rfl, _, _⟩ := hW
  have hA : DataW.TrodAll enc Try.prog W 0 (fun _ => true) true Try.f9.params.toList args.toList ds p := hA0
  rw [Try.params9] at hA hval
  obtain ⟨v0, v1, v2, d0, d1, d2, p0, p1, p2, rfl, rfl, rfl, h0, h1, h2⟩ := trodAll_three hA
  obtain ⟨rfl, rfl⟩ := trodVars_none hV
  obtain ⟨l0, s0, f0⟩ := open_spans (hval 0 22 v0 rfl rfl) h0
  obtain ⟨x1, y1, rfl, rfl, rfl, wx1, wy1⟩ := open_pair ⟨Try.underlying58, by kernel_rfl, by kernel_rfl, by kernel_rfl⟩ Try.underlying3 (hval 1 58 v1 rfl rfl) h1
  have b1 : I64 x1 := i64_of_wf wx1
  have c1 : I64 y1 := i64_of_wf wy1
  obtain ⟨x2, rfl, rfl, rfl, wf2⟩ := open_int Try.underlying56 (hval 2 56 v2 rfl rfl) h2
  have hx2 : 0 ≤ x2 ∧ x2 < 65536 := by
    simp only [Lit.wf, IntKind.min, IntKind.max, IntKind.signed, IntKind.bits, Bool.and_eq_true, decide_eq_true_eq, Bool.false_eq_true, if_false] at wf2
    omega
  obtain ⟨n2, rfl⟩ : ∃ n : Nat, x2 = (n : Int) := ⟨x2.toNat, by omega⟩
  clear hA0 hval0
  simp only [List.append_nil] at hW'
  have hlt := hW'.lt
  have e1 : Rows.spansLeastSpec.fn H ([d0, .agg [.lit (.int .i64 x1), .lit (.int .i64 y1)], .lit (.int .u16 (n2 : Int))] ++ []) = { results := [.lit (.bool true)], args := [d0, .agg [.lit (.int .i64 x1), .lit (.int .i64 y1)], .lit (.int .u16 (n2 : Int))] } := by simp [Rows.spansLeastSpec]
  refine (law_least v0 l0 f0 x1 y1 c1 n2 (by omega) W s0).mono fun e W' ⟨he, hB⟩ => ?_
  subst he
  refine ⟨_, rfl, _, _, _, [], (p0 ++ ([] ++ [])), [], hW', ?_, ?_, ?_, hB.frame _, fun h => by cases h⟩
  · rw [e1]; exact trodAll_mk1 (shut_bool Try.underlying4 true)
  · rw [e1]; exact trodAll_mk3 (Below.trod laidOut (by kernel_rfl) (of_decide_eq_true (by kernel_rfl)) h0 hB (fun x hx => hlt x (by simp [hx]))) (Below.trod laidOut (by kernel_rfl) (of_decide_eq_true (by kernel_rfl)) h1 hB (fun x hx => by cases hx)) (shut_int Try.underlying56 wf2)
  · rw [e1]; rfl

theorem spansLeast_holds : Rows.SpansLeastSaid :=
  OpenClaim.holds_of_wide 9 Try.f9 rfl rfl rfl rfl rfl rfl rfl ⟨rfl, rfl, rfl, rfl, rfl⟩ rfl rfl rfl rfl rfl (by kernel_rfl) Try.func9 (by kernel_rfl)
    (of_decide_eq_true (by kernel_rfl)) (by unfold Func.isWrapper; first | (rw [if_pos (by decide +kernel)]; kernel_rfl) | (rw [if_neg (by decide +kernel)]; exact ⟨rfl, rfl⟩))
    (fun os started H enc _ => spansLeast_lifted os started H enc)
end Go.Proofs.Ytgljfiihaehedaa
