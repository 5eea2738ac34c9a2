/- SpansLaws returns true for every two lists of spans and every page, and leaves its arguments as they read before; nothing is assumed of the arguments. -/
import Derived.Test.YtgljfiihaehedaaOpn
import Derived.Test.YtgljfiihaehedaaLaws
namespace Go.Proofs.Ytgljfiihaehedaa
open Go.ChangeShapes Go.WideShapes Go.ChangeAt Go.RowKit Go.WideMaps Go.WideElems

theorem law_laws (u v : Value) (la lb : List SpI) (fa : Fit la) (fb : Fit lb) (pg : Nat) (hpg : pg < 65536) (w : World) (h1 : SAt w u la) (h2 : SAt w v lb) :
    Calls Try.prog 8 #[u, v, .int .u16 pg] w fun e w' => e = .returned (.bool true) ∧ Below w.heap.size w w' := by
  by_cases hg : 600 < la.length ∨ 600 < lb.length
  · exact laws_big u v la lb pg w h1 h2 hg
  · by_cases hc : bothB la lb = 0
    · have hc2 := hc
      unfold bothB at hc2
      by_cases h3 : chkS la = 0
      · rw [if_neg (by simp [h3])] at hc2
        obtain ⟨La, rfl, sa⟩ := chkS_ok h3
        obtain ⟨Lb, rfl, sb⟩ := chkS_ok hc2
        exact laws_ok u v La Lb sa sb pg hpg w h1 h2 (by omega) (by omega)
      · rw [if_pos h3] at hc2; exact absurd hc2 h3
    · exact laws_bad u v la lb fa fb pg w h1 h2 (by omega) (by omega) _ rfl hc

set_option maxRecDepth 100000 in
theorem spansLaws_lifted (os : Os) (started : os.Started) (H : Type) (enc : TypeId × Value → H) :
    ReturnsInHanded {} Try.checked os 8 .any (Rows.spansLawsSpec.pre6 enc Try.prog Try.f8 Rows.spansLawsRow.domain false) (Rows.spansLawsSpec.post enc Try.prog Try.f8 false true false false) := by
  refine returnsInHanded_of_change (C := Try.checked) ownKnobNone started (by kernel_rfl) Try.func8
    (ChangeSpec.witness6 (enc := enc) (C := Try.checked) false ⟨#[], #[.slice none 0 0, .slice none 0 0, .int .u16 0], []⟩ 8 (by kernel_rfl) (by kernel_rfl) (by kernel_rfl) (by kernel_rfl)) ?_
  intro W base args ds gs before hval0 hW _ _
  have hval : ∀ (j : Nat) t v, Try.f8.params[j]? = some t → args[j]? = some v → Value.okWide Try.prog W .any base t v := hval0
  have hW' := hW
  obtain ⟨p, q, hA0, hV, rfl, _, _⟩ := hW
  have hA : DataW.TrodAll enc Try.prog W 0 (fun _ => true) true Try.f8.params.toList args.toList ds p := hA0
  rw [Try.params8] at hA hval
  obtain ⟨v0, v1, v2, d0, d1, d2, p0, p1, p2, rfl, rfl, rfl, h0, h1, h2⟩ := trodAll_three hA
  obtain ⟨rfl, rfl⟩ := trodVars_none hV
  obtain ⟨l0, s0, f0⟩ := open_spans (hval 0 22 v0 rfl rfl) h0
  obtain ⟨l1, s1, f1⟩ := open_spans (hval 1 22 v1 rfl rfl) h1
  obtain ⟨x2, rfl, rfl, rfl, wf2⟩ := open_int Try.underlying56 (hval 2 56 v2 rfl rfl) h2
  have hx : 0 ≤ x2 ∧ x2 < 65536 := by
    simp only [Lit.wf, IntKind.min, IntKind.max, IntKind.signed, IntKind.bits, Bool.and_eq_true, decide_eq_true_eq, Bool.false_eq_true, if_false] at wf2
    omega
  obtain ⟨n2, rfl⟩ : ∃ n : Nat, x2 = (n : Int) := ⟨x2.toNat, by omega⟩
  clear hA0 hval0
  simp only [List.append_nil] at hW'
  have hlt := hW'.lt
  have e1 : Rows.spansLawsSpec.fn H ([d0, d1, .lit (.int .u16 (n2 : Int))] ++ []) = { results := [.lit (.bool true)], args := [d0, d1, .lit (.int .u16 (n2 : Int))] } := by simp [Rows.spansLawsSpec]
  refine (law_laws v0 v1 l0 l1 f0 f1 n2 (by omega) W s0 s1).mono fun e W' ⟨he, hB⟩ => ?_
  subst he
  refine ⟨_, rfl, _, _, _, [], (p0 ++ (p1 ++ [])), [], hW', ?_, ?_, ?_, hB.frame _, fun h => by cases h⟩
  · rw [e1]; exact trodAll_mk1 (shut_bool Try.underlying4 true)
  · rw [e1]; exact trodAll_mk3 (Below.trod laidOut (by kernel_rfl) (of_decide_eq_true (by kernel_rfl)) h0 hB (fun x hx => hlt x (by simp [hx]))) (Below.trod laidOut (by kernel_rfl) (of_decide_eq_true (by kernel_rfl)) h1 hB (fun x hx => hlt x (by simp [hx]))) (shut_int Try.underlying56 wf2)
  · rw [e1]; rfl

theorem spansLaws_holds : Rows.SpansLawsSaid :=
  OpenClaim.holds_of_wide 8 Try.f8 rfl rfl rfl rfl rfl rfl rfl ⟨rfl, rfl, rfl, rfl, rfl⟩ rfl rfl rfl rfl rfl (by kernel_rfl) Try.func8 (by kernel_rfl)
    (of_decide_eq_true (by kernel_rfl)) (by unfold Func.isWrapper; first | (rw [if_pos (by decide +kernel)]; kernel_rfl) | (rw [if_neg (by decide +kernel)]; exact ⟨rfl, rfl⟩))
    (fun os started H enc _ => spansLaws_lifted os started H enc)
end Go.Proofs.Ytgljfiihaehedaa
