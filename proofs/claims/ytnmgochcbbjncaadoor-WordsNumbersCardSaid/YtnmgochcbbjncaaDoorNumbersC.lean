/- The statement on numbers: its row and its tied card. -/
import Derived.Test.YtnmgochcbbjncaaDoorRow
import Derived.Test.YtnmgochcbbjncaaDoorTie
import Derived.Test.YtnmgochcbbjncaaDoorCards
import Derived.Test.YtnmgochcbbjncaaDoorNumbers
import Derived.Deep.Strs
import Derived.SevenTiedAt
namespace Go.Proofs.YtnmgochcbbjncaaDoor
open Go.ChangeShapes Go.WideShapes Go.ChangeAt Go.RowKit Go.WideMaps Go.WideElems
open Go.ChangeMaps (open_string shut_string)

theorem i64_bounds {n : Int} (h : (Lit.int .i64 n).wf = true) : -9223372036854775808 ≤ n ∧ n ≤ 9223372036854775807 := by
  simp only [Lit.wf, IntKind.min, IntKind.max, IntKind.signed, IntKind.bits, Bool.and_eq_true, decide_eq_true_eq, if_true] at h
  omega

section
variable {H : Type} {enc : TypeId × Value → H} {W : World}
set_option maxRecDepth 100000 in
theorem open_ends {r : Reach} {b0 b : Nat} {sp : Nat → Bool} {held : Bool} {v : Value} {d : DataW H} {ps : List MemPlace} (hval : Value.okWide Tryd.prog W r b0 25 v) (h : DataW.Trod enc Tryd.prog W b sp held 25 v d ps) :
    ∃ (_ : Unit) (s : ByteArray) (mn mx : Int), v = .agg #[.string s, .int .i64 mn, .int .i64 mx] ∧ d = .agg [.lit (.string s.data.toList), .lit (.int .i64 mn), .lit (.int .i64 mx)] ∧ ps = [] ∧ s.size ≤ maxLen ∧ (Lit.int .i64 mn).wf = true ∧ (Lit.int .i64 mx).wf = true := by
  obtain ⟨cs, rfl, hsz⟩ := okWide_struct Tryd.underlying25 hval
  obtain ⟨fuel, hf⟩ := h
  obtain ⟨y0, y1, y2, m, hx, hl, h0, h1, h2⟩ := Deep.trod_struct3 Tryd.underlying25 hf
  have c3 : Tryd.prog.cellsOf 25 = 3 := by kernel_rfl
  have cs1 : Tryd.prog.cellsOf 9 = 1 := by kernel_rfl
  have ci1 : Tryd.prog.cellsOf 2 = 1 := by kernel_rfl
  obtain ⟨l⟩ := cs
  have hl3 : l.length = 3 := by
    have : (Value.agg ⟨l⟩).cells.toList.length = l.length := rfl
    rw [← this, hl, c3]
  match l, hl3 with
  | [x0, x1, x2], _ =>
    simp only [cs1, ci1] at h0 h1 h2
    obtain ⟨s, e0, f0, hs⟩ := DataW.trod_string Tryd.underlying9 h0
    obtain ⟨mn, e1, f1, w1⟩ := DataW.trod_int Tryd.underlying2 h1
    obtain ⟨mx, e2, f2, w2⟩ := DataW.trod_int Tryd.underlying2 h2
    have g0 : x0 = .string s := by have : [x0] = [Value.string s] := e0; simpa using this
    have g1 : x1 = .int .i64 mn := by have : [x1] = [Value.int .i64 mn] := e1; simpa using this
    have g2 : x2 = .int .i64 mx := by have : [x2] = [Value.int .i64 mx] := e2; simpa using this
    subst g0; subst g1; subst g2; subst f0; subst f1; subst f2
    simp only [Prod.mk.injEq] at hx
    exact ⟨(), s, mn, mx, rfl, hx.1, by rw [hx.2]; rfl, hs, w1, w2⟩
set_option maxRecDepth 100000 in
theorem shut_ends {b : Nat} {sp : Nat → Bool} {held : Bool} {s : ByteArray} {mn mx : Int} (hs : s.size ≤ maxLen) (w1 : (Lit.int .i64 mn).wf = true) (w2 : (Lit.int .i64 mx).wf = true) :
    DataW.Trod enc Tryd.prog W b sp held 25 (.agg #[.string s, .int .i64 mn, .int .i64 mx]) (.agg [.lit (.string s.data.toList), .lit (.int .i64 mn), .lit (.int .i64 mx)]) [] := by
  have c3 : Tryd.prog.cellsOf 25 = 3 := by kernel_rfl
  have cs1 : Tryd.prog.cellsOf 9 = 1 := by kernel_rfl
  have ci1 : Tryd.prog.cellsOf 2 = 1 := by kernel_rfl
  refine ⟨2, Deep.trod_struct3_mk (n := 1) (y0 := (.lit (.string s.data.toList), [])) (y1 := (.lit (.int .i64 mn), [])) (y2 := (.lit (.int .i64 mx), [])) Tryd.underlying25 (by rw [c3]; rfl) ?_ ?_ ?_⟩
  · simp only [cs1]
    show DataW.trod enc Tryd.prog W b sp held 1 9 [.string s] = _
    simp [DataW.trod, Tryd.underlying9, hs]
  · simp only [ci1]
    show DataW.trod enc Tryd.prog W b sp held 1 2 [.int .i64 mn] = _
    simp [DataW.trod, Tryd.underlying2, w1]
  · simp only [ci1]
    show DataW.trod enc Tryd.prog W b sp held 1 2 [.int .i64 mx] = _
    simp [DataW.trod, Tryd.underlying2, w2]
end

set_option maxRecDepth 100000 in
theorem numbers_lifted (os : Os) (started : os.Started) (H : Type) (enc : TypeId × Value → H) :
    ReturnsInHanded {} Tryd.checked os 4 .any (fun w args => (Rows.wordsNumbersSpec.pre enc Tryd.prog Tryd.f4 [] false w args ∧ laidMetH Tryd.prog laidL w) ∧ sizedMet enc Tryd.prog Tryd.f4 (OpenSpec.ofChange Rows.wordsNumbersSpec) false w args)
      (Rows.wordsNumbersSpec.post enc Tryd.prog Tryd.f4 false true false false) := by
  refine handed_laid (started := started) (by kernel_rfl) Tryd.func4
    (ChangeSpec.witness_shaped (enc := enc) (C := Tryd.checked) (os := os) (X := fun w _ => laidMetH Tryd.prog laidL w) false (World.laidAll Tryd.prog os laidL) #[.int .i64 0, .agg #[.string ⟨#[]⟩, .int .i64 0, .int .i64 0]] 8 (World.laidAll_os _ _ _)
      (World.shaped_of_ZipB (by kernel_rfl) (by kernel_rfl)) (by kernel_rfl) (by kernel_rfl) (by kernel_rfl)
      (by rw [MakeChecks.laidMetH_plain _ _ _ (by kernel_rfl)]; exact laidMet_laidAll _ (by kernel_rfl) (by kernel_rfl))) ?_
  intro W base args ds gs before hval0 hW _ hgd
  have hval : ∀ (j : Nat) t v, Tryd.f4.params[j]? = some t → args[j]? = some v → Value.okWide Tryd.prog W .any base t v := hval0
  have hW' := hW
  obtain ⟨p, q, hA0, hV, rfl, _, _⟩ := hW
  have hA : DataW.TrodAll enc Tryd.prog W 0 (fun _ => true) true Tryd.f4.params.toList args.toList ds p := hA0
  rw [Tryd.params4] at hA hval
  obtain ⟨v0, v1, d0, d1, p0, p1, rfl, rfl, rfl, h0, h1⟩ := trodAll_two hA
  obtain ⟨rfl, rfl⟩ := trodVars_none hV
  obtain ⟨n, rfl, rfl, rfl, wn⟩ := open_int Tryd.underlying2 (hval 0 2 v0 rfl rfl) h0
  obtain ⟨x, s, mn, mx, rfl, rfl, rfl, hs, wmn, wmx⟩ := open_ends (hval 1 25 v1 rfl rfl) h1
  clear hA0 hval0
  simp only [List.append_nil] at hW'
  have e1 : Rows.wordsNumbersSpec.fn H ([.lit (.int .i64 n), .agg [.lit (.string s.data.toList), .lit (.int .i64 mn), .lit (.int .i64 mx)]] ++ []) = { results := [.lit (.bool true)], args := [.lit (.int .i64 n), .agg [.lit (.string s.data.toList), .lit (.int .i64 mn), .lit (.int .i64 mx)]] } := by simp [Rows.wordsNumbersSpec]
  have bn := i64_bounds wn
  have bmn := i64_bounds wmn
  have bmx := i64_bounds wmx
  refine (law_numbers n mn mx s W hgd hs bn.1 bn.2 bmn.1 bmx.2).mono fun e W' ⟨he, hB⟩ => ?_
  subst he
  refine ⟨_, rfl, _, _, _, [], [], [], hW', ?_, ?_, ?_, hB.frame _, fun h => by cases h⟩
  · rw [e1]; exact trodAll_mk1 (shut_bool Tryd.underlying4 true)
  · rw [e1]; exact trodAll_mk2 (shut_int Tryd.underlying2 wn) (shut_ends hs wmn wmx)
  · rw [e1]; rfl

theorem wordsNumbers_holds : Rows.WordsNumbersSaid :=
  OpenClaim.holds_of_wide 4 Tryd.f4 rfl rfl rfl rfl rfl rfl rfl ⟨rfl, rfl, rfl, rfl, rfl⟩ rfl rfl rfl rfl rfl (by kernel_rfl) Tryd.func4 (by kernel_rfl)
    (of_decide_eq_true (by kernel_rfl)) (by unfold Func.isWrapper; first | (rw [if_pos (by decide +kernel)]; kernel_rfl) | (rw [if_neg (by decide +kernel)]; exact ⟨rfl, rfl⟩))
    (fun os started H enc _ => numbers_lifted os started H enc)

theorem wordsNumbers_card_holds : Rows.WordsNumbersCardSaid :=
  Claim7.holds_tied_plain_at .later [] [.data, .data, .data, .data, .sentinel, .sentinel, .data, .pinned] true (true, "9d666b5f042e7f0c4f53daba5dc8f170f92e4d6c894359c58d74d413f9832f3e") true
    wordsNumbers_holds (fun _ h => by cases h) (by kernel_rfl) (fun _ h => by cases h) wordsNumbers_row_tie rfl ⟨rfl, rfl⟩ (by kernel_rfl) rfl
    (fun f fn hf hfn => by
      obtain rfl : f = 4 := Option.some.inj ((show Tryd.prog.funcNamed "polder/polderlaw01.WordsNumbers" = some 4 by kernel_rfl).symm.trans hf) |>.symm
      obtain rfl : fn = Tryd.f4 := (Option.some.inj (Tryd.func4.symm.trans hfn)).symm
      exact ⟨by kernel_rfl, fun j t ht => by
        rw [Tryd.params4] at ht
        have hm : t ∈ [2, 25] := by simpa using Array.mem_of_getElem? ht
        have hall : ([2, 25].all fun u => !Tryd.prog.wantsStandIn u) = true := by kernel_rfl
        exact (show Tryd.prog.wantsStandIn t = false by simpa using List.all_eq_true.1 hall t hm)⟩)
    (by kernel_rfl)
end Go.Proofs.YtnmgochcbbjncaaDoor
