/- A state that was handed in, opened. -/
import Derived.Test.YtldebakeebajkaaDoorRfRow
import Derived.Test.YtldebakeebajkaaDoorRfS2
namespace Go.Proofs.YtldebakeebajkaaDoor
open Go.ChangeShapes Go.WideShapes Go.ChangeAt Go.RowKit Go.WideMaps Go.WideElems

section
variable {H : Type} {enc : TypeId × Value → H} {W : World}
set_option maxRecDepth 100000 in
theorem arr_of {sp : Nat → Bool} {held : Bool} {fuel : Nat} {cs : List Value} {x : DataW H × List MemPlace} (h : DataW.trod enc Tryd.prog W 0 sp held fuel 38 cs = some x) : ∃ f : Nat → Int, cs = [.int .i64 (f 0), .int .i64 (f 1), .int .i64 (f 2), .int .i64 (f 3), .int .i64 (f 4), .int .i64 (f 5), .int .i64 (f 6)] := by
  obtain ⟨xs, m, _, _, hl, hxl, hx⟩ := DataW.trod_array Tryd.underlying38 h
  have hce : Tryd.prog.cellsOf 3 = 1 := by kernel_rfl
  have hca : Tryd.prog.cellsOf 38 = 7 := by kernel_rfl
  rw [hca] at hl
  have key : ∀ i, i < 7 → ∃ z : Int, cs[i]? = some (.int .i64 z) := by
    intro i hi
    have h1 := hx i hi
    rw [hce, List.getElem?_eq_getElem (by omega)] at h1
    obtain ⟨z, q, _, _⟩ := DataW.trod_int Tryd.underlying3 h1
    refine ⟨z, ?_⟩
    have h2 : (List.take 1 (List.drop (i * 1) cs))[0]? = some (.int .i64 z) := by rw [q]; rfl
    rw [List.getElem?_take_of_lt (by omega), List.getElem?_drop] at h2
    simpa using h2
  clear hx h
  match cs, hl, key with
  | [a0, a1, a2, a3, a4, a5, a6], _, key =>
    obtain ⟨z0, h0⟩ := key 0 (by omega)
    obtain ⟨z1, h1⟩ := key 1 (by omega)
    obtain ⟨z2, h2⟩ := key 2 (by omega)
    obtain ⟨z3, h3⟩ := key 3 (by omega)
    obtain ⟨z4, h4⟩ := key 4 (by omega)
    obtain ⟨z5, h5⟩ := key 5 (by omega)
    obtain ⟨z6, h6⟩ := key 6 (by omega)
    simp at h0 h1 h2 h3 h4 h5 h6
    subst h0; subst h1; subst h2; subst h3; subst h4; subst h5; subst h6
    exact ⟨fun j => match j with | 0 => z0 | 1 => z1 | 2 => z2 | 3 => z3 | 4 => z4 | 5 => z5 | _ => z6, rfl⟩
theorem u40 : ∃ f0 f1 f2 : Field, Tryd.prog.underlying 40 = some (.struct #[f0, f1, f2]) ∧ f0.offset = 0 ∧ f1.offset = 1 ∧ f2.offset = 8 ∧ f0.type = 24 ∧ f1.type = 38 ∧ f2.type = 38 :=
  ⟨_, _, _, Tryd.underlying40, rfl, rfl, rfl, rfl, rfl, rfl⟩
set_option maxRecDepth 100000 in
theorem open_state {b0 : Nat} {v : Value} {d : DataW H} {ps : List MemPlace} (hval : Value.okWide Tryd.prog W .any b0 40 v) (h : DataW.Trod enc Tryd.prog W 0 (fun _ => true) true 40 v d ps) :
    ∃ (u : Value) (l : List RlI) (c g : Nat → Int), v = stV u c g ∧ RAt W u l := by
  obtain ⟨cs, rfl, hsz⟩ := okWide_struct Tryd.underlying40 hval
  have hc1 : Tryd.prog.cellsOf 40 = 15 := by kernel_rfl
  rw [hc1] at hsz
  obtain ⟨L⟩ := cs
  match L, hsz with
  | [a0, a1, a2, a3, a4, a5, a6, a7, a8, a9, a10, a11, a12, a13, a14], _ =>
    have hspot : ∀ a len cap, a0 = .slice (some a) len cap → a.spot = none := by
      rintro a len cap rfl
      have h1 : Row.okWide Tryd.prog W .any b0 40 #[.slice (some a) len cap, a1, a2, a3, a4, a5, a6, a7, a8, a9, a10, a11, a12, a13, a14] := by
        unfold Value.okWide at hval
        rw [Tryd.underlying40] at hval
        obtain ⟨cs, h1, _, h3⟩ := hval
        cases h1
        exact h3
      obtain ⟨ts, h2, _, h4⟩ := h1
      obtain rfl : ts = [22, 3, 3, 3, 3, 3, 3, 3, 3, 3, 3, 3, 3, 3, 3] := Option.some.inj (h2.symm.trans (by kernel_rfl))
      obtain ⟨u2, h5, h6⟩ := h4 0 (.slice (some a) len cap) rfl
      obtain rfl : u2 = 22 := by simpa using h5.symm
      unfold Cell.okWide at h6
      rw [Tryd.underlying22] at h6
      simp only at h6
      unfold Cell.ok at h6
      rw [Tryd.underlying22] at h6
      exact h6.2.2.2.1
    obtain ⟨fuel, hf⟩ := h
    obtain ⟨f0, f1, f2, he, o0, o1, o2, t0, t1, t2⟩ := u40
    obtain ⟨y0, y1, y2, n2, _, _, g0, g1, g2⟩ := Go.Deep.trod_struct3 he hf
    have hcp : Tryd.prog.cellsOf 24 = 1 := by kernel_rfl
    have hca : Tryd.prog.cellsOf 38 = 7 := by kernel_rfl
    have hcs : Tryd.prog.cellsOf 22 = 1 := by kernel_rfl
    simp [Value.cells, o0, o1, o2, t0, t1, t2, hcp, hca] at g0 g1 g2
    obtain ⟨c, hc⟩ := arr_of g1
    obtain ⟨g, hg⟩ := arr_of g2
    simp at hc hg
    obtain ⟨rfl, rfl, rfl, rfl, rfl, rfl, rfl⟩ := hc
    obtain ⟨rfl, rfl, rfl, rfl, rfl, rfl, rfl⟩ := hg
    obtain ⟨xs, k, _, _, _, hxl, hff⟩ := DataW.trod_struct Tryd.underlying24 g0
    match xs, hxl with
    | [z0], _ =>
      have k0 := hff 0 _ rfl
      simp [hcs] at k0
      obtain ⟨l, hl⟩ := rules_of hspot k0
      exact ⟨a0, l, c, g, rfl, hl⟩
end
end Go.Proofs.YtldebakeebajkaaDoor
