/- What the row's condition on memory gives the walks; plans and lists of kinds as arguments. -/
import Derived.Test.YtldebakeebajkaaDoorRows
import Derived.Test.YtldebakeebajkaaDoorRfCo
import Derived.ProofKit
import Derived.LaidMore
import Derived.OpenShut
import Derived.Lay
import Derived.Shelf.Vars
import Derived.HandedShaped
import Derived.Stop.Joined
import Derived.Deep.Slices
import Derived.Lib.SmallJoins
import Derived.ChangeSlices
import Derived.Carry
namespace Go.Proofs.YtldebakeebajkaaDoor
open Go.ChangeShapes Go.WideShapes Go.ChangeAt Go.RowKit

def laidL : List (String × DataW Unit) := [("math/bits.deBruijn32tab", Rows.laid_math_bits_deBruijn32tab), ("math/bits.deBruijn64tab", Rows.laid_math_bits_deBruijn64tab), ("internal/strconv.uint64pow10", Rows.laid_internal_strconv_uint64pow10), ("polder/refusals.names", Rows.laid_polder_refusals_names)]

theorem ownKnobNone : ownKnob Tryd.prog.godebug = none := by kernel_rfl
theorem laidOut : laidOutB Tryd.prog = true := by kernel_rfl

theorem var_of_laid {P : Program} {w : World} : ∀ (l : List (String × DataW Unit)) (ps : List MemPlace), DataW.LaidVars P w l ps → ∀ n d, (n, d) ∈ l →
    ∃ g t cs fuel p, P.globalNamed n = some g ∧ (P.globals[g]?).map (·.type) = some t ∧ w.var? P n = some cs ∧ DataW.trod (fun _ => ()) P w 0 (fun _ => true) false fuel t cs.toList = some (d, p)
  | [], _, _, _, _, hm => by cases hm
  | (m, e) :: r, ps, h, n, d, hm => by
    obtain ⟨g, t, cs, fuel, p, q, h1, h2, h3, h4, h5, _⟩ := h
    rcases List.mem_cons.1 hm with hx | hx
    · cases hx; exact ⟨g, t, cs, fuel, p, h1, h2, h3, h4⟩
    · exact var_of_laid r q h5 n d hx

/-- An array of strings that reads as a table holds the table's strings. -/
theorem cells_of_strs {H : Type} {enc : TypeId × Value → H} {P : Program} {w : World} {base : Nat} {sp : Nat → Bool} {held : Bool} {fuel : Nat} {t e : TypeId} {n : Nat} {cs : List Value} {zs : List (List UInt8)} {p : List MemPlace}
    (ht : P.underlying t = some (.array n e)) (he : P.underlying e = some .string) (hce : P.cellsOf e = 1) (hct : P.cellsOf t = n)
    (h : DataW.trod enc P w base sp held fuel t cs = some (.agg (zs.map fun z => .lit (.string z)), p)) : cs = zs.map fun z => Value.string ⟨z.toArray⟩ := by
  cases fuel with
  | zero => simp [DataW.trod] at h
  | succ fuel =>
    simp only [DataW.trod, ht, hce, hct, Nat.mul_one] at h
    split at h
    · rename_i hl
      obtain ⟨xs, hm, hx⟩ := Option.map_eq_some_iff.1 h
      have hxs : xs.map (·.1) = zs.map fun z => (DataW.lit (.string z) : DataW H) := by
        have := congrArg Prod.fst hx
        simpa using this
      have hxl : xs.length = n := by simpa using Lib.mapM_length hm
      have hzl : zs.length = n := by
        have := congrArg List.length hxs
        simp at this
        omega
      apply List.ext_getElem?
      intro i
      by_cases hi : i < n
      · obtain ⟨b, hb, hf⟩ := Lib.mapM_at hm i i (by simp [hi])
        obtain ⟨z, hc, rfl, _⟩ := DataW.trod_string he hf
        have h1 : cs[i]? = some (.string z) := by
          have := congrArg (·[0]?) hc
          simpa [List.getElem?_take, List.getElem?_drop] using this
        have h2 : (xs.map (·.1))[i]? = some (DataW.lit (.string z.data.toList) : DataW H) := by simp [hb]
        rw [hxs] at h2
        simp only [List.getElem?_map, Option.map_eq_some_iff, DataW.lit.injEq, Lit.string.injEq] at h2
        obtain ⟨z', hz', hz2⟩ := h2
        rw [h1, List.getElem?_map, hz', hz2]
        rfl
      · rw [List.getElem?_eq_none (by omega), List.getElem?_eq_none (by simp; omega)]
    · cases h

theorem gd_of {W : World} (hL : laidMetH Tryd.prog laidL W) : Gd W := by
  rw [MakeChecks.laidMetH_plain _ _ _ (by kernel_rfl)] at hL
  obtain ⟨ps, hl, _, _⟩ := hL
  refine ⟨?_, ?_⟩
  · intro k hk
    obtain ⟨g, t, cs, fuel, p, h1, h2, h3, h4⟩ := var_of_laid _ _ hl "polder/refusals.names" Rows.laid_polder_refusals_names (by simp [laidL])
    obtain rfl := Option.some.inj ((show Tryd.prog.globalNamed "polder/refusals.names" = some 0 by kernel_rfl).symm.trans h1)
    obtain rfl := Option.some.inj ((show (Tryd.prog.globals[0]?).map (·.type) = some 103 by kernel_rfl).symm.trans h2)
    have e : (Rows.laid_polder_refusals_names : DataW Unit) = .agg (((List.range 7).map nmL).map fun z => .lit (.string z)) := by kernel_rfl
    rw [e] at h4
    have h5 := cells_of_strs Tryd.underlying103 Tryd.underlying9 (by kernel_rfl) (by kernel_rfl) h4
    have h6 := World.var?_cell h1 h3 k
    rw [h6]
    have h7 : cs[k]? = cs.toList[k]? := by simp
    rw [h7, h5, List.getElem?_map, List.getElem?_map, List.getElem?_range hk]
    rfl
  · obtain ⟨g, t, cs, fuel, p, h1, h2, h3, h4⟩ := var_of_laid _ _ hl "internal/strconv.uint64pow10" Rows.laid_internal_strconv_uint64pow10 (by simp [laidL])
    obtain rfl := Option.some.inj ((show Tryd.prog.globalNamed "internal/strconv.uint64pow10" = some 2 by kernel_rfl).symm.trans h1)
    obtain rfl := Option.some.inj ((show (Tryd.prog.globals[2]?).map (·.type) = some 137 by kernel_rfl).symm.trans h2)
    have e : (Rows.laid_internal_strconv_uint64pow10 : DataW Unit) = Lib.tabData .u64 Lib.pow10Tab := by kernel_rfl
    rw [e] at h4
    have h5 := Lib.cells_of_tab Tryd.underlying137 Tryd.underlying124 (by kernel_rfl) (by kernel_rfl) h4
    unfold Lib.TabIs
    rw [h3, ← h5]

section
variable {H : Type} {enc : TypeId × Value → H} {W : World}
theorem u61 : ∃ f0 f1 f2 f3 : Field, Tryd.prog.underlying 61 = some (.struct #[f0, f1, f2, f3]) ∧ f0.offset = 0 ∧ f1.offset = 1 ∧ f2.offset = 2 ∧ f3.offset = 3 ∧ f0.type = 3 ∧ f1.type = 3 ∧ f2.type = 3 ∧ f3.type = 3 :=
  ⟨_, _, _, _, Tryd.underlying61, rfl, rfl, rfl, rfl, rfl, rfl, rfl, rfl⟩
set_option maxRecDepth 100000 in
/-- A cell that reads as a list of rules. -/
theorem rules_of {sp : Nat → Bool} {held : Bool} {fuel : Nat} {u : Value} {x : DataW H × List MemPlace} (hspot : ∀ a len cap, u = .slice (some a) len cap → a.spot = none) (h : DataW.trod enc Tryd.prog W 0 sp held fuel 22 [u] = some x) : ∃ l : List RlI, RAt W u l := by
  rcases Go.Deep.open_slice Tryd.underlying22 h with ⟨hcs, _⟩ | ⟨a, len, cap, m, n, D, Pl, hcs, hb, hl, hm, hmm, _, hx⟩
  · have : u = .slice none 0 0 := by simpa using hcs
    exact ⟨[], .inl ⟨this, rfl⟩⟩
  · have hu : u = .slice (some a) len cap := by simpa using hcs
    have hsp := hspot a len cap hu
    obtain ⟨b, off, sp2⟩ := a
    simp only at hsp
    subst hsp
    have hlm : len ≤ m := by rw [hmm]; split <;> omega
    have hce : Tryd.prog.cellsOf 61 = 4 := by kernel_rfl
    have hci : Tryd.prog.cellsOf 3 = 1 := by kernel_rfl
    obtain ⟨f0, f1, f2, f3, he, o0, o1, o2, o3, t0, t1, t2, t3⟩ := u61
    have key : ∀ i, i < len → ∃ r : RlI, W.cell? ⟨b, off + i * 4, none⟩ = some (.int .i64 r.k) ∧ W.cell? ⟨b, off + i * 4 + 1, none⟩ = some (.int .i64 r.f) ∧ W.cell? ⟨b, off + i * 4 + 2, none⟩ = some (.int .i64 r.e) ∧ W.cell? ⟨b, off + i * 4 + 3, none⟩ = some (.int .i64 r.t) := by
      intro i hi
      obtain ⟨cs', h1, h2⟩ := hx i (by omega)
      rw [hce] at h1
      obtain ⟨_, hlen, hcell⟩ := World.cells?_some h1
      obtain ⟨y0, y1, y2, y3, n2, _, _, g0, g1, g2, g3⟩ := Go.Joins.trod_struct4 he h2
      match cs', hlen with
      | [v0, v1, v2, v3], _ =>
        simp [o0, o1, o2, o3, t0, t1, t2, t3, hci] at g0 g1 g2 g3
        obtain ⟨z0, q0, _, _⟩ := DataW.trod_int Tryd.underlying3 g0
        obtain ⟨z1, q1, _, _⟩ := DataW.trod_int Tryd.underlying3 g1
        obtain ⟨z2, q2, _, _⟩ := DataW.trod_int Tryd.underlying3 g2
        obtain ⟨z3, q3, _, _⟩ := DataW.trod_int Tryd.underlying3 g3
        have e0 := hcell 0 (by omega)
        have e1 := hcell 1 (by omega)
        have e2 := hcell 2 (by omega)
        have e3 := hcell 3 (by omega)
        have h3 : ∀ k, (Addr.add ⟨b, off, none⟩ k) = ⟨b, off + k, none⟩ := fun k => by unfold Addr.add; split <;> simp_all
        have h4 : ∀ o k, (Addr.add ⟨b, o, none⟩ k) = ⟨b, o + k, none⟩ := fun o k => by unfold Addr.add; split <;> simp_all
        rw [h3, h4] at e0 e1 e2 e3
        simp at e0 e1 e2 e3 q0 q1 q2 q3
        subst q0; subst q1; subst q2; subst q3
        exact ⟨⟨z0, z1, z2, z3⟩, e0, e1, e2, e3⟩
    obtain ⟨f, hf⟩ : ∃ f : Nat → RlI, ∀ i, i < len → W.cell? ⟨b, off + i * 4, none⟩ = some (.int .i64 (f i).k) ∧ W.cell? ⟨b, off + i * 4 + 1, none⟩ = some (.int .i64 (f i).f) ∧ W.cell? ⟨b, off + i * 4 + 2, none⟩ = some (.int .i64 (f i).e) ∧ W.cell? ⟨b, off + i * 4 + 3, none⟩ = some (.int .i64 (f i).t) :=
      ⟨fun i => if h : i < len then (key i h).choose else ⟨0, 0, 0, 0⟩, fun i hi => by simp only [dif_pos hi]; exact (key i hi).choose_spec⟩
    refine ⟨(List.range len).map f, .inr ⟨b, off, cap, by rw [hu]; simp, by simpa using hl, hm, fun j x hx => ?_⟩⟩
    have hj : j < len := by have := (List.getElem?_eq_some_iff.1 hx).1; simpa using this
    have hxf : f j = x := by
      rw [List.getElem?_map, List.getElem?_range hj] at hx
      simpa using hx
    rw [← hxf]; exact hf j hj
set_option maxRecDepth 100000 in
theorem open_plan {b0 : Nat} {v : Value} {d : DataW H} {ps : List MemPlace} (hval : Value.okWide Tryd.prog W .any b0 24 v) (h : DataW.Trod enc Tryd.prog W 0 (fun _ => true) true 24 v d ps) :
    ∃ (u : Value) (l : List RlI), v = .agg #[u] ∧ RAt W u l := by
  obtain ⟨cs, rfl, hsz⟩ := okWide_struct Tryd.underlying24 hval
  have hc1 : Tryd.prog.cellsOf 24 = 1 := by kernel_rfl
  obtain ⟨u, rfl⟩ : ∃ u, cs = #[u] := by
    obtain ⟨l⟩ := cs
    rw [hc1] at hsz
    match l, hsz with
    | [u], _ => exact ⟨u, rfl⟩
  have hspot : ∀ a len cap, u = .slice (some a) len cap → a.spot = none := by
    rintro a len cap rfl
    have h1 : Row.okWide Tryd.prog W .any b0 24 #[.slice (some a) len cap] := by
      unfold Value.okWide at hval
      rw [Tryd.underlying24] at hval
      obtain ⟨cs, h1, _, h3⟩ := hval
      cases h1
      exact h3
    obtain ⟨ts, h2, _, h4⟩ := h1
    obtain rfl : ts = [22] := Option.some.inj (h2.symm.trans (by kernel_rfl))
    obtain ⟨u2, h5, h6⟩ := h4 0 (.slice (some a) len cap) rfl
    obtain rfl : u2 = 22 := by simpa using h5.symm
    unfold Cell.okWide at h6
    rw [Tryd.underlying22] at h6
    simp only at h6
    unfold Cell.ok at h6
    rw [Tryd.underlying22] at h6
    exact h6.2.2.2.1
  obtain ⟨fuel, hf⟩ := h
  obtain ⟨xs, k, _, _, _, hxl, hff⟩ := DataW.trod_struct Tryd.underlying24 hf
  match xs, hxl with
  | [y0], _ =>
    have g0 := hff 0 _ rfl
    have hcs : Tryd.prog.cellsOf 22 = 1 := by kernel_rfl
    simp [Value.cells, hcs] at g0
    obtain ⟨l, hl⟩ := rules_of hspot g0
    exact ⟨u, l, rfl, hl⟩
set_option maxRecDepth 100000 in
theorem open_bytes {b0 : Nat} {v : Value} {d : DataW H} {ps : List MemPlace} (hval : Value.okWide Tryd.prog W .any b0 54 v) (h : DataW.Trod enc Tryd.prog W 0 (fun _ => true) true 54 v d ps) :
    ∃ l : List Nat, NAt8 W v l ∧ ∀ x ∈ l, x < 256 := by
  obtain ⟨a0, len0, cap0, rfl⟩ := okWide_slice Tryd.underlying54 hval
  obtain ⟨fuel, h⟩ := h
  have hc : (Value.slice a0 len0 cap0).cells.toList = [.slice a0 len0 cap0] := rfl
  rw [hc] at h
  rcases open_ints Tryd.underlying54 Tryd.underlying5 (by kernel_rfl) h with ⟨e1, _⟩ | ⟨a, len, cap, zs, e1, _, hlc, hcm, hzl, _, hc, hwf⟩
  · have g1 : Value.slice a0 len0 cap0 = .slice none 0 0 := by simpa using e1
    rw [g1]
    exact ⟨[], .inl ⟨rfl, rfl⟩, fun x hx => by cases hx⟩
  · have g1 : Value.slice a0 len0 cap0 = .slice (some a) len cap := by simpa using e1
    rw [g1] at hval ⊢
    have hsp : a.spot = none := by
      unfold Value.okWide at hval
      rw [Tryd.underlying54] at hval
      simp only at hval
      unfold Cell.okWide at hval
      rw [Tryd.underlying54] at hval
      simp only at hval
      unfold Cell.ok at hval
      rw [Tryd.underlying54] at hval
      exact hval.2.2.2.1
    obtain ⟨b, off, sp⟩ := a
    simp only at hsp
    subst hsp
    simp only [if_true] at hzl
    have hpos : ∀ z ∈ zs, 0 ≤ z ∧ z < 256 := fun z hz => by
      have := hwf z hz
      simp only [Lit.wf, IntKind.min, IntKind.max, IntKind.signed, IntKind.bits, Bool.and_eq_true, decide_eq_true_eq, Bool.false_eq_true, if_false] at this
      omega
    have hlen : ((zs.take len).map Int.toNat).length = len := by rw [List.length_map, List.length_take, hzl]; omega
    refine ⟨(zs.take len).map Int.toNat, .inr ⟨b, off, cap, by rw [hlen], by rw [hlen]; exact hlc, hcm, fun j x hx => ?_⟩, fun x hx => ?_⟩
    · obtain ⟨hj, hjx⟩ := List.getElem?_eq_some_iff.1 hx
      rw [hlen] at hj
      have h2 := hc j (by omega)
      have h3 : (Addr.add ⟨b, off, none⟩ j) = ⟨b, off + j, none⟩ := by unfold Addr.add; split <;> simp_all
      rw [h3] at h2
      rw [h2]
      have hj2 : j < zs.length := by omega
      have h4 : zs.getD j 0 = zs[j] := by simp [hj2]
      have h5 := hpos zs[j] (List.getElem_mem hj2)
      rw [h4, ← hjx, List.getElem_map, List.getElem_take, Int.toNat_of_nonneg h5.1]
    · obtain ⟨z, hz, rfl⟩ := List.mem_map.1 hx
      have := hpos z (List.mem_of_mem_take hz)
      omega
end

set_option maxRecDepth 100000 in
theorem handed_laid {H : Type} {enc : TypeId × Value → H} {a : Assume} {os : Os} {f : FuncId} {fn : Func} {s : ChangeSpec} {conds : List PathCond} {apart fresh handsOn again : Bool}
    (started : os.Started) (noInit : Tryd.prog.inits.idxOf? f = none) (hfn : Tryd.prog.funcs[f]? = some fn)
    (witness : ∃ (w : World) (tape : Tape) (i : Input), w.os = os ∧ (w.forCall tape i).Shaped Tryd.prog ∧ i.vars = [] ∧ Input.okWide Tryd.prog (w.forCall tape i) .any w.heap.size f i ∧
      ((s.pre enc Tryd.prog fn conds apart (w.forCall tape i).memory i.args ∧ laidMetH Tryd.prog laidL (w.forCall tape i).memory) ∧ sizedMet enc Tryd.prog fn (OpenSpec.ofChange s) apart (w.forCall tape i).memory i.args) ∧ a.holds Tryd.prog (lone (Frame.enter Tryd.prog f i.args .normal) [] (w.forCall tape i)))
    (contract : ∀ (W : World) (base : Nat) (args : Array Value) (ds gs : List (DataW H)) (before : List MemPlace),
      (∀ (j : Nat) t v, fn.params[j]? = some t → args[j]? = some v → Value.okWide Tryd.prog W .any base t v) →
      DataW.Whole enc Tryd.prog fn.params.toList s.vars apart W args.toList ds gs before →
      (DataW.weightsEach Tryd.prog (fn.params.toList ++ s.plain.varTypes Tryd.prog) (ds ++ gs)).all (· ≤ reachBytes) = true → Gd W →
      Calls Tryd.prog f args W fun e W' => ∃ v, e = .returned v ∧ s.post enc Tryd.prog fn apart fresh handsOn again W args v W') :
    ReturnsInHanded a Tryd.checked os f .any (fun w args => (s.pre enc Tryd.prog fn conds apart w args ∧ laidMetH Tryd.prog laidL w) ∧ sizedMet enc Tryd.prog fn (OpenSpec.ofChange s) apart w args) (s.post enc Tryd.prog fn apart fresh handsOn again) := by
  refine returnsInHanded_of_calls (C := Tryd.checked) ownKnobNone started noInit witness ?_
  intro w tape i _ hsh _ hok hpre hholds
  obtain ⟨_, _, _, fn', hfn', _, _, _, _, hval⟩ := hok
  have e : fn' = fn := Option.some.inj (hfn'.symm.trans hfn)
  subst e
  obtain ⟨⟨⟨ds, gs, before, hw, hc⟩, hx⟩, hz⟩ := hpre
  have hw' := DataW.Whole.of_heap (w' := w.forCall tape i) (by rfl) hw
  have hx' : laidMetH Tryd.prog laidL (w.forCall tape i) := hx.of_heap (by rfl)
  refine (contract (w.forCall tape i) w.heap.size i.args ds gs before hval hw' (hz.weights hw) (gd_of hx')).mono fun e W' ⟨v, he, hp⟩ => ?_
  subst he
  exact ChangeSpec.post_blind hp

end Go.Proofs.YtldebakeebajkaaDoor
