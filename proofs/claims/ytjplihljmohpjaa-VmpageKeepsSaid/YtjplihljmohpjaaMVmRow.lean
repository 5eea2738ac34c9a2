/- Arguments: a list of calls, a plan. -/
import Derived.ProofKit
import Derived.OpenShut
import Derived.Lib.SmallJoins
import Derived.ChangeSlices
import Derived.Carry
import Derived.Stop.Joined
import Derived.Deep.Slices
import Derived.Test.YtjplihljmohpjaaRows
import Derived.Test.YtjplihljmohpjaaKj
namespace Go.Proofs.Ytjplihljmohpjaa
open Go.ChangeShapes Go.WideShapes Go.ChangeAt Go.RowKit Go.WideMaps Go.WideElems

theorem i64_of_wf {N : Int} (w0 : (Lit.int .i64 N).wf = true) : I64 N := by
  unfold I64
  simp only [Lit.wf, IntKind.min, IntKind.max, IntKind.signed, IntKind.bits, Bool.and_eq_true, decide_eq_true_eq, if_true] at w0
  omega
theorem u8_of_wf {N : Int} (w0 : (Lit.int .u8 N).wf = true) : 0 ≤ N ∧ N < 256 := by
  simp only [Lit.wf, IntKind.min, IntKind.max, IntKind.signed, IntKind.bits, Bool.and_eq_true, decide_eq_true_eq, Bool.false_eq_true, if_false] at w0
  omega
theorem no_spot {W : World} {a : Addr} {v : Value} (h : W.cell? a = some v) : a.spot = none := by
  unfold World.cell? at h
  split at h
  · split at h
    · cases h
    · rename_i hs; simpa using hs
  · cases h
theorem add_zero (a : Addr) : a.add 0 = a := by unfold Addr.add; simp
theorem add_flat (b off k : Nat) : (Addr.add ⟨b, off, none⟩ k) = ⟨b, off + k, none⟩ := by unfold Addr.add; split <;> simp_all
section
variable {H : Type} {enc : TypeId × Value → H} {W : World}
theorem u61 : ∃ f0 f1 f2 f3 : Field, Try.prog.underlying 134 = some (.struct #[f0, f1, f2, f3]) ∧ f0.offset = 0 ∧ f1.offset = 1 ∧ f2.offset = 2 ∧ f3.offset = 3 ∧ f0.type = 3 ∧ f1.type = 3 ∧ f2.type = 3 ∧ f3.type = 3 :=
  ⟨_, _, _, _, Try.underlying134, rfl, rfl, rfl, rfl, rfl, rfl, rfl, rfl⟩
set_option maxRecDepth 100000 in
/-- A cell that reads as a list of rules; an empty one may lie anywhere. -/
theorem rules_of {fuel : Nat} {u : Value} {x : DataW H × List MemPlace} (h : DataW.trod enc Try.prog W 0 (fun _ => true) true fuel 22 [u] = some x) : ∃ l : List RlI, RAt W u l ∧ ∀ b, obk u = some b → b < W.heap.size := by
  rcases Go.Deep.open_slice Try.underlying22 h with ⟨hcs, _⟩ | ⟨a, len, cap, m, n, D, Pl, hcs, hb, hl, hm, hmm, _, hx⟩
  · have : u = .slice none 0 0 := by simpa using hcs
    exact ⟨[], .inl ⟨⟨_, this⟩, rfl⟩, fun b h => by rw [this] at h; cases h⟩
  · have hu : u = .slice (some a) len cap := by simpa using hcs
    have hmc : m = cap := by simpa using hmm
    subst hmc
    have hce : Try.prog.cellsOf 134 = 4 := by kernel_rfl
    by_cases hc0 : m = 0
    · subst hc0
      obtain rfl : len = 0 := by omega
      exact ⟨[], .inl ⟨⟨_, hu⟩, rfl⟩, fun b h => by rw [hu] at h; cases h⟩
    have hfst : a.spot = none ∧ a.block < W.heap.size := by
      obtain ⟨cs', h1, _⟩ := hx 0 (by omega)
      rw [hce] at h1
      obtain ⟨_, hlen, hcell⟩ := World.cells?_some h1
      have e0 := hcell 0 (by omega)
      have hne : ∃ y, cs'[0]? = some y := ⟨_, List.getElem?_eq_getElem (by omega)⟩
      obtain ⟨y, hy⟩ := hne
      rw [hy] at e0
      rw [Nat.zero_mul, add_zero, add_zero] at e0
      exact ⟨no_spot e0, World.block_lt_of_cell? _ _ e0⟩
    obtain ⟨b, off, sp2⟩ := a
    simp only at hfst
    obtain ⟨rfl, hblt⟩ := hfst
    have hci : Try.prog.cellsOf 3 = 1 := by kernel_rfl
    obtain ⟨f0, f1, f2, f3, he, o0, o1, o2, o3, t0, t1, t2, t3⟩ := u61
    have key : ∀ i, i < len → ∃ r : RlI, W.cell? ⟨b, off + i * 4, none⟩ = some (.int .i64 r.k) ∧ W.cell? ⟨b, off + i * 4 + 1, none⟩ = some (.int .i64 r.f) ∧ W.cell? ⟨b, off + i * 4 + 2, none⟩ = some (.int .i64 r.e) ∧ W.cell? ⟨b, off + i * 4 + 3, none⟩ = some (.int .i64 r.t) := by
      intro i hi
      obtain ⟨cs', h1, h2⟩ := hx i (by omega)
      rw [hce] at h1
      obtain ⟨_, hlen, hcell⟩ := World.cells?_some h1
      obtain ⟨y0, y1, y2, y3, n2, _, _, g0, g1, g2, g3⟩ := Go.Joins.trod_struct4 he h2
      match cs', hlen with
      | [v0, v1, v2, v3], _ =>
        simp [o0, o1, o2, o3, t0, t1, t2, t3, hci] at g0 g1 g2 g3
        obtain ⟨z0, q0, _, _⟩ := DataW.trod_int Try.underlying3 g0
        obtain ⟨z1, q1, _, _⟩ := DataW.trod_int Try.underlying3 g1
        obtain ⟨z2, q2, _, _⟩ := DataW.trod_int Try.underlying3 g2
        obtain ⟨z3, q3, _, _⟩ := DataW.trod_int Try.underlying3 g3
        have e0 := hcell 0 (by omega)
        have e1 := hcell 1 (by omega)
        have e2 := hcell 2 (by omega)
        have e3 := hcell 3 (by omega)
        rw [add_flat, add_flat] at e0 e1 e2 e3
        simp at e0 e1 e2 e3 q0 q1 q2 q3
        subst q0; subst q1; subst q2; subst q3
        exact ⟨⟨z0, z1, z2, z3⟩, e0, e1, e2, e3⟩
    obtain ⟨f, hf⟩ : ∃ f : Nat → RlI, ∀ i, i < len → W.cell? ⟨b, off + i * 4, none⟩ = some (.int .i64 (f i).k) ∧ W.cell? ⟨b, off + i * 4 + 1, none⟩ = some (.int .i64 (f i).f) ∧ W.cell? ⟨b, off + i * 4 + 2, none⟩ = some (.int .i64 (f i).e) ∧ W.cell? ⟨b, off + i * 4 + 3, none⟩ = some (.int .i64 (f i).t) :=
      ⟨fun i => if h : i < len then (key i h).choose else ⟨0, 0, 0, 0⟩, fun i hi => by simp only [dif_pos hi]; exact (key i hi).choose_spec⟩
    refine ⟨(List.range len).map f, .inr ⟨b, off, m, by rw [hu]; simp, by simpa using hl, hm, fun j x hx => ?_⟩, fun g hg => ?_⟩
    · have hj : j < len := by have := (List.getElem?_eq_some_iff.1 hx).1; simpa using this
      have hxf : f j = x := by
        rw [List.getElem?_map, List.getElem?_range hj] at hx
        simpa using hx
      rw [← hxf]; exact hf j hj
    · have := obk_own hg
      rw [hu] at this
      simp [Value.ownBlock] at this
      omega
set_option maxRecDepth 100000 in
/-- A cell that reads as a plan. -/
theorem plan_of {fuel : Nat} {u : Value} {x : DataW H × List MemPlace} (hf : DataW.trod enc Try.prog W 0 (fun _ => true) true fuel 24 [u] = some x) : ∃ l : List RlI, RAt W u l ∧ ∀ b, obk u = some b → b < W.heap.size := by
  obtain ⟨xs, k, _, _, _, hxl, hff⟩ := DataW.trod_struct Try.underlying24 hf
  match xs, hxl with
  | [y0], _ =>
    have g0 := hff 0 _ rfl
    have hcs : Try.prog.cellsOf 22 = 1 := by kernel_rfl
    simp [hcs] at g0
    exact rules_of g0
set_option maxRecDepth 100000 in
theorem open_plan {b0 : Nat} {v : Value} {d : DataW H} {ps : List MemPlace} (hval : Value.okWide Try.prog W .any b0 24 v) (h : DataW.Trod enc Try.prog W 0 (fun _ => true) true 24 v d ps) :
    ∃ (u : Value) (l : List RlI), v = .agg #[u] ∧ RAt W u l ∧ ∀ b, obk u = some b → b < W.heap.size := by
  obtain ⟨cs, rfl, hsz⟩ := okWide_struct Try.underlying24 hval
  have hc1 : Try.prog.cellsOf 24 = 1 := by kernel_rfl
  obtain ⟨u, rfl⟩ : ∃ u, cs = #[u] := by
    obtain ⟨l⟩ := cs
    rw [hc1] at hsz
    match l, hsz with
    | [u], _ => exact ⟨u, rfl⟩
  obtain ⟨fuel, hf⟩ := h
  obtain ⟨l, h1, h2⟩ := plan_of hf
  exact ⟨u, l, rfl, h1, h2⟩
set_option maxRecDepth 100000 in
/-- A call's six cells. -/
theorem act_of {fuel : Nat} {v0 v1 v2 v3 v4 v5 : Value} {x : DataW H × List MemPlace} (hf : DataW.trod enc Try.prog W 0 (fun _ => true) true fuel 38 [v0, v1, v2, v3, v4, v5] = some x) :
    ∃ y : Ac, v0 = .int .u8 y.q ∧ v1 = .int .i64 y.a ∧ v2 = .int .i64 y.n ∧ v3 = .int .i64 y.t ∧ v4 = .int .u8 y.b ∧ v5 = y.r ∧ AcOk W W.heap.size y := by
  have hci : Try.prog.cellsOf 3 = 1 := by kernel_rfl
  have hc8 : Try.prog.cellsOf 5 = 1 := by kernel_rfl
  have hc6 : Try.prog.cellsOf 2 = 1 := by kernel_rfl
  have hcp : Try.prog.cellsOf 24 = 1 := by kernel_rfl
  obtain ⟨xs, k, _, _, _, hxl, hff⟩ := DataW.trod_struct Try.underlying38 hf
  match xs, hxl with
  | [z0, z1, z2, z3, z4, z5], _ =>
    have k0 := hff 0 _ rfl
    have k1 := hff 1 _ rfl
    have k2 := hff 2 _ rfl
    have k3 := hff 3 _ rfl
    have k4 := hff 4 _ rfl
    have k5 := hff 5 _ rfl
    simp [hci, hc8, hc6, hcp] at k0 k1 k2 k3 k4 k5
    obtain ⟨n0, e0, _, w0⟩ := DataW.trod_int Try.underlying5 k0
    obtain ⟨n1, e1, _, w1⟩ := DataW.trod_int Try.underlying3 k1
    obtain ⟨n2, e2, _, _⟩ := DataW.trod_int Try.underlying3 k2
    obtain ⟨n3, e3, _, _⟩ := DataW.trod_int Try.underlying2 k3
    obtain ⟨n4, e4, _, _⟩ := DataW.trod_int Try.underlying5 k4
    obtain ⟨l, r1, r2⟩ := plan_of k5
    simp at e0 e1 e2 e3 e4
    subst e0 e1 e2 e3 e4
    exact ⟨⟨n0, n1, n2, n3, n4, v5, l⟩, rfl, rfl, rfl, rfl, rfl, rfl, (u8_of_wf w0).1, (u8_of_wf w0).2, i64_of_wf w1, r1, r2⟩
set_option maxRecDepth 100000 in
theorem open_acts {b0 : Nat} {v : Value} {d : DataW H} {ps : List MemPlace} (hval : Value.okWide Try.prog W .any b0 25 v) (h : DataW.Trod enc Try.prog W 0 (fun _ => true) true 25 v d ps) :
    ∃ al : List Ac, AcAt W v al ∧ ∀ x ∈ al, AcOk W W.heap.size x := by
  obtain ⟨a0, len0, cap0, rfl⟩ := okWide_slice Try.underlying25 hval
  have hsp0 : ∀ a, a0 = some a → a.spot = none := by
    rintro a rfl
    unfold Value.okWide at hval
    rw [Try.underlying25] at hval
    simp only at hval
    unfold Cell.okWide at hval
    rw [Try.underlying25] at hval
    simp only at hval
    unfold Cell.ok at hval
    rw [Try.underlying25] at hval
    exact hval.2.2.2.1
  obtain ⟨fuel, h⟩ := h
  have hc : (Value.slice a0 len0 cap0).cells.toList = [.slice a0 len0 cap0] := rfl
  rw [hc] at h
  rcases Go.Deep.open_slice Try.underlying25 h with ⟨hcs, _⟩ | ⟨a, len, cap, m, n, D, Pl, hcs, hb, hl, hm, hmm, _, hx⟩
  · have : Value.slice a0 len0 cap0 = .slice none 0 0 := by simpa using hcs
    exact ⟨[], .inl ⟨this, rfl⟩, fun x hx => by cases hx⟩
  · have hu : Value.slice a0 len0 cap0 = .slice (some a) len cap := by simpa using hcs
    have hspa : a.spot = none := hsp0 a (by cases hu; rfl)
    rw [hu]
    obtain ⟨b, off, sp2⟩ := a
    simp only at hspa
    subst hspa
    have hlm : len ≤ m := by rw [hmm]; split <;> omega
    have hce : Try.prog.cellsOf 38 = 6 := by kernel_rfl
    have key : ∀ i, i < len → ∃ y : Ac, (W.cell? ⟨b, off + i * 6, none⟩ = some (.int .u8 y.q) ∧ W.cell? ⟨b, off + i * 6 + 1, none⟩ = some (.int .i64 y.a) ∧ W.cell? ⟨b, off + i * 6 + 2, none⟩ = some (.int .i64 y.n) ∧ W.cell? ⟨b, off + i * 6 + 3, none⟩ = some (.int .i64 y.t) ∧ W.cell? ⟨b, off + i * 6 + 4, none⟩ = some (.int .u8 y.b) ∧ W.cell? ⟨b, off + i * 6 + 5, none⟩ = some y.r) ∧ AcOk W W.heap.size y := by
      intro i hi
      obtain ⟨cs', h1, h2⟩ := hx i (by omega)
      rw [hce] at h1
      obtain ⟨_, hlen, hcell⟩ := World.cells?_some h1
      match cs', hlen with
      | [v0, v1, v2, v3, v4, v5], _ =>
        obtain ⟨y, q0, q1, q2, q3, q4, q5, hy⟩ := act_of h2
        have e0 := hcell 0 (by omega)
        have e1 := hcell 1 (by omega)
        have e2 := hcell 2 (by omega)
        have e3 := hcell 3 (by omega)
        have e4 := hcell 4 (by omega)
        have e5 := hcell 5 (by omega)
        rw [add_flat, add_flat] at e0 e1 e2 e3 e4 e5
        simp at e0 e1 e2 e3 e4 e5
        rw [q0] at e0; rw [q1] at e1; rw [q2] at e2; rw [q3] at e3; rw [q4] at e4; rw [q5] at e5
        exact ⟨y, ⟨e0, e1, e2, e3, e4, e5⟩, hy⟩
    obtain ⟨f, hf⟩ : ∃ f : Nat → Ac, ∀ i, i < len → (W.cell? ⟨b, off + i * 6, none⟩ = some (.int .u8 (f i).q) ∧ W.cell? ⟨b, off + i * 6 + 1, none⟩ = some (.int .i64 (f i).a) ∧ W.cell? ⟨b, off + i * 6 + 2, none⟩ = some (.int .i64 (f i).n) ∧ W.cell? ⟨b, off + i * 6 + 3, none⟩ = some (.int .i64 (f i).t) ∧ W.cell? ⟨b, off + i * 6 + 4, none⟩ = some (.int .u8 (f i).b) ∧ W.cell? ⟨b, off + i * 6 + 5, none⟩ = some (f i).r) ∧ AcOk W W.heap.size (f i) :=
      ⟨fun i => if h : i < len then (key i h).choose else ⟨0, 0, 0, 0, 0, .bool false, []⟩, fun i hi => by simp only [dif_pos hi]; exact (key i hi).choose_spec⟩
    have hat : ∀ (j : Nat) (x : Ac), ((List.range len).map f)[j]? = some x → j < len ∧ f j = x := fun j x hx => by
      have hj : j < len := by have := (List.getElem?_eq_some_iff.1 hx).1; simpa using this
      rw [List.getElem?_map, List.getElem?_range hj] at hx
      exact ⟨hj, by simpa using hx⟩
    refine ⟨(List.range len).map f, .inr ⟨b, off, cap, by simp, by simpa using hl, hm, fun j x hx => ?_⟩, fun x hx => ?_⟩
    · obtain ⟨hj, rfl⟩ := hat j x hx
      exact (hf j hj).1
    · obtain ⟨i, hi, rfl⟩ := List.mem_map.1 hx
      exact (hf i (List.mem_range.1 hi)).2
end
theorem ownKnobNone : ownKnob Try.prog.godebug = none := by kernel_rfl
theorem laidOut : laidOutB Try.prog = true := by kernel_rfl
end Go.Proofs.Ytjplihljmohpjaa
