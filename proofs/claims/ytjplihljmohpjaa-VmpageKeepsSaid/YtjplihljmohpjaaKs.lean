/- Save of free pages. -/
import Derived.Sort.QuietIn
import Derived.OwnWalkIn
import Derived.Deep.MidRow
import Derived.Maps.AppendAt
import Derived.Great.BuildSlice
import Derived.Laws.Tables
import Derived.Test.YtjplihljmohpjaaKg
/- A region that draws its order, inside a fence: what only reads comes first, in whatever order; the rest waits for all of it. -/
namespace Go.Proofs.Ytjplihljmohpjaa
open Go

section
variable {F : Fence} {n : Nat} {P : Program} {ops : Array Oper} {md : Region.Mode} {C : World → Prop} {L0 : Array Bool}

theorem wpIn_of_quiet_nd {o : Oper} {a : Act} {K : Act → Prop} {K' : Act → World → Prop} {Q' : Exit → Act → World → Prop} {w : World} (hnd : ∀ c, o.op ≠ .defer c) (hw : C w) (h : ∀ a w', C w' → K a → K' a w')
    (ha : o.askedIn F P a C) (hh : o.quietIn F n P a C K) : o.wpIn F n P a w K' Q' := by
  obtain ⟨v, h1, h2⟩ := hh
  have h3 := h1 w hw
  unfold Oper.quietAtIn at h3
  unfold Oper.wpIn
  refine ⟨ha w hw, ?_⟩
  rw [Oper.semAt_plain F _ _ hnd]
  generalize (execOp a.eval o).run P w = r at *
  cases r with
  | ok x w' =>
    cases x <;> simp only [Oper.quietUponIn] at h3 <;> simp only [Oper.uponIn]
    case value u =>
      obtain ⟨e1, e2⟩ := h3
      rw [e1, e2]
      exact h _ _ hw h2
    case skip =>
      obtain ⟨e1, e2⟩ := h3
      rw [e1, ← e2]
      exact h _ _ hw h2
    case enter f args =>
      obtain ⟨e1, hd, hc⟩ := h3
      rw [e1]
      exact ⟨hd, hc.mono fun e w'' ⟨he, hw''⟩ => by subst he; exact h _ _ hw'' h2⟩
  | halt x w' => simp only [Oper.quietUponIn] at h3
theorem wpOpIn_of_q {i : Nat} {a : Act} {K : Act → Prop} {K' : Act → World → Prop} {Q' : Exit → Act → World → Prop} {w : World} (hnd : ∀ o, ops[i]? = some o → ∀ c, o.op ≠ .defer c) (hC : C w) (h : ∀ a w', C w' → K a → K' a w')
    (hh : qOpIn F n P ops C i K a) : wpOpIn F n P ops Q' i K' a w := by
  unfold qOpIn at hh
  unfold wpOpIn
  split
  · rename_i ho; simp only [ho] at hh; exact h _ _ hC hh
  · rename_i o ho
    simp only [ho] at hh
    obtain ⟨ha, hh⟩ := hh
    split
    · rename_i hw; simp only [hw, if_true] at hh; exact wpIn_of_quiet_nd (hnd o ho) hC h ha hh
    · rename_i hw; simp only [hw] at hh; exact ⟨ha w hC, h _ _ hC hh⟩
/-- Whatever order of the first ones is picked from here on. -/
def wpPre (F : Fence) (n : Nat) (P : Program) (md : Region.Mode) (ops : Array Oper) (C : World → Prop) (L0 : Array Bool) (Q : Act → Prop) : Nat → Array Bool → Act → Prop
  | 0, listed, a => listed = L0 ∧ Q a
  | fuel + 1, listed, a => Region.ready md ops listed ≠ [] ∧ ∀ i ∈ Region.ready md ops listed, qOpIn F n P ops C i (wpPre F n P md ops C L0 Q fuel (listed.setIfInBounds i true)) a
theorem pre_sound {Q : Act → Prop} {Q' : Exit → Act → World → Prop} {s : Nat} (hnd : ∀ (i : Nat) (o : Oper), ops[i]? = some o → ∀ c, o.op ≠ .defer c) (hT : ∀ a w, C w → Q a → wpAnyIn F n P md ops Q' s L0 a w) : ∀ (fuel : Nat) (listed : Array Bool) (a : Act) (w : World), C w →
    wpPre F n P md ops C L0 Q fuel listed a → wpAnyIn F n P md ops Q' (fuel + s) listed a w
  | 0, _, _, _, hw, h => by rw [Nat.zero_add, h.1]; exact hT _ _ hw h.2
  | fuel + 1, _, _, _, hw, h => by
    rw [show fuel + 1 + s = (fuel + s) + 1 by omega]
    exact ⟨fun h0 => absurd h0 h.1, fun i hi => wpOpIn_of_q (hnd i) hw (fun a' w' hw' => pre_sound hnd hT fuel _ a' w' hw') (h.2 i hi)⟩
theorem unset {listed : Array Bool} {i : Nat} (h : listed.getD i true = false) : (listed.setIfInBounds i true).setIfInBounds i false = listed := by
  rw [Array.setIfInBounds_setIfInBounds]
  apply Array.ext_getElem?
  intro j
  rw [Array.getElem?_setIfInBounds]
  split
  · rename_i e
    subst e
    rw [Array.getD_eq_getD_getElem?] at h
    cases hi : listed[i]? with
    | none => rw [hi] at h; simp at h
    | some b =>
      rw [hi] at h
      simp at h
      rw [h]
      simp [(Array.getElem?_eq_some_iff.1 hi).1]
  · rfl
def Closed (md : Region.Mode) (ops : Array Oper) (listed : Array Bool) : Prop := ∀ (j : Nat) (o : Oper), ops[j]? = some o → listed.getD j false = true → ∀ e ∈ o.after, Region.binds md e = true → listed.getD e.on false = true
theorem Closed.next {listed : Array Bool} {i : Nat} (h : Closed md ops listed) (hi : i ∈ Region.ready md ops listed) : Closed md ops (listed.setIfInBounds i true) := fun j o ho hj e he hb => by
  by_cases hji : j = i
  · subst hji
    obtain ⟨_, o', ho', hall⟩ := mem_ready.1 hi
    rw [ho] at ho'
    cases ho'
    exact getD_set_true (hall e he hb)
  · rw [getD_set_ne false (Ne.symm hji)] at hj
    exact getD_set_true (h j o ho hj e he hb)
/-- With only i not yet come, i alone may come; or this never is. -/
def lastB (md : Region.Mode) (ops : Array Oper) (M : Array Bool) (i : Nat) : Bool :=
  (Region.ready md ops M == [i]) || (List.range ops.size).any fun j => M.getD j false && ((ops[j]?).map (·.after.any fun e => Region.binds md e && e.on == i)).getD false
theorem lastB_spec {M : Array Bool} {i : Nat} (h : lastB md ops M i = true) (hc : Closed md ops M) (hi : M.getD i false = false) : Region.ready md ops M = [i] := by
  unfold lastB at h
  rw [Bool.or_eq_true] at h
  rcases h with h | h
  · simpa using h
  · obtain ⟨j, _, hj⟩ := List.any_eq_true.1 h
    rw [Bool.and_eq_true] at hj
    obtain ⟨h1, h2⟩ := hj
    cases ho : ops[j]? with
    | none => rw [ho] at h2; simp at h2
    | some o =>
      rw [ho] at h2
      simp only [Option.map_some, Option.getD_some] at h2
      obtain ⟨e, he, hb⟩ := Array.any_eq_true'.1 h2
      rw [Bool.and_eq_true, beq_iff_eq] at hb
      have := hc j o ho h1 e he hb.1
      rw [hb.2, hi] at this
      cases this
theorem pre_first {Q : Act → Prop} {i : Nat} {oi : Oper} {v : Value} (hi : ops[i]? = some oi) (hsel : ∀ (j : Nat) (o : Oper) cs b, ops[j]? = some o → o.op ≠ .select cs b) (hlast : lastB md ops (L0.setIfInBounds i false) i = true) :
    ∀ (fuel : Nat) (listed : Array Bool) (a : Act), Closed md ops listed →
      (∀ j oj, ops[j]? = some oj → j ≠ i → listed.getD j true = false → (∀ e ∈ oj.after, Region.binds md e = true → e.on ≠ i) → oi.apart ops oj = true) →
      i ∈ Region.ready md ops listed → YieldsQuiet F n P ops C oi v a →
      wpPre F n P md ops C L0 Q fuel (listed.setIfInBounds i true) (a.put oi.dst v) → wpPre F n P md ops C L0 Q (fuel + 1) listed a := by
  intro fuel
  induction fuel with
  | zero =>
    intro listed a hcl _ hr hy H
    have e : listed = L0.setIfInBounds i false := by rw [← H.1]; exact (unset (mem_ready.1 hr).1).symm
    refine ⟨fun h => (by rw [h] at hr; cases hr), fun j hj => ?_⟩
    have hg := (mem_ready.1 hr).1
    have hg2 : listed.getD i false = false := by
      rw [Array.getD_eq_getD_getElem?] at hg ⊢
      cases hx : listed[i]? with
      | none => rfl
      | some b => rw [hx] at hg; exact hg
    rw [lastB_spec (by rw [e]; exact hlast) hcl hg2] at hj
    have hji : j = i := by simpa using hj
    subst hji
    exact hy.qOpIn hi H
  | succ fuel ih =>
    intro listed a hcl hfree hr hy H
    refine ⟨fun h => (by rw [h] at hr; cases hr), fun j hj => ?_⟩
    by_cases hji : j = i
    · subst hji; exact hy.qOpIn hi H
    · have h1 := H.2 j (ready_mono hj hji)
      obtain ⟨hjun, oj, hoj, hall⟩ := mem_ready.1 hj
      have hnot : ∀ e ∈ oj.after, Region.binds md e = true → e.on ≠ i := fun e he hb heq => by
        have h1 := hall e he hb
        have h0 := (mem_ready.1 hr).1
        rw [heq] at h1
        rcases Nat.lt_or_ge i listed.size with h' | h'
        · simp [h'] at h0 h1; rw [h0] at h1; cases h1
        · simp [Array.getElem?_eq_none h'] at h1
      have h2 := qOpIn_put hoj (hfree j oj hoj hji hjun hnot) (fun cs b => hsel i oi cs b hi) (fun cs b => hsel j oj cs b hoj) hy h1
      have hfree' : ∀ k ok, ops[k]? = some ok → k ≠ i → (listed.setIfInBounds j true).getD k true = false →
          (∀ e ∈ ok.after, Region.binds md e = true → e.on ≠ i) → oi.apart ops ok = true := fun k ok hk hki hun hno => by
        refine hfree k ok hk hki ?_ hno
        by_cases hjk : j = k
        · subst hjk; exact hjun
        · rw [getD_set_ne true hjk] at hun; exact hun
      refine qOpIn_mono (fun a' h3 => ih (listed.setIfInBounds j true) a' (hcl.next hj) hfree' (ready_mono hr (Ne.symm hji)) h3.1 ?_) h2
      rw [Array.setIfInBounds_comm _ _ hji]
      exact h3.2
def preB (md : Region.Mode) (ops : Array Oper) (L0 : Array Bool) : Nat → Nat → Array Bool → Bool
  | 0, _, listed => listed == L0
  | fuel + 1, k, listed => ((Region.ready md ops listed).contains k && Region.free md ops listed k && lastB md ops (L0.setIfInBounds k false) k) && preB md ops L0 fuel (k + 1) (listed.setIfInBounds k true)
theorem pre_lex {Q : Act → Prop} (hs : Region.noSelect ops = true) : ∀ (l : List Oper) (k : Nat) (listed : Array Bool) (a : Act), Closed md ops listed → (∀ j, j < l.length → l[j]? = ops[k + j]?) →
    preB md ops L0 l.length k listed = true → wpQuietIn F n P ops C Q l a → wpPre F n P md ops C L0 Q l.length listed a
  | [], _, _, _, _, _, hB, h => ⟨by simpa [preB] using hB, h⟩
  | o :: l, k, listed, a, hcl, hl, hB, h => by
    have h0 : ops[k]? = some o := by simpa using (hl 0 (by simp)).symm
    simp only [List.length_cons, preB, Bool.and_eq_true] at hB
    obtain ⟨⟨⟨hr, hf⟩, hu⟩, hB'⟩ := hB
    have hst : qOpIn F n P ops C k (wpQuietIn F n P ops C Q l) a := by unfold qOpIn; simp only [h0]; exact h
    obtain ⟨v, hy, hK⟩ := yieldsQuiet_of_qOpIn h0 hst
    exact pre_first h0 (Region.noSelect_spec hs) hu l.length listed a hcl (Region.free_spec h0 hf) (by simpa using hr) hy
      (pre_lex hs l (k + 1) _ _ (hcl.next (by simpa using hr)) (fun j hj => by have := hl (j + 1) (by simpa using hj); simpa [Nat.add_assoc, Nat.add_comm 1 j] using this) hB' hK)
def sufB (md : Region.Mode) (ops : Array Oper) : Nat → Nat → Array Bool → Bool
  | 0, _, listed => (Region.ready md ops listed).isEmpty
  | fuel + 1, k, listed => (Region.ready md ops listed == [k]) && sufB md ops fuel (k + 1) (listed.setIfInBounds k true)
theorem suf_lex {Q : Exit → Act → World → Prop} : ∀ (l : List Oper) (k : Nat) (listed : Array Bool) (a : Act) (w : World), (∀ j, j < l.length → l[j]? = ops[k + j]?) →
    sufB md ops l.length k listed = true → wpListIn F n P ops Q l a w → wpAnyIn F n P md ops Q l.length listed a w
  | [], _, _, _, _, _, hB, h => ⟨by simpa [sufB] using hB, h⟩
  | o :: l, k, listed, a, w, hl, hB, h => by
    have h0 : ops[k]? = some o := by simpa using (hl 0 (by simp)).symm
    simp only [List.length_cons, sufB, Bool.and_eq_true] at hB
    obtain ⟨hr, hB'⟩ := hB
    have hr' : Region.ready md ops listed = [k] := by simpa using hr
    have next : ∀ a w, wpListIn F n P ops Q l a w → wpAnyIn F n P md ops Q l.length (listed.setIfInBounds k true) a w := fun a w hh =>
      suf_lex l (k + 1) _ a w (fun j hj => by have := hl (j + 1) (by simpa using hj); simpa [Nat.add_assoc, Nat.add_comm 1 j] using this) hB' hh
    refine ⟨fun e => (by rw [hr'] at e; cases e), fun i hi => ?_⟩
    rw [hr'] at hi
    have hik : i = k := by simpa using hi
    subst hik
    unfold wpOpIn
    simp only [h0]
    unfold wpListIn at h
    split
    · rename_i hw
      rw [if_pos hw] at h
      exact Oper.wpIn_mono next h
    · rename_i hw
      rw [if_neg hw] at h
      exact ⟨h.1, next _ _ h.2⟩
def noDefer (l : List Oper) : Bool := l.all fun o => match o.op with | .defer _ => false | _ => true
theorem noDefer_spec {l : List Oper} (h : noDefer l = true) : ∀ (i : Nat) (o : Oper), l.toArray[i]? = some o → ∀ c, o.op ≠ .defer c := fun i o ho c hc => by
  have := List.all_eq_true.1 h o (by rw [List.getElem?_toArray] at ho; exact List.mem_of_getElem? ho)
  simp [hc] at this
/-- The first k operations read, in whatever order; the others wait for all of them and come one by one. -/
theorem region_pre (k : Nat) (L0 : Array Bool) {id : Nat} {Q : Exit → Act → World → Prop} {a : Act} {w : World} {l : List Oper} (hm : P.follows .mixedOrders = true)
    (hd : noDefer l = true) (hs : Region.noSelect l.toArray = true) (hk : (l.take k).length + (l.drop k).length = l.length ∧ (l.take k).length = k) (h1 : preB .any l.toArray L0 (l.take k).length 0 (Array.replicate l.toArray.size false) = true) (h2 : sufB .any l.toArray (l.drop k).length k L0 = true)
    (hC : C { w with drawn := w.drawn + 1 })
    (h : wpQuietIn F n P l.toArray C (fun a' => ∀ w', C w' → wpListIn F n P l.toArray Q (l.drop k) a' w') (l.take k) a) : (Code.region id l.toArray true).wpIn F n P Q a w := by
  refine wpIn_region_any hm ?_
  rw [List.size_toArray, ← hk.1]
  refine pre_sound (L0 := L0) (C := C) (Q := fun a' => ∀ w', C w' → wpListIn F n P l.toArray Q (l.drop k) a' w') (noDefer_spec hd) (fun a w' hw h' => suf_lex (l.drop k) k L0 a w' (fun j hj => by rw [List.getElem?_drop, List.getElem?_toArray]) h2 (h' w' hw)) _ _ _ _ hC ?_
  rw [show (l.take k).length + (l.drop k).length = l.toArray.size by rw [hk.1, List.size_toArray]]
  exact pre_lex hs (l.take k) 0 _ a (fun j o _ hj => by
    rw [Array.getD_eq_getD_getElem?, Array.getElem?_replicate] at hj
    split at hj <;> cases hj) (fun j hj => by rw [Nat.zero_add, List.getElem?_toArray, List.getElem?_take, if_pos (by rw [hk.2] at hj; exact hj)]) h1 h
/-- A whole row is loaded in a region that draws its order. -/
theorem quietIn_load_mid {o : Oper} {a : Act} {K : Act → Prop} (ty : TypeId) (x : Operand) (ho : o.op = .load ty x) (b off : Nat) (hx : a.eval x = .pointer (some ⟨b, off, none⟩)) (cs : List Value) (d : TypeDesc)
    (hc : ∀ w, C w → w.rangeAt b off cs) (hu : P.underlying ty = some d) (hd : d.isRow = true) (hi : (P.info? ty).map (·.size) = some cs.length) (hk : K (a.put o.dst (.agg cs.toArray))) : o.quietIn F n P a C K :=
  ⟨.agg cs.toArray, fun w hw => by
    unfold Oper.quietAtIn execOp
    simp only [ho, hx, Instr.loadAt, Instr.sureAddr, Sem.run_bind, Sem.run_pure, Result.andThen_ok, run_loadVar_mid w b off ty cs d (hc w hw) hu hd hi]
    exact ⟨rfl, rfl⟩, hk⟩
theorem wpListIn_append_own_at {w : World} {rest : List Oper} {o : Oper} {a : Act} {Q : Exit → Act → World → Prop} (hgd : o.guard = none) (s x : Operand) (t : TypeId)
    (ho : o.op = .call { callee := .builtin .append, args := #[s, x], argTypes := #[t, t] })
    (base : Nat) (e : TypeId) (i : TypeInfo) (z : Value) (size bytes : Nat) (ht : P.underlying t = some (.slice e)) (hi : P.info? e = some i) (hz : i.zero = some z)
    (hsize : i.size = size) (hby : i.bytes = bytes) (hzs : z.cells.size = size) (hsz : 0 < size)
    (v : Value) (k : Nat) (xs : List Value) (hs : a.eval s = v) (hown : w.ownsRow base e size v k xs)
    (ad : Addr) (m c : Nat) (news : List Value) (hx : a.eval x = .slice (some ad) m c) (hl : news.length = m * size) (hnews : ∀ j u, news[j]? = some u → w.cell? (ad.add j) = some u) (h1 : ∀ u ∈ news, u.oneCell' = true)
    (h63 : k + m ≤ maxLen) (hbytes : (k + m) * bytes ≤ 140737488355328) (hbase : base ≤ w.heap.size)
    (h : ∀ v' w', w'.ownsRow base e size v' (k + m) (xs ++ news) → w.grownBy w' v.ownBlock → (v'.ownBlock = v.ownBlock ∨ v'.ownBlock = some w.heap.size) → wpListIn F n P ops Q rest (a.put o.dst v') w') :
    wpListIn F n P ops Q (o :: rest) a w := by
  refine wpListIn_plain hgd fun K hK' => ?_
  obtain ⟨v', w', hr, h2, h3, _, h5⟩ := run_append_own_at (P := P) w base t o.type e i z size bytes ht hi hz hsize hby hzs hsz v k xs hown ad m c news hl hnews h1 h63 hbytes hbase
  unfold Oper.wpIn
  refine ⟨?_, ?_⟩
  · simp [Oper.about, ho, resolve, Target.leads, Sem.run_pure]
  · rw [Oper.semAt_plain F _ _ (by rw [ho]; intro c hc'; cases hc')]
    simp [execOp, ho, resolve, invoke, builtin, hs, hx, hr, Result.andThen]
    exact hK' _ _ (h v' w' h2 h3 h5)
theorem exec_load_mid {w : World} {o : Oper} {a : Act} (ty : TypeId) (x : Operand) (ho : o.op = .load ty x) (b off : Nat) (hx : a.eval x = .pointer (some ⟨b, off, none⟩)) (cs : List Value) (d : TypeDesc)
    (hc : w.rangeAt b off cs) (hu : P.underlying ty = some d) (hd : d.isRow = true) (hi : (P.info? ty).map (·.size) = some cs.length) : (execOp a.eval o).run P w = .ok (.value (.agg cs.toArray)) w := by
  unfold execOp
  simp only [ho, hx, Instr.loadAt, Instr.sureAddr, Sem.run_bind, Sem.run_pure, Result.andThen_ok, run_loadVar_mid w b off ty cs d hc hu hd hi]
theorem exec_build {w : World} {o : Oper} {a : Act} (t : TypeId) (parts : Array (Nat × Operand)) (ho : o.op = .build t parts) (ps : List (Nat × Value)) (hp : (parts.map fun (i, x) => (i, a.eval x)).toList = ps) (cells : Array Value) (hc : P.built t ps = some cells) : (execOp a.eval o).run P w = .ok (.value (.agg cells)) w := by
  subst hp
  unfold execOp
  simp only [ho, Sem.run_bind, run_build w t _ cells hc, Result.andThen_ok]
  rfl
theorem exec_buildSlice {w : World} {o : Oper} {a : Act} (t e : TypeId) (len : Nat) (parts : Array (Nat × Operand)) (ho : o.op = .buildSlice t len parts) (ps : List (Nat × Value)) (hp : (parts.map fun (i, x) => (i, a.eval x)).toList = ps) (cells : Array Value) (ie : TypeInfo) (z : Value)
    (hu : P.underlying t = some (.slice e)) (hie : P.info? e = some ie) (hz : ie.zero = some z) (hsmall : ¬ len * ie.size > 2 ^ 24) (hpos : ¬ len * ie.size = 0)
    (hf : Instr.fill (fun i => some (i * ie.size, ie.size)) ((Array.range (len * ie.size)).map (z.cells[· % z.cells.size]!)) ps = some cells) : (execOp a.eval o).run P w = .ok (.value (.slice (some ⟨w.heap.size, 0, none⟩) len len)) (w.alloc (.cells cells e)) := by
  subst hp
  unfold execOp
  simp only [ho, Sem.run_bind, run_buildSlice w t e len _ cells ie z hu hie hz hsmall hpos hf, Result.andThen_ok]
  rfl
end
end Go.Proofs.Ytjplihljmohpjaa

/- Whole rows are loaded and stored where functions are ranged over. -/
namespace Go.Proofs.Ytjplihljmohpjaa
open Go

theorem wpListIn_load_mid {F : Fence} {n : Nat} {P : Program} {ops : Array Oper} {rest : List Oper} {op : Oper} {a : Act} {w : World} {Q : Exit → Act → World → Prop} (hg : op.guard = none) (ty : TypeId) (x : Operand) (ho : op.op = .load ty x)
    (b o : Nat) (hx : a.eval x = .pointer (some ⟨b, o, none⟩)) (cs : List Value) (d : TypeDesc) (hc : w.rangeAt b o cs)
    (hu : P.underlying ty = some d) (hd : d.isRow = true) (hi : (P.info? ty).map (·.size) = some cs.length)
    (h : wpListIn F n P ops Q rest (a.put op.dst (.agg cs.toArray)) w) : wpListIn F n P ops Q (op :: rest) a w := by
  refine wpListIn_plain hg fun K hK => ?_
  unfold Oper.wpIn
  refine ⟨?_, ?_⟩
  · simp [Oper.about, ho]
  · rw [Oper.semAt_plain F _ _ (by rw [ho]; intro c hc'; cases hc')]
    unfold execOp
    simp only [ho, hx, Instr.loadAt, Instr.sureAddr, Sem.run_bind, Sem.run_pure, Result.andThen_ok, run_loadVar_mid w b o ty cs d hc hu hd hi]
    exact hK _ _ h
theorem wpListIn_store_row {F : Fence} {n : Nat} {P : Program} {ops : Array Oper} {rest : List Oper} {op : Oper} {a : Act} {w : World} {Q : Exit → Act → World → Prop} (hg : op.guard = none) (ty : TypeId) (x y : Operand) (ho : op.op = .store ty x y)
    (g : Nat) (cells : Array Value) (hx : a.eval x = .pointer (some ⟨g, 0, none⟩)) (hy : a.eval y = .agg cells)
    (t : TypeId) (old : Array Value) (hgg : w.heap[g]? = some (.cells old t (0, 0))) (hi : (P.info? ty).map (·.size) = some cells.size)
    (hold : old.size = cells.size) (h1 : cells.all (·.oneCell') = true)
    (h : wpListIn F n P ops Q rest (a.put op.dst undef) (w.setRow g cells)) : wpListIn F n P ops Q (op :: rest) a w := by
  refine wpListIn_plain hg fun K hK => ?_
  unfold Oper.wpIn
  refine ⟨?_, ?_⟩
  · simp [Oper.about, ho]
  · rw [Oper.semAt_plain F _ _ (by rw [ho]; intro c hc'; cases hc')]
    unfold execOp
    simp only [ho, hx, hy, Instr.storeAt, Instr.sureAddr, Sem.run_bind, Sem.run_pure, Result.andThen_ok, run_storeVar_row w g t ty old cells hgg hi hold h1]
    exact hK _ _ h
theorem wpListIn_build_as {F : Fence} {n : Nat} {P : Program} {ops : Array Oper} {rest : List Oper} {op : Oper} {a : Act} {w : World} {Q : Exit → Act → World → Prop} (hg : op.guard = none) (t : TypeId) (parts : Array (Nat × Operand)) (ho : op.op = .build t parts)
    (cells : Array Value) (hc : P.built t (parts.map fun (i, x) => (i, a.eval x)).toList = some cells)
    (h : wpListIn F n P ops Q rest (a.put op.dst (.agg cells)) w) : wpListIn F n P ops Q (op :: rest) a w := by
  refine wpListIn_plain hg fun K hK => ?_
  unfold Oper.wpIn
  refine ⟨?_, ?_⟩
  · simp [Oper.about, ho]
  · rw [Oper.semAt_plain F _ _ (by rw [ho]; intro c hc'; cases hc')]
    unfold execOp
    simp only [ho, Sem.run_bind, run_build w t _ cells hc, Result.andThen_ok]
    exact hK _ _ h
end Go.Proofs.Ytjplihljmohpjaa

/- Parts of Save: empty bytes, runs, refusals. -/
namespace Go.Proofs.Ytjplihljmohpjaa
open Go.RowKit Go.Shelf
attribute [local go_sem] Oper.semAt_some

def z64 : Array Value := #[.int .u8 0, .int .u8 0, .int .u8 0, .int .u8 0, .int .u8 0, .int .u8 0, .int .u8 0, .int .u8 0, .int .u8 0, .int .u8 0, .int .u8 0, .int .u8 0, .int .u8 0, .int .u8 0, .int .u8 0, .int .u8 0, .int .u8 0, .int .u8 0, .int .u8 0, .int .u8 0, .int .u8 0, .int .u8 0, .int .u8 0, .int .u8 0, .int .u8 0, .int .u8 0, .int .u8 0, .int .u8 0, .int .u8 0, .int .u8 0, .int .u8 0, .int .u8 0, .int .u8 0, .int .u8 0, .int .u8 0, .int .u8 0, .int .u8 0, .int .u8 0, .int .u8 0, .int .u8 0, .int .u8 0, .int .u8 0, .int .u8 0, .int .u8 0, .int .u8 0, .int .u8 0, .int .u8 0, .int .u8 0, .int .u8 0, .int .u8 0, .int .u8 0, .int .u8 0, .int .u8 0, .int .u8 0, .int .u8 0, .int .u8 0, .int .u8 0, .int .u8 0, .int .u8 0, .int .u8 0, .int .u8 0, .int .u8 0, .int .u8 0, .int .u8 0]
theorem zP_i : (Try.prog.info? 88).map (·.size) = some z64.size := by kernel_rfl
theorem z64_eq (w : World) : (Op.equalIn 10000 88 (.agg z64) (.agg #[.int .u8 0, .int .u8 0, .int .u8 0, .int .u8 0, .int .u8 0, .int .u8 0, .int .u8 0, .int .u8 0, .int .u8 0, .int .u8 0, .int .u8 0, .int .u8 0, .int .u8 0, .int .u8 0, .int .u8 0, .int .u8 0, .int .u8 0, .int .u8 0, .int .u8 0, .int .u8 0, .int .u8 0, .int .u8 0, .int .u8 0, .int .u8 0, .int .u8 0, .int .u8 0, .int .u8 0, .int .u8 0, .int .u8 0, .int .u8 0, .int .u8 0, .int .u8 0, .int .u8 0, .int .u8 0, .int .u8 0, .int .u8 0, .int .u8 0, .int .u8 0, .int .u8 0, .int .u8 0, .int .u8 0, .int .u8 0, .int .u8 0, .int .u8 0, .int .u8 0, .int .u8 0, .int .u8 0, .int .u8 0, .int .u8 0, .int .u8 0, .int .u8 0, .int .u8 0, .int .u8 0, .int .u8 0, .int .u8 0, .int .u8 0, .int .u8 0, .int .u8 0, .int .u8 0, .int .u8 0, .int .u8 0, .int .u8 0, .int .u8 0, .int .u8 0])).run Try.prog w = Result.ok true w := by kernel_rfl
set_option maxRecDepth 100000 in
theorem isZero_z (w : World) : Calls Try.prog 58 #[.agg z64] w fun e w' => e = .returned (.bool true) ∧ Below w.heap.size w w' := by
  obtain ⟨W1, hW1⟩ : ∃ x, w.alloc (.cells z64 88) = x := ⟨_, rfl⟩
  have hb1 : Below w.heap.size w W1 := by rw [← hW1]; exact (Below.refl _ _).alloc (Nat.le_refl _) _
  have g : W1.heap[w.heap.size]? = some (.cells z64 88 (0, 0)) := by rw [← hW1]; exact World.alloc_heap_new w _
  have heq := z64_eq
  go_enter Try.func58, Try.ntmps58
  go_wp2_with (first | rw [hW1] | refine wpList_load_row rfl 88 _ rfl w.heap.size rfl 88 _ (0, 0) _ g Try.underlying88 rfl zP_i ?_)
  go_ret
  exact ⟨rfl, hb1⟩
theorem lengthen_free (rv : Value) (p : Int) (w : World) : Calls Try.prog 56 #[rv, .int .i64 p, .int .i64 0] w fun e w' => e = .returned rv ∧ w = w' := by
  go_enter Try.func56, Try.ntmps56
  go_wp2_with fail
  go_ret
  exact ⟨rfl, rfl⟩
set_option maxRecDepth 100000 in
set_option maxHeartbeats 1000000 in
theorem cloneRefusals_is (v : Value) (L : List Ru) (hL : OkL L) (c h : Nat → Int) (w : World) (hr : RAt w v (toI L)) :
    Calls Try.prog 54 #[.agg (stA v c h)] w fun e w' => ∃ u, e = .returned (.agg (stA u c h)) ∧ RAt w' u (toI L) ∧ (∀ b, u.ownBlock = some b → w.heap.size ≤ b ∧ b < w'.heap.size) ∧ Below w.heap.size w w' := by
  obtain ⟨WL, hWL⟩ : ∃ x, (w.alloc (.cells (stA v c h) 45)).alloc (.cells #[.slice none 0 0, .int .i64 0, .int .i64 0, .int .i64 0, .int .i64 0, .int .i64 0, .int .i64 0, .int .i64 0, .int .i64 0, .int .i64 0, .int .i64 0, .int .i64 0, .int .i64 0, .int .i64 0, .int .i64 0] 45) = x := ⟨_, rfl⟩
  have hb : Below w.heap.size w WL := by rw [← hWL]; exact ((Below.refl _ _).alloc (Nat.le_refl _) _).alloc (by simp) _
  have b1 : SBox WL w.heap.size v c h := by rw [← hWL]; exact (SBox.new w v c h).alloc _
  have b2 : SBox WL (w.heap.size + 1) nilS zer zer := by
    have := SBox.new (w.alloc (.cells (stA v c h) 45)) nilS zer zer
    rw [World.size_alloc] at this
    rw [← hWL]; exact this
  have HC := Lib.hid (Clone_is (toI L) (by rw [toI_len]; have := hL.1; omega) v WL (hr.later hb))
  have q0 := b1.cell 0
  simp only [stA] at q0
  simp at q0
  clear hr
  go_enter Try.func54, Try.ntmps54
  go_wp2_with fail
  try rw [hWL]
  refine HC.out.mono ?_
  rintro e w1 ⟨u, rfl, ho, B1⟩
  have ho' := UOwn.at ho
  obtain ⟨ua, uc, hu⟩ := ho'.form
  obtain ⟨nL, hnL⟩ : ∃ n, (toI L).length = n := ⟨_, rfl⟩
  rw [hnL] at hu
  have hu1 := ho'.one
  have hown : ∀ b, u.ownBlock = some b → WL.heap.size ≤ b := fun b hb2 => (World.ownsRow.lt ho b hb2).1
  have hown2 : ∀ b, u.ownBlock = some b → b < w1.heap.size := fun b hb2 => (World.ownsRow.lt ho b hb2).2
  have hzL : w.heap.size + 2 ≤ WL.heap.size := by have := b2.lt; omega
  have c1 := b1.later B1
  have c2 := b2.later B1
  have b1s : SBox (w1.setCell ⟨w.heap.size, 0, none⟩ u) w.heap.size u c h := heap_setCell_same w1 w.heap.size 0 _ _ _ c1
  have b2s : SBox (w1.setCell ⟨w.heap.size, 0, none⟩ u) (w.heap.size + 1) nilS zer zer := (Below.heap_setCell _ _ _ _ (by simp)).trans c2
  have q1 := c1.cell 0
  simp only [stA] at q1
  simp at q1
  have hf1 : ∀ j, w1.frozen? ⟨w.heap.size, j, none⟩ = false := fun j => by have := c1; unfold SBox at this; simp [World.frozen?, this]
  have hB1 : Below w.heap.size w w1 := hb.trans (B1.mono hb.size)
  clear hWL ho q0
  subst hu
  go_wp2_with (first | refine wpList_load_row rfl 45 _ rfl w.heap.size rfl 45 _ (0, 0) _ b1s Try.underlying45 rfl (st_i _ _ _) ?_ | refine wpList_store_row rfl 45 _ _ rfl (w.heap.size + 1) (stA (.slice ua nL uc) c h) rfl rfl 45 _ b2s (st_i _ _ _) rfl (stA_one _ hu1 _ _) ?_)
  have hld := st_load (b2s.row (.slice ua nL uc) c h)
  have r1 := (ho'.set (a := (⟨w.heap.size, 0, none⟩ : Addr)) (.slice ua nL uc) (fun e => by have := hown _ e; simp at this; omega)).row (b := w.heap.size + 1) (stA (.slice ua nL uc) c h) (fun e => by have := hown _ e; omega)
  exact bodyPost_ret (v := .agg (stA (.slice ua nL uc) c h)) (by simp [results, Try.results54, asAddr, Act.put, hld]) rfl ⟨_, rfl, r1, fun b hb2 => by
    have h1 := hown b hb2
    have h2 := hown2 b hb2
    simp
    omega, below_row (hB1.setCell (Nat.le_refl _) _) _ (by omega) _⟩
end Go.Proofs.Ytjplihljmohpjaa

/- Save of a system whose pages are all free. -/
namespace Go.Proofs.Ytjplihljmohpjaa
open Go.RowKit Go.Shelf
attribute [local go_sem] Oper.semAt_some

theorem mixed : Try.prog.follows .mixedOrders = true := by kernel_rfl
theorem z64_list : z64.toList = List.replicate 64 (.int .u8 0) := by kernel_rfl
theorem own_VBox {β : Type} (B b : Nat) (r g d v : Value) (c h : Nat → Int) : OwnFrom B (fun (_ : β) W => VBox W b r g d v c h) := fun _ A C row h hg hr => own_cells (β := Unit) B b _ rfl () A C row h hg hr
theorem VBox.zero (W : World) : VBox (W.alloc (.cells #[.slice none 0 0, .slice none 0 0, .slice none 0 0, .slice none 0 0, .int .i64 0, .int .i64 0, .int .i64 0, .int .i64 0, .int .i64 0, .int .i64 0, .int .i64 0, .int .i64 0, .int .i64 0, .int .i64 0, .int .i64 0, .int .i64 0, .int .i64 0, .int .i64 0] 47)) W.heap.size nilS nilS nilS nilS zer zer := VBox.new W nilS nilS nilS nilS zer zer
theorem VBox.frozen {W : World} {b : Nat} {r g d v : Value} {c h : Nat → Int} (s : VBox W b r g d v c h) (j : Nat) : W.frozen? ⟨b, j, none⟩ = false := by unfold VBox at s; simp [World.frozen?, s]
theorem VBox.set0 {W : World} {b : Nat} {r g d v : Value} {c h : Nat → Int} (s : VBox W b r g d v c h) : VBox (W.setCell ⟨b, 0, none⟩ r) b r g d v c h := heap_setCell_same W b 0 _ _ _ s
theorem VBox.all {W : World} {b : Nat} {r g d v : Value} {c h : Nat → Int} (s : VBox W b r g d v c h) : W.rangeAt b 0 (vsA r g d v c h).toList := fun j u hu => by
  rw [Nat.zero_add, s.cell, ← hu, Array.getElem?_toList]
theorem PgAt.empty {W : World} {P : Nat} {f : Pages} (h : PgAt W P f) (j : Nat) (hj : j < 1024) (hz : ∀ k, k < 64 → (f j).by' k = 0) : W.rangeAt P (j * 66 + 2) z64.toList := fun i u hu => by
  rw [z64_list] at hu
  have hi : i < 64 := by have := (List.getElem?_eq_some_iff.1 hu).1; simpa using this
  have h1 := h.range j hj (2 + i) _ (pgL_by (f j) i hi)
  rw [hz i hi] at h1
  have : u = .int .u8 0 := by rw [List.getElem?_replicate, if_pos hi] at hu; simpa using hu.symm
  rw [this, Nat.add_assoc]; exact h1
theorem fold_vs (u : Value) (c h : Nat → Int) : Array.foldl (fun (cs : Array Value) (x : Value × Nat) => cs.setIfInBounds (3 + x.snd) x.fst) #[.slice none 0 0, .slice none 0 0, .slice none 0 0, .slice none 0 0, .int .i64 0, .int .i64 0, .int .i64 0, .int .i64 0, .int .i64 0, .int .i64 0, .int .i64 0, .int .i64 0, .int .i64 0, .int .i64 0, .int .i64 0, .int .i64 0, .int .i64 0, .int .i64 0] (stA u c h).zipIdx 0 15 = vsA nilS nilS nilS u c h := by kernel_rfl
set_option maxRecDepth 100000 in
set_option maxHeartbeats 8000000 in
theorem Save_free (S P : Nat) (v : Value) (L : List Ru) (hL : OkL L) (c h : Nat → Int) (f : Pages) (hf : ∀ j, j < 1024 → (f j).kd = 0 ∧ (f j).hu = false ∧ ∀ k, k < 64 → (f j).by' k = 0) (w : World) (hS : SyBox w S P v c h) (hP : PgAt w P f) (hr : RAt w v (toI L)) :
    Calls Try.prog 17 #[.pointer (some ⟨S, 0, none⟩)] w fun e w' => ∃ u, e = .returned (vsV nilS nilS nilS u c h) ∧ u.oneCell' = true ∧ Below w.heap.size w w' := by
  refine (callsIn_wide (n := 5)).1 ?_
  refine callsIn_of_wp_marks Try.func17 rfl trivial ?_ rfl
  simp only [Try.ntmps17, List.size_toArray, List.length_cons, List.length_nil, Nat.reduceAdd, Nat.reduceSub, Array.replicate_succ, Array.replicate_zero, List.push_toArray, List.append_toArray, List.nil_append, List.cons_append]
  have hf1 := wide_fn 55
  have hf2 := wide_fn 53
  have hf3 := wide_fn 54
  have hf4 := wide_fn 56
  have hf5 := wide_fn 58
  obtain ⟨W0, hW0⟩ : ∃ x, w.alloc (.cells #[.slice none 0 0, .slice none 0 0, .slice none 0 0, .slice none 0 0, .int .i64 0, .int .i64 0, .int .i64 0, .int .i64 0, .int .i64 0, .int .i64 0, .int .i64 0, .int .i64 0, .int .i64 0, .int .i64 0, .int .i64 0, .int .i64 0, .int .i64 0, .int .i64 0] 47) = x := ⟨_, rfl⟩
  have hb0 : Below w.heap.size w W0 := by rw [← hW0]; exact (Below.refl _ _).alloc (Nat.le_refl _) _
  have bR0 : VBox W0 w.heap.size nilS nilS nilS nilS zer zer := by rw [← hW0]; exact VBox.zero w
  have hS0 := hS.later hb0
  have HM := Lib.hid (made_yes S P v c h W0 hS0)
  have HC := Lib.hid (cloneRefusals_is v L hL c h W0 (hr.later hb0))
  have hrg := hS0.range
  gi_wp2_with fail
  try rw [hW0]
  refine (callsIn_wide.2 HM.out).mono ?_
  rintro e w' ⟨rfl, rfl⟩
  clear hW0
  gi_wp2_with (refine wpListIn_load_mid rfl 45 _ rfl S 1 rfl (stA v c h).toList _ hrg Try.underlying45 rfl (st_i v c h) ?_)
  refine (callsIn_wide.2 HC.out).mono ?_
  rintro e w1 ⟨u, rfl, hu, _, B1⟩
  have hb1 := hb0.trans (B1.mono hb0.size)
  obtain ⟨W2, hW2⟩ : ∃ x, w1.alloc (.cells #[.slice none 0 0, .slice none 0 0, .slice none 0 0, .slice none 0 0, .int .i64 0, .int .i64 0, .int .i64 0, .int .i64 0, .int .i64 0, .int .i64 0, .int .i64 0, .int .i64 0, .int .i64 0, .int .i64 0, .int .i64 0, .int .i64 0, .int .i64 0, .int .i64 0] 47) = x := ⟨_, rfl⟩
  have hb12 : Below w1.heap.size w1 W2 := by rw [← hW2]; exact (Below.refl _ _).alloc (Nat.le_refl _) _
  have hb2 := hb1.trans (hb12.mono hb1.size)
  have bN2 : VBox W2 w1.heap.size nilS nilS nilS nilS zer zer := by rw [← hW2]; exact VBox.zero w1
  have hone := vs_one nilS nilS nilS u c h rfl rfl rfl hu.one
  have hu1 := Lib.hid hu.one
  have bR2 := (bR0.later B1).later hb12
  clear hrg HM HC
  have hbu := fold_vs u c h
  have hA15 : (stA u c h).size = 15 := stA_size _ _ _
  generalize stA u c h = A at hbu hA15 ⊢
  gi_wp2_with (first | rw [hW2] | refine wpListIn_store_row rfl 47 _ _ rfl w1.heap.size (vsA nilS nilS nilS u c h) rfl rfl 47 _ bN2 (vs_i _ _ _ _ _ _) rfl hone ?_)
  obtain ⟨WX, hWX⟩ : ∃ x, W2.setRow w1.heap.size (vsA nilS nilS nilS u c h) = x := ⟨_, rfl⟩
  have bN3 : VBox WX w1.heap.size nilS nilS nilS u c h := by rw [← hWX]; exact bN2.row nilS nilS nilS u c h
  have hw01 : w.heap.size < w1.heap.size := Nat.lt_of_lt_of_le bR0.lt B1.size
  have bR3 : VBox WX w.heap.size nilS nilS nilS nilS zer zer := by rw [← hWX]; exact (setRow_other W2 w1.heap.size w.heap.size _ (by omega)).trans bR2
  have hb3 : Below w.heap.size w WX := by rw [← hWX]; exact below_row hb2 _ hb1.size _
  have hzX : w1.heap.size < WX.heap.size := bN3.lt
  try rw [hWX]
  clear hWX bN2 bR2 hb12 hW2 hbu hA15
  refine (from_any _ _ _ _ _).mono ?_
  rintro e w' ⟨rfl, hw'⟩
  obtain ⟨W4, hW4, hb4, hz4, f0, f1, f2⟩ := from_world WX (.pointer (some ⟨S, 0, none⟩)) (0 : Nat) (1024 : Nat)
  rw [show ((0 : Nat) : Int) = 0 from rfl, show ((1024 : Nat) : Int) = 1024 from rfl, hw'] at hW4
  subst hW4
  clear hw'
  have bN4 := bN3.later hb4
  have bR4 := bR3.later hb4
  have hB4 := hb3.trans (hb4.mono hb3.size)
  have hSl := hS.lt
  have hPl := hP.lt
  gi_wp2_with fail
  refine range_g rfl (by decide) (gf := 83) (lb := #[.pointer (some ⟨WX.heap.size + 1, 0, none⟩), .pointer (some ⟨WX.heap.size + 2, 0, none⟩), .pointer (some ⟨WX.heap.size, 0, none⟩)]) rfl (wide_fn _) (enters_of Try.func83 (by kernel_rfl) rfl)
    (from_g 4 (by decide) S P (WX.heap.size + 1) (WX.heap.size + 2) WX.heap.size 0 1024 (by decide) (fun q => q = S ∨ (WX.heap.size ≤ q ∧ q ≤ WX.heap.size + 2)) (.inr (by omega)) (.inr (by omega)) (.inr (by omega)) (.inl rfl) _ v c h f1 f2 f0 (hS.later hB4)) (fun h k => KC.trans h k) (fun _ V k o o' hk hc _ => KC.putObj V k o o' hk hc) (fun _ => rfl)
    (fun pre V => VBox V w1.heap.size nilS nilS nilS u c h ∧ VBox V w.heap.size nilS nilS nilS nilS zer zer ∧ Below w.heap.size w V)
    (fun _ _ _ => False)
    ?own (fun _ _ _ _ _ h _ _ => h) ?start ?a1 ?assign ?body ?done ?stop
  case assign =>
    intro l x Y K hK
    simp only [encP]
    gi_wp2
    exact hK
  case own => exact OwnFrom.and (own_VBox _ _ _ _ _ _ _ _) (OwnFrom.and (own_VBox _ _ _ _ _ _ _ _) (ownFrom_below (Nat.le_refl _) hB4.size))
  case start => exact ⟨bN4, bR4, hB4⟩
  case stop => exact fun _ _ _ _ _ _ h _ => h.elim
  case body =>
    rintro l pre x V ⟨h1, h2, hB⟩ hlen
    obtain ⟨x, hx⟩ := x
    have hpp : PgAt V P f := hP.of_heap (hB.block P hPl)
    have k0 := hpp.kd x hx
    have k1 := hpp.hu x hx
    have k2 := hpp.empty x hx (hf x hx).2.2
    rw [(hf x hx).1] at k0
    rw [(hf x hx).2.1] at k1
    have HL : Hid (∀ A' : World, Calls Try.prog 56 #[nilS, .int .i64 (x : Int), .int .i64 0] A' fun e w' => e = .returned nilS ∧ A' = w') := fun A' => lengthen_free nilS x A'
    have HZ : Hid (∀ A' : World, Calls Try.prog 58 #[.agg z64.toList.toArray] A' fun e w' => e = .returned (.bool true) ∧ Below A'.heap.size A' w') := fun A' => by rw [Array.toArray_toList]; exact isZero_z A'
    have hf6 : (Fence.wide.inRound l).fn 56 := hf4
    have hf7 : (Fence.wide.inRound l).fn 58 := hf5
    have hf9 := wide_fn 57
    have hf8 : (Fence.wide.inRound l).fn 57 := wide_fn 57
    have q0 := h1.cell 0
    simp only [vsA] at q0
    simp at q0
    have qf := h1.frozen
    have hmx := mixed
    have hlx : V.heap.size = V.heap.size := rfl
    have d2 : (1 : Nat) ≤ 5 - 1 - 1 := by decide
    gi_wp2_with fail
    refine region_pre 7 #[true, true, true, true, true, true, true, false, false, false] hmx (by kernel_rfl) (by kernel_rfl) ⟨by kernel_rfl, by kernel_rfl⟩ (by kernel_rfl) (by kernel_rfl) (C := fun w' => ∃ n, w' = V.drewN n) ⟨1, rfl⟩ ?_
    simp only [List.take_succ_cons, List.take_zero, List.drop_succ_cons, List.drop_zero]
    repeat (gi_big_quiet_step (fail))
    refine wpQuietIn_nil ?_
    rintro _ ⟨nq, rfl⟩
    have hbd : Below V.heap.size V (V.drewN nq) := ⟨rfl, rfl, rfl, Nat.le_refl _, fun _ _ => rfl⟩
    obtain ⟨V', hV'⟩ : ∃ x, V.drewN nq = x := ⟨_, rfl⟩
    rw [hV'] at hbd ⊢
    clear hV'
    have hNN : w1.heap.size ≠ w.heap.size := by omega
    have hPN : P ≠ w1.heap.size := by omega
    have bA := h1.later hbd
    have bB : VBox (V'.setCell ⟨w1.heap.size, 0, none⟩ nilS) w1.heap.size nilS nilS nilS u c h := bA.set0
    have bC : VBox (V'.setCell ⟨w1.heap.size, 0, none⟩ nilS) w.heap.size nilS nilS nilS nilS zer zer := (Below.heap_setCell _ _ _ _ (by simp; omega)).trans (h2.later hbd)
    have hBd := hB.trans (hbd.mono hB.size)
    have hBs : Below w.heap.size w (V'.setCell ⟨w1.heap.size, 0, none⟩ nilS) := hBd.setCell (p := ⟨w1.heap.size, 0, none⟩) (Nat.le_of_lt hw01) _
    have hpq : PgAt (V'.setCell ⟨w1.heap.size, 0, none⟩ nilS) P f := hP.of_heap (hBs.block P hPl)
    have g1 : (V'.setCell ⟨w1.heap.size, 0, none⟩ nilS).cell? ⟨P, x * 66 + 1, none⟩ = some (.bool false) := by
      have := hpq.hu x hx
      rw [(hf x hx).2.1] at this
      exact this
    have g2 := hpq.empty x hx (hf x hx).2.2
    have qf' := bA.frozen
    have qc' : V'.cell? ⟨w1.heap.size, 0, none⟩ = some (.slice none 0 0) := (bA.cell 0).trans rfl
    have FIN : Hid (∀ V5 : World, Below (V'.setCell ⟨w1.heap.size, 0, none⟩ nilS).heap.size (V'.setCell ⟨w1.heap.size, 0, none⟩ nilS) V5 →
        KeepsFrom w'.heap.size V V5 ∧ KC (fun q => q = S ∨ WX.heap.size ≤ q ∧ q ≤ WX.heap.size + 2) V V5 ∧ VBox V5 w1.heap.size nilS nilS nilS u c h ∧ VBox V5 w.heap.size nilS nilS nilS nilS zer zer ∧ Below w.heap.size w V5) := fun V5 hb5 => by
      have hKO : KeepsOthers V V5 := ((KeepsOthers.of_grownBy (grown_of_below hbd) (fun j o h => by cases h)).trans (KeepsOthers.setCell V' ⟨w1.heap.size, 0, none⟩ nilS)).trans (KeepsOthers.of_grownBy (grown_of_below hb5) (fun j o h => by cases h))
      have hKC : KC (fun q => q = S ∨ WX.heap.size ≤ q ∧ q ≤ WX.heap.size + 2) V V5 := ((KC.of_below hbd).trans (KC.setCell V' ⟨w1.heap.size, 0, none⟩ nilS (by simp; omega))).trans (KC.of_below hb5)
      exact ⟨hKO.from _, hKC, bB.later hb5, bC.later hb5, hBs.trans (hb5.mono hBs.size)⟩
    clear h1 h2 hB hpp k0 k1 k2 q0 qf hbd bA bB bC hBd hBs hpq hP hS hr hu B1 hf hB4 bN4 bR4 f0 f1 f2 hb4 bR3 bN3 hb3 hb2 hb1 hb0 bR0 hS0 hlx hmx hlen hone hz4 hzX
    gi_wp2_with fail
    refine (CallsIn.inRound l (callsIn_wide.2 (HL.out _))).mono ?_
    rintro e W1 ⟨rfl, rfl⟩
    clear HL
    gi_wp2_with (refine wpListIn_load_mid rfl 88 _ rfl P (x * 66 + 2) rfl z64.toList _ g2 Try.underlying88 rfl (by kernel_rfl) ?_)
    refine (CallsIn.inRound l (callsIn_wide.2 (HZ.out _))).mono ?_
    rintro e W5 ⟨rfl, B5⟩
    clear HZ
    gi_wp2_with fail
    exact FIN.out _ B5
  case done =>
    rintro D ys V hD hys ⟨h1, h2, hB⟩ hK
    have ha := h1.all
    have hone2 := vs_one nilS nilS nilS u c h rfl rfl rfl hu1.out
    clear hys bN4 bR4 f0 f1 f2 bN3 bR3 hf hr hu B1 hB4 hone
    gi_wp2_with (first | refine wpListIn_load_mid rfl 47 _ rfl w1.heap.size 0 rfl (vsA nilS nilS nilS u c h).toList _ ha Try.underlying47 rfl (vs_i _ _ _ _ _ _) ?_ | refine wpListIn_store_row rfl 47 _ _ rfl w.heap.size (vsA nilS nilS nilS u c h) rfl rfl 47 _ h2 (vs_i _ _ _ _ _ _) rfl hone2 ?_)
    have bZ := h2.row nilS nilS nilS u c h
    have cB : Below w.heap.size w (V.setRow w.heap.size (vsA nilS nilS nilS u c h)) := below_row hB _ (Nat.le_refl _) _
    have cK : (V.setRow w.heap.size (vsA nilS nilS nilS u c h)).heap[D]? = some (.deferred (some [])) := (setRow_other V w.heap.size D _ (by omega)).trans hK
    obtain ⟨V5, hV5⟩ : ∃ x, V.setRow w.heap.size (vsA nilS nilS nilS u c h) = x := ⟨_, rfl⟩
    rw [hV5] at bZ cB cK ⊢
    have g6 : VBox (V5.putObj D (.deferred none)) w.heap.size nilS nilS nilS u c h := (World.putObj_heap_other (by omega)).trans bZ
    have hld := vs_load g6
    refine ⟨by simp, .inl ⟨D, _, rfl, run_takeDeferred cK, ?_⟩⟩
    exact ⟨vsV nilS nilS nilS u c h, by simp [results, Try.results17, asAddr, Act.put, hld], u, rfl, hu1.out, cB.trans (belowK_b (w := w) (Nat.le_refl _) V5 D _ _ (by omega) cK rfl rfl)⟩
end Go.Proofs.Ytjplihljmohpjaa
