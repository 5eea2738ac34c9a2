/- Save. -/
import Derived.Maps.AppendAt
import Derived.OwnWalk
import Derived.Laws.OwnMore
import Derived.ChangeKeysEq
import Derived.Laws.StructEq
import Derived.Test.YtjplihljmohpjaaKs
/- A region that draws its order, inside a fence: one operation makes memory, while others still read; the rest waits for all of them. -/
namespace Go.Proofs.Ytjplihljmohpjaa
open Go

section
variable {F : Fence} {n : Nat} {P : Program} {ops : Array Oper} {md : Region.Mode} {Cb C0 C1 : World → Prop} {L0 : Array Bool} {m : Nat}

/-- It yields v, whichever of the worlds. -/
def YL (P : Program) (ops : Array Oper) (Cb : World → Prop) (o : Oper) (a : Act) (v : Value) : Prop :=
  Region.wanted o (yielded ops a.tmps) = true ∧ (∀ w, Cb w → (execOp a.eval o).run P w = .ok (.value v) w) ∧ ∀ w, o.about P w a.eval = none
/-- It yields v, and leads from the first worlds to the second ones. -/
def YM (P : Program) (ops : Array Oper) (C0 C1 : World → Prop) (o : Oper) (a : Act) (v : Value) : Prop :=
  Region.wanted o (yielded ops a.tmps) = true ∧ (∀ w, C0 w → ∃ w', (execOp a.eval o).run P w = .ok (.value v) w' ∧ C1 w') ∧ ∀ w, o.about P w a.eval = none
def mOp (P : Program) (ops : Array Oper) (Cb C0 C1 : World → Prop) (m i : Nat) (K : Act → Prop) (a : Act) : Prop :=
  ∃ o v, ops[i]? = some o ∧ (if i = m then YM P ops C0 C1 o a v else YL P ops Cb o a v) ∧ K (a.put o.dst v)
theorem mOp_mono {i : Nat} {a : Act} {K K' : Act → Prop} (h : ∀ a, K a → K' a) (hh : mOp P ops Cb C0 C1 m i K a) : mOp P ops Cb C0 C1 m i K' a := by
  obtain ⟨o, v, h1, h2, h3⟩ := hh
  exact ⟨o, v, h1, h2, h _ h3⟩
def wpMid (P : Program) (md : Region.Mode) (ops : Array Oper) (Cb C0 C1 : World → Prop) (m : Nat) (L0 : Array Bool) (Q : Act → Prop) : Nat → Array Bool → Act → Prop
  | 0, listed, a => listed = L0 ∧ Q a
  | fuel + 1, listed, a => Region.ready md ops listed ≠ [] ∧ ∀ i ∈ Region.ready md ops listed, mOp P ops Cb C0 C1 m i (wpMid P md ops Cb C0 C1 m L0 Q fuel (listed.setIfInBounds i true)) a
theorem mid_sound {Q : Act → Prop} {Q' : Exit → Act → World → Prop} {s : Nat} (hnd : ∀ (i : Nat) (o : Oper), ops[i]? = some o → ∀ c, o.op ≠ .defer c) (hb0 : ∀ w, C0 w → Cb w) (hb1 : ∀ w, C1 w → Cb w) (hL : L0.getD m false = true) (hT : ∀ a w, C1 w → Q a → wpAnyIn F n P md ops Q' s L0 a w) : ∀ (fuel : Nat) (listed : Array Bool) (a : Act) (w : World), (if listed.getD m false = true then C1 w else C0 w) →
    wpMid P md ops Cb C0 C1 m L0 Q fuel listed a → wpAnyIn F n P md ops Q' (fuel + s) listed a w
  | 0, listed, _, w, hw, h => by
    rw [h.1, if_pos hL] at hw
    rw [Nat.zero_add, h.1]; exact hT _ _ hw h.2
  | fuel + 1, listed, a, w, hw, h => by
    rw [show fuel + 1 + s = (fuel + s) + 1 by omega]
    refine ⟨fun h0 => absurd h0 h.1, fun i hi => ?_⟩
    obtain ⟨o, v, ho, hy, hK⟩ := h.2 i hi
    have hun := (mem_ready.1 hi).1
    have hin : i < listed.size := by
      rcases Nat.lt_or_ge i listed.size with h | h
      · exact h
      · rw [Array.getD_eq_getD_getElem?, Array.getElem?_eq_none h] at hun; cases hun
    unfold wpOpIn
    simp only [ho]
    by_cases him : i = m
    · rw [if_pos him] at hy
      obtain ⟨hw1, hr, hab⟩ := hy
      have hf : listed.getD m false = false := by
        rw [← him]
        rw [Array.getD_eq_getD_getElem?] at hun ⊢
        cases hx : listed[i]? with
        | none => rfl
        | some b => rw [hx] at hun; exact hun
      rw [hf] at hw
      obtain ⟨w', hrun, hc1⟩ := hr w hw
      simp only [hw1, if_true]
      unfold Oper.wpIn
      refine ⟨fun f hf => (by rw [hab w] at hf; cases hf), ?_⟩
      rw [Oper.semAt_plain F _ _ (hnd i o ho), hrun]
      simp only [Oper.uponIn]
      exact mid_sound hnd hb0 hb1 hL hT fuel _ _ _ (by rw [if_pos (by rw [← him]; simp [Array.getD_eq_getD_getElem?, hin])]; exact hc1) hK
    · rw [if_neg him] at hy
      obtain ⟨hw1, hr, hab⟩ := hy
      have hb : Cb w := by split at hw; exact hb1 w hw; exact hb0 w hw
      simp only [hw1, if_true]
      unfold Oper.wpIn
      refine ⟨fun f hf => (by rw [hab w] at hf; cases hf), ?_⟩
      rw [Oper.semAt_plain F _ _ (hnd i o ho), hr w hb]
      simp only [Oper.uponIn]
      exact mid_sound hnd hb0 hb1 hL hT fuel _ _ _ (by rw [getD_set_ne false him]; exact hw) hK
theorem mOp_put {j : Nat} {oi oj : Oper} {v : Value} (hj : ops[j]? = some oj) (hap : oi.apart ops oj = true) (hsi : ∀ cs b, oi.op ≠ .select cs b) (hsj : ∀ cs b, oj.op ≠ .select cs b) {K : Act → Prop} {a : Act}
    (hy : YL P ops Cb oi a v) (h : mOp P ops Cb C0 C1 m j K (a.put oi.dst v)) : mOp P ops Cb C0 C1 m j (fun a' => YL P ops Cb oi a' v ∧ K (a'.put oi.dst v)) a := by
  obtain ⟨h1, h2, h3⟩ := Oper.apart_spec hap
  obtain ⟨o, u, ho, hu, hK⟩ := h
  rw [hj] at ho
  cases ho
  have keep : YL P ops Cb oi (a.put oj.dst u) v := ⟨by rw [wanted_put oi a oj.dst u h3]; exact hy.1, fun w hw => by rw [execOp_put oi hsi a oj.dst u h3]; exact hy.2.1 w hw, fun w => by rw [about_put oi w a oj.dst u h3]; exact hy.2.2 w⟩
  refine ⟨oj, u, hj, ?_, keep, by rw [← Act.put_comm a v u h2]; exact hK⟩
  by_cases hjm : j = m
  · rw [if_pos hjm] at hu ⊢
    exact ⟨by rw [← wanted_put oj a oi.dst v h1]; exact hu.1, fun w hw => by rw [← execOp_put oj hsj a oi.dst v h1]; exact hu.2.1 w hw, fun w => by rw [← about_put oj w a oi.dst v h1]; exact hu.2.2 w⟩
  · rw [if_neg hjm] at hu ⊢
    exact ⟨by rw [← wanted_put oj a oi.dst v h1]; exact hu.1, fun w hw => by rw [← execOp_put oj hsj a oi.dst v h1]; exact hu.2.1 w hw, fun w => by rw [← about_put oj w a oi.dst v h1]; exact hu.2.2 w⟩
theorem mid_first {Q : Act → Prop} {i : Nat} {oi : Oper} {v : Value} (him : i ≠ m) (hi : ops[i]? = some oi) (hsel : ∀ (j : Nat) (o : Oper) cs b, ops[j]? = some o → o.op ≠ .select cs b) (hlast : lastB md ops (L0.setIfInBounds i false) i = true) :
    ∀ (fuel : Nat) (listed : Array Bool) (a : Act), Closed md ops listed →
      (∀ j oj, ops[j]? = some oj → j ≠ i → listed.getD j true = false → (∀ e ∈ oj.after, Region.binds md e = true → e.on ≠ i) → oi.apart ops oj = true) →
      i ∈ Region.ready md ops listed → YL P ops Cb oi a v →
      wpMid P md ops Cb C0 C1 m L0 Q fuel (listed.setIfInBounds i true) (a.put oi.dst v) → wpMid P md ops Cb C0 C1 m L0 Q (fuel + 1) listed a := by
  intro fuel
  induction fuel with
  | zero =>
    intro listed a hcl _ hr hy H
    have e : listed = L0.setIfInBounds i false := by rw [← H.1]; exact (unset (mem_ready.1 hr).1).symm
    refine ⟨fun h => (by rw [h] at hr; cases hr), fun j hj => ?_⟩
    have hg := (mem_ready.1 hr).1
    have hg2 : listed.getD i false = false := by
      rw [Array.getD_eq_getD_getElem?] at hg ⊢
      cases hx : listed[i]? with
      | none => rfl
      | some b => rw [hx] at hg; exact hg
    rw [lastB_spec (by rw [e]; exact hlast) hcl hg2] at hj
    have hji : j = i := by simpa using hj
    subst hji
    exact ⟨oi, v, hi, by rw [if_neg him]; exact hy, H⟩
  | succ fuel ih =>
    intro listed a hcl hfree hr hy H
    refine ⟨fun h => (by rw [h] at hr; cases hr), fun j hj => ?_⟩
    by_cases hji : j = i
    · subst hji; exact ⟨oi, v, hi, by rw [if_neg him]; exact hy, H⟩
    · have h1 := H.2 j (ready_mono hj hji)
      obtain ⟨hjun, oj, hoj, hall⟩ := mem_ready.1 hj
      have hnot : ∀ e ∈ oj.after, Region.binds md e = true → e.on ≠ i := fun e he hb heq => by
        have h1 := hall e he hb
        have h0 := (mem_ready.1 hr).1
        rw [heq] at h1
        rcases Nat.lt_or_ge i listed.size with h' | h'
        · simp [h'] at h0 h1; rw [h0] at h1; cases h1
        · simp [Array.getElem?_eq_none h'] at h1
      have h2 := mOp_put hoj (hfree j oj hoj hji hjun hnot) (fun cs b => hsel i oi cs b hi) (fun cs b => hsel j oj cs b hoj) hy h1
      have hfree' : ∀ k ok, ops[k]? = some ok → k ≠ i → (listed.setIfInBounds j true).getD k true = false →
          (∀ e ∈ ok.after, Region.binds md e = true → e.on ≠ i) → oi.apart ops ok = true := fun k ok hk hki hun hno => by
        refine hfree k ok hk hki ?_ hno
        by_cases hjk : j = k
        · subst hjk; exact hjun
        · rw [getD_set_ne true hjk] at hun; exact hun
      refine mOp_mono (fun a' h3 => ih (listed.setIfInBounds j true) a' (hcl.next hj) hfree' (ready_mono hr (Ne.symm hji)) h3.1 ?_) h2
      rw [Array.setIfInBounds_comm _ _ hji]
      exact h3.2
/-- The walk in the order of the text: what reads, and last what makes. -/
def wpYld (P : Program) (ops : Array Oper) (Cb C0 C1 : World → Prop) (Q : Act → Prop) : List Oper → Act → Prop
  | [], _ => False
  | [o], a => ∃ v, YM P ops C0 C1 o a v ∧ Q (a.put o.dst v)
  | o :: o' :: rest, a => ∃ v, YL P ops Cb o a v ∧ wpYld P ops Cb C0 C1 Q (o' :: rest) (a.put o.dst v)
theorem mid_lex {Q : Act → Prop} (hs : Region.noSelect ops = true) : ∀ (l : List Oper) (k : Nat) (listed : Array Bool) (a : Act), k + l.length = m + 1 → Closed md ops listed → (∀ j, j < l.length → l[j]? = ops[k + j]?) →
    preB md ops L0 l.length k listed = true → wpYld P ops Cb C0 C1 Q l a → wpMid P md ops Cb C0 C1 m L0 Q l.length listed a
  | [], _, _, _, _, _, _, _, h => h.elim
  | [o], k, listed, a, hk, hcl, hl, hB, h => by
    have h0 : ops[k]? = some o := by simpa using (hl 0 (by simp)).symm
    have hkm : k = m := by simpa using hk
    subst hkm
    simp only [List.length_cons, List.length_nil, preB, Bool.and_eq_true] at hB
    obtain ⟨⟨⟨hr, hf⟩, hu⟩, hB'⟩ := hB
    have hr' : k ∈ Region.ready md ops listed := by simpa using hr
    obtain ⟨v, hy, hQ⟩ := h
    refine ⟨fun h => (by rw [h] at hr'; cases hr'), fun j hj => ?_⟩
    have e : listed.setIfInBounds k true = L0 := by simpa using hB'
    have e2 : listed = L0.setIfInBounds k false := by rw [← e]; exact (unset (mem_ready.1 hr').1).symm
    have hg := (mem_ready.1 hr').1
    have hg2 : listed.getD k false = false := by
      rw [Array.getD_eq_getD_getElem?] at hg ⊢
      cases hx : listed[k]? with
      | none => rfl
      | some b => rw [hx] at hg; exact hg
    rw [lastB_spec (by rw [e2]; exact hu) hcl hg2] at hj
    have hji : j = k := by simpa using hj
    subst hji
    exact ⟨o, v, h0, by rw [if_pos rfl]; exact hy, e, hQ⟩
  | o :: o' :: l, k, listed, a, hk, hcl, hl, hB, h => by
    have h0 : ops[k]? = some o := by simpa using (hl 0 (by simp)).symm
    have hkm : k ≠ m := by simp at hk; omega
    rw [List.length_cons] at hB ⊢
    simp only [preB, Bool.and_eq_true] at hB
    obtain ⟨⟨⟨hr, hf⟩, hu⟩, hB'⟩ := hB
    obtain ⟨v, hy, hK⟩ := h
    exact mid_first hkm h0 (Region.noSelect_spec hs) hu _ listed a hcl (Region.free_spec h0 hf) (by simpa using hr) hy
      (mid_lex hs (o' :: l) (k + 1) _ _ (by simp at hk ⊢; omega) (hcl.next (by simpa using hr)) (fun j hj => by have := hl (j + 1) (by simpa using hj); simpa [Nat.add_assoc, Nat.add_comm 1 j] using this) hB' hK)
/-- The first m operations read, the next one makes memory; the others wait for all of them and come one by one. -/
theorem region_mid (m : Nat) (L0 : Array Bool) {id : Nat} {Q : Exit → Act → World → Prop} {a : Act} {w : World} {l : List Oper} (hm : P.follows .mixedOrders = true)
    (hd : noDefer l = true) (hs : Region.noSelect l.toArray = true) (hk : (l.take (m + 1)).length + (l.drop (m + 1)).length = l.length ∧ (l.take (m + 1)).length = m + 1) (h1 : preB .any l.toArray L0 (l.take (m + 1)).length 0 (Array.replicate l.toArray.size false) = true) (h2 : sufB .any l.toArray (l.drop (m + 1)).length (m + 1) L0 = true) (hL : L0.getD m false = true)
    (hb0 : ∀ w, C0 w → Cb w) (hb1 : ∀ w, C1 w → Cb w) (hC : C0 { w with drawn := w.drawn + 1 })
    (h : wpYld P l.toArray Cb C0 C1 (fun a' => ∀ w', C1 w' → wpListIn F n P l.toArray Q (l.drop (m + 1)) a' w') (l.take (m + 1)) a) : (Code.region id l.toArray true).wpIn F n P Q a w := by
  refine wpIn_region_any hm ?_
  rw [List.size_toArray, ← hk.1]
  have hf : (Array.replicate ((l.take (m + 1)).length + (l.drop (m + 1)).length) false).getD m false = false := by
    rw [Array.getD_eq_getD_getElem?, Array.getElem?_replicate]
    split <;> rfl
  refine mid_sound (L0 := L0) (Cb := Cb) (C0 := C0) (C1 := C1) (m := m) (Q := fun a' => ∀ w', C1 w' → wpListIn F n P l.toArray Q (l.drop (m + 1)) a' w') (noDefer_spec hd) hb0 hb1 hL (fun a w hw h' => suf_lex (l.drop (m + 1)) (m + 1) L0 a w (fun j hj => by rw [List.getElem?_drop, List.getElem?_toArray]) h2 (h' w hw)) _ _ _ _ (by rw [hf]; exact hC) ?_
  rw [show (l.take (m + 1)).length + (l.drop (m + 1)).length = l.toArray.size by rw [hk.1, List.size_toArray]]
  exact mid_lex hs (l.take (m + 1)) 0 _ a (by rw [hk.2]; omega) (fun j o _ hj => by
    rw [Array.getD_eq_getD_getElem?, Array.getElem?_replicate] at hj
    split at hj <;> cases hj) (fun j hj => by rw [Nat.zero_add, List.getElem?_toArray, List.getElem?_take, if_pos (by rw [hk.2] at hj; exact hj)]) h1 h
end
end Go.Proofs.Ytjplihljmohpjaa

/- Runs of pages: how Save puts them together. -/
namespace Go.Proofs.Ytjplihljmohpjaa
open Go.RowKit Go.Shelf
attribute [local go_sem] Oper.semAt_some

/-- A run: its first page, how many, the kind. -/
abbrev Rn := Nat × Nat × Int
def rowN (l : List Rn) : List Value := l.flatMap fun x => [.int .i64 (x.1 : Int), .int .i64 (x.2.1 : Int), .int .i64 x.2.2]
theorem rowN_snoc (l : List Rn) (x : Rn) : rowN (l ++ [x]) = rowN l ++ [.int .i64 (x.1 : Int), .int .i64 (x.2.1 : Int), .int .i64 x.2.2] := by unfold rowN; rw [List.flatMap_append, List.flatMap_singleton]
theorem rowN_len : ∀ l : List Rn, (rowN l).length = l.length * 3
  | [] => rfl
  | x :: l => by unfold rowN; rw [List.flatMap_cons, List.length_append]; have := rowN_len l; unfold rowN at this; rw [this]; simp; omega
/-- The runs of the pages below p, and of p, which has a kind. -/
def lenF (rs : List Rn) (p : Nat) (kd : Int) : List Rn :=
  if kd = 0 then rs else match rs.reverse with
    | [] => [(p, 1, kd)]
    | r :: t => if r.2.2 = kd ∧ r.1 + r.2.1 = p then t.reverse ++ [(r.1, r.2.1 + 1, r.2.2)] else rs ++ [(p, 1, kd)]
theorem lenF_zero (rs : List Rn) (p : Nat) : lenF rs p 0 = rs := by unfold lenF; rw [if_pos rfl]
theorem lenF_nil (p : Nat) (kd : Int) (h : kd ≠ 0) : lenF [] p kd = [(p, 1, kd)] := by unfold lenF; rw [if_neg h]; rfl
theorem lenF_new (l : List Rn) (r : Rn) (p : Nat) (kd : Int) (h : kd ≠ 0) (hn : ¬ (r.2.2 = kd ∧ r.1 + r.2.1 = p)) : lenF (l ++ [r]) p kd = l ++ [r] ++ [(p, 1, kd)] := by
  unfold lenF
  rw [if_neg h, List.reverse_append]
  simp only [List.reverse_cons, List.reverse_nil, List.nil_append, List.cons_append]
  rw [if_neg hn]
theorem lenF_more (l : List Rn) (r : Rn) (p : Nat) (kd : Int) (h : kd ≠ 0) (hn : r.2.2 = kd ∧ r.1 + r.2.1 = p) : lenF (l ++ [r]) p kd = l ++ [(r.1, r.2.1 + 1, r.2.2)] := by
  unfold lenF
  rw [if_neg h, List.reverse_append]
  simp only [List.reverse_cons, List.reverse_nil, List.nil_append, List.cons_append]
  rw [if_pos hn, List.reverse_reverse]
theorem snoc_cases {α : Type} (l : List α) : l = [] ∨ ∃ t x, l = t ++ [x] := by
  rcases List.eq_nil_or_concat l with h | ⟨t, x, h⟩
  · exact .inl h
  · exact .inr ⟨t, x, by rw [h, List.concat_eq_append]⟩
/-- No number of a run is great. -/
def RnC (rs : List Rn) (n : Nat) : Prop := rs.length ≤ n ∧ ∀ r ∈ rs, r.1 < 1024 ∧ r.2.1 ≤ n
theorem RnC.next {rs : List Rn} {n : Nat} (h : RnC rs n) (p : Nat) (hp : p < 1024) (kd : Int) : RnC (lenF rs p kd) (n + 1) := by
  have h1 := h.1
  by_cases h0 : kd = 0
  · subst h0; rw [lenF_zero]; exact ⟨by omega, fun r hr => by have := h.2 r hr; omega⟩
  · rcases snoc_cases rs with rfl | ⟨l, r, rfl⟩
    · rw [lenF_nil p kd h0]; exact ⟨by simp, fun r hr => by simp at hr; subst hr; simp; omega⟩
    · by_cases hn : r.2.2 = kd ∧ r.1 + r.2.1 = p
      · rw [lenF_more l r p kd h0 hn]
        refine ⟨by simp at h1 ⊢; omega, fun s hs => ?_⟩
        rw [List.mem_append, List.mem_singleton] at hs
        rcases hs with hs | rfl
        · have := h.2 s (by simp [hs]); omega
        · have := h.2 r (by simp); simp; omega
      · rw [lenF_new l r p kd h0 hn]
        refine ⟨by simp at h1 ⊢; omega, fun s hs => ?_⟩
        rw [List.mem_append, List.mem_singleton] at hs
        rcases hs with hs | rfl
        · have := h.2 s hs; omega
        · simp; omega
theorem own_shape {W : World} {base : Nat} {e : TypeId} {s : Nat} {v : Value} {n : Nat} {xs : List Value} (h : W.ownsRow base e s v n xs) : ∃ a c, v = .slice a n c := by
  obtain ⟨_, ⟨rfl, rfl⟩ | ⟨g, cap', cur, hv, _⟩⟩ := h
  · exact ⟨_, _, rfl⟩
  · exact ⟨_, _, hv⟩
theorem own_some {W : World} {base : Nat} {e : TypeId} {s : Nat} {v : Value} {n : Nat} {xs : List Value} (h : W.ownsRow base e s v (n + 1) xs) : ∃ g c, v = .slice (some ⟨g, 0, none⟩) (n + 1) c ∧ base ≤ g := by
  obtain ⟨_, ⟨_, h0⟩ | ⟨g, cap', cur, hv, hb, _⟩⟩ := h
  · cases h0
  · exact ⟨g, cap', hv, hb⟩
/-- What was written: the row of u, and new memory; u' lies in either. -/
structure Wrote (w w' : World) (u u' : Value) : Prop where
  keep : Keep (fun b => u.ownBlock = some b) w w'
  own : ∀ b, u'.ownBlock = some b → u.ownBlock = some b ∨ w.heap.size ≤ b
theorem Wrote.same (w : World) (u : Value) : Wrote w w u u := ⟨Keep.refl _ _, fun _ h => .inl h⟩
theorem Wrote.grown {w w' : World} {u u' : Value} {o : Obj} (hg : (w.alloc o).grownBy w' u.ownBlock) (hl : u'.ownBlock = u.ownBlock ∨ u'.ownBlock = some (w.heap.size + 1)) : Wrote w w' u u' :=
  ⟨⟨hg.os, hg.tape, hg.output, by have := hg.size; rw [World.size_alloc] at this; omega, fun k hk hq => (hg.block k (by rw [World.size_alloc]; omega) (fun e => hq e.symm)).trans (Below.heap_alloc _ _ _ hk)⟩, fun b hb => by
    rcases hl with h | h
    · exact .inl (h ▸ hb)
    · rw [h] at hb; cases hb; exact .inr (by omega)⟩
theorem Wrote.later {w V w' : World} {u u' : Value} (hb : Below w.heap.size w V) (h : Wrote V w' u u') : Wrote w w' u u' :=
  ⟨(Keep.of_below hb).trans h.keep, fun b hu => (h.own b hu).imp id (fun h => Nat.le_trans hb.size h)⟩
theorem cell_new1 (w : World) (u : Array Value) (t : TypeId) : ∀ j x, u.toList[j]? = some x → (w.alloc (.cells u t)).cell? ((⟨w.heap.size, 0, none⟩ : Addr).add j) = some x := by
  intro j x hj
  rw [Array.getElem?_toList] at hj
  have e : ((⟨w.heap.size, 0, none⟩ : Addr).add j) = ⟨w.heap.size, j, none⟩ := by
    unfold Addr.add
    by_cases h : j = 0
    · subst h; rfl
    · rw [if_neg h]; simp
  rw [e]
  simp only [World.cell?, World.alloc_heap_new]
  simpa using hj
theorem Try.infoRn : (Try.prog.info? 94).map (fun i => (i.zero, i.size, i.bytes)) = some (some (.agg #[.int .i64 0, .int .i64 0, .int .i64 0]), 3, 24) := by kernel_rfl
theorem end_is (a b c : Int) (h : -9223372036854775808 ≤ a + b ∧ a + b ≤ 9223372036854775807) (w : World) : Calls Try.prog 84 #[.agg #[.int .i64 a, .int .i64 b, .int .i64 c]] w fun e w' => e = .returned (.int .i64 (a + b)) ∧ Below w.heap.size w w' := by
  go_enter Try.func84, Try.ntmps84
  go_wp2_with fail
  go_ret
  exact ⟨rfl, (Below.refl _ _).alloc (Nat.le_refl _) _⟩

set_option maxRecDepth 100000 in
set_option maxHeartbeats 4000000 in
theorem lengthen_is (B : Nat) (rs : List Rn) (p : Nat) (kd : Int) (u : Value) (w : World) (ho : w.ownsRow B 94 3 u rs.length (rowN rs)) (m : Nat) (hm : m < 2000) (hr : RnC rs m) (hB : B ≤ w.heap.size) :
    Calls Try.prog 56 #[u, .int .i64 (p : Int), .int .i64 kd] w fun e w' => ∃ u', e = .returned u' ∧ w'.ownsRow B 94 3 u' (lenF rs p kd).length (rowN (lenF rs p kd)) ∧ Wrote w w' u u' := by
  have HO := Lib.hid ho
  by_cases h0 : kd = 0
  · subst h0
    rw [lenF_zero]
    refine (lengthen_free u (p : Int) w).mono ?_
    rintro e w' ⟨rfl, rfl⟩
    exact ⟨u, rfl, HO.out, Wrote.same _ _⟩
  obtain ⟨i0, hi, hz0, hz1, hz2⟩ := info_parts Try.infoRn
  have Hhi := Lib.hid hi
  have Hz0 := Lib.hid hz0
  have Hz1 := Lib.hid hz1
  have Hz2 := Lib.hid hz2
  have HA := Lib.hid (ho.alloc (.cells #[.int .i64 (p : Int), .int .i64 1, .int .i64 kd] 94))
  have hB1 : B ≤ (w.alloc (.cells #[.int .i64 (p : Int), .int .i64 1, .int .i64 kd] 94)).heap.size := by simp; omega
  clear hi hz0 hz1 hz2
  rcases snoc_cases rs with rfl | ⟨l, r, rfl⟩
  · rw [lenF_nil p kd h0]
    obtain ⟨ua, uc, rfl⟩ := own_shape ho
    simp only [List.length_nil] at HA HO ho ⊢
    clear ho
    go_enter Try.func56, Try.ntmps56
    go_wp2_with (at_builtin; refine wpList_append_own_at _ rfl _ _ 40 rfl B 94 i0 (.agg #[.int .i64 0, .int .i64 0, .int .i64 0]) 3 24 Try.underlying40 Hhi.out Hz0.out Hz1.out Hz2.out rfl (by decide) _ _ _ rfl HA.out ⟨w.heap.size, 0, none⟩ 1 1 [.int .i64 (p : Int), .int .i64 1, .int .i64 kd] rfl rfl ?c1 ?c2 ?c3 ?c4 ?c5 ?_)
    case c1 => exact cell_new1 w _ _
    case c2 => intro u hu; simp at hu; rcases hu with rfl | rfl | rfl <;> rfl
    case c3 => unfold maxLen; omega
    case c4 => omega
    case c5 => exact hB1
    intro v' w1 hown hgrow _ hlies
    go_wp2
    go_ret
    exact ⟨v', rfl, by simpa [rowN] using hown, Wrote.grown hgrow hlies⟩
  · have hlen := hr.1
    have hrp := hr.2 r (by simp)
    obtain ⟨g, uc, rfl, hBg⟩ := own_some (n := l.length) (by simpa using ho)
    obtain ⟨n, hn⟩ : ∃ n, l.length = n := ⟨_, rfl⟩
    have HN := Lib.hid hn
    have ho2 : w.ownsRow B 94 3 (.slice (some ⟨g, 0, none⟩) (n + 1) uc) (n + 1) (rowN (l ++ [r])) := by have := ho; rw [List.length_append, List.length_singleton, hn] at this; exact this
    have hrl : (rowN l).length = 3 * n := by rw [rowN_len, hn]; omega
    have hcell : ∀ i x, i < 3 → [Value.int .i64 (r.1 : Int), .int .i64 (r.2.1 : Int), .int .i64 r.2.2][i]? = some x → w.cell? ⟨g, n * 3 + i, none⟩ = some x := fun i x hi h => by
      rw [World.ownsRow.cellAt ho2 _ (by omega), rowN_snoc, List.getElem?_append_right (by omega), hrl, show n * 3 + i - 3 * n = i by omega]; exact h
    have q0 := hcell 0 _ (by decide) rfl
    have q1 := hcell 1 _ (by decide) rfl
    have q2 := hcell 2 _ (by decide) rfl
    have qf := fun j => World.ownsRow.frozenAt ho2 j
    have hn2 : n + 1 ≤ m := by rw [List.length_append, List.length_singleton, hn] at hlen; exact hlen
    rw [List.length_append, List.length_singleton, hn] at HA HO ho
    rw [Nat.add_zero] at q0
    rw [hn]
    obtain ⟨ra, rb, rc⟩ := r
    simp only at q0 q1 q2 hrp
    have hw1 : IntKind.i64.wrap (((n + 1 : Nat) : Int) - 1) = (n : Int) := (IntWalk.i64_in _ (by omega)).trans (by omega)
    have hi1 : (0 : Int) ≤ (n : Int) := by omega
    have hi2 : (n : Int) < ((n + 1 : Nat) : Int) := by omega
    have HO2 := Lib.hid ho2
    have HE := Lib.hid (fun W => end_is (ra : Int) (rb : Int) rc (by omega) W)
    clear ho ho2 hcell hr hrl hlen hn
    by_cases hk : rc = kd
    · subst hk
      by_cases he : ra + rb = p
      · rw [lenF_more l (ra, rb, rc) p rc h0 ⟨rfl, he⟩]
        have he2 : (ra : Int) + (rb : Int) = (p : Int) := by omega
        have hrb : (rb : Int) < 2000 := by omega
        go_enter Try.func56, Try.ntmps56
        go_wp2_with fail
        refine (HE.out _).mono ?_
        rintro e w1 ⟨rfl, B1⟩
        have ho3 : w1.ownsRow B 94 3 (.slice (some ⟨g, 0, none⟩) (n + 1) uc) (n + 1) (rowN (l ++ [(ra, rb, rc)])) := HO2.out.kept (grown_of_below B1) (Classical.em _)
        have q1' := cell_later B1 q1
        have qf' := fun j => World.ownsRow.frozenAt ho3 j
        have HO3 := Lib.hid ho3
        clear q0 q1 q2 qf ho3
        go_wp2_with fail
        go_ret
        have hst := (World.ownsRow.stored HO3.out (n * 3 + 1) (.int .i64 ((rb : Int) + 1))).1
        refine ⟨_, rfl, ?_, (Keep.of_below B1).setCell ⟨g, n * 3 + 1, none⟩ _ (.inl rfl), fun b hb => .inl hb⟩
        rw [show (l ++ [(ra, rb + 1, rc)]).length = n + 1 by rw [List.length_append, List.length_singleton, HN.out]]
        have hrl : (rowN l).length = 3 * n := by rw [rowN_len, HN.out]; omega
        rw [rowN_snoc, List.set_append_right _ _ (by omega), hrl, show n * 3 + 1 - 3 * n = 1 by omega] at hst
        rw [rowN_snoc]
        exact hst
      · rw [lenF_new l (ra, rb, rc) p rc h0 (fun h => he h.2)]
        have he2 : ¬ (ra : Int) + (rb : Int) = (p : Int) := by omega
        have he3 : ((ra : Int) + (rb : Int) == (p : Int)) = false := by simpa using he2
        go_enter Try.func56, Try.ntmps56
        go_wp2_with fail
        refine (HE.out _).mono ?_
        rintro e w1 ⟨rfl, B1⟩
        have hz1 := B1.size
        have ho3 : w1.ownsRow B 94 3 (.slice (some ⟨g, 0, none⟩) (n + 1) uc) (n + 1) (rowN (l ++ [(ra, rb, rc)])) := HO2.out.kept (grown_of_below B1) (Classical.em _)
        have HA1 := Lib.hid (ho3.alloc (.cells #[.int .i64 (p : Int), .int .i64 1, .int .i64 rc] 94))
        clear q0 q1 q2 qf ho3
        go_wp2_with (at_builtin; refine wpList_append_own_at _ rfl _ _ 40 rfl B 94 i0 (.agg #[.int .i64 0, .int .i64 0, .int .i64 0]) 3 24 Try.underlying40 Hhi.out Hz0.out Hz1.out Hz2.out rfl (by decide) _ _ _ rfl HA1.out ⟨w1.heap.size, 0, none⟩ 1 1 [.int .i64 (p : Int), .int .i64 1, .int .i64 rc] rfl rfl ?c1 ?c2 ?c3 ?c4 ?c5 ?_)
        case c1 => exact cell_new1 w1 _ _
        case c2 => intro u hu; simp at hu; rcases hu with rfl | rfl | rfl <;> rfl
        case c3 => unfold maxLen; omega
        case c4 => omega
        case c5 => simp; omega
        intro v' w2 hown hgrow _ hlies
        go_wp2
        go_ret
        refine ⟨v', rfl, ?_, Wrote.later B1 (Wrote.grown hgrow hlies)⟩
        rw [rowN_snoc (l ++ [(ra, rb, rc)]), show List.length (l ++ [((ra, rb, rc) : Rn)] ++ [((p, 1, rc) : Rn)]) = n + 1 + 1 by rw [List.length_append, List.length_append, HN.out]; rfl]
        exact hown
    · rw [lenF_new l (ra, rb, rc) p kd h0 (fun h => hk h.1)]
      have hk3 : (rc == kd) = false := by simpa using hk
      clear HE
      go_enter Try.func56, Try.ntmps56
      go_wp2_with (at_builtin; refine wpList_append_own_at _ rfl _ _ 40 rfl B 94 i0 (.agg #[.int .i64 0, .int .i64 0, .int .i64 0]) 3 24 Try.underlying40 Hhi.out Hz0.out Hz1.out Hz2.out rfl (by decide) _ _ _ rfl HA.out ⟨w.heap.size, 0, none⟩ 1 1 [.int .i64 (p : Int), .int .i64 1, .int .i64 kd] rfl rfl ?c1 ?c2 ?c3 ?c4 ?c5 ?_)
      case c1 => exact cell_new1 w _ _
      case c2 => intro u hu; simp at hu; rcases hu with rfl | rfl | rfl <;> rfl
      case c3 => unfold maxLen; omega
      case c4 => omega
      case c5 => simp; omega
      intro v' w2 hown hgrow _ hlies
      go_wp2
      go_ret
      refine ⟨v', rfl, ?_, Wrote.grown hgrow hlies⟩
      rw [rowN_snoc (l ++ [(ra, rb, rc)]), show List.length (l ++ [((ra, rb, rc) : Rn)] ++ [((p, 1, kd) : Rn)]) = n + 1 + 1 by rw [List.length_append, List.length_append, HN.out]; rfl]
      exact hown
end Go.Proofs.Ytjplihljmohpjaa

/- Bytes of a page: are they zero; a page's data. -/
namespace Go.Proofs.Ytjplihljmohpjaa
open Go.RowKit Go.Shelf
attribute [local go_sem] Oper.semAt_some

def bytesL (b : Nat → Int) : List Value := (List.range 64).map fun k => .int .u8 (b k)
def zB (b : Nat → Int) : Bool := (List.range 64).all fun k => b k == 0
theorem bytesL_len (b : Nat → Int) : (bytesL b).length = 64 := by unfold bytesL; simp
theorem bytesL_at (b : Nat → Int) (k : Nat) (hk : k < 64) : (bytesL b)[k]? = some (.int .u8 (b k)) := by unfold bytesL; rw [List.getElem?_map, List.getElem?_range hk]; rfl
theorem bytesL_zero : (bytesL fun _ => 0).toArray = z64 := by kernel_rfl
theorem cells_u8 : Try.prog.cellsOf 5 = 1 := by kernel_rfl
theorem plain_u8 : Try.prog.plainKey 5 = true := by kernel_rfl
theorem items64 (D : Nat) (b c : Nat → Int) (w : World) : ∀ is : List Nat, (∀ i ∈ is, i < 64) → (Op.eqItems (D + 1) 5 (Try.prog.cellsOf 5) (bytesL b).toArray (bytesL c).toArray is).run Try.prog w = .ok (is.all fun i => b i == c i) w
  | [], _ => by simp [Op.eqItems]
  | i :: is, h => by
    have hi := h i (by simp)
    have p1 : ∀ e : Nat → Int, (part 5 (bytesL e).toArray (i * Try.prog.cellsOf 5)).run Try.prog w = .ok (.int .u8 (e i)) w := fun e => run_part_plain _ plain_u8 (by rw [cells_u8, Nat.mul_one, List.getElem?_toArray, bytesL_at _ _ hi])
    have ih := items64 D b c w is (fun j hj => h j (by simp [hj]))
    simp only [Op.eqItems, Sem.run_bind, p1, Result.andThen_ok, run_equalIn_int w D 5 .u8 .u8 (b i) (c i) Try.underlying5]
    cases hbc : (b i == c i) with
    | false => simp [hbc]
    | true => simp [hbc, ih]
theorem eq64 (D : Nat) (b c : Nat → Int) (w : World) : (Op.equalIn (D + 2) 88 (.agg (bytesL b).toArray) (.agg (bytesL c).toArray)).run Try.prog w = .ok ((List.range 64).all fun i => b i == c i) w := by
  obtain ⟨i, hi⟩ : ∃ i, Try.prog.info? 5 = some i := by
    have h := Try.infoU8
    cases hx : Try.prog.info? 5 with
    | none => rw [hx] at h; cases h
    | some i => exact ⟨i, rfl⟩
  rw [run_equalIn_array w (D + 1) _ _ Try.underlying88 hi, items64 D b c w _ (fun i hi => List.mem_range.1 hi)]
theorem z_eq (b : Nat → Int) (w : World) : (Op.equalIn 10000 88 (.agg (bytesL b).toArray) (.agg (bytesL fun _ => 0).toArray)).run Try.prog w = .ok (zB b) w := eq64 9998 b (fun _ => 0) w
set_option maxRecDepth 100000 in
theorem isZero_is (b : Nat → Int) (w : World) : Calls Try.prog 58 #[.agg (bytesL b).toArray] w fun e w' => e = .returned (.bool (zB b)) ∧ Below w.heap.size w w' := by
  have heq := z_eq b
  rw [bytesL_zero] at heq
  have hsz : (bytesL b).toArray.size = 64 := by rw [List.size_toArray, bytesL_len]
  generalize (bytesL b).toArray = A at heq hsz
  obtain ⟨r, hr⟩ : ∃ r, zB b = r := ⟨_, rfl⟩
  rw [hr] at heq ⊢
  clear hr
  obtain ⟨W1, hW1⟩ : ∃ x, w.alloc (.cells A 88) = x := ⟨_, rfl⟩
  have hb1 : Below w.heap.size w W1 := by rw [← hW1]; exact (Below.refl _ _).alloc (Nat.le_refl _) _
  have g : W1.heap[w.heap.size]? = some (.cells A 88 (0, 0)) := by rw [← hW1]; exact World.alloc_heap_new w _
  have zi : (Try.prog.info? 88).map (·.size) = some A.size := by rw [hsz]; kernel_rfl
  unfold z64 at heq
  clear hsz
  go_enter Try.func58, Try.ntmps58
  go_wp2_with (first | rw [hW1] | refine wpList_load_row rfl 88 _ rfl w.heap.size rfl 88 _ (0, 0) _ g Try.underlying88 rfl zi ?_)
  go_ret
  exact ⟨rfl, hb1⟩
theorem PgAt.bytes {W : World} {P : Nat} {f : Pages} (h : PgAt W P f) (j : Nat) (hj : j < 1024) : W.rangeAt P (j * 66 + 2) (bytesL (f j).by') := fun i u hu => by
  have hi : i < 64 := by have := (List.getElem?_eq_some_iff.1 hu).1; rw [bytesL_len] at this; exact this
  rw [bytesL_at _ _ hi] at hu
  cases hu
  rw [Nat.add_assoc]
  exact h.range j hj (2 + i) _ (pgL_by (f j) i hi)
/-- The data of pages: their numbers and bytes. -/
def rowD (f : Pages) (l : List Nat) : List Value := l.flatMap fun (j : Nat) => .int .i64 (j : Int) :: bytesL (f j).by'
theorem rowD_snoc (f : Pages) (l : List Nat) (j : Nat) : rowD f (l ++ [j]) = rowD f l ++ (.int .i64 (j : Int) :: bytesL (f j).by') := by unfold rowD; rw [List.flatMap_append, List.flatMap_singleton]
theorem rowD_len (f : Pages) : ∀ l : List Nat, (rowD f l).length = l.length * 65
  | [] => by simp [rowD]
  | x :: l => by unfold rowD; rw [List.flatMap_cons, List.length_append]; have := rowD_len f l; unfold rowD at this; rw [this]; simp [bytesL_len]; omega
theorem eqG (xs : Array Value) : ∀ (fs : List Field), (∀ f ∈ fs, ∃ v : Value, (∀ W, (part f.type xs f.offset).run Try.prog W = .ok v W) ∧ ∀ W, (Op.equalIn 9999 f.type v v).run Try.prog W = .ok true W) → ∀ w, (Op.eqFields 9999 xs xs fs).run Try.prog w = .ok true w
  | [], _, w => by simp [Op.eqFields]
  | f :: fs, h, w => by
    obtain ⟨v, hx, hi⟩ := h f (by simp)
    have ih := eqG xs fs (fun g hg => h g (by simp [hg]))
    simp only [Op.eqFields, Sem.run_ite, Sem.run_bind, hx, hi, Result.andThen_ok, ih]
    simp
theorem int_self (x : Int) (W : World) : (Op.equalIn 9999 3 (.int .i64 x) (.int .i64 x)).run Try.prog W = .ok true W := by rw [run_equalIn_int W 9998 3 .i64 .i64 x x Try.underlying3]; simp
set_option maxRecDepth 100000 in
theorem neqN (a b c : Int) (w : World) : (Go.binOp .neq 94 (.agg #[.int .i64 a, .int .i64 b, .int .i64 c]) (.agg #[.int .i64 a, .int .i64 b, .int .i64 c])).run Try.prog w = .ok (.bool false) w := by
  have ht : Try.prog.underlying 94 = some (.struct (Try.prog.fieldsOf 94)) := by kernel_rfl
  have hp : Try.prog.stoodInHeld 94 = false := by kernel_rfl
  obtain ⟨f0, f1, f2, hu, o0, o1, o2, t0, t1, t2⟩ : ∃ f0 f1 f2 : Field, Try.prog.underlying 94 = some (.struct #[f0, f1, f2]) ∧ f0.offset = 0 ∧ f1.offset = 1 ∧ f2.offset = 2 ∧ f0.type = 3 ∧ f1.type = 3 ∧ f2.type = 3 :=
    ⟨_, _, _, Try.underlying94, rfl, rfl, rfl, rfl, rfl, rfl⟩
  have hf : Try.prog.fieldsOf 94 = #[f0, f1, f2] := by
    have := ht.symm.trans hu
    simpa using this
  rw [run_neq_struct, run_equalIn_agg w 9999 94 _ _ ht hp, hf, eqG]
  · rfl
  · intro f hm
    simp at hm
    rcases hm with rfl | rfl | rfl
    · exact ⟨.int .i64 a, fun W => by rw [t0, o0]; kernel_rfl, fun W => by rw [t0]; exact int_self a W⟩
    · exact ⟨.int .i64 b, fun W => by rw [t1, o1]; kernel_rfl, fun W => by rw [t1]; exact int_self b W⟩
    · exact ⟨.int .i64 c, fun W => by rw [t2, o2]; kernel_rfl, fun W => by rw [t2]; exact int_self c W⟩
set_option maxRecDepth 100000 in
theorem neqD (j : Int) (b : Nat → Int) (w : World) : (Go.binOp .neq 96 (.agg (.int .i64 j :: bytesL b).toArray) (.agg (.int .i64 j :: bytesL b).toArray)).run Try.prog w = .ok (.bool false) w := by
  have ht : Try.prog.underlying 96 = some (.struct (Try.prog.fieldsOf 96)) := by kernel_rfl
  have hp : Try.prog.stoodInHeld 96 = false := by kernel_rfl
  obtain ⟨f0, f1, hu, o0, o1, t0, t1⟩ : ∃ f0 f1 : Field, Try.prog.underlying 96 = some (.struct #[f0, f1]) ∧ f0.offset = 0 ∧ f1.offset = 1 ∧ f0.type = 3 ∧ f1.type = 88 :=
    ⟨_, _, Try.underlying96, rfl, rfl, rfl, rfl⟩
  have hf : Try.prog.fieldsOf 96 = #[f0, f1] := by
    have := ht.symm.trans hu
    simpa using this
  have hpart : ∀ W, (part 88 (.int .i64 j :: bytesL b).toArray 1).run Try.prog W = .ok (.agg (bytesL b).toArray) W := fun W => by kernel_rfl
  have hself : ∀ W, (Op.equalIn 9999 88 (.agg (bytesL b).toArray) (.agg (bytesL b).toArray)).run Try.prog W = .ok true W := fun W => by
    rw [eq64 9997 b b W]
    simp
  rw [run_neq_struct, run_equalIn_agg w 9999 96 _ _ ht hp, hf, eqG]
  · rfl
  · intro f hm
    simp at hm
    rcases hm with rfl | rfl
    · exact ⟨.int .i64 j, fun W => by rw [t0, o0]; kernel_rfl, fun W => by rw [t0]; exact int_self j W⟩
    · exact ⟨.agg (bytesL b).toArray, fun W => by rw [t1, o1]; exact hpart W, fun W => by rw [t1]; exact hself W⟩
end Go.Proofs.Ytjplihljmohpjaa

/- What Save has gathered. -/
namespace Go.Proofs.Ytjplihljmohpjaa
open Go.RowKit Go.Shelf
attribute [local go_sem] Oper.semAt_some

def runsL (f : Pages) (l : List Nat) : List Rn := l.foldl (fun rs j => lenF rs j (f j).kd) []
def hugeL (f : Pages) (l : List Nat) : List Nat := l.filter fun j => (f j).hu && j % 16 == 0
def dataL (f : Pages) (l : List Nat) : List Nat := l.filter fun j => !zB (f j).by'
theorem runsL_snoc (f : Pages) (l : List Nat) (j : Nat) : runsL f (l ++ [j]) = lenF (runsL f l) j (f j).kd := by unfold runsL; rw [List.foldl_append]; rfl
theorem hugeL_yes (f : Pages) (l : List Nat) (j : Nat) (h : (f j).hu = true ∧ j % 16 = 0) : hugeL f (l ++ [j]) = hugeL f l ++ [j] := by unfold hugeL; rw [List.filter_append]; simp [h.1, h.2]
theorem hugeL_no (f : Pages) (l : List Nat) (j : Nat) (h : ¬ ((f j).hu = true ∧ j % 16 = 0)) : hugeL f (l ++ [j]) = hugeL f l := by
  unfold hugeL; rw [List.filter_append]
  have : ((f j).hu && j % 16 == 0) = false := by
    cases hh : (f j).hu with
    | false => rfl
    | true => simp only [Bool.true_and, beq_eq_false_iff_ne]; exact fun e => h ⟨hh, e⟩
  simp [this]
theorem dataL_yes (f : Pages) (l : List Nat) (j : Nat) (h : zB (f j).by' = false) : dataL f (l ++ [j]) = dataL f l ++ [j] := by unfold dataL; rw [List.filter_append]; simp [h]
theorem dataL_no (f : Pages) (l : List Nat) (j : Nat) (h : zB (f j).by' = true) : dataL f (l ++ [j]) = dataL f l := by unfold dataL; rw [List.filter_append]; simp [h]
theorem runsL_C (f : Pages) : ∀ (n : Nat) (l : List Nat), l.length = n → (∀ j ∈ l, j < 1024) → RnC (runsL f l) n
  | 0, l, h, _ => by rw [List.eq_nil_of_length_eq_zero h]; exact ⟨Nat.le_refl _, fun r hr => by cases hr⟩
  | n + 1, l, h, hl => by
    rcases snoc_cases l with rfl | ⟨t, x, rfl⟩
    · cases h
    · rw [runsL_snoc]
      exact (runsL_C f n t (by simpa using h) (fun j hj => hl j (by simp [hj]))).next x (hl x (by simp)) _
def rowI (l : List Nat) : List Value := l.map fun (j : Nat) => .int .i64 (j : Int)
theorem rowI_snoc (l : List Nat) (j : Nat) : rowI (l ++ [j]) = rowI l ++ [.int .i64 (j : Int)] := by unfold rowI; rw [List.map_append]; rfl
theorem own_keep {W V : World} {B : Nat} {e : TypeId} {s : Nat} {v : Value} {n : Nat} {xs : List Value} {q : Nat → Prop} (h : W.ownsRow B e s v n xs) (hk : Keep q W V) (hq : ∀ b, v.ownBlock = some b → ¬ q b) : V.ownsRow B e s v n xs := by
  obtain ⟨h1, ⟨e1, e2⟩ | ⟨g, cap', cur, hv, hB, hg, h3⟩⟩ := h
  · exact ⟨h1, .inl ⟨e1, e2⟩⟩
  · refine ⟨h1, .inr ⟨g, cap', cur, hv, hB, (hk.block g (Array.getElem?_eq_some_iff.1 hg).1 (hq g (by rw [hv]; rfl))).trans hg, h3⟩⟩
theorem own_isCells {W : World} {B : Nat} {e : TypeId} {s : Nat} {v : Value} {n : Nat} {xs : List Value} (h : W.ownsRow B e s v n xs) {b : Nat} (hb : v.ownBlock = some b) {o : Obj} (ho : W.heap[b]? = some o) : o.isCells = true := by
  obtain ⟨_, ⟨rfl, _⟩ | ⟨g, cap', cur, rfl, hB, hg, h3⟩⟩ := h
  · cases hb
  · cases hb; rw [hg] at ho; cases ho; rfl
theorem own_ownFrom {W V : World} {B : Nat} {e : TypeId} {s : Nat} {v : Value} {n : Nat} {xs : List Value} {row : Option Nat} (h : W.ownsRow B e s v n xs) (hg : W.grownBy V row) (hr : ∀ r, row = some r → ∃ o : Obj, W.heap[r]? = some o ∧ o.isCells = false) : V.ownsRow B e s v n xs :=
  h.kept hg (Classical.or_iff_not_imp_left.2 fun hn e => by
    cases hb : v.ownBlock with
    | none => exact hn hb
    | some b =>
      obtain ⟨o, h1, h2⟩ := hr b (by rw [← e, hb])
      rw [own_isCells h hb h1] at h2
      cases h2)
/-- What changes: the box, and rows of cells in new memory. -/
structure ChgS (B N : Nat) (V V' : World) : Prop where
  keep : Keep (fun b => b = N ∨ B ≤ b) V V'
  oth : KeepsOthers V V'
theorem ChgS.refl (B N : Nat) (V : World) : ChgS B N V V := ⟨Keep.refl _ _, KeepsOthers.refl _⟩
theorem ChgS.trans {B N : Nat} {a b c : World} (h : ChgS B N a b) (k : ChgS B N b c) : ChgS B N a c := ⟨h.keep.trans k.keep, h.oth.trans k.oth⟩
theorem ChgS.below {B N : Nat} {V V' : World} (h : Below V.heap.size V V') : ChgS B N V V' := ⟨Keep.of_below h, KeepsOthers.of_grownBy (grown_of_below h) (fun j o h => by cases h)⟩
theorem ChgS.setN (B N j : Nat) (V : World) (u : Value) : ChgS B N V (V.setCell ⟨N, j, none⟩ u) := ⟨(Keep.refl _ _).setCell _ _ (.inl (.inl rfl)), KeepsOthers.setCell _ _ _⟩
theorem ChgS.wrote {B N : Nat} {w w' : World} {u u' : Value} {e : TypeId} {s n : Nat} {xs : List Value} (ho : w.ownsRow B e s u n xs) (h : Wrote w w' u u') : ChgS B N w w' :=
  ⟨h.keep.mono fun k _ hk => .inr (ho.lt k hk).1, ⟨h.keep.size, fun k o hk hc => by
    rw [h.keep.block k (Array.getElem?_eq_some_iff.1 hk).1 (fun hb => by rw [own_isCells ho hb hk] at hc; cases hc)]; exact hk⟩⟩
/-- The box of the state, and its three rows, apart. -/
structure Sv3 (W : World) (B N : Nat) (f : Pages) (ur ug ud : Value) (rs : List Rn) (gs ds : List Nat) (v : Value) (c h : Nat → Int) : Prop where
  box : VBox W N ur ug ud v c h
  r : W.ownsRow B 94 3 ur rs.length (rowN rs)
  g : W.ownsRow B 3 1 ug gs.length (rowI gs)
  d : W.ownsRow B 96 65 ud ds.length (rowD f ds)
  rg : ∀ b, ur.ownBlock = some b → ug.ownBlock ≠ some b
  rd : ∀ b, ur.ownBlock = some b → ud.ownBlock ≠ some b
  gd : ∀ b, ug.ownBlock = some b → ud.ownBlock ≠ some b
  hN : N < B
  hB : B ≤ W.heap.size
section
variable {W V : World} {B N : Nat} {f : Pages} {ur ug ud : Value} {rs : List Rn} {gs ds : List Nat} {v : Value} {c h : Nat → Int}
theorem Sv3.later (s : Sv3 W B N f ur ug ud rs gs ds v c h) (hb : Below W.heap.size W V) : Sv3 V B N f ur ug ud rs gs ds v c h :=
  ⟨s.box.later hb, s.r.kept (grown_of_below hb) (Classical.em _), s.g.kept (grown_of_below hb) (Classical.em _), s.d.kept (grown_of_below hb) (Classical.em _), s.rg, s.rd, s.gd, s.hN, Nat.le_trans s.hB hb.size⟩
theorem Sv3.ownFrom {row : Option Nat} (s : Sv3 W B N f ur ug ud rs gs ds v c h) (hg : W.grownBy V row) (hr : ∀ r, row = some r → ∃ o : Obj, W.heap[r]? = some o ∧ o.isCells = false) : Sv3 V B N f ur ug ud rs gs ds v c h :=
  ⟨own_cells (β := Unit) 0 N _ rfl () W V row s.box hg (fun r e => ⟨Nat.zero_le _, hr r e⟩), own_ownFrom s.r hg hr, own_ownFrom s.g hg hr, own_ownFrom s.d hg hr, s.rg, s.rd, s.gd, s.hN, Nat.le_trans s.hB hg.size⟩
theorem box_keep {q : Nat → Prop} (b : VBox W N ur ug ud v c h) (hk : Keep q W V) (hq : ¬ q N) : VBox V N ur ug ud v c h := (hk.block N b.lt hq).trans b
theorem VBox.set1 {b : Nat} {u0 u1 u2 : Value} (s : VBox W b u0 u1 u2 v c h) (x : Value) : VBox (W.setCell ⟨b, 1, none⟩ x) b u0 x u2 v c h := heap_setCell_same W b 1 _ _ _ s
theorem VBox.set2 {b : Nat} {u0 u1 u2 : Value} (s : VBox W b u0 u1 u2 v c h) (x : Value) : VBox (W.setCell ⟨b, 2, none⟩ x) b u0 u1 x v c h := heap_setCell_same W b 2 _ _ _ s
theorem VBox.sets {b : Nat} {u0 u1 u2 : Value} (s : VBox W b u0 u1 u2 v c h) (x : Value) : VBox (W.setCell ⟨b, 0, none⟩ x) b x u1 u2 v c h := heap_setCell_same W b 0 _ _ _ s
theorem keepN (W : World) (N j : Nat) (x : Value) : Keep (· = N) W (W.setCell ⟨N, j, none⟩ x) := (Keep.refl _ _).setCell _ _ (.inl rfl)
theorem Sv3.setR {ur' : Value} {rs' : List Rn} (s : Sv3 W B N f ur ug ud rs gs ds v c h) (hw : Wrote W V ur ur') (hr : V.ownsRow B 94 3 ur' rs'.length (rowN rs')) : Sv3 (V.setCell ⟨N, 0, none⟩ ur') B N f ur' ug ud rs' gs ds v c h := by
  have hN := s.hN
  have ob : ∀ {e : TypeId} {z n : Nat} {x : Value} {xs : List Value}, V.ownsRow B e z x n xs → (V.setCell ⟨N, 0, none⟩ ur').ownsRow B e z x n xs := fun hx => own_keep hx (keepN V N 0 ur') (fun b hb e => by have := (hx.lt b hb).1; omega)
  refine ⟨(box_keep s.box hw.keep (fun e => by have := (s.r.lt N e).1; omega)).sets ur', ob hr, ob (own_keep s.g hw.keep (fun b hb e => s.rg b e hb)), ob (own_keep s.d hw.keep (fun b hb e => s.rd b e hb)), fun b hb e => ?_, fun b hb e => ?_, s.gd, hN, by have := s.hB; have := hw.keep.size; simp; omega⟩
  · rcases hw.own b hb with h1 | h1
    · exact s.rg b h1 e
    · have := (s.g.lt b e).2; omega
  · rcases hw.own b hb with h1 | h1
    · exact s.rd b h1 e
    · have := (s.d.lt b e).2; omega
theorem Sv3.setG {ug' : Value} {gs' : List Nat} (s : Sv3 W B N f ur ug ud rs gs ds v c h) (hw : Wrote W V ug ug') (hr : V.ownsRow B 3 1 ug' gs'.length (rowI gs')) : Sv3 (V.setCell ⟨N, 1, none⟩ ug') B N f ur ug' ud rs gs' ds v c h := by
  have hN := s.hN
  have ob : ∀ {e : TypeId} {z n : Nat} {x : Value} {xs : List Value}, V.ownsRow B e z x n xs → (V.setCell ⟨N, 1, none⟩ ug').ownsRow B e z x n xs := fun hx => own_keep hx (keepN V N 1 ug') (fun b hb e => by have := (hx.lt b hb).1; omega)
  refine ⟨(box_keep s.box hw.keep (fun e => by have := (s.g.lt N e).1; omega)).set1 ug', ob (own_keep s.r hw.keep (fun b hb e => s.rg b hb e)), ob hr, ob (own_keep s.d hw.keep (fun b hb e => s.gd b e hb)), fun b hb e => ?_, s.rd, fun b hb e => ?_, hN, by have := s.hB; have := hw.keep.size; simp; omega⟩
  · rcases hw.own b e with h1 | h1
    · exact s.rg b hb h1
    · have := (s.r.lt b hb).2; omega
  · rcases hw.own b hb with h1 | h1
    · exact s.gd b h1 e
    · have := (s.d.lt b e).2; omega
theorem Sv3.setD {ud' : Value} {ds' : List Nat} (s : Sv3 W B N f ur ug ud rs gs ds v c h) (hw : Wrote W V ud ud') (hr : V.ownsRow B 96 65 ud' ds'.length (rowD f ds')) : Sv3 (V.setCell ⟨N, 2, none⟩ ud') B N f ur ug ud' rs gs ds' v c h := by
  have hN := s.hN
  have ob : ∀ {e : TypeId} {z n : Nat} {x : Value} {xs : List Value}, V.ownsRow B e z x n xs → (V.setCell ⟨N, 2, none⟩ ud').ownsRow B e z x n xs := fun hx => own_keep hx (keepN V N 2 ud') (fun b hb e => by have := (hx.lt b hb).1; omega)
  refine ⟨(box_keep s.box hw.keep (fun e => by have := (s.d.lt N e).1; omega)).set2 ud', ob (own_keep s.r hw.keep (fun b hb e => s.rd b hb e)), ob (own_keep s.g hw.keep (fun b hb e => s.gd b hb e)), ob hr, s.rg, fun b hb e => ?_, fun b hb e => ?_, hN, by have := s.hB; have := hw.keep.size; simp; omega⟩
  · rcases hw.own b e with h1 | h1
    · exact s.rd b hb h1
    · have := (s.r.lt b hb).2; omega
  · rcases hw.own b e with h1 | h1
    · exact s.gd b hb h1
    · have := (s.g.lt b hb).2; omega
end
def zD : Value := .agg #[.int .i64 0, .int .u8 0, .int .u8 0, .int .u8 0, .int .u8 0, .int .u8 0, .int .u8 0, .int .u8 0, .int .u8 0, .int .u8 0, .int .u8 0, .int .u8 0, .int .u8 0, .int .u8 0, .int .u8 0, .int .u8 0, .int .u8 0, .int .u8 0, .int .u8 0, .int .u8 0, .int .u8 0, .int .u8 0, .int .u8 0, .int .u8 0, .int .u8 0, .int .u8 0, .int .u8 0, .int .u8 0, .int .u8 0, .int .u8 0, .int .u8 0, .int .u8 0, .int .u8 0, .int .u8 0, .int .u8 0, .int .u8 0, .int .u8 0, .int .u8 0, .int .u8 0, .int .u8 0, .int .u8 0, .int .u8 0, .int .u8 0, .int .u8 0, .int .u8 0, .int .u8 0, .int .u8 0, .int .u8 0, .int .u8 0, .int .u8 0, .int .u8 0, .int .u8 0, .int .u8 0, .int .u8 0, .int .u8 0, .int .u8 0, .int .u8 0, .int .u8 0, .int .u8 0, .int .u8 0, .int .u8 0, .int .u8 0, .int .u8 0, .int .u8 0, .int .u8 0]
theorem Try.infoVd : (Try.prog.info? 96).map (fun i => (i.zero, i.size, i.bytes)) = some (some zD, 65, 72) := by kernel_rfl
theorem Try.infoIn : (Try.prog.info? 3).map (fun i => (i.zero, i.size, i.bytes)) = some (some (.int .i64 0), 1, 8) := by kernel_rfl
theorem fillD (j : Int) (b : Nat → Int) : Instr.fill (fun i => some (i * 65, 65)) ((Array.range (1 * 65)).map (zD.cells[· % zD.cells.size]!)) [(0, .agg (.int .i64 j :: bytesL b).toArray)] = some (.int .i64 j :: bytesL b).toArray := by kernel_rfl
theorem builtD (j : Int) (b : Nat → Int) : Try.prog.built 96 [(0, .int .i64 j), (1, .agg (bytesL b).toArray)] = some (.int .i64 j :: bytesL b).toArray := by kernel_rfl
theorem exec_oneD {w : World} {o : Oper} {a : Act} (parts : Array (Nat × Operand)) (ho : o.op = .buildSlice 42 1 parts) (j : Int) (b : Nat → Int) (A : Array Value) (hA : (.int .i64 j :: bytesL b).toArray = A) (hp : (parts.map fun (i, x) => (i, a.eval x)).toList = [(0, .agg A)]) :
    (execOp a.eval o).run Try.prog w = .ok (.value (.slice (some ⟨w.heap.size, 0, none⟩) 1 1)) (w.alloc (.cells A 96)) := by
  obtain ⟨ie, hie, hz, hs, _⟩ := info_parts Try.infoVd
  exact exec_buildSlice 42 96 1 parts ho _ hp A ie zD Try.underlying42 hie hz (by rw [hs]; decide) (by rw [hs]; decide) (by rw [hs, ← hA]; exact fillD j b)
theorem Wrote.grown0 {w w' : World} {u u' : Value} (hg : w.grownBy w' u.ownBlock) (hl : u'.ownBlock = u.ownBlock ∨ u'.ownBlock = some w.heap.size) : Wrote w w' u u' :=
  ⟨⟨hg.os, hg.tape, hg.output, hg.size, fun k hk hq => hg.block k hk (fun e => hq e.symm)⟩, fun b hb => by
    rcases hl with h | h
    · exact .inl (h ▸ hb)
    · rw [h] at hb; cases hb; exact .inr (Nat.le_refl _)⟩
theorem bytesL_one (b : Nat → Int) : ∀ u ∈ bytesL b, u.oneCell' = true := fun u hu => by
  unfold bytesL at hu
  obtain ⟨k, _, rfl⟩ := List.mem_map.1 hu
  rfl
end Go.Proofs.Ytjplihljmohpjaa

/- Save of any system. -/
namespace Go.Proofs.Ytjplihljmohpjaa
open Go.RowKit Go.Shelf
attribute [local go_sem] Oper.semAt_some

theorem own_one {W : World} {B : Nat} {e : TypeId} {z n : Nat} {v : Value} {xs : List Value} (h : W.ownsRow B e z v n xs) : v.oneCell' = true := by obtain ⟨a, c, rfl⟩ := own_shape h; rfl
theorem keep_row (W : World) (g : Nat) (cs : Array Value) : Keep (· = g) W (W.setRow g cs) := by
  have h := Below.refl 0 W
  exact ⟨(below_row (B := 0) h g (Nat.zero_le _) cs).os, (below_row (B := 0) h g (Nat.zero_le _) cs).tape, (below_row (B := 0) h g (Nat.zero_le _) cs).output, (below_row (B := 0) h g (Nat.zero_le _) cs).size, fun k _ hq => setRow_other W g k cs hq⟩
theorem keep_put (W : World) (D : Nat) (o : Obj) : Keep (· = D) W (W.putObj D o) := ⟨rfl, rfl, rfl, by simp [World.putObj], fun k _ hq => World.putObj_heap_other hq⟩
theorem ownsRow_le' {W : World} {B B' : Nat} {e : TypeId} {z n : Nat} {v : Value} {xs : List Value} (h : W.ownsRow B e z v n xs) (hb : B' ≤ B) : W.ownsRow B' e z v n xs := by
  obtain ⟨h1, h2 | ⟨g, cap', cur, hv, hB, h3⟩⟩ := h
  · exact ⟨h1, .inl h2⟩
  · exact ⟨h1, .inr ⟨g, cap', cur, hv, Nat.le_trans hb hB, h3⟩⟩
theorem own_keepB {β : Type} {B N : Nat} {w₀ : World} (hB : w₀.heap.size ≤ B) : OwnFrom B (fun (_ : β) W => Keep (fun b => b = N ∨ w₀.heap.size ≤ b) w₀ W) := fun _ W W' row hs hg hr =>
  ⟨hg.os.trans hs.os, hg.tape.trans hs.tape, hg.output.trans hs.output, Nat.le_trans hs.size hg.size, fun k hk hq => (hg.block k (Nat.lt_of_lt_of_le hk hs.size) (fun e => by have := (hr k e.symm).1; omega)).trans (hs.block k hk hq)⟩
def SvI (w₀ : World) (N : Nat) (f : Pages) (v : Value) (c h : Nat → Int) (pre : List Vn) (W : World) : Prop :=
  (∃ ur ug ud, Sv3 W w₀.heap.size N f ur ug ud (runsL f (pre.map Subtype.val)) (hugeL f (pre.map Subtype.val)) (dataL f (pre.map Subtype.val)) v c h) ∧ Keep (fun b => b = N ∨ w₀.heap.size ≤ b) w₀ W
theorem own_SvI (w₀ : World) (N : Nat) (f : Pages) (v : Value) (c h : Nat → Int) : OwnFrom w₀.heap.size (SvI w₀ N f v c h) := fun pre W W' row hs hg hr => by
  obtain ⟨⟨ur, ug, ud, s⟩, hk⟩ := hs
  exact ⟨⟨ur, ug, ud, s.ownFrom hg (fun r e => (hr r e).2)⟩, own_keepB (β := Unit) (Nat.le_refl _) () W W' row hk hg hr⟩
/-- A state as it lies behind Save. -/
structure Saved (W : World) (B : Nat) (f : Pages) (l : List Nat) (L : List Ru) (ur ug ud u : Value) : Prop where
  r : W.ownsRow B 94 3 ur (runsL f l).length (rowN (runsL f l))
  g : W.ownsRow B 3 1 ug (hugeL f l).length (rowI (hugeL f l))
  d : W.ownsRow B 96 65 ud (dataL f l).length (rowD f (dataL f l))
  ru : RAt W u (toI L)
  own : ∀ b, u.ownBlock = some b → B ≤ b ∧ b < W.heap.size
abbrev all1024 : List Nat := List.range' 0 1024
set_option maxRecDepth 100000 in
set_option maxHeartbeats 16000000 in
theorem Save_is (S P : Nat) (v : Value) (L : List Ru) (hL : OkL L) (c h : Nat → Int) (f : Pages) (w : World) (hS : SyBox w S P v c h) (hP : PgAt w P f) (hr : RAt w v (toI L)) :
    Calls Try.prog 17 #[.pointer (some ⟨S, 0, none⟩)] w fun e w' => ∃ ur ug ud u, e = .returned (vsV ur ug ud u c h) ∧ Saved w' w.heap.size f all1024 L ur ug ud u ∧ Below w.heap.size w w' := by
  refine (callsIn_wide (n := 5)).1 ?_
  refine callsIn_of_wp_marks Try.func17 rfl trivial ?_ rfl
  simp only [Try.ntmps17, List.size_toArray, List.length_cons, List.length_nil, Nat.reduceAdd, Nat.reduceSub, Array.replicate_succ, Array.replicate_zero, List.push_toArray, List.append_toArray, List.nil_append, List.cons_append]
  have hf1 := wide_fn 55
  have hf2 := wide_fn 53
  have hf3 := wide_fn 54
  have hf4 := wide_fn 56
  have hf5 := wide_fn 58
  obtain ⟨W0, hW0⟩ : ∃ x, w.alloc (.cells #[.slice none 0 0, .slice none 0 0, .slice none 0 0, .slice none 0 0, .int .i64 0, .int .i64 0, .int .i64 0, .int .i64 0, .int .i64 0, .int .i64 0, .int .i64 0, .int .i64 0, .int .i64 0, .int .i64 0, .int .i64 0, .int .i64 0, .int .i64 0, .int .i64 0] 47) = x := ⟨_, rfl⟩
  have hb0 : Below w.heap.size w W0 := by rw [← hW0]; exact (Below.refl _ _).alloc (Nat.le_refl _) _
  have bR0 : VBox W0 w.heap.size nilS nilS nilS nilS zer zer := by rw [← hW0]; exact VBox.zero w
  have hS0 := hS.later hb0
  have HM := Lib.hid (made_yes S P v c h W0 hS0)
  have HC := Lib.hid (cloneRefusals_is v L hL c h W0 (hr.later hb0))
  have hrg := hS0.range
  gi_wp2_with fail
  try rw [hW0]
  refine (callsIn_wide.2 HM.out).mono ?_
  rintro e w' ⟨rfl, rfl⟩
  clear hW0
  gi_wp2_with (refine wpListIn_load_mid rfl 45 _ rfl S 1 rfl (stA v c h).toList _ hrg Try.underlying45 rfl (st_i v c h) ?_)
  refine (callsIn_wide.2 HC.out).mono ?_
  rintro e w1 ⟨u, rfl, hu, hub0, B1⟩
  have hb1 := hb0.trans (B1.mono hb0.size)
  obtain ⟨W2, hW2⟩ : ∃ x, w1.alloc (.cells #[.slice none 0 0, .slice none 0 0, .slice none 0 0, .slice none 0 0, .int .i64 0, .int .i64 0, .int .i64 0, .int .i64 0, .int .i64 0, .int .i64 0, .int .i64 0, .int .i64 0, .int .i64 0, .int .i64 0, .int .i64 0, .int .i64 0, .int .i64 0, .int .i64 0] 47) = x := ⟨_, rfl⟩
  have hb12 : Below w1.heap.size w1 W2 := by rw [← hW2]; exact (Below.refl _ _).alloc (Nat.le_refl _) _
  have hb2 := hb1.trans (hb12.mono hb1.size)
  have bN2 : VBox W2 w1.heap.size nilS nilS nilS nilS zer zer := by rw [← hW2]; exact VBox.zero w1
  have hone := vs_one nilS nilS nilS u c h rfl rfl rfl hu.one
  have hu1 := Lib.hid hu.one
  have hub : Hid (∀ b, u.ownBlock = some b → W0.heap.size ≤ b ∧ b < w1.heap.size) := hub0
  have hu2 := hu.later hb12
  have bR2 := (bR0.later B1).later hb12
  clear hrg HM HC
  have hbu := fold_vs u c h
  have hA15 : (stA u c h).size = 15 := stA_size _ _ _
  generalize stA u c h = A at hbu hA15 ⊢
  gi_wp2_with (first | rw [hW2] | refine wpListIn_store_row rfl 47 _ _ rfl w1.heap.size (vsA nilS nilS nilS u c h) rfl rfl 47 _ bN2 (vs_i _ _ _ _ _ _) rfl hone ?_)
  obtain ⟨WX, hWX⟩ : ∃ x, W2.setRow w1.heap.size (vsA nilS nilS nilS u c h) = x := ⟨_, rfl⟩
  have bN3 : VBox WX w1.heap.size nilS nilS nilS u c h := by rw [← hWX]; exact bN2.row nilS nilS nilS u c h
  have hw01 : w.heap.size < w1.heap.size := Nat.lt_of_lt_of_le bR0.lt B1.size
  have bR3 : VBox WX w.heap.size nilS nilS nilS nilS zer zer := by rw [← hWX]; exact (setRow_other W2 w1.heap.size w.heap.size _ (by omega)).trans bR2
  have hb3 : Below w.heap.size w WX := by rw [← hWX]; exact below_row hb2 _ hb1.size _
  have hr3 : RAt WX u (toI L) := by rw [← hWX]; exact hu2.row _ (fun e => by have := (hub.out _ e).2; omega)
  have hzX : w1.heap.size < WX.heap.size := bN3.lt
  try rw [hWX]
  clear hWX bN2 bR2 hb12 hW2 hbu hA15
  refine (from_any _ _ _ _ _).mono ?_
  rintro e w' ⟨rfl, hw'⟩
  obtain ⟨W4, hW4, hb4, hz4, f0, f1, f2⟩ := from_world WX (.pointer (some ⟨S, 0, none⟩)) (0 : Nat) (1024 : Nat)
  rw [show ((0 : Nat) : Int) = 0 from rfl, show ((1024 : Nat) : Int) = 1024 from rfl, hw'] at hW4
  subst hW4
  clear hw'
  have bN4 := bN3.later hb4
  have bR4 := bR3.later hb4
  have hB4 := hb3.trans (hb4.mono hb3.size)
  have hSl := hS.lt
  have hPl := hP.lt
  have hr4 := hr3.later hb4
  have hW0 : w.heap.size + 1 ≤ W0.heap.size := by have := bR0.lt; omega
  have h00 : SvI w' w1.heap.size f u c h [] w' := ⟨⟨nilS, nilS, nilS, bN4, World.ownsRow_nil _ _ _ _, World.ownsRow_nil _ _ _ _, World.ownsRow_nil _ _ _ _, (fun b h => by cases h), (fun b h => by cases h), (fun b h => by cases h), by omega, Nat.le_refl _⟩, Keep.refl _ _⟩
  have HR4 := Lib.hid hr4
  have HR4b := Lib.hid bR4
  have HB4 := Lib.hid hB4
  have HH := Lib.hid h00
  clear bN3 bR3 hr3 hb3 hone hu2 hr4 bN4 bR4 h00 hu
  gi_wp2_with fail
  refine range_g rfl (by decide) (gf := 83) (lb := #[.pointer (some ⟨WX.heap.size + 1, 0, none⟩), .pointer (some ⟨WX.heap.size + 2, 0, none⟩), .pointer (some ⟨WX.heap.size, 0, none⟩)]) rfl (wide_fn _) (enters_of Try.func83 (by kernel_rfl) rfl)
    (from_g 4 (by decide) S P (WX.heap.size + 1) (WX.heap.size + 2) WX.heap.size 0 1024 (by decide) (fun q => q = S ∨ (WX.heap.size ≤ q ∧ q ≤ WX.heap.size + 2)) (.inr (by omega)) (.inr (by omega)) (.inr (by omega)) (.inl rfl) _ v c h f1 f2 f0 (hS.later hB4)) (fun h k => KC.trans h k) (fun _ V k o o' hk hc _ => KC.putObj V k o o' hk hc) (fun _ => rfl)
    (SvI w' w1.heap.size f u c h)
    (fun _ _ _ => False)
    ?own (fun _ _ _ _ _ h _ _ => h) ?start ?a1 ?assign ?body ?done ?stop
  case assign =>
    intro l x Y K hK
    simp only [encP]
    gi_wp2
    exact hK
  case own => exact own_SvI w' w1.heap.size f u c h
  case start => exact HH.out
  case stop => exact fun _ _ _ _ _ _ h _ => h.elim
  case body =>
    rintro l pre x V ⟨⟨ur, ug, ud, s0⟩, hK0⟩ hlen
    obtain ⟨x, hx⟩ := x
    have hPk : ¬ (P = w1.heap.size ∨ w'.heap.size ≤ P) := by omega
    have hm : (pre.map Subtype.val).length < 2000 := by rw [List.length_map]; exact hlen
    have hRC : RnC (runsL f (pre.map Subtype.val)) (pre.map Subtype.val).length := runsL_C f _ _ rfl (fun j hj => by obtain ⟨y, _, rfl⟩ := List.mem_map.1 hj; exact y.2)
    have hgl : (hugeL f (pre.map Subtype.val)).length < 2000 := Nat.lt_of_le_of_lt (by unfold hugeL; exact List.length_filter_le _ _) hm
    have hdl : (dataL f (pre.map Subtype.val)).length < 2000 := Nat.lt_of_le_of_lt (by unfold dataL; exact List.length_filter_le _ _) hm
    have hpre : (pre ++ [(⟨x, hx⟩ : Vn)]).map Subtype.val = pre.map Subtype.val ++ [x] := by rw [List.map_append]; rfl
    have HPRE := Lib.hid hpre
    clear hpre
    generalize pre.map Subtype.val = pl at *
    have k0 : V.cell? ⟨P, x * 66, none⟩ = some (.int .i64 (f x).kd) := (hP.of_heap ((hK0.block P (Nat.lt_of_lt_of_le hPl hB4.size) hPk).trans (hB4.block P hPl))).kd x hx
    have q0 : V.cell? ⟨w1.heap.size, 0, none⟩ = some ur := (s0.box.cell 0).trans rfl
    have HG : Hid (∀ A' : World, Calls Try.prog 57 #[.int .i64 (x : Int)] A' fun e w' => e = .returned (.bool (decide (x % 16 = 0))) ∧ A' = w') := fun A' => isGroup_is x (by unfold I64; omega) _ (grpB_of hx) A'
    have HZ : Hid (∀ A' : World, Calls Try.prog 58 #[.agg (bytesL (f x).by').toArray] A' fun e w' => e = .returned (.bool (zB (f x).by')) ∧ Below A'.heap.size A' w') := fun A' => isZero_is _ A'
    have hPV : Hid (∀ W : World, Keep (fun b => b = w1.heap.size ∨ w'.heap.size ≤ b) w' W → PgAt W P f) := fun W hk => hP.of_heap ((hk.block P (Nat.lt_of_lt_of_le hPl hB4.size) hPk).trans (hB4.block P hPl))
    have hf6 : (Fence.wide.inRound l).fn 56 := hf4
    have hf7 : (Fence.wide.inRound l).fn 58 := hf5
    have hf9 := wide_fn 57
    have hf8 : (Fence.wide.inRound l).fn 57 := hf9
    have hmx := mixed
    have d2 : (1 : Nat) ≤ 5 - 1 - 1 := by decide
    have HK0 := Lib.hid hK0
    have FIN : Hid (∀ V5 : World, ChgS w'.heap.size w1.heap.size V V5 → (∃ ur ug ud, Sv3 V5 w'.heap.size w1.heap.size f ur ug ud (runsL f (pl ++ [x])) (hugeL f (pl ++ [x])) (dataL f (pl ++ [x])) u c h) →
        KeepsFrom w'.heap.size V V5 ∧ KC (fun q => q = S ∨ WX.heap.size ≤ q ∧ q ≤ WX.heap.size + 2) V V5 ∧ SvI w' w1.heap.size f u c h (pre ++ [(⟨x, hx⟩ : Vn)]) V5) := fun V5 hc hs => by
      refine ⟨hc.oth.from _, KC.of_keep hc.keep (by rintro q (rfl | hq) (e | e) <;> omega), ?_, hK0.trans hc.keep⟩
      rw [HPRE.out]
      exact hs
    rw [runsL_snoc] at FIN
    clear hK0 hP hS hr B1 hB4 hb4 hb2 hb1 hb0 bR0 hS0 f0 f1 f2 hlen hPk hz4
    gi_wp2_with fail
    refine region_pre 7 #[true, true, true, true, true, true, true, false, false, false] hmx (by kernel_rfl) (by kernel_rfl) ⟨by kernel_rfl, by kernel_rfl⟩ (by kernel_rfl) (by kernel_rfl) (C := fun w' => ∃ n, w' = V.drewN n) ⟨1, rfl⟩ ?_
    simp only [List.take_succ_cons, List.take_zero, List.drop_succ_cons, List.drop_zero]
    repeat (gi_big_quiet_step (fail))
    refine wpQuietIn_nil ?_
    rintro _ ⟨nq, rfl⟩
    have hbd : Below V.heap.size V (V.drewN nq) := ⟨rfl, rfl, rfl, Nat.le_refl _, fun _ _ => rfl⟩
    obtain ⟨V', hV'⟩ : ∃ x, V.drewN nq = x := ⟨_, rfl⟩
    rw [hV'] at hbd ⊢
    clear hV'
    have s1 := s0.later hbd
    have c1 : ChgS w'.heap.size w1.heap.size V V' := ChgS.below hbd
    have HL := Lib.hid (lengthen_is w'.heap.size _ x (f x).kd ur V' s1.r _ hm hRC s1.hB)
    have HS1 := Lib.hid s1
    have HC1 := Lib.hid c1
    clear s0 s1 c1 hbd k0 q0 hmx
    gi_wp2_with fail
    refine (CallsIn.inRound l (callsIn_wide.2 HL.out)).mono ?_
    rintro e W1 ⟨ur1, rfl, hr1, hw1⟩
    obtain ⟨n1, hn1⟩ : ∃ n, (lenF (runsL f pl) x (f x).kd).length = n := ⟨_, rfl⟩
    have hsh := own_shape hr1
    rw [hn1] at hsh
    have s2 := HS1.out.setR hw1 hr1
    obtain ⟨va, vc, rfl⟩ := hsh
    have c2 := (HC1.out.trans (ChgS.wrote HS1.out.r hw1)).trans (ChgS.setN w'.heap.size w1.heap.size 0 W1 (.slice va n1 vc))
    have bW1 : VBox W1 w1.heap.size ur ug ud u c h := box_keep HS1.out.box hw1.keep (fun e => by have := (HS1.out.r.lt _ e).1; have := HS1.out.hN; omega)
    have q0 : W1.cell? ⟨w1.heap.size, 0, none⟩ = some ur := (bW1.cell 0).trans rfl
    have qf := bW1.frozen
    obtain ⟨W2, hW2⟩ : ∃ x, W1.setCell ⟨w1.heap.size, 0, none⟩ (.slice va n1 vc) = x := ⟨_, rfl⟩
    rw [hW2] at s2 c2
    have k1 := (hPV.out W2 (HK0.out.trans c2.keep)).hu x hx
    have kb := (hPV.out W2 (HK0.out.trans c2.keep)).bytes x hx
    have HS2 := Lib.hid s2
    have HC2 := Lib.hid c2
    clear HL hr1 hw1 s2 c2 bW1 HS1 HC1 hn1
    obtain ⟨zb, hzb⟩ : ∃ b, zB (f x).by' = b := ⟨_, rfl⟩
    rw [hzb] at HZ
    have HZB := Lib.hid hzb
    clear hzb
    cases hhu : (f x).hu with
    | false =>
      rw [hhu] at k1
      have HHU : Hid (¬ ((f x).hu = true ∧ x % 16 = 0)) := fun h => by rw [hhu] at h; exact absurd h.1 (by simp)
      clear hhu HG
      gi_wp2_with (first | rw [hW2] | refine wpListIn_load_mid rfl 88 _ rfl P (x * 66 + 2) rfl (bytesL (f x).by') _ kb Try.underlying88 rfl (by kernel_rfl) ?_)
      refine (CallsIn.inRound l (callsIn_wide.2 (HZ.out _))).mono ?_
      rintro e Wz ⟨rfl, Bz⟩
      cases zb
      · have s5 := HS2.out.later Bz
        have c5 := HC2.out.trans (ChgS.below Bz)
        have q2 : Wz.cell? ⟨w1.heap.size, 2, none⟩ = some ud := (s5.box.cell 2).trans rfl
        have kb5 := (hPV.out Wz (HK0.out.trans c5.keep)).bytes x hx
        have hmx := mixed
        have HS5 := Lib.hid s5
        have HC5 := Lib.hid c5
        clear HZ s5 c5
        gi_wp2_with fail
        have hbt := builtD (x : Int) (f x).by'
        obtain ⟨A, hA⟩ : ∃ A, (.int .i64 (x : Int) :: bytesL (f x).by').toArray = A := ⟨_, rfl⟩
        obtain ⟨Ab, hAb⟩ : ∃ A, (bytesL (f x).by').toArray = A := ⟨_, rfl⟩
        have HA := Lib.hid hA
        have hAs : A.size = 65 := by rw [← hA, List.size_toArray, List.length_cons, bytesL_len]
        rw [hA, hAb] at hbt
        refine region_mid 8 #[true, true, true, true, true, true, true, true, true, false, false, false] hmx (by kernel_rfl) (by kernel_rfl) ⟨by kernel_rfl, by kernel_rfl⟩ (by kernel_rfl) (by kernel_rfl) rfl
          (Cb := fun w' => Below Wz.heap.size Wz w') (C0 := fun w' => ∃ n, w' = Wz.drewN n) (C1 := fun w' => ∃ n, w' = (Wz.alloc (.cells A 96)).drewN n) ?hb0 ?hb1 ⟨1, rfl⟩ ?_
        case hb0 => rintro _ ⟨n, rfl⟩; exact ⟨rfl, rfl, rfl, Nat.le_refl _, fun _ _ => rfl⟩
        case hb1 => rintro _ ⟨n, rfl⟩; exact ⟨rfl, rfl, rfl, by simp, fun k hk => Below.heap_alloc _ _ _ hk⟩
        simp only [List.take_succ_cons, List.take_zero, List.drop_succ_cons, List.drop_zero]
        refine ⟨.pointer (some ⟨w1.heap.size, 2, none⟩), ⟨rfl, fun w' hw => ?s0, fun _ => rfl⟩, ?_⟩
        case s0 => rfl
        refine ⟨ud, ⟨rfl, fun w' hw => ?s1, fun _ => rfl⟩, ?_⟩
        case s1 => 
          have hc := cell_later hw q2
          go_simp
        refine ⟨.int .i64 (x : Int), ⟨rfl, fun w' hw => ?s2, fun _ => rfl⟩, ?_⟩
        case s2 => go_simp
        refine ⟨.pointer (some ⟨P, x * 66, none⟩), ⟨rfl, fun w' hw => ?s3, fun _ => rfl⟩, ?_⟩
        case s3 => go_simp
        refine ⟨.pointer (some ⟨P, x * 66, none⟩), ⟨rfl, fun w' hw => ?s4, fun _ => rfl⟩, ?_⟩
        case s4 => go_simp
        refine ⟨.pointer (some ⟨P, x * 66 + 2, none⟩), ⟨rfl, fun w' hw => ?s5, fun _ => rfl⟩, ?_⟩
        case s5 => go_simp
        refine ⟨.agg Ab, ⟨rfl, fun w' hw => ?s6, fun _ => rfl⟩, ?_⟩
        case s6 =>
          rw [← hAb]
          exact exec_load_mid (P := Try.prog) (w := w') 88 _ rfl P (x * 66 + 2) (by kernel_rfl) (bytesL (f x).by') _ (fun i u hu => cell_later hw (kb5 i u hu)) Try.underlying88 rfl (by kernel_rfl)
        refine ⟨.agg A, ⟨rfl, fun w' hw => ?s7, fun _ => rfl⟩, ?_⟩
        case s7 => exact exec_build 96 _ rfl [(0, .int .i64 (x : Int)), (1, .agg Ab)] (by kernel_rfl) A hbt
        refine ⟨.slice (some ⟨Wz.heap.size, 0, none⟩) 1 1, ⟨rfl, fun w' hw => ?s8, fun _ => rfl⟩, ?_⟩
        case s8 => 
          obtain ⟨nq, rfl⟩ := hw
          exact ⟨(Wz.alloc (.cells A 96)).drewN nq, exec_oneD _ rfl (x : Int) (f x).by' A HA.out (by kernel_rfl), nq, rfl⟩
        simp only [Act.put, List.setIfInBounds_toArray, List.set_cons_succ, List.set_cons_zero]
        rintro _ ⟨nq, rfl⟩
        have hbA : Below Wz.heap.size Wz ((Wz.alloc (.cells A 96)).drewN nq) := ⟨rfl, rfl, rfl, by simp, fun k hk => Below.heap_alloc _ _ _ hk⟩
        have hnw : ∀ j u, A.toList[j]? = some u → ((Wz.alloc (.cells A 96)).drewN nq).cell? ((⟨Wz.heap.size, 0, none⟩ : Addr).add j) = some u := cell_new1 Wz A _
        obtain ⟨V7, hV7⟩ : ∃ x, (Wz.alloc (.cells A 96)).drewN nq = x := ⟨_, rfl⟩
        rw [hV7] at hbA hnw ⊢
        have s7 := HS5.out.later hbA
        have c7 := HC5.out.trans (ChgS.below hbA)
        have hA1 : ∀ u ∈ A.toList, u.oneCell' = true := fun u hu => by
          rw [← hA] at hu
          simp only [List.mem_cons] at hu
          rcases hu with rfl | hu
          · rfl
          · exact bytesL_one _ u hu
        have hAl : A.toList.length = 1 * 65 := by rw [Array.length_toList, hAs]
        obtain ⟨i1, hi, hz0, hz1, hz2⟩ := info_parts Try.infoVd
        have Hhi := Lib.hid hi
        have Hz0 := Lib.hid hz0
        have Hz1 := Lib.hid hz1
        have Hz2 := Lib.hid hz2
        have HS7 := Lib.hid s7
        have HC7 := Lib.hid c7
        have HNW := Lib.hid hnw
        have HA1 := Lib.hid hA1
        have HAl := Lib.hid hAl
        clear hi hz0 hz1 hz2 s7 c7 hnw hA1 hAl hV7 hbt hAb hA q2 kb5 HS5 HC5 hmx
        refine wpListIn_append_own_at rfl _ _ 42 rfl w'.heap.size 96 i1 zD 65 72 Try.underlying42 Hhi.out Hz0.out Hz1.out Hz2.out rfl (by decide) _ _ _ rfl HS7.out.d ⟨Wz.heap.size, 0, none⟩ 1 1 A.toList rfl HAl.out HNW.out HA1.out ?c3 ?c4 HS7.out.hB ?_
        case c3 => unfold maxLen; omega
        case c4 => omega
        intro ud1 W8 hown hgrow hlies
        have hw8 := Wrote.grown0 hgrow hlies
        obtain ⟨da, dc, rfl⟩ := own_shape hown
        obtain ⟨n2, hn2⟩ : ∃ n, (dataL f pl).length + 1 = n := ⟨_, rfl⟩
        have hr8 : W8.ownsRow w'.heap.size 96 65 (.slice da ((dataL f pl).length + 1) dc) (dataL f pl ++ [x]).length (rowD f (dataL f pl ++ [x])) := by
          rw [List.length_append, rowD_snoc]
          have : A.toList = .int .i64 (x : Int) :: bytesL (f x).by' := by rw [← HA.out]
          rw [this] at hown
          exact hown
        have s8 := HS7.out.setD hw8 hr8
        have c8 := (HC7.out.trans (ChgS.wrote HS7.out.d hw8)).trans (ChgS.setN w'.heap.size w1.heap.size 2 W8 (.slice da ((dataL f pl).length + 1) dc))
        have bW8 := box_keep HS7.out.box hw8.keep (fun e => by have := (HS7.out.d.lt _ e).1; have := HS7.out.hN; omega)
        have q8 : W8.cell? ⟨w1.heap.size, 2, none⟩ = some ud := (bW8.cell 2).trans rfl
        have qf8 := bW8.frozen
        rw [hn2] at s8 c8 ⊢
        have HS8 := Lib.hid s8
        have HC8 := Lib.hid c8
        clear hown hgrow hlies hw8 hr8 s8 c8 bW8 hn2 HS7 HC7 HNW HA1 HAl hbA hAs
        gi_wp2_with fail
        refine FIN.out _ HC8.out ?_
        rw [hugeL_no f pl x HHU.out, dataL_yes f pl x HZB.out]
        exact ⟨_, _, _, HS8.out⟩
      · gi_wp2_with fail
        refine FIN.out _ (HC2.out.trans (ChgS.below Bz)) ?_
        rw [hugeL_no f pl x HHU.out, dataL_no f pl x HZB.out]
        exact ⟨_, _, _, HS2.out.later Bz⟩
    | true =>
      rw [hhu] at k1
      obtain ⟨G, hG⟩ : ∃ G, decide (x % 16 = 0) = G := ⟨_, rfl⟩
      rw [hG] at HG
      cases G
      · have HHU : Hid (¬ ((f x).hu = true ∧ x % 16 = 0)) := fun h => (of_decide_eq_false hG) h.2
        clear hhu hG
        gi_wp2_with (first | rw [hW2])
        refine (CallsIn.inRound l (callsIn_wide.2 (HG.out _))).mono ?_
        rintro e Wg ⟨rfl, rfl⟩
        clear HG
        gi_wp2_with (refine wpListIn_load_mid rfl 88 _ rfl P (x * 66 + 2) rfl (bytesL (f x).by') _ kb Try.underlying88 rfl (by kernel_rfl) ?_)
        refine (CallsIn.inRound l (callsIn_wide.2 (HZ.out _))).mono ?_
        rintro e Wz ⟨rfl, Bz⟩
        cases zb
        · have s5 := HS2.out.later Bz
          have c5 := HC2.out.trans (ChgS.below Bz)
          have q2 : Wz.cell? ⟨w1.heap.size, 2, none⟩ = some ud := (s5.box.cell 2).trans rfl
          have kb5 := (hPV.out Wz (HK0.out.trans c5.keep)).bytes x hx
          have hmx := mixed
          have HS5 := Lib.hid s5
          have HC5 := Lib.hid c5
          clear HZ s5 c5
          gi_wp2_with fail
          have hbt := builtD (x : Int) (f x).by'
          obtain ⟨A, hA⟩ : ∃ A, (.int .i64 (x : Int) :: bytesL (f x).by').toArray = A := ⟨_, rfl⟩
          obtain ⟨Ab, hAb⟩ : ∃ A, (bytesL (f x).by').toArray = A := ⟨_, rfl⟩
          have HA := Lib.hid hA
          have hAs : A.size = 65 := by rw [← hA, List.size_toArray, List.length_cons, bytesL_len]
          rw [hA, hAb] at hbt
          refine region_mid 8 #[true, true, true, true, true, true, true, true, true, false, false, false] hmx (by kernel_rfl) (by kernel_rfl) ⟨by kernel_rfl, by kernel_rfl⟩ (by kernel_rfl) (by kernel_rfl) rfl
            (Cb := fun w' => Below Wz.heap.size Wz w') (C0 := fun w' => ∃ n, w' = Wz.drewN n) (C1 := fun w' => ∃ n, w' = (Wz.alloc (.cells A 96)).drewN n) ?hb0 ?hb1 ⟨1, rfl⟩ ?_
          case hb0 => rintro _ ⟨n, rfl⟩; exact ⟨rfl, rfl, rfl, Nat.le_refl _, fun _ _ => rfl⟩
          case hb1 => rintro _ ⟨n, rfl⟩; exact ⟨rfl, rfl, rfl, by simp, fun k hk => Below.heap_alloc _ _ _ hk⟩
          simp only [List.take_succ_cons, List.take_zero, List.drop_succ_cons, List.drop_zero]
          refine ⟨.pointer (some ⟨w1.heap.size, 2, none⟩), ⟨rfl, fun w' hw => ?s0, fun _ => rfl⟩, ?_⟩
          case s0 => rfl
          refine ⟨ud, ⟨rfl, fun w' hw => ?s1, fun _ => rfl⟩, ?_⟩
          case s1 => 
            have hc := cell_later hw q2
            go_simp
          refine ⟨.int .i64 (x : Int), ⟨rfl, fun w' hw => ?s2, fun _ => rfl⟩, ?_⟩
          case s2 => go_simp
          refine ⟨.pointer (some ⟨P, x * 66, none⟩), ⟨rfl, fun w' hw => ?s3, fun _ => rfl⟩, ?_⟩
          case s3 => go_simp
          refine ⟨.pointer (some ⟨P, x * 66, none⟩), ⟨rfl, fun w' hw => ?s4, fun _ => rfl⟩, ?_⟩
          case s4 => go_simp
          refine ⟨.pointer (some ⟨P, x * 66 + 2, none⟩), ⟨rfl, fun w' hw => ?s5, fun _ => rfl⟩, ?_⟩
          case s5 => go_simp
          refine ⟨.agg Ab, ⟨rfl, fun w' hw => ?s6, fun _ => rfl⟩, ?_⟩
          case s6 =>
            rw [← hAb]
            exact exec_load_mid (P := Try.prog) (w := w') 88 _ rfl P (x * 66 + 2) (by kernel_rfl) (bytesL (f x).by') _ (fun i u hu => cell_later hw (kb5 i u hu)) Try.underlying88 rfl (by kernel_rfl)
          refine ⟨.agg A, ⟨rfl, fun w' hw => ?s7, fun _ => rfl⟩, ?_⟩
          case s7 => exact exec_build 96 _ rfl [(0, .int .i64 (x : Int)), (1, .agg Ab)] (by kernel_rfl) A hbt
          refine ⟨.slice (some ⟨Wz.heap.size, 0, none⟩) 1 1, ⟨rfl, fun w' hw => ?s8, fun _ => rfl⟩, ?_⟩
          case s8 => 
            obtain ⟨nq, rfl⟩ := hw
            exact ⟨(Wz.alloc (.cells A 96)).drewN nq, exec_oneD _ rfl (x : Int) (f x).by' A HA.out (by kernel_rfl), nq, rfl⟩
          simp only [Act.put, List.setIfInBounds_toArray, List.set_cons_succ, List.set_cons_zero]
          rintro _ ⟨nq, rfl⟩
          have hbA : Below Wz.heap.size Wz ((Wz.alloc (.cells A 96)).drewN nq) := ⟨rfl, rfl, rfl, by simp, fun k hk => Below.heap_alloc _ _ _ hk⟩
          have hnw : ∀ j u, A.toList[j]? = some u → ((Wz.alloc (.cells A 96)).drewN nq).cell? ((⟨Wz.heap.size, 0, none⟩ : Addr).add j) = some u := cell_new1 Wz A _
          obtain ⟨V7, hV7⟩ : ∃ x, (Wz.alloc (.cells A 96)).drewN nq = x := ⟨_, rfl⟩
          rw [hV7] at hbA hnw ⊢
          have s7 := HS5.out.later hbA
          have c7 := HC5.out.trans (ChgS.below hbA)
          have hA1 : ∀ u ∈ A.toList, u.oneCell' = true := fun u hu => by
            rw [← hA] at hu
            simp only [List.mem_cons] at hu
            rcases hu with rfl | hu
            · rfl
            · exact bytesL_one _ u hu
          have hAl : A.toList.length = 1 * 65 := by rw [Array.length_toList, hAs]
          obtain ⟨i1, hi, hz0, hz1, hz2⟩ := info_parts Try.infoVd
          have Hhi := Lib.hid hi
          have Hz0 := Lib.hid hz0
          have Hz1 := Lib.hid hz1
          have Hz2 := Lib.hid hz2
          have HS7 := Lib.hid s7
          have HC7 := Lib.hid c7
          have HNW := Lib.hid hnw
          have HA1 := Lib.hid hA1
          have HAl := Lib.hid hAl
          clear hi hz0 hz1 hz2 s7 c7 hnw hA1 hAl hV7 hbt hAb hA q2 kb5 HS5 HC5 hmx
          refine wpListIn_append_own_at rfl _ _ 42 rfl w'.heap.size 96 i1 zD 65 72 Try.underlying42 Hhi.out Hz0.out Hz1.out Hz2.out rfl (by decide) _ _ _ rfl HS7.out.d ⟨Wz.heap.size, 0, none⟩ 1 1 A.toList rfl HAl.out HNW.out HA1.out ?c3 ?c4 HS7.out.hB ?_
          case c3 => unfold maxLen; omega
          case c4 => omega
          intro ud1 W8 hown hgrow hlies
          have hw8 := Wrote.grown0 hgrow hlies
          obtain ⟨da, dc, rfl⟩ := own_shape hown
          obtain ⟨n2, hn2⟩ : ∃ n, (dataL f pl).length + 1 = n := ⟨_, rfl⟩
          have hr8 : W8.ownsRow w'.heap.size 96 65 (.slice da ((dataL f pl).length + 1) dc) (dataL f pl ++ [x]).length (rowD f (dataL f pl ++ [x])) := by
            rw [List.length_append, rowD_snoc]
            have : A.toList = .int .i64 (x : Int) :: bytesL (f x).by' := by rw [← HA.out]
            rw [this] at hown
            exact hown
          have s8 := HS7.out.setD hw8 hr8
          have c8 := (HC7.out.trans (ChgS.wrote HS7.out.d hw8)).trans (ChgS.setN w'.heap.size w1.heap.size 2 W8 (.slice da ((dataL f pl).length + 1) dc))
          have bW8 := box_keep HS7.out.box hw8.keep (fun e => by have := (HS7.out.d.lt _ e).1; have := HS7.out.hN; omega)
          have q8 : W8.cell? ⟨w1.heap.size, 2, none⟩ = some ud := (bW8.cell 2).trans rfl
          have qf8 := bW8.frozen
          rw [hn2] at s8 c8 ⊢
          have HS8 := Lib.hid s8
          have HC8 := Lib.hid c8
          clear hown hgrow hlies hw8 hr8 s8 c8 bW8 hn2 HS7 HC7 HNW HA1 HAl hbA hAs
          gi_wp2_with fail
          refine FIN.out _ HC8.out ?_
          rw [hugeL_no f pl x HHU.out, dataL_yes f pl x HZB.out]
          exact ⟨_, _, _, HS8.out⟩
        · gi_wp2_with fail
          refine FIN.out _ (HC2.out.trans (ChgS.below Bz)) ?_
          rw [hugeL_no f pl x HHU.out, dataL_no f pl x HZB.out]
          exact ⟨_, _, _, HS2.out.later Bz⟩
      · have HHU : Hid ((f x).hu = true ∧ x % 16 = 0) := ⟨hhu, of_decide_eq_true hG⟩
        have q1 : W2.cell? ⟨w1.heap.size, 1, none⟩ = some ug := (HS2.out.box.cell 1).trans rfl
        have hz2 : w'.heap.size ≤ W2.heap.size := HS2.out.hB
        obtain ⟨i2, hi, hz0, hz1, hz2'⟩ := info_parts Try.infoIn
        have Hhi := Lib.hid hi
        have Hz0 := Lib.hid hz0
        have Hz1 := Lib.hid hz1
        have Hz2 := Lib.hid hz2'
        have HAG := Lib.hid (HS2.out.g.alloc (.cells #[.int .i64 (x : Int)] 3))
        clear hhu hG kb hi hz0 hz1 hz2'
        gi_wp2_with (first | rw [hW2])
        refine (CallsIn.inRound l (callsIn_wide.2 (HG.out _))).mono ?_
        rintro e Wg ⟨rfl, rfl⟩
        clear HG
        gi_wp2_with (gi_at_builtin; refine wpListIn_append_own_at rfl _ _ 41 rfl w'.heap.size 3 i2 (.int .i64 0) 1 8 Try.underlying41 Hhi.out Hz0.out Hz1.out Hz2.out rfl (by decide) _ _ _ rfl HAG.out ⟨W2.heap.size, 0, none⟩ 1 1 [.int .i64 (x : Int)] rfl rfl ?c1 ?c2 ?c3 ?c4 ?c5 ?_)
        case c1 => exact cell_new1 W2 _ _
        case c2 => intro u hu; simp at hu; subst hu; rfl
        case c3 => unfold maxLen; omega
        case c4 => omega
        case c5 => simp; omega
        intro ug1 W3 hown hgrow hlies
        have hw3 := Wrote.grown hgrow hlies
        obtain ⟨ga, gc, rfl⟩ := own_shape hown
        obtain ⟨n3, hn3⟩ : ∃ n, (hugeL f pl).length + 1 = n := ⟨_, rfl⟩
        have hr3 : W3.ownsRow w'.heap.size 3 1 (.slice ga ((hugeL f pl).length + 1) gc) (hugeL f pl ++ [x]).length (rowI (hugeL f pl ++ [x])) := by
          rw [List.length_append, rowI_snoc]
          exact hown
        have s3 := HS2.out.setG hw3 hr3
        have c3 := (HC2.out.trans (ChgS.wrote HS2.out.g hw3)).trans (ChgS.setN w'.heap.size w1.heap.size 1 W3 (.slice ga ((hugeL f pl).length + 1) gc))
        have bW3 := box_keep HS2.out.box hw3.keep (fun e => by have := (HS2.out.g.lt _ e).1; have := HS2.out.hN; omega)
        have q3 : W3.cell? ⟨w1.heap.size, 1, none⟩ = some ug := (bW3.cell 1).trans rfl
        have qf3 := bW3.frozen
        rw [hn3] at s3 c3 ⊢
        obtain ⟨W4, hW4⟩ : ∃ x, W3.setCell ⟨w1.heap.size, 1, none⟩ (.slice ga n3 gc) = x := ⟨_, rfl⟩
        rw [hW4] at s3 c3
        have kb := (hPV.out W4 (HK0.out.trans c3.keep)).bytes x hx
        have HS3 := Lib.hid s3
        have HC3 := Lib.hid c3
        clear hown hgrow hlies hw3 hr3 s3 c3 bW3 hn3 HS2 HC2 q0 qf q1 HAG hW2 hz2
        gi_wp2_with (first | rw [hW4] | refine wpListIn_load_mid rfl 88 _ rfl P (x * 66 + 2) rfl (bytesL (f x).by') _ kb Try.underlying88 rfl (by kernel_rfl) ?_)
        refine (CallsIn.inRound l (callsIn_wide.2 (HZ.out _))).mono ?_
        rintro e Wz ⟨rfl, Bz⟩
        cases zb
        · have s5 := HS3.out.later Bz
          have c5 := HC3.out.trans (ChgS.below Bz)
          have q2 : Wz.cell? ⟨w1.heap.size, 2, none⟩ = some ud := (s5.box.cell 2).trans rfl
          have kb5 := (hPV.out Wz (HK0.out.trans c5.keep)).bytes x hx
          have hmx := mixed
          have HS5 := Lib.hid s5
          have HC5 := Lib.hid c5
          clear HZ s5 c5
          gi_wp2_with fail
          have hbt := builtD (x : Int) (f x).by'
          obtain ⟨A, hA⟩ : ∃ A, (.int .i64 (x : Int) :: bytesL (f x).by').toArray = A := ⟨_, rfl⟩
          obtain ⟨Ab, hAb⟩ : ∃ A, (bytesL (f x).by').toArray = A := ⟨_, rfl⟩
          have HA := Lib.hid hA
          have hAs : A.size = 65 := by rw [← hA, List.size_toArray, List.length_cons, bytesL_len]
          rw [hA, hAb] at hbt
          refine region_mid 8 #[true, true, true, true, true, true, true, true, true, false, false, false] hmx (by kernel_rfl) (by kernel_rfl) ⟨by kernel_rfl, by kernel_rfl⟩ (by kernel_rfl) (by kernel_rfl) rfl
            (Cb := fun w' => Below Wz.heap.size Wz w') (C0 := fun w' => ∃ n, w' = Wz.drewN n) (C1 := fun w' => ∃ n, w' = (Wz.alloc (.cells A 96)).drewN n) ?hb0 ?hb1 ⟨1, rfl⟩ ?_
          case hb0 => rintro _ ⟨n, rfl⟩; exact ⟨rfl, rfl, rfl, Nat.le_refl _, fun _ _ => rfl⟩
          case hb1 => rintro _ ⟨n, rfl⟩; exact ⟨rfl, rfl, rfl, by simp, fun k hk => Below.heap_alloc _ _ _ hk⟩
          simp only [List.take_succ_cons, List.take_zero, List.drop_succ_cons, List.drop_zero]
          refine ⟨.pointer (some ⟨w1.heap.size, 2, none⟩), ⟨rfl, fun w' hw => ?s0, fun _ => rfl⟩, ?_⟩
          case s0 => rfl
          refine ⟨ud, ⟨rfl, fun w' hw => ?s1, fun _ => rfl⟩, ?_⟩
          case s1 => 
            have hc := cell_later hw q2
            go_simp
          refine ⟨.int .i64 (x : Int), ⟨rfl, fun w' hw => ?s2, fun _ => rfl⟩, ?_⟩
          case s2 => go_simp
          refine ⟨.pointer (some ⟨P, x * 66, none⟩), ⟨rfl, fun w' hw => ?s3, fun _ => rfl⟩, ?_⟩
          case s3 => go_simp
          refine ⟨.pointer (some ⟨P, x * 66, none⟩), ⟨rfl, fun w' hw => ?s4, fun _ => rfl⟩, ?_⟩
          case s4 => go_simp
          refine ⟨.pointer (some ⟨P, x * 66 + 2, none⟩), ⟨rfl, fun w' hw => ?s5, fun _ => rfl⟩, ?_⟩
          case s5 => go_simp
          refine ⟨.agg Ab, ⟨rfl, fun w' hw => ?s6, fun _ => rfl⟩, ?_⟩
          case s6 =>
            rw [← hAb]
            exact exec_load_mid (P := Try.prog) (w := w') 88 _ rfl P (x * 66 + 2) (by kernel_rfl) (bytesL (f x).by') _ (fun i u hu => cell_later hw (kb5 i u hu)) Try.underlying88 rfl (by kernel_rfl)
          refine ⟨.agg A, ⟨rfl, fun w' hw => ?s7, fun _ => rfl⟩, ?_⟩
          case s7 => exact exec_build 96 _ rfl [(0, .int .i64 (x : Int)), (1, .agg Ab)] (by kernel_rfl) A hbt
          refine ⟨.slice (some ⟨Wz.heap.size, 0, none⟩) 1 1, ⟨rfl, fun w' hw => ?s8, fun _ => rfl⟩, ?_⟩
          case s8 => 
            obtain ⟨nq, rfl⟩ := hw
            exact ⟨(Wz.alloc (.cells A 96)).drewN nq, exec_oneD _ rfl (x : Int) (f x).by' A HA.out (by kernel_rfl), nq, rfl⟩
          simp only [Act.put, List.setIfInBounds_toArray, List.set_cons_succ, List.set_cons_zero]
          rintro _ ⟨nq, rfl⟩
          have hbA : Below Wz.heap.size Wz ((Wz.alloc (.cells A 96)).drewN nq) := ⟨rfl, rfl, rfl, by simp, fun k hk => Below.heap_alloc _ _ _ hk⟩
          have hnw : ∀ j u, A.toList[j]? = some u → ((Wz.alloc (.cells A 96)).drewN nq).cell? ((⟨Wz.heap.size, 0, none⟩ : Addr).add j) = some u := cell_new1 Wz A _
          obtain ⟨V7, hV7⟩ : ∃ x, (Wz.alloc (.cells A 96)).drewN nq = x := ⟨_, rfl⟩
          rw [hV7] at hbA hnw ⊢
          have s7 := HS5.out.later hbA
          have c7 := HC5.out.trans (ChgS.below hbA)
          have hA1 : ∀ u ∈ A.toList, u.oneCell' = true := fun u hu => by
            rw [← hA] at hu
            simp only [List.mem_cons] at hu
            rcases hu with rfl | hu
            · rfl
            · exact bytesL_one _ u hu
          have hAl : A.toList.length = 1 * 65 := by rw [Array.length_toList, hAs]
          obtain ⟨i1, hi, hz0, hz1, hz2⟩ := info_parts Try.infoVd
          have Hhi := Lib.hid hi
          have Hz0 := Lib.hid hz0
          have Hz1 := Lib.hid hz1
          have Hz2 := Lib.hid hz2
          have HS7 := Lib.hid s7
          have HC7 := Lib.hid c7
          have HNW := Lib.hid hnw
          have HA1 := Lib.hid hA1
          have HAl := Lib.hid hAl
          clear hi hz0 hz1 hz2 s7 c7 hnw hA1 hAl hV7 hbt hAb hA q2 kb5 HS5 HC5 hmx
          refine wpListIn_append_own_at rfl _ _ 42 rfl w'.heap.size 96 i1 zD 65 72 Try.underlying42 Hhi.out Hz0.out Hz1.out Hz2.out rfl (by decide) _ _ _ rfl HS7.out.d ⟨Wz.heap.size, 0, none⟩ 1 1 A.toList rfl HAl.out HNW.out HA1.out ?c3 ?c4 HS7.out.hB ?_
          case c3 => unfold maxLen; omega
          case c4 => omega
          intro ud1 W8 hown hgrow hlies
          have hw8 := Wrote.grown0 hgrow hlies
          obtain ⟨da, dc, rfl⟩ := own_shape hown
          obtain ⟨n2, hn2⟩ : ∃ n, (dataL f pl).length + 1 = n := ⟨_, rfl⟩
          have hr8 : W8.ownsRow w'.heap.size 96 65 (.slice da ((dataL f pl).length + 1) dc) (dataL f pl ++ [x]).length (rowD f (dataL f pl ++ [x])) := by
            rw [List.length_append, rowD_snoc]
            have : A.toList = .int .i64 (x : Int) :: bytesL (f x).by' := by rw [← HA.out]
            rw [this] at hown
            exact hown
          have s8 := HS7.out.setD hw8 hr8
          have c8 := (HC7.out.trans (ChgS.wrote HS7.out.d hw8)).trans (ChgS.setN w'.heap.size w1.heap.size 2 W8 (.slice da ((dataL f pl).length + 1) dc))
          have bW8 := box_keep HS7.out.box hw8.keep (fun e => by have := (HS7.out.d.lt _ e).1; have := HS7.out.hN; omega)
          have q8 : W8.cell? ⟨w1.heap.size, 2, none⟩ = some ud := (bW8.cell 2).trans rfl
          have qf8 := bW8.frozen
          rw [hn2] at s8 c8 ⊢
          have HS8 := Lib.hid s8
          have HC8 := Lib.hid c8
          clear hown hgrow hlies hw8 hr8 s8 c8 bW8 hn2 HS7 HC7 HNW HA1 HAl hbA hAs
          gi_wp2_with fail
          refine FIN.out _ HC8.out ?_
          rw [hugeL_yes f pl x HHU.out, dataL_yes f pl x HZB.out]
          exact ⟨_, _, _, HS8.out⟩
        · gi_wp2_with fail
          refine FIN.out _ (HC3.out.trans (ChgS.below Bz)) ?_
          rw [hugeL_yes f pl x HHU.out, dataL_no f pl x HZB.out]
          exact ⟨_, _, _, HS3.out.later Bz⟩
  case done =>
    rintro D ys V hD hys ⟨⟨ur, ug, ud, s0⟩, hK0⟩ hK
    rw [hys] at s0
    have hN := s0.hN
    have hRV : VBox V w.heap.size nilS nilS nilS nilS zer zer := (hK0.block w.heap.size HR4b.out.lt (by omega)).trans HR4b.out
    have huV : RAt V u (toI L) := HR4.out.keep hK0 (fun b hb => by have := (hub.out b (obk_own hb)).2; omega)
    have ha := s0.box.all
    have hone2 := vs_one ur ug ud u c h (own_one s0.r) (own_one s0.g) (own_one s0.d) hu1.out
    have hRD : w.heap.size ≠ D := by omega
    have hBV : Below w.heap.size w V := HB4.out.trans (hK0.below w.heap.size HB4.out.size (fun k hk => by have := HB4.out.size; omega))
    have nD : ∀ {e : TypeId} {z n : Nat} {y : Value} {xs : List Value}, V.ownsRow w'.heap.size e z y n xs → ∀ b, y.ownBlock = some b → ¬ (b = w.heap.size ∨ b = D) := fun hx b hb e => by
      rcases e with e | e
      · have := (hx.lt b hb).1; omega
      · subst e; have := own_isCells hx hb hK; cases this
    have HS0 := Lib.hid s0
    have HU0 := Lib.hid huV
    have HBV := Lib.hid hBV
    have HND : Hid ((∀ b, ur.ownBlock = some b → ¬ (b = w.heap.size ∨ b = D)) ∧ (∀ b, ug.ownBlock = some b → ¬ (b = w.heap.size ∨ b = D)) ∧ ∀ b, ud.ownBlock = some b → ¬ (b = w.heap.size ∨ b = D)) := ⟨nD s0.r, nD s0.g, nD s0.d⟩
    clear hys hS hP hr B1 hB4 hb4 hb2 hb1 hb0 bR0 hS0 f0 f1 f2 s0 hK0 huV hBV nD
    gi_wp2_with (first | refine wpListIn_load_mid rfl 47 _ rfl w1.heap.size 0 rfl (vsA ur ug ud u c h).toList _ ha Try.underlying47 rfl (vs_i _ _ _ _ _ _) ?_ | refine wpListIn_store_row rfl 47 _ _ rfl w.heap.size (vsA ur ug ud u c h) rfl rfl 47 _ hRV (vs_i _ _ _ _ _ _) rfl hone2 ?_)
    have bZ := hRV.row ur ug ud u c h
    have cB : Below w.heap.size w (V.setRow w.heap.size (vsA ur ug ud u c h)) := below_row HBV.out _ (Nat.le_refl _) _
    have cK : (V.setRow w.heap.size (vsA ur ug ud u c h)).heap[D]? = some (.deferred (some [])) := (setRow_other V w.heap.size D _ (fun e => hRD e.symm)).trans hK
    have hkr := keep_row V w.heap.size (vsA ur ug ud u c h)
    obtain ⟨V5, hV5⟩ : ∃ x, V.setRow w.heap.size (vsA ur ug ud u c h) = x := ⟨_, rfl⟩
    rw [hV5] at bZ cB cK hkr ⊢
    have g6 : VBox (V5.putObj D (.deferred none)) w.heap.size ur ug ud u c h := (World.putObj_heap_other hRD).trans bZ
    have hld := vs_load g6
    have hkp : Keep (fun b => b = w.heap.size ∨ b = D) V (V5.putObj D (.deferred none)) := (hkr.mono fun k _ e => .inl e).trans ((keep_put V5 D _).mono fun k _ e => .inr e)
    refine ⟨by simp, .inl ⟨D, _, rfl, run_takeDeferred cK, ?_⟩⟩
    refine ⟨vsV ur ug ud u c h, by simp [results, Try.results17, asAddr, Act.put, hld], ur, ug, ud, u, rfl, ⟨?_, ?_, ?_, ?_, fun b hb => by
      have h1 := hub.out b hb
      have h2 := HS0.out.hB
      have h3 := hkp.size
      omega⟩, cB.trans (belowK_b (w := w) (Nat.le_refl _) V5 D _ _ (by omega) cK rfl rfl)⟩
    · exact ownsRow_le' (own_keep HS0.out.r hkp HND.out.1) (by omega)
    · exact ownsRow_le' (own_keep HS0.out.g hkp HND.out.2.1) (by omega)
    · exact ownsRow_le' (own_keep HS0.out.d hkp HND.out.2.2) (by omega)
    · exact HU0.out.keep hkp (fun b hb e => by
        have h1 := hub.out b (obk_own hb)
        omega)
end Go.Proofs.Ytjplihljmohpjaa
