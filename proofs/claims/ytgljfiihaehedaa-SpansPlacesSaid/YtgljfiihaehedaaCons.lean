/- A consumer that gathers what comes in a row of its own: what it changes in a round, and what stays. -/
import Derived.Test.YtgljfiihaehedaaKC
import Derived.Test.YtgljfiihaehedaaRangeW
import Derived.Deep.AppendLies
namespace Go.Proofs.Ytgljfiihaehedaa
open Go.RowKit Go.Shelf

/-- What an iterator may know of its consumer: a state of its own (G), which blocks are none of the consumer's (fr), and what a round does (Kp). -/
structure Cons (G : World → Prop) (fr : World → Nat → Prop) (Kp : World → World → Prop) : Prop where
  gb : ∀ {W W' : World}, Below W.heap.size W W' → G W → G W'
  new : ∀ {W : World} (o : Obj), G W → fr (W.alloc o) W.heap.size
  fb : ∀ {W W' : World} {k : Nat}, Below W.heap.size W W' → k < W.heap.size → G W → fr W k → fr W' k
  kg : ∀ {W W' : World}, G W → Kp W W' → G W'
  kf : ∀ {W W' : World} {k : Nat} {o : Obj}, G W → Kp W W' → fr W k → W.heap[k]? = some o → o.isCells = true → W'.heap[k]? = some o ∧ fr W' k
theorem Cons.kc {G : World → Prop} {fr : World → Nat → Prop} {Kp : World → World → Prop} (h : Cons G fr Kp) {W W' : World} (g : G W) (k : Kp W W') : KC (fr W) W W' := fun _ _ hp h1 h2 => (h.kf g k hp h1 h2).1

def cG (OB : Nat) (T : TypeId) (W : World) : Prop := ∃ u, Boxed W OB T u ∧ ∀ g, u.ownBlock = some g → g < W.heap.size
def cF (OB : Nat) (T : TypeId) (W : World) (k : Nat) : Prop := k ≠ OB ∧ ∀ u, Boxed W OB T u → u.ownBlock ≠ some k
def cK (OB : Nat) (T : TypeId) (A C : World) : Prop := cG OB T A → cG OB T C ∧ A.heap.size ≤ C.heap.size ∧ (∀ u u', Boxed A OB T u → Boxed C OB T u' → u'.ownBlock = u.ownBlock ∨ ∀ g, u'.ownBlock = some g → A.heap.size ≤ g) ∧ (∀ k o, cF OB T A k → A.heap[k]? = some o → o.isCells = true → C.heap[k]? = some o)
theorem boxed_inj {W : World} {k : Nat} {t : TypeId} {u v : Value} (h : Boxed W k t u) (h2 : Boxed W k t v) : u = v := by
  unfold Boxed at h h2; rw [h] at h2; simpa using h2
theorem cG_below {OB : Nat} {T : TypeId} {A C : World} (hb : Below A.heap.size A C) (h : cG OB T A) : cG OB T C := by
  obtain ⟨u, h1, h2⟩ := h
  exact ⟨u, h1.kept (grown_of_below hb) (by simp), fun g hg => Nat.lt_of_lt_of_le (h2 g hg) hb.size⟩
theorem cF_below {OB : Nat} {T : TypeId} {A C : World} {k : Nat} (hb : Below A.heap.size A C) (hg : cG OB T A) (h : cF OB T A k) : cF OB T C k := by
  obtain ⟨u, h1, h2⟩ := hg
  refine ⟨h.1, fun v hv => ?_⟩
  rw [boxed_inj hv (h1.kept (grown_of_below hb) (by simp))]
  exact h.2 u h1
theorem cK_frame {OB : Nat} {T : TypeId} {A C : World} {k : Nat} (hg : cG OB T A) (hk : cK OB T A C) (hl : k < A.heap.size) (h : cF OB T A k) : cF OB T C k := by
  obtain ⟨⟨u', h1, _⟩, hs, ho, _⟩ := hk hg
  obtain ⟨u, h2, _⟩ := hg
  refine ⟨h.1, fun v hv => ?_⟩
  rw [boxed_inj hv h1]
  rcases ho u u' h2 h1 with he | he
  · rw [he]; exact h.2 u h2
  · intro e; have := he k e; omega
theorem cK_trans {OB : Nat} {T : TypeId} {A B C : World} (h : cK OB T A B) (h2 : cK OB T B C) : cK OB T A C := fun hg => by
  obtain ⟨g1, s1, o1, k1⟩ := h hg
  obtain ⟨g2, s2, o2, k2⟩ := h2 g1
  refine ⟨g2, Nat.le_trans s1 s2, fun u u' hu hu' => ?_, fun k o hk h3 h4 => k2 k o (cK_frame hg h (Array.getElem?_eq_some_iff.1 h3).1 hk) (k1 k o hk h3 h4) h4⟩
  obtain ⟨m, hm, _⟩ := g1
  rcases o2 m u' hm hu' with he | he
  · rcases o1 u m hu hm with h5 | h5
    · exact .inl (he.trans h5)
    · exact .inr (by rw [he]; exact h5)
  · exact .inr fun g hg => Nat.le_trans s1 (he g hg)
theorem cK_below {OB : Nat} {T : TypeId} {A C : World} (hb : Below A.heap.size A C) : cK OB T A C := fun hg =>
  ⟨cG_below hb hg, hb.size, fun u u' hu hu' => .inl (by rw [boxed_inj hu' (hu.kept (grown_of_below hb) (by simp))]), fun k o _ h1 _ => (hb.block k (Array.getElem?_eq_some_iff.1 h1).1).trans h1⟩
theorem cK_putObj {OB : Nat} {T : TypeId} (W : World) (k : Nat) (o o' : Obj) (h : W.heap[k]? = some o) (hc : o.isCells = false) : cK OB T W (W.putObj k o') := by
  rintro ⟨u, h1, h2⟩
  have hne : OB ≠ k := by
    rintro rfl
    unfold Boxed at h1
    rw [h] at h1; cases h1; cases hc
  have hz : (W.putObj k o').heap.size = W.heap.size := by simp [World.putObj]
  have h3 : Boxed (W.putObj k o') OB T u := by unfold Boxed at h1 ⊢; exact (World.putObj_heap_other (by omega)).trans h1
  exact ⟨⟨u, h3, fun g hg => by rw [hz]; exact h2 g hg⟩, by omega, fun a b ha hb => .inl (by rw [boxed_inj ha h1, boxed_inj hb h3]), fun j q _ hj hq => KC.putObj (p := fun _ => True) W k o o' h hc j q trivial hj hq⟩
theorem cons_c (OB : Nat) (T : TypeId) : Cons (cG OB T) (cF OB T) (cK OB T) where
  gb := cG_below
  new := fun {W} o ⟨u, h1, h2⟩ => by
    refine ⟨by have := h1.lt; omega, fun v hv => ?_⟩
    rw [boxed_inj hv (h1.alloc o)]
    intro e; have := h2 _ e; omega
  fb := fun hb _ hg h => cF_below hb hg h
  kg := fun hg hk => (hk hg).1
  kf := fun hg hk hf h1 h2 => ⟨(hk hg).2.2.2 _ _ hf h1 h2, cK_frame hg hk (Array.getElem?_eq_some_iff.1 h1).1 hf⟩
theorem cK_append {A w1 : World} {OB : Nat} {T e : TypeId} {n0 size k m g cap : Nat} {v : Value} {xs ys : List Value} {tmp : Obj}
    (hv : Boxed A OB T v) (hte : T ≠ e) (hrow : A.ownsRow n0 e size v k xs) (hn0 : n0 ≤ A.heap.size) (hB : n0 ≤ OB) (hown' : w1.ownsRow n0 e size (.slice (some ⟨g, 0, none⟩) m cap) m ys) (hgrow : (A.alloc tmp).grownBy w1 v.ownBlock)
    (hl : v.ownBlock = some g ∨ A.heap.size ≤ g) (hg : g < w1.heap.size) : cK OB T A (w1.setCell ⟨OB, 0, none⟩ (.slice (some ⟨g, 0, none⟩) m cap)) := fun _ => by
  obtain ⟨_, a2, _, a4, _⟩ := hv.appended hte hrow hn0 hB hown' hgrow
  refine ⟨⟨_, a2, fun x hx => ?_⟩, a4.size, fun a b ha hb => ?_, fun j q hf hj hq => ?_⟩
  · simp [Value.ownBlock] at hx; subst hx
    exact Nat.lt_of_lt_of_le hg (KeepsWalks.setCell w1 _ _).size
  · rw [boxed_inj hb a2, boxed_inj ha hv]
    rcases hl with h1 | h1
    · exact .inl (by rw [h1]; rfl)
    · right; intro x hx; simp [Value.ownBlock] at hx; omega
  · have h1 : j < A.heap.size := (Array.getElem?_eq_some_iff.1 hj).1
    refine (Below.heap_setCell _ _ _ _ (fun e2 => hf.1 e2)).trans ?_
    refine (hgrow.block j (by simp; omega) (fun e2 => hf.2 v hv e2.symm)).trans ?_
    exact (Below.heap_alloc A tmp j h1).trans hj
theorem SAt.own_cells {W : World} {v : Value} {l : List SpI} (h : SAt W v l) (hne : l ≠ []) (k : Nat) (hk : v.ownBlock = some k) : ∃ o, W.heap[k]? = some o ∧ o.isCells = true := by
  rcases h with ⟨_, h⟩ | ⟨b, off, cap, rfl, h1, h2, hc⟩
  · exact absurd h hne
  · simp [Value.ownBlock] at hk
    subst hk
    cases l with
    | nil => exact absurd rfl hne
    | cons a r => exact cells_of_cell (hc 0 a rfl).1
theorem wpListIn_append_lies {F : Fence} {n : Nat} {P : Program} (w : World) {ops : Array Oper} {rest : List Oper} {o : Oper} {a : Act} {Q : Exit → Act → World → Prop}
    (hg : o.guard = none) (s x : Operand) (t : TypeId) (hop : o.op = Op.call { callee := Callee.builtin Builtin.append, args := #[s, x], argTypes := #[t, t] })
    (base : Nat) (e : TypeId) (i : TypeInfo) (z : Value) (size bytes : Nat) (h1 : P.underlying t = some (.slice e)) (h2 : P.info? e = some i) (h3 : i.zero = some z) (h4 : i.size = size) (h5 : i.bytes = bytes) (h6 : z.cells.size = size) (h7 : 0 < size)
    (v : Value) (k : Nat) (xs : List Value) (hs : a.eval s = v) (hown : w.ownsRow base e size v k xs) (ad : Addr) (m c : Nat) (news : List Value) (hx : a.eval x = .slice (some ad) m c) (hn : news.length = m * size)
    (hc : ∀ j u, news[j]? = some u → w.cell? (ad.add j) = some u) (h1c : ∀ u ∈ news, u.oneCell' = true) (hm : 0 < m) (b1 : k + m ≤ maxLen) (b2 : (k + m) * bytes ≤ 140737488355328) (b3 : base ≤ w.heap.size) (H : Nat) (hH : w.heap.size = H)
    (hK : ∀ g cap w', w'.ownsRow base e size (.slice (some ⟨g, 0, none⟩) (k + m) cap) (k + m) (xs ++ news) → w.grownBy w' v.ownBlock → (v.ownBlock = some g ∨ g = H) → g < w'.heap.size → wpListIn F n P ops Q rest (a.put o.dst (.slice (some ⟨g, 0, none⟩) (k + m) cap)) w') :
    wpListIn F n P ops Q (o :: rest) a w := by
  refine wpListIn_plain hg fun K hK' => ?_
  obtain ⟨g, cap, w', hrun, r1, r2, r3, r4⟩ := run_append_lies (P := P) w t o.type base e i z size bytes h1 h2 h3 h4 h5 h6 h7 v k xs hown ad m c news hn hc h1c hm b1 b2 b3 H hH
  unfold Oper.wpIn
  refine ⟨?_, ?_⟩
  · simp [Oper.about, hop, resolve, Target.leads, Sem.run_pure]
  · rw [Oper.semAt_plain F _ _ (by rw [hop]; intro c hc'; cases hc')]
    simp [execOp, hop, resolve, invoke, builtin, hs, hx, hrun, Result.andThen]
    exact hK' _ _ (hK g cap w' r1 r2 r3 r4)
end Go.Proofs.Ytgljfiihaehedaa
