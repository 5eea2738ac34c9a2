/- The canonical expression: the loop over the rests, the shortest rest first. -/
import Derived.Test.YtdcgfbebeiheiaaGreatDoorItems
import Derived.Test.YtdcgfbebeiheiaaGreatDoorItem
import Derived.Sort.LoopGhostIn
import Derived.RangeFuncNested
namespace Go.Proofs.YtdcgfbebeiheiaaGreatDoor
open Go.RowKit Go.Shelf
attribute [local go_sem] Oper.semAt_some

theorem before_A (a b : BA) (w : World) :
    Calls Tryz.prog 48 #[.string a, .string b] w fun e w' => e = .returned (.bool (beforeA a b)) ∧ w = w' := by
  have : beforeA a b = beforeB a.data.toList b.data.toList := by unfold beforeA beforeB; rw [Lib.size_eq, Lib.size_eq, Lib.toList_data, Lib.toList_data]
  rw [this]
  exact before_any a b w
theorem itemsAt_any (n : Nat) (a : Option Addr) (len cap : Nat) (w : World) :
    CallsIn Fence.wide n Tryz.prog 47 #[.slice a len cap] w fun e w' => e = .returned (.func (.func 69) #[] #[.pointer (some ⟨w.heap.size, 0, none⟩)]) ∧ w.alloc (.cells #[.slice a len cap] 22) = w' := by
  refine callsIn_of_wp Tryz.func47 rfl trivial ?_ rfl
  simp only [Tryz.ntmps47, List.size_toArray, List.length_cons, List.length_nil, Nat.reduceAdd, Nat.reduceSub, Array.replicate_succ, Array.replicate_zero, List.push_toArray, List.append_toArray, List.nil_append, List.cons_append]
  gi_wp2
  go_ret
  exact ⟨rfl, rfl⟩

theorem items_stops (n : Nat) (hn : 1 ≤ n) (Bs Bb b off cap : Nat) (zs : List Int) (hl1 : 1 ≤ zs.length) (hlen : zs.length ≤ 500)
    (hz : ∀ j : Nat, 0 ≤ zs[j]?.getD 0 ∧ zs[j]?.getD 0 ≤ 9999) (h9 : GB Bb) (hbb : b ≠ Bb) (hBs : Bs ≠ Bb) (w : World) (hgd : Gd w)
    (hc0 : w.cell? ⟨Bs, 0, none⟩ = some (.slice (some ⟨b, off, none⟩) zs.length cap)) (hc : ∀ j : Nat, j < zs.length → w.cell? ⟨b, off + j, none⟩ = some (.int .i64 (zs[j]?.getD 0))) :
    SeqStopsK Fence.wide n Tryz.prog 69 #[.pointer (some ⟨Bs, 0, none⟩)] (itE zs) (KpBut Bb) (fun ys => ys.map Subtype.val = itemsL zs) (fun _ => True) 2000 w := by
  intro l J Jx W hW hJ _ hY h0
  exact itemsAt1_in n hn l Bs Bb b off cap zs hl1 hlen hz h9 hbb hBs J Jx W (hgd.later hW) hJ hY (cell_later hW hc0) (fun j hj => cell_later hW (hc j hj)) h0

theorem Tryz.infoStr : (Tryz.prog.info? 9).map (fun i => (i.zero, i.size, i.bytes)) = some (some (.string ⟨#[]⟩), 1, 16) := by kernel_rfl
def markOf (D : Nat) : Deferred := { target := .collected D, args := #[] }
def strV (s : BA) : Value := .string s
/-- The row of best texts when the rests from k on are done. -/
def rowA (zs : List Int) (k : Nat) : List Value := List.replicate k (strV ⟨#[]⟩) ++ (bestsA (zs.drop k)).map strV
/-- At the head of the loop: k rests are still to come. -/
def HeadA (w : World) (zs : List Int) (Bb B3 B4 k : Nat) (Ds : List Nat) (W : World) : Prop :=
  k ≤ zs.length ∧ W.ownsRow w.heap.size 9 1 (.slice (some ⟨Bb, 0, none⟩) (zs.length + 1) (zs.length + 1)) (zs.length + 1) (rowA zs k) ∧
  W.cell? ⟨B3, 0, none⟩ = some (.slice (some ⟨Bb, 0, none⟩) (zs.length + 1) (zs.length + 1)) ∧ W.cell? ⟨B4, 0, none⟩ = some (.int .i64 ((k : Int) - 1)) ∧ B3 ≠ Bb ∧ B4 ≠ Bb ∧ w.heap.size ≤ Bb ∧
  Ds.Nodup ∧ (∀ D ∈ Ds, w.heap.size ≤ D ∧ W.heap[D]? = some (.deferred (some []))) ∧ Below w.heap.size w W
/-- The row while the rest from k on is being done: the best text so far is cur. -/
def rowB (zs : List Int) (k : Nat) (cur : BA) : List Value := List.replicate k (strV ⟨#[]⟩) ++ strV cur :: (bestsA (zs.drop (k + 1))).map strV
def restA (zs : List Int) (k c : Nat) : BA := (bestsA (zs.drop (k + 1))).getD (c - 1) ⟨#[]⟩
def curA (zs : List Int) (k : Nat) (l : List (BA × Nat)) : BA := l.foldl (stepA (restA zs k)) ⟨#[]⟩
theorem curA_snoc (zs : List Int) (k : Nat) (l : List (BA × Nat)) (x : BA × Nat) : curA zs k (l ++ [x]) = stepA (restA zs k) (curA zs k l) x := by simp [curA]
theorem rowB_start (zs : List Int) (k : Nat) : rowA zs (k + 1) = rowB zs k ⟨#[]⟩ := by unfold rowA rowB; simp [List.replicate_succ']
theorem drop_cons (zs : List Int) (k : Nat) (h : k < zs.length) : ∃ z, zs.drop k = z :: zs.drop (k + 1) := ⟨zs[k], by rw [List.drop_eq_getElem_cons h]⟩
theorem rowB_end (zs : List Int) (k : Nat) (h : k < zs.length) : rowB zs k (curA zs k (itemsL (zs.drop k))) = rowA zs k := by
  obtain ⟨z, hz⟩ := drop_cons zs k h
  unfold rowA rowB curA restA
  rw [hz]
  simp [bestsA]
theorem rowB_cur (zs : List Int) (k : Nat) (cur : BA) : (rowB zs k cur)[k]? = some (strV cur) := by unfold rowB; simp
theorem rowB_rest (zs : List Int) (k c : Nat) (cur : BA) (h1 : 1 ≤ c) (h2 : c ≤ zs.length - k) (h3 : k < zs.length) : (rowB zs k cur)[k + c]? = some (strV (restA zs k c)) := by
  unfold rowB restA
  have hl := bestsA_length (zs.drop (k + 1))
  have hlt : c - 1 < (bestsA (zs.drop (k + 1))).length := by rw [hl, List.length_drop]; omega
  rw [List.getElem?_append_right (by simp)]
  simp only [List.length_replicate]
  rw [show k + c - k = (c - 1) + 1 from by omega, List.getElem?_cons_succ]
  simp [hlt]
theorem rowB_set (zs : List Int) (k : Nat) (cur t : BA) : (rowB zs k cur).set k (strV t) = rowB zs k t := by
  unfold rowB
  rw [List.set_append_right _ _ (by simp)]
  simp
theorem stepA_size {best : Nat → BA} {M : Nat} (hb : ∀ c, (best c).size ≤ M) {cur : BA} (hc : cur.size ≤ M + 44) {it : BA × Nat} (hi : it.1.size ≤ 43) : (stepA best cur it).size ≤ M + 44 := by
  have h : (candA (best it.2) it.1).size ≤ M + 44 := by
    unfold candA
    have := hb it.2
    split
    · omega
    · simp only [ByteArray.size_append]; have : (⟨#[44]⟩ : BA).size = 1 := rfl; omega
  unfold stepA
  split <;> omega
theorem fold_size {best : Nat → BA} {M : Nat} (hb : ∀ c, (best c).size ≤ M) : ∀ (l : List (BA × Nat)) (cur : BA), cur.size ≤ M + 44 → (∀ x ∈ l, x.1.size ≤ 43) → (l.foldl (stepA best) cur).size ≤ M + 44
  | [], _, hc, _ => hc
  | x :: l, _, hc, hx => fold_size hb l _ (stepA_size hb hc (hx x List.mem_cons_self)) (fun y hy => hx y (List.mem_cons_of_mem _ hy))
theorem upT_size (a b : Int) (ha : -9223372036854775808 ≤ a ∧ a ≤ 9223372036854775807) (hb : -9223372036854775808 ≤ b ∧ b ≤ 9223372036854775807) : (upT a b).size ≤ 43 := by
  unfold upT
  have := numS_size a ha.1 ha.2
  have := numS_size b hb.1 hb.2
  simp only [ByteArray.size_append]
  have : (⟨#[45]⟩ : BA).size = 1 := rfl
  omega
theorem repT_size (a : Int) (n : Nat) (ha : -9223372036854775808 ≤ a ∧ a ≤ 9223372036854775807) (hn : n ≤ 1000) : (repT a n).size ≤ 43 := by
  unfold repT
  have := numS_size a ha.1 ha.2
  have := numS_size (n : Int) (by omega) (by omega)
  simp only [ByteArray.size_append]
  have : (⟨#[120]⟩ : BA).size = 1 := rfl
  omega
def Small (l : List Int) : Prop := l.length ≤ 500 ∧ ∀ j : Nat, 0 ≤ l[j]?.getD 0 ∧ l[j]?.getD 0 ≤ 9999
theorem Small.drop {l : List Int} (h : Small l) (k : Nat) : Small (l.drop k) := ⟨by rw [List.length_drop]; have := h.1; omega, fun j => by rw [List.getElem?_drop]; exact h.2 _⟩
theorem upsF_size {l : List Int} (h : Small l) : ∀ (f n : Nat), ∀ x ∈ upsF l n f, x.1.size ≤ 43
  | 0, n, x, hx => by cases hx
  | f + 1, n, x, hx => by
    rw [upsF] at hx
    split at hx
    · rcases List.mem_cons.1 hx with rfl | hx
      · exact upT_size _ _ (by have := h.2 0; omega) (by have := h.2 (n - 1); omega)
      · exact upsF_size h f _ x hx
    · cases hx
theorem repsF_size {l : List Int} (h : Small l) : ∀ (f n : Nat), ∀ x ∈ repsF l n f, x.1.size ≤ 43
  | 0, n, x, hx => by cases hx
  | f + 1, n, x, hx => by
    rw [repsF] at hx
    split at hx
    next hc =>
      rcases List.mem_cons.1 hx with rfl | hx
      · exact repT_size _ _ (by have := h.2 0; omega) (by have := h.1; omega)
      · exact repsF_size h f _ x hx
    · cases hx
theorem itemsL_size {l : List Int} (h : Small l) : ∀ x ∈ itemsL l, x.1.size ≤ 43 := by
  intro x hx
  unfold itemsL at hx
  rcases List.mem_cons.1 hx with rfl | hx
  · have := numS_size (l[0]?.getD 0) (by have := h.2 0; omega) (by have := h.2 0; omega); show (numS _).size ≤ 43; omega
  · rcases List.mem_append.1 hx with hx | hx
    · exact upsF_size h _ _ x hx
    · exact repsF_size h _ _ x hx
theorem getD_size {l : List BA} {M : Nat} (h : ∀ s ∈ l, s.size ≤ M) (c : Nat) : (l.getD c ⟨#[]⟩).size ≤ M := by
  by_cases hc : c < l.length
  · rw [List.getD_eq_getElem?_getD, List.getElem?_eq_getElem hc]; exact h _ (List.getElem_mem hc)
  · rw [List.getD_eq_getElem?_getD, List.getElem?_eq_none (by omega)]; exact Nat.zero_le _
theorem bestsA_size : ∀ (l : List Int), Small l → ∀ s ∈ bestsA l, s.size ≤ 44 * l.length
  | [], _, s, hs => by simp [bestsA] at hs; subst hs; exact Nat.le_refl _
  | z :: zs, h, s, hs => by
    have h' : Small zs := by have := h.drop 1; simpa using this
    have ih := bestsA_size zs h'
    rw [bestsA] at hs
    rcases List.mem_cons.1 hs with rfl | hs
    · have := fold_size (best := fun c => (bestsA zs).getD (c - 1) ⟨#[]⟩) (M := 44 * zs.length) (fun c => getD_size ih _) (itemsL (z :: zs)) ⟨#[]⟩ (Nat.zero_le _) (itemsL_size h)
      simp only [List.length_cons]; omega
    · have := ih s hs; simp only [List.length_cons]; omega
/-- Between two rounds over the items. -/
def IB (w : World) (zs : List Int) (Bb B3 B4 k : Nat) (Ds : List Nat) (pre : List (It (zs.drop k))) (W : World) : Prop :=
  W.ownsRow w.heap.size 9 1 (.slice (some ⟨Bb, 0, none⟩) (zs.length + 1) (zs.length + 1)) (zs.length + 1) (rowB zs k (curA zs k (pre.map Subtype.val))) ∧
  W.cell? ⟨B3, 0, none⟩ = some (.slice (some ⟨Bb, 0, none⟩) (zs.length + 1) (zs.length + 1)) ∧ W.cell? ⟨B4, 0, none⟩ = some (.int .i64 (k : Int)) ∧
  (∀ D ∈ Ds, w.heap.size ≤ D ∧ W.heap[D]? = some (.deferred (some []))) ∧ Below w.heap.size w W
theorem ownsRow_ne {W : World} {base : Nat} {e : TypeId} {size n cap g : Nat} {xs : List Value} (h : W.ownsRow base e size (.slice (some ⟨g, 0, none⟩) n cap) n xs) : ∃ o, W.heap[g]? = some o ∧ o.isCells = true := by
  obtain ⟨_, ⟨h, _⟩ | ⟨g', cap', cur, h, _, h3, _⟩⟩ := h
  · cases h
  · cases h; exact ⟨_, h3, rfl⟩
theorem KpBut.setCell (Bb k : Nat) (V : World) (u : Value) : KpBut Bb V (V.setCell ⟨Bb, k, none⟩ u) := fun _ _ ho _ hne => (Below.heap_setCell _ _ _ _ hne).trans ho
theorem KpBut.putObj {Bb : Nat} {V : World} {l : Nat} {o o' : Obj} (hl : V.heap[l]? = some o) (ho : o.isCells = false) : KpBut Bb V (V.putObj l o') := by
  intro i o2 h2 hc2 _
  refine (World.putObj_heap_other ?_).trans h2
  intro e; subst e
  rw [hl] at h2; cases h2; rw [ho] at hc2; cases hc2
theorem IB_step {w : World} {zs : List Int} {Bb B3 B4 k : Nat} {Ds : List Nat} {pre : List (It (zs.drop k))} {x : It (zs.drop k)} {W : World} (h : IB w zs Bb B3 B4 k Ds pre W) (h3 : B3 ≠ Bb) (h4 : B4 ≠ Bb) (hBb : w.heap.size ≤ Bb) (T : BA) (hT : stepA (restA zs k) (curA zs k (pre.map Subtype.val)) x.1 = T) :
    IB w zs Bb B3 B4 k Ds (pre ++ [x]) (W.setCell ⟨Bb, k, none⟩ (.string T)) ∧ (T = curA zs k (pre.map Subtype.val) → IB w zs Bb B3 B4 k Ds (pre ++ [x]) W) := by
  obtain ⟨h1, h2, h3', h4', h5⟩ := h
  have hc : curA zs k ((pre ++ [x]).map Subtype.val) = T := by rw [List.map_append, List.map_singleton, curA_snoc, hT]
  have hD : ∀ D ∈ Ds, D ≠ Bb := by
    intro D hd e
    obtain ⟨o, ho, hc⟩ := ownsRow_ne h1
    have := (h4' D hd).2
    rw [e, ho] at this
    cases this
    cases hc
  refine ⟨⟨?_, ?_, ?_, fun D hd => ⟨(h4' D hd).1, ?_⟩, h5.setCell hBb _⟩, fun e => ⟨?_, h2, h3', h4', h5⟩⟩
  · rw [hc, ← rowB_set zs k (curA zs k (pre.map Subtype.val)) T]
    exact (h1.stored k (strV T)).1
  · rw [World.cell?_setCell_far _ _ _ _ (by simpa using h3.symm)]; exact h2
  · rw [World.cell?_setCell_far _ _ _ _ (by simpa using h4.symm)]; exact h3'
  · rw [Below.heap_setCell _ _ _ _ (hD D hd)]; exact (h4' D hd).2
  · rw [hc, e]; exact h1
theorem IB_own (w : World) (zs : List Int) (Bb B3 B4 k : Nat) (Ds : List Nat) (B : Nat) (hB : w.heap.size ≤ B) (hD : ∀ D ∈ Ds, D < B) : OwnFrom B (IB w zs Bb B3 B4 k Ds) := by
  rintro s X Y row ⟨h1, h2, h3, h4, h5⟩ hg hr
  refine ⟨h1.kept hg (.inr ?_), cell_kept h2 hg (fun r e => (hr r e).2), cell_kept h3 hg (fun r e => (hr r e).2), fun D hd => ⟨(h4 D hd).1, ?_⟩, h5.grown hg h5.size (fun r e => Nat.le_trans hB (hr r e).1)⟩
  · intro e
    obtain ⟨o, ho, hc⟩ := ownsRow_ne h1
    obtain ⟨o', ho', hc'⟩ := (hr Bb e.symm).2
    rw [ho] at ho'; cases ho'; rw [hc] at hc'; cases hc'
  · refine (hg.block D (Array.getElem?_eq_some_iff.1 (h4 D hd).2).1 ?_).trans (h4 D hd).2
    intro e
    have := (hr D e.symm).1
    have := hD D hd
    omega
def IA (w : World) (zs : List Int) (b off cap Bb B3 : Nat) (m : Nat) (a : Act) (W : World) : Prop :=
  ∃ (B4 : Nat) (Ds : List Nat) (u5 u6 u7 u8 u9 u10 u11 u12 u13 u14 u15 u16 u17 u18 u19 u20 u21 u22 u23 u24 u25 u26 u27 u28 u29 u30 u31 u32 u33 u34 u35 u36 u37 u38 u39 u40 u41 u42 u43 u44 u45 u46 u47 u48 u49 u50 u51 u52 u53 u54 u55 u56 u57 : Value), HeadA w zs Bb B3 B4 m Ds W ∧ a = { tmps := #[.slice (some ⟨b, off, none⟩) zs.length cap, undef, .string ⟨#[]⟩, .pointer (some ⟨B3, 0, none⟩), .pointer (some ⟨B4, 0, none⟩), u5, u6, u7, u8, u9, u10, u11, u12, u13, u14, u15, u16, u17, u18, u19, u20, u21, u22, u23, u24, u25, u26, u27, u28, u29, u30, u31, u32, u33, u34, u35, u36, u37, u38, u39, u40, u41, u42, u43, u44, u45, u46, u47, u48, u49, u50, u51, u52, u53, u54, u55, u56, u57], defers := Ds.map markOf }
theorem rowA_start (zs : List Int) : rowA zs zs.length = (madeCells (Value.string ⟨#[]⟩).cells ((zs.length + 1) * 1)).toList := by
  unfold rowA madeCells
  have hf : (fun x => [Value.string ⟨#[]⟩][x % 1]?.getD default) = fun _ : Nat => Value.string ⟨#[]⟩ := funext fun x => by simp [Nat.mod_one]
  simp [bestsA, strV, Value.cells, hf, List.map_const', List.replicate_succ']
theorem rowA_zero (zs : List Int) : (rowA zs 0)[0]? = some (.string (canonA zs)) := by
  unfold rowA canonA
  have := bestsA_length zs
  cases h : bestsA zs with
  | nil => rw [h] at this; simp at this
  | cons x l => simp [strV, h]

/-- The blocks for the rounds' deferred calls are taken up, one by one, at the function's return. -/
theorem leaves_marks {F : Fence} {n : Nat} {P : Program} {fn : Func} {tmps : Array Value} {R : Ending → World → Prop} (n0 : Nat) : ∀ (Ds : List Nat) (W : World), Ds.Nodup →
    (∀ D ∈ Ds, n0 ≤ D ∧ W.heap[D]? = some (.deferred (some []))) → (∀ W', (∀ k, k ∉ Ds → W'.heap[k]? = W.heap[k]?) → Below n0 W W' → LeavesInM F n P fn tmps R [] .returning W') → LeavesInM F n P fn tmps R (Ds.map markOf) .returning W
  | [], W, _, _, h => h W (fun _ _ => rfl) (Below.refl _ _)
  | D :: Ds, W, hnd, hD, h => by
    have hD0 := hD D List.mem_cons_self
    have hnd' := List.nodup_cons.1 hnd
    refine ⟨by simp, .inl ⟨D, _, rfl, run_takeDeferred hD0.2, ?_⟩⟩
    refine leaves_marks n0 Ds _ hnd'.2 (fun D' hD' => ?_) (fun W' hk hb => h W' (fun k hk' => ?_) ?_)
    · have := hD D' (List.mem_cons_of_mem _ hD')
      exact ⟨this.1, (World.putObj_heap_other (by intro e; subst e; exact hnd'.1 hD')).trans this.2⟩
    · rw [hk k (fun h => hk' (List.mem_cons_of_mem _ h)), World.putObj_heap_other (by intro e; subst e; exact hk' List.mem_cons_self)]
    · exact ((Below.refl n0 W).grown (grownBy_putObj' W D _) (Nat.le_trans hD0.1 (Nat.le_of_lt (Array.getElem?_eq_some_iff.1 hD0.2).1)) (fun k e => by cases e; exact hD0.1)).trans hb

set_option maxRecDepth 100000 in
set_option maxHeartbeats 4000000 in
theorem canonical_any (b off cap : Nat) (zs : List Int) (hlen : zs.length ≤ 500) (hcap : zs.length ≤ cap) (hcap2 : cap ≤ maxLen) (hz : ∀ j : Nat, 0 ≤ zs[j]?.getD 0 ∧ zs[j]?.getD 0 ≤ 9999) (w : World) (hgd : Gd w)
    (hc : ∀ j : Nat, j < zs.length → w.cell? ⟨b, off + j, none⟩ = some (.int .i64 (zs[j]?.getD 0))) :
    Calls Tryz.prog 22 #[.slice (some ⟨b, off, none⟩) zs.length cap] w fun e w' => e = .returned (.string (canonA zs)) ∧ Below w.heap.size w w' := by
  refine (callsIn_wide (n := 3)).1 ?_
  refine callsIn_of_wp_marks Tryz.func22 rfl trivial ?_ rfl
  simp only [Tryz.ntmps22, List.size_toArray, List.length_cons, List.length_nil, Nat.reduceAdd, Nat.reduceSub, Array.replicate_succ, Array.replicate_zero, List.push_toArray, List.append_toArray, List.nil_append, List.cons_append]
  obtain ⟨i0, hi, hz0, hz1, hz2⟩ := info_parts Tryz.infoStr
  obtain ⟨w1, hmk, hown, hgr⟩ := run_make_full (P := Tryz.prog) (w := w) w.heap.size 45 9 i0 _ 1 Tryz.underlying45 hi hz0 hz1 .i64 .i64 (zs.length + 1) (by rw [hz2]; omega) (by unfold maxLen; omega) (Nat.le_refl _)
  have ec : ((zs.length + 1 : Nat) : Int) = (zs.length : Int) + 1 := by omega
  rw [ec] at hmk
  gi_wp2_with fail
  refine wpIn_loop_ghost (IA w zs b off cap w.heap.size w1.heap.size) zs.length ?_ ?_
  · refine ⟨w1.heap.size + 1, [], _, _, _, _, _, _, _, _, _, _, _, _, _, _, _, _, _, _, _, _, _, _, _, _, _, _, _, _, _, _, _, _, _, _, _, _, _, _, _, _, _, _, _, _, _, _, _, _, _, _, _, _, _, ⟨Nat.le_refl _, ?_, ?_, ?_, ?_, ?_, Nat.le_refl _, List.nodup_nil, ?_, ?_⟩, rfl⟩
    · rw [rowA_start] ; exact ((hown.alloc _).alloc _)
    · simp
    · simp
    · have : w.heap.size < w1.heap.size := (hown.lt w.heap.size rfl).2; omega
    · have : w.heap.size < w1.heap.size := (hown.lt w.heap.size rfl).2; omega
    · intro D hD; cases hD
    · exact (((Below.refl _ w).grown hgr (Nat.le_refl _) (fun k e => by cases e)).alloc hgr.size _).alloc (by have := hgr.size; simp; omega) _
  · rintro m a W ⟨B4, Ds, u5, u6, u7, u8, u9, u10, u11, u12, u13, u14, u15, u16, u17, u18, u19, u20, u21, u22, u23, u24, u25, u26, u27, u28, u29, u30, u31, u32, u33, u34, u35, u36, u37, u38, u39, u40, u41, u42, u43, u44, u45, u46, u47, u48, u49, u50, u51, u52, u53, u54, u55, u56, u57, ⟨hm, hrow, hc3, hc4, hn3, hn4, hBb, hnd, hDs, hbel⟩, rfl⟩
    cases m with
    | zero =>
      have hc4' : W.cell? ⟨B4, 0, none⟩ = some (.int .i64 (-1)) := hc4
      have hb0 : W.cell? ⟨w.heap.size, 0, none⟩ = some (.string (canonA zs)) := by
        rw [hrow.cellAt 0 (by omega)]
        exact rowA_zero zs
      clear hc4
      gi_wp2_with fail
      refine leaves_marks w.heap.size Ds W hnd hDs fun W' _ hb' => ?_
      exact ⟨_, results_tmp rfl _ _ _, rfl, hbel.trans hb'⟩
    | succ k =>
      have hc4' : W.cell? ⟨B4, 0, none⟩ = some (.int .i64 (k : Int)) := by rw [hc4]; congr 2; omega
      have hk1 : (k : Int) ≤ (zs.length : Int) := by omega
      have hk2 : (zs.length : Int) ≤ (cap : Int) := by omega
      have hk3 : k < cap := by omega
      clear hc4
      unfold maxLen at hcap2
      gi_wp2_with fail
      refine ⟨wide_fn _, (itemsAt_any 2 _ _ _ _).mono ?_⟩
      rintro e w' ⟨rfl, rfl⟩
      gi_wp2_with fail
      have hzl : (zs.drop k).length = zs.length - k := List.length_drop
      have hb1 : b < w.heap.size := World.block_lt_of_cell? _ _ (hc 0 (by omega))
      have hgW : Gd (W.alloc (.cells #[.slice (some ⟨b, off + k, none⟩) (zs.length - k) (cap - k)] 22)) := hgd.later (hbel.alloc hbel.size _)
      have hlW : w.heap.size < W.heap.size := (hrow.lt w.heap.size rfl).2
      have hDW : ∀ D ∈ Ds, D < W.heap.size := fun D hd => (Array.getElem?_eq_some_iff.1 (hDs D hd).2).1
      have hstops := items_stops 2 (by decide) W.heap.size w.heap.size b (off + k) (cap - k) (zs.drop k) (by omega) (by omega) (fun j => by rw [List.getElem?_drop]; exact hz _) hgd.gb (by omega) (by omega) _ hgW
        (by rw [hzl]; simp) (fun j hj => by rw [List.getElem?_drop, Nat.add_assoc]; exact cell_later (hbel.alloc hbel.size _) (hc (k + j) (by omega)))
      refine wpIn_rangeFunc_ownF rfl (by decide) (gf := 69) (lb := #[.pointer (some ⟨W.heap.size, 0, none⟩)]) rfl (wide_fn _) (enters_of Tryz.func69 (by kernel_rfl) rfl) hstops
        (fun h k => h.trans k) (fun V l o o' _ hl ho _ => KpBut.putObj hl ho) (Below.refl _ _) (fun _ => rfl)
        (IB w zs w.heap.size w1.heap.size B4 k Ds) (fun _ _ _ => False) (IB_own w zs _ _ _ _ _ _ (by simp; omega) (fun D hd => by have := hDW D hd; simp; omega)) (fun _ _ _ _ _ h _ _ => h.elim) ?start
        (fun x => { tmps := #[.slice (some ⟨b, off, none⟩) zs.length cap, undef, .string ⟨#[]⟩, .pointer (some ⟨w1.heap.size, 0, none⟩), .pointer (some ⟨B4, 0, none⟩), .string x.1.1, .int .i64 (x.1.2 : Int), u7, u8, u9, u10, u11, u12, u13, u14, .int .i64 k, .bool true, u17, u18, .slice (some ⟨b, off, none⟩) zs.length cap, .int .i64 k, .slice (some ⟨b, off + k, none⟩) (zs.length - k) (cap - k), .func (.func 69) #[] #[.pointer (some ⟨W.heap.size, 0, none⟩)], .string x.1.1, .int .i64 (x.1.2 : Int), u25, u26, u27, u28, u29, u30, u31, u32, u33, u34, u35, u36, u37, u38, u39, u40, u41, u42, u43, u44, u45, u46, u47, u48, u49, u50, u51, u52, u53, u54, u55, u56, u57], defers := [] }) ?assign ?body ?done ?stop
      case start =>
        refine ⟨?_, cell_later ((Below.refl _ _).alloc (Nat.le_refl _) _) hc3, cell_later ((Below.refl _ _).alloc (Nat.le_refl _) _) hc4', fun D hd => ⟨(hDs D hd).1, (Below.heap_alloc _ _ _ (hDW D hd)).trans (hDs D hd).2⟩, hbel.alloc hbel.size _⟩
        rw [List.map_nil, show curA zs k [] = ⟨#[]⟩ from rfl, ← rowB_start]
        exact hrow.alloc _
      case assign =>
        intro l x V K hK
        simp only [itE]
        gi_wp2
        exact hK
      case stop =>
        rintro D c pre V _ _ h _
        exact h.elim
      case done =>
        rintro D ys V hD hys ⟨hr1, hr2, hr3, hr4, hr5⟩ hK
        have hD' : W.heap.size < D + 1 := by simp at hD; omega
        rw [hys, rowB_end zs k (by omega)] at hr1
        gi_wp2_with fail
        refine ⟨k, Nat.lt_succ_self k, V.heap.size, D :: Ds, _, _, _, _, _, _, _, _, _, _, _, _, _, _, _, _, _, _, _, _, _, _, _, _, _, _, _, _, _, _, _, _, _, _, _, _, _, _, _, _, _, _, _, _, _, _, _, _, _, _, _, _, _, ⟨by omega, ?_, ?_, ?_, hn3, ?_, Nat.le_refl _, ?_, ?_, ?_⟩, rfl⟩
        · exact hr1.alloc _
        · exact cell_later ((Below.refl _ _).alloc (Nat.le_refl _) _) hr2
        · simp
        · have : w.heap.size < V.heap.size := (hr1.lt w.heap.size rfl).2; omega
        · exact List.nodup_cons.2 ⟨fun h => by have := hDW D h; omega, hnd⟩
        · intro D' hd
          rcases List.mem_cons.1 hd with rfl | hd
          · exact ⟨by omega, (Below.heap_alloc _ _ _ (Array.getElem?_eq_some_iff.1 hK).1).trans hK⟩
          · exact ⟨(hr4 D' hd).1, (Below.heap_alloc _ _ _ (Array.getElem?_eq_some_iff.1 (hr4 D' hd).2).1).trans (hr4 D' hd).2⟩
        · exact hr5.alloc hr5.size _
      case body =>
        rintro l pre ⟨⟨t, c⟩, hmem⟩ V hIB _
        obtain ⟨hr1, hr2, hr3, _, _⟩ := id hIB
        obtain ⟨hc1, hc2⟩ := itemsL_count (by omega) hmem
        rw [hzl] at hc2
        have ht : t.size ≤ 43 := itemsL_size (Small.drop ⟨hlen, hz⟩ k) _ hmem
        have hR1 : (restA zs k c).size ≤ 44 * 500 := by
          refine Nat.le_trans (getD_size (bestsA_size _ (Small.drop ⟨hlen, hz⟩ (k + 1))) _) ?_
          rw [List.length_drop]; omega
        have hcs : (curA zs k (pre.map Subtype.val)).size ≤ 44 * 500 + 44 :=
          fold_size (fun c => Nat.le_trans (getD_size (bestsA_size _ (Small.drop ⟨hlen, hz⟩ (k + 1))) _) (by rw [List.length_drop]; omega)) _ _ (Nat.zero_le _) (fun y hy => by
            obtain ⟨y', _, rfl⟩ := List.mem_map.1 hy
            exact itemsL_size (Small.drop ⟨hlen, hz⟩ k) _ y'.2)
        have hq1 : V.cell? ⟨w.heap.size, k + c, none⟩ = some (.string (restA zs k c)) := (hr1.cellAt (k + c) (by omega)).trans (rowB_rest zs k c _ hc1 hc2 (by omega))
        have hq2 : V.cell? ⟨w.heap.size, k, none⟩ = some (.string (curA zs k (pre.map Subtype.val))) := (hr1.cellAt k (by omega)).trans (rowB_cur zs k _)
        have hq3 : V.frozen? ⟨w.heap.size, k, none⟩ = false := hr1.frozenAt k
        have hnew := IB_step (x := ⟨(t, c), hmem⟩) hIB
        have Hnew := Lib.hid hnew
        clear hnew hr1 hIB
        obtain ⟨R, hR⟩ : ∃ R, restA zs k c = R := ⟨_, rfl⟩
        obtain ⟨cur, hcur⟩ : ∃ r, curA zs k (pre.map Subtype.val) = r := ⟨_, rfl⟩
        rw [hR] at hq1 hR1
        rw [hcur] at hq2 hcs
        have HR := Lib.hid hR
        have HC := Lib.hid hcur
        clear hR hcur
        have hi1 : (k : Int) + (c : Int) < (zs.length : Int) + 1 := by omega
        have hi2 : (0 : Int) ≤ (k : Int) + (c : Int) := by omega
        have hi3 : ((k : Int) + (c : Int)).toNat = k + c := by omega
        have hi4 : (k : Int) < (zs.length : Int) + 1 := by omega
        have hf1 := wide_fn 48
        have hf2 : (Fence.wide.inRound l).fn 48 := hf1
        cases hRe : R.toList.isEmpty
        · cases hce : cur.toList.isEmpty
          · cases hbf : beforeA (t ++ (⟨#[44]⟩ ++ R)) cur
            · gi_wp2_with (gi_at_call 48; refine (CallsIn.inRound l (callsIn_wide.2 (before_A _ _ _))).mono ?_; rintro e w' ⟨rfl, rfl⟩)
              refine ⟨KeepsOthers.refl _, KpBut.refl _ _, (Hnew.out hn3 hn4 (Nat.le_refl _) _ ?_).2 HC.out.symm⟩
              rw [HC.out]; unfold stepA candA; simp only [HR.out]; simp [hRe, hce, hbf]
            · gi_wp2_with (gi_at_call 48; refine (CallsIn.inRound l (callsIn_wide.2 (before_A _ _ _))).mono ?_; rintro e w' ⟨rfl, rfl⟩)
              refine ⟨KeepsOthers.setCell _ _ _, KpBut.setCell _ _ _ _, (Hnew.out hn3 hn4 (Nat.le_refl _) _ ?_).1⟩
              rw [HC.out]; unfold stepA candA; simp only [HR.out]; simp [hRe, hce, hbf]
          · gi_wp2_with (gi_at_call 48; refine (CallsIn.inRound l (callsIn_wide.2 (before_A _ _ _))).mono ?_; rintro e w' ⟨rfl, rfl⟩)
            refine ⟨KeepsOthers.setCell _ _ _, KpBut.setCell _ _ _ _, (Hnew.out hn3 hn4 (Nat.le_refl _) _ ?_).1⟩
            rw [HC.out]; unfold stepA candA; simp only [HR.out]; simp [hRe, hce]
        · cases hce : cur.toList.isEmpty
          · cases hbf : beforeA t cur
            · gi_wp2_with (gi_at_call 48; refine (CallsIn.inRound l (callsIn_wide.2 (before_A _ _ _))).mono ?_; rintro e w' ⟨rfl, rfl⟩)
              refine ⟨KeepsOthers.refl _, KpBut.refl _ _, (Hnew.out hn3 hn4 (Nat.le_refl _) _ ?_).2 HC.out.symm⟩
              rw [HC.out]; unfold stepA candA; simp only [HR.out]; simp [hRe, hce, hbf]
            · gi_wp2_with (gi_at_call 48; refine (CallsIn.inRound l (callsIn_wide.2 (before_A _ _ _))).mono ?_; rintro e w' ⟨rfl, rfl⟩)
              refine ⟨KeepsOthers.setCell _ _ _, KpBut.setCell _ _ _ _, (Hnew.out hn3 hn4 (Nat.le_refl _) _ ?_).1⟩
              rw [HC.out]; unfold stepA candA; simp only [HR.out]; simp [hRe, hce, hbf]
          · gi_wp2_with (gi_at_call 48; refine (CallsIn.inRound l (callsIn_wide.2 (before_A _ _ _))).mono ?_; rintro e w' ⟨rfl, rfl⟩)
            refine ⟨KeepsOthers.setCell _ _ _, KpBut.setCell _ _ _ _, (Hnew.out hn3 hn4 (Nat.le_refl _) _ ?_).1⟩
            rw [HC.out]; unfold stepA candA; simp only [HR.out]; simp [hRe, hce]
end Go.Proofs.YtdcgfbebeiheiaaGreatDoor
