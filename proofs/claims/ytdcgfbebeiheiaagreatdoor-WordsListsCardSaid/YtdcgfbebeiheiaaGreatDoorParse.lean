/- parseItems. -/
import Derived.Test.YtdcgfbebeiheiaaGreatDoorSeq
import Derived.Test.YtdcgfbebeiheiaaGreatDoorItemN
import Derived.Maps.AppendAt
import Derived.WalkSmall
import Derived.RangeFuncNested
namespace Go.Proofs.YtdcgfbebeiheiaaGreatDoor
open Go.RowKit Go.Shelf
attribute [local go_sem] Oper.semAt_some

theorem Tryz.infoItem : (Tryz.prog.info? 56).map (fun i => (i.zero, i.size, i.bytes)) = some (some (.agg #[.int .i64 0, .int .i64 0, .int .i64 0]), 3, 24) := by kernel_rfl
abbrev I3 := Int × Int × Int
def itemOf (x : BA) : I3 := ((piB x.data.toList).1, (piB x.data.toList).2.1, (piB x.data.toList).2.2.1)
def okI (x : BA) : Bool := (piB x.data.toList).2.2.2
/-- What parseItems answers. -/
def itemsB (s : BA) : List I3 × Bool := if s.toList.isEmpty then ([], true) else if (splL s).all okI then ((splL s).map itemOf, true) else ([], false)
def itemV (i : I3) : List Value := [.int .i64 i.1, .int .i64 i.2.1, .int .i64 i.2.2]
def rowI (l : List I3) : List Value := l.flatMap itemV
theorem rowI_snoc (l : List I3) (x : I3) : rowI (l ++ [x]) = rowI l ++ itemV x := by simp [rowI]
theorem ownsRow_formI {W : World} {base : Nat} {e : TypeId} {size : Nat} {v : Value} {n : Nat} {xs : List Value} (h : W.ownsRow base e size v n xs) : ∃ a cap, v = .slice a n cap := by
  obtain ⟨_, ⟨rfl, rfl⟩ | ⟨g, cap, _, rfl, _⟩⟩ := h
  · exact ⟨_, _, rfl⟩
  · exact ⟨_, _, rfl⟩
theorem cell_three_new (w : World) (a b c : Value) (t : TypeId) : ∀ j u, [a, b, c][j]? = some u → (w.alloc (.cells #[a, b, c] t)).cell? ((⟨w.heap.size, 0, none⟩ : Addr).add j) = some u := by
  intro j u hj
  match j, hj with
  | 0, hj => simp at hj; subst hj; simp [Addr.add]
  | 1, hj => simp at hj; subst hj; simp [Addr.add]
  | 2, hj => simp at hj; subst hj; simp [Addr.add]
  | j + 3, hj => simp at hj

theorem seq_stops (n : Nat) (hn : 1 ≤ n) (N : Nat) (s : BA) (hs : s.size ≤ 4096) (w : World) (hc0 : w.cell? ⟨N, 0, none⟩ = some (.string s)) (hf0 : w.frozen? ⟨N, 0, none⟩ = false) (hc1 : w.cell? ⟨N + 1, 0, none⟩ = some (.string ⟨#[44]⟩)) (hc2 : w.cell? ⟨N + 2, 0, none⟩ = some (.int .i64 0)) :
    SeqAb Fence.wide n Tryz.prog 85 #[.pointer (some ⟨N + 1, 0, none⟩), .pointer (some ⟨N, 0, none⟩), .pointer (some ⟨N + 2, 0, none⟩)] (fun x : Pl => #[.string x.1]) (AbS N) (KpS N) (fun ys => ys.map Subtype.val = splL s) (fun pre => pre.map Subtype.val <+: splL s) 5000 w := by
  intro l J Jx W hW hJ _ hY h0
  exact seq1_in n hn l N s hs J Jx W hJ hY (cell_later hW hc0) ((hW.frozen (p := ⟨N, 0, none⟩) (World.block_lt_of_cell? _ _ hc0)).trans hf0) (cell_later hW hc1) (cell_later hW hc2) h0

theorem AbS.others {N : Nat} {A B : World} (h : AbS N A B) {k : Nat} {o : Obj} (hk : A.heap[k]? = some o) (ho : o.isCells = false) : B.heap[k]? = some o := by
  rcases h with h | ⟨v, rfl⟩
  · exact (h.block k (Array.getElem?_eq_some_iff.1 hk).1 (by simp)).trans hk
  · exact (KeepsOthers.setCell A _ v).same k o hk ho
theorem AbS.boxed {N : Nat} {A B : World} (h : AbS N A B) {k : Nat} {t : TypeId} {v : Value} (hb : Boxed A k t v) (hne : k ≠ N) : Boxed B k t v := by
  rcases h with h | ⟨u, rfl⟩
  · exact hb.kept h (by simp)
  · exact hb.other hne u
theorem AbS.boxedN {N : Nat} {A B : World} (h : AbS N A B) {t : TypeId} (hb : ∃ v, Boxed A N t v) : ∃ v, Boxed B N t v := by
  obtain ⟨v, hb⟩ := hb
  rcases h with h | ⟨u, rfl⟩
  · exact ⟨v, hb.kept h (by simp)⟩
  · exact ⟨u, hb.set u⟩
theorem AbS.row {N : Nat} {A B : World} (h : AbS N A B) {t : TypeId} (hb : ∃ v, Boxed A N t v) {base : Nat} {e : TypeId} (hte : t ≠ e) {size n : Nat} {v : Value} {xs : List Value} (hr : A.ownsRow base e size v n xs) : B.ownsRow base e size v n xs := by
  obtain ⟨u0, hb⟩ := hb
  rcases h with h | ⟨u, rfl⟩
  · exact hr.kept h (Classical.em _)
  · exact hr.kept (grownBy_setCell' A N u) (.inr (hb.not_row hte hr).symm)
theorem AbS.below {N B0 : Nat} {w A B : World} (h : AbS N A B) (hN : B0 ≤ N) (hb : Below B0 w A) (hA : B0 ≤ A.heap.size) : Below B0 w B := by
  rcases h with h | ⟨u, rfl⟩
  · exact hb.grown h hA (fun k e => by cases e)
  · exact hb.setCell hN u
theorem boxedEx_own {β : Type} (B : Nat) (t : TypeId) : Own (fun (_ : β) W => ∃ v, Boxed W B t v) := fun _ X Y row ⟨v, hs⟩ hg hrow => ⟨v, boxed_own (β := Unit) B t (fun _ => v) () X Y row hs hg hrow⟩

theorem KpS.trans {N : Nat} {A B C : World} (h : KpS N A B) (k : KpS N B C) : KpS N A C := fun i h1 h2 h3 => by
  have e := h i h1 h2 h3
  have hlt : i < B.heap.size := by
    rw [Array.getElem?_eq_getElem h3] at e
    exact (Array.getElem?_eq_some_iff.1 e).1
  exact (k i h1 h2 hlt).trans e
theorem KpS.putObj {N : Nat} (V : World) (k : Nat) (o' : Obj) (hk : N + 2 < k) : KpS N V (V.putObj k o') := fun i _ h2 _ => World.putObj_heap_other (by omega)
theorem KpS.of_below {N : Nat} {A B : World} (h : Below A.heap.size A B) : KpS N A B := fun i _ _ h3 => h.block i h3
theorem KpS.setCell {N : Nat} (V : World) (k j : Nat) (u : Value) (hk : k < N) : KpS N V (V.setCell ⟨k, j, none⟩ u) := fun i h1 _ _ => Below.heap_setCell _ _ _ _ (by simp; omega)

/-- Between two rounds over the texts of a list. -/
def IC (w : World) (pre : List Pl) (V : World) : Prop :=
  ((∃ v, Boxed V (w.heap.size + 1 + 1) 52 v ∧ V.ownsRow w.heap.size 56 3 v ((pre.map Subtype.val).map itemOf).length (rowI ((pre.map Subtype.val).map itemOf)) ∧ (pre.map Subtype.val).all okI = true) ∧
    ((Boxed V w.heap.size 52 (.slice none 0 0) ∧ Boxed V (w.heap.size + 1) 4 (.bool false)) ∧ (∃ u, Boxed V (w.heap.size + 1 + 1 + 1) 9 u) ∧ (Boxed V ((w.heap.size + 1 + 1 + 1) + 1) 9 (.string ⟨#[44]⟩) ∧ Boxed V ((w.heap.size + 1 + 1 + 1) + 2) 3 (.int .i64 0)))) ∧ Below w.heap.size w V
def IX (w : World) (c : Code) (pre : List Pl) (V : World) : Prop :=
  (c = .ret ∧ (pre.map Subtype.val).all okI = false) ∧ (Boxed V w.heap.size 52 (.slice none 0 0) ∧ Boxed V (w.heap.size + 1) 4 (.bool false)) ∧ Below w.heap.size w V
theorem IC_own (w : World) (B : Nat) (hB : w.heap.size ≤ B) : OwnFrom B (IC w) :=
  OwnFrom.and (OwnFrom.and (Own.from (holdsRow_own w.heap.size (w.heap.size + 1 + 1) _ _ 3 (fun pre : List Pl => ((pre.map Subtype.val).map itemOf).length) (fun pre => rowI ((pre.map Subtype.val).map itemOf)) (fun pre _ => (pre.map Subtype.val).all okI = true)) _)
    (OwnFrom.and (OwnFrom.and (Own.from (boxed_own _ _ (fun _ => .slice none 0 0)) _) (Own.from (boxed_own _ _ (fun _ => .bool false)) _)) (OwnFrom.and (Own.from (boxedEx_own _ _) _) (OwnFrom.and (Own.from (boxed_own _ _ (fun _ => .string ⟨#[44]⟩)) _) (Own.from (boxed_own _ _ (fun _ => .int .i64 0)) _))))) (ownFrom_below (Nat.le_refl _) hB)
theorem IX_own (w : World) (B : Nat) (hB : w.heap.size ≤ B) (c : Code) : OwnFrom B (IX w c) :=
  OwnFrom.and (ownFrom_pure _ (fun pre : List Pl => c = .ret ∧ (pre.map Subtype.val).all okI = false)) (OwnFrom.and (OwnFrom.and (Own.from (boxed_own _ _ (fun _ => .slice none 0 0)) _) (Own.from (boxed_own _ _ (fun _ => .bool false)) _)) (ownFrom_below (Nat.le_refl _) hB))
theorem IC_ab (w : World) (pre : List Pl) (A B : World) (hab : AbS (w.heap.size + 1 + 1 + 1) A B) (h : IC w pre A) : IC w pre B := by
  obtain ⟨⟨⟨v, h1, h2, h3⟩, ⟨h4, h5⟩, h6, h8, h9⟩, h7⟩ := h
  exact ⟨⟨⟨v, hab.boxed h1 (by omega), hab.row h6 (by decide) h2, h3⟩, ⟨hab.boxed h4 (by omega), hab.boxed h5 (by omega)⟩, hab.boxedN h6, hab.boxed h8 (by omega), hab.boxed h9 (by omega)⟩, hab.below (by omega) h7 h7.size⟩
theorem IX_ab (w : World) (c : Code) (pre : List Pl) (A B : World) (hab : AbS (w.heap.size + 1 + 1 + 1) A B) (h : IX w c pre A) : IX w c pre B := by
  obtain ⟨h1, ⟨h4, h5⟩, h7⟩ := h
  exact ⟨h1, ⟨hab.boxed h4 (by omega), hab.boxed h5 (by omega)⟩, hab.below (by omega) h7 h7.size⟩

set_option maxRecDepth 100000 in
set_option maxHeartbeats 4000000 in
theorem parseItems_any (s : BA) (hs : s.size ≤ 4096) (w : World) (hgd : Gd w) :
    Calls Tryz.prog 24 #[.string s] w fun e w' => ∃ v, e = .returned (.tuple #[v, .bool (itemsB s).2]) ∧ w'.ownsRow w.heap.size 56 3 v (itemsB s).1.length (rowI (itemsB s).1) ∧ Below w.heap.size w w' := by
  refine (callsIn_wide (n := 3)).1 ?_
  refine callsIn_of_wp_marks Tryz.func24 rfl trivial ?_ rfl
  simp only [Tryz.ntmps24, List.size_toArray, List.length_cons, List.length_nil, Nat.reduceAdd, Nat.reduceSub, Array.replicate_succ, Array.replicate_zero, List.push_toArray, List.append_toArray, List.nil_append, List.cons_append]
  cases he : s.toList.isEmpty
  case true =>
    have hd : Hid (itemsB s = ([], true)) := by unfold Hid itemsB; rw [he]; rfl
    gi_wp2_with fail
    refine ⟨.tuple #[.slice none 0 0, .bool true], by simp [results, Tryz.results24, go_sem], .slice none 0 0, by rw [hd.out], by rw [hd.out]; exact World.ownsRow_nil _ _ _ _, by go_grown⟩
  have hd : Hid (itemsB s = if (splL s).all okI then ((splL s).map itemOf, true) else ([], false)) := by unfold Hid itemsB; rw [he]; rfl
  have hf1 := wide_fn 49
  obtain ⟨i0, hi, hz0, hz1, hz2⟩ := info_parts Tryz.infoItem
  gi_wp2_with fail
  refine (SplitSeq_any 2 (by decide) s _).mono ?_
  rintro e w' ⟨rfl, rfl⟩
  gi_wp2_with fail
  have hbW : Below w.heap.size w ((((((w.alloc (.cells #[.slice none 0 0] 52)).alloc (.cells #[.bool false] 4)).alloc (.cells #[.slice none 0 0] 52)).alloc (.cells #[.string s] 9)).alloc (.cells #[.string ⟨#[44]⟩] 9)).alloc (.cells #[.int .i64 0] 3)) := ((((((Below.refl _ w).alloc (Nat.le_refl _) _).alloc (by simp) _).alloc (by simp; omega) _).alloc (by simp; omega) _).alloc (by simp; omega) _).alloc (by simp; omega) _
  obtain ⟨WL, hWL⟩ : ∃ V, ((((((w.alloc (.cells #[.slice none 0 0] 52)).alloc (.cells #[.bool false] 4)).alloc (.cells #[.slice none 0 0] 52)).alloc (.cells #[.string s] 9)).alloc (.cells #[.string ⟨#[44]⟩] 9)).alloc (.cells #[.int .i64 0] 3)) = V := ⟨_, rfl⟩
  have hsW : WL.heap.size = w.heap.size + 6 := by rw [← hWL]; simp
  have b2 : Boxed WL w.heap.size 52 (.slice none 0 0) := by rw [← hWL]; exact (((((Boxed.new w _ _).alloc _).alloc _).alloc _).alloc _).alloc _
  have b3 : Boxed WL (w.heap.size + 1) 4 (.bool false) := by
    have := Boxed.new (w.alloc (.cells #[.slice none 0 0] 52)) 4 (.bool false)
    simp only [World.size_alloc] at this
    rw [← hWL]; exact (((this.alloc _).alloc _).alloc _).alloc _
  have b4 : Boxed WL (w.heap.size + 1 + 1) 52 (.slice none 0 0) := by
    have := Boxed.new ((w.alloc (.cells #[.slice none 0 0] 52)).alloc (.cells #[.bool false] 4)) 52 (.slice none 0 0)
    simp only [World.size_alloc] at this
    rw [← hWL]; exact ((this.alloc _).alloc _).alloc _
  have b5 : Boxed WL (w.heap.size + 1 + 1 + 1) 9 (.string s) := by
    have := Boxed.new (((w.alloc (.cells #[.slice none 0 0] 52)).alloc (.cells #[.bool false] 4)).alloc (.cells #[.slice none 0 0] 52)) 9 (.string s)
    simp only [World.size_alloc] at this
    rw [← hWL]; exact (this.alloc _).alloc _
  have b6 : Boxed WL ((w.heap.size + 1 + 1 + 1) + 1) 9 (.string ⟨#[44]⟩) := by
    have := Boxed.new ((((w.alloc (.cells #[.slice none 0 0] 52)).alloc (.cells #[.bool false] 4)).alloc (.cells #[.slice none 0 0] 52)).alloc (.cells #[.string s] 9)) 9 (.string ⟨#[44]⟩)
    simp only [World.size_alloc] at this
    rw [← hWL]; exact this.alloc _
  have b7 : Boxed WL ((w.heap.size + 1 + 1 + 1) + 2) 3 (.int .i64 0) := by
    have := Boxed.new (((((w.alloc (.cells #[.slice none 0 0] 52)).alloc (.cells #[.bool false] 4)).alloc (.cells #[.slice none 0 0] 52)).alloc (.cells #[.string s] 9)).alloc (.cells #[.string ⟨#[44]⟩] 9)) 3 (.int .i64 0)
    simp only [World.size_alloc] at this
    rw [← hWL]; exact this
  rw [hWL] at hbW ⊢
  clear hWL
  refine range_ab rfl (by decide) (gf := 85) (lb := #[.pointer (some ⟨(w.heap.size + 1 + 1 + 1) + 1, 0, none⟩), .pointer (some ⟨(w.heap.size + 1 + 1 + 1), 0, none⟩), .pointer (some ⟨(w.heap.size + 1 + 1 + 1) + 2, 0, none⟩)]) rfl (wide_fn _) (enters_of Tryz.func85 (by kernel_rfl) rfl)
    (seq_stops 2 (by decide) (w.heap.size + 1 + 1 + 1) s hs WL b5.cell b5.frozen b6.cell b7.cell) (fun h k => KpS.trans h k) (fun V k o o' hk _ _ _ => KpS.putObj V k o' (by omega)) (fun A B k o hab hk ho _ => hab.others hk ho) (fun _ => rfl)
    (IC w) (IX w) (IC_own w _ hbW.size) (IX_own w _ hbW.size) (IC_ab w) (IX_ab w) ?start (fun x => { tmps := #[.string s, undef, .pointer (some ⟨w.heap.size, 0, none⟩), .pointer (some ⟨w.heap.size + 1, 0, none⟩), .pointer (some ⟨w.heap.size + 1 + 1, 0, none⟩), .string x.1, undef, undef, .string s, .bool false, .string s, .func (.func 85) #[] #[.pointer (some ⟨w.heap.size + 1 + 1 + 1 + 1, 0, none⟩), .pointer (some ⟨w.heap.size + 1 + 1 + 1, 0, none⟩), .pointer (some ⟨w.heap.size + 1 + 1 + 1 + 2, 0, none⟩)], .string x.1, undef, undef, undef, undef, undef, undef, undef, undef, undef, undef, undef, undef], defers := [] }) ?assign ?body ?done ?stop
  case start => exact ⟨⟨⟨_, b4, World.ownsRow_nil _ _ _ _, rfl⟩, ⟨b2, b3⟩, ⟨_, b5⟩, b6, b7⟩, hbW⟩
  case assign =>
    intro l x V K hK
    gi_wp2
    exact hK
  case body =>
    rintro l pre x V ⟨⟨⟨v, hv, hrow, hall⟩, ⟨hb2, hb3⟩, ⟨u, hbN⟩, hbM, hbL⟩, hB⟩ hlen
    have hf2 := wide_fn 50
    have hf3 : (Fence.wide.inRound l).fn 50 := hf2
    gi_wp2_with fail
    refine (CallsIn.inRound l (callsIn_wide.2 (parseItem_any x.1 _ (hgd.later hB) (by have := x.2; omega)))).mono ?_
    rintro e W1 ⟨rfl, hB1⟩
    have hg1 := grown_of_below hB1
    have hv1 := hv.kept hg1 (by simp)
    have hb21 := hb2.kept hg1 (by simp)
    have hb31 := hb3.kept hg1 (by simp)
    have hbN1 := hbN.kept hg1 (by simp)
    have hbM1 := hbM.kept hg1 (by simp)
    have hbL1 := hbL.kept hg1 (by simp)
    have hrow1 := hrow.kept hg1 (Classical.em _)
    have hB2 := hB.trans (hB1.mono hB.size)
    have hKo : KeepsOthers V W1 := ⟨hB1.size, fun k o hk _ => (hB1.block k (Array.getElem?_eq_some_iff.1 hk).1).trans hk⟩
    have hKp : KpS (w.heap.size + 1 + 1 + 1) V W1 := KpS.of_below hB1
    have hl1 := hb21.lt
    have hl2 := hb31.lt
    have hl3 := hv1.lt
    have hl4 := hbN1.lt
    cases hok : (piB x.1.data.toList).2.2.2
    · have hc2 := hb21.cell
      have hf2' := hb21.frozen
      have hc3 := hb31.cell
      have hf3' := hb31.frozen
      gi_wp2_with fail
      refine ⟨((hKo.trans (KeepsOthers.setCell _ _ _)).trans (KeepsOthers.setCell _ _ _)).trans (KeepsOthers.alloc _ _), ⟨rfl, ?_⟩, ⟨((hb21.set _).other (by omega) _).alloc _, ((hb31.other (by omega) _).set _).alloc _⟩, ((hB2.setCell (Nat.le_refl _) _).setCell (by simp) _).alloc (by have := hB2.size; simp; omega) _⟩
      rw [List.map_append, List.all_append, hall]; simp [okI, hok]
    · have hc4 := hv1.cell
      have hf4 := hv1.frozen
      have hkl : ((pre.map Subtype.val).map itemOf).length < 5000 := by simpa using hlen
      obtain ⟨P, hP⟩ : ∃ q, (piB x.1.data.toList).1 = q := ⟨_, rfl⟩
      obtain ⟨Q, hQ⟩ : ∃ q, (piB x.1.data.toList).2.1 = q := ⟨_, rfl⟩
      obtain ⟨R, hR⟩ : ∃ q, (piB x.1.data.toList).2.2.1 = q := ⟨_, rfl⟩
      rw [hP, hQ, hR]
      have HP := Lib.hid hP
      have HQ := Lib.hid hQ
      have HR := Lib.hid hR
      clear hP hQ hR
      have hv6 := hv1.alloc (.cells #[.int .i64 P, .int .i64 Q, .int .i64 R] 56)
      have hrow6 := hrow1.alloc (.cells #[.int .i64 P, .int .i64 Q, .int .i64 R] 56)
      have hrow7 := hrow6.alloc (.cells #[.int .i64 P, .int .i64 Q, .int .i64 R] 56)
      have HV6 : Hid (Boxed _ _ _ _) := hv6
      have HR6 : Hid (World.ownsRow _ _ _ _ _ _ _) := hrow6
      clear hv6 hrow6
      gi_wp2_with (gi_at_builtin; refine wpListIn_append_own _ rfl _ _ 52 rfl w.heap.size 56 i0 (.agg #[.int .i64 0, .int .i64 0, .int .i64 0]) 3 24 Tryz.underlying52 hi hz0 hz1 hz2 rfl (by decide) _ _ _ rfl hrow7 ⟨W1.heap.size + 1, 0, none⟩ 1 1 [.int .i64 P, .int .i64 Q, .int .i64 R] rfl rfl ?c1 ?c2 ?c3 ?c4 ?c5 ?_)
      case c1 =>
        have := cell_three_new (W1.alloc (.cells #[.int .i64 P, .int .i64 Q, .int .i64 R] 56)) (.int .i64 P) (.int .i64 Q) (.int .i64 R) 56
        rw [World.size_alloc] at this
        exact this
      case c2 => intro u hu; simp at hu; rcases hu with rfl | rfl | rfl <;> rfl
      case c3 => unfold maxLen; omega
      case c4 => omega
      case c5 => have := hB2.size; simp; omega
      intro v' w1 hown' hgrow _
      obtain ⟨g', cap', rfl⟩ := ownsRow_succ hown'
      obtain ⟨a1, a2, a3, a4, a5⟩ := HV6.out.appended (by decide) HR6.out (by have := hB2.size; simp; omega) (by omega) hown' hgrow
      have hb2' := ((hb21.alloc (.cells #[.int .i64 P, .int .i64 Q, .int .i64 R] 56)).alloc (.cells #[.int .i64 P, .int .i64 Q, .int .i64 R] 56)).kept hgrow (Boxed.not_row ((hb21.alloc _).alloc _) (by decide) hrow7)
      have hb3' := ((hb31.alloc (.cells #[.int .i64 P, .int .i64 Q, .int .i64 R] 56)).alloc (.cells #[.int .i64 P, .int .i64 Q, .int .i64 R] 56)).kept hgrow (Boxed.not_row ((hb31.alloc _).alloc _) (by decide) hrow7)
      have hbN' := ((hbN1.alloc (.cells #[.int .i64 P, .int .i64 Q, .int .i64 R] 56)).alloc (.cells #[.int .i64 P, .int .i64 Q, .int .i64 R] 56)).kept hgrow (Boxed.not_row ((hbN1.alloc _).alloc _) (by decide) hrow7)
      have hbM' := ((hbM1.alloc (.cells #[.int .i64 P, .int .i64 Q, .int .i64 R] 56)).alloc (.cells #[.int .i64 P, .int .i64 Q, .int .i64 R] 56)).kept hgrow (Boxed.not_row ((hbM1.alloc _).alloc _) (by decide) hrow7)
      have hbL' := ((hbL1.alloc (.cells #[.int .i64 P, .int .i64 Q, .int .i64 R] 56)).alloc (.cells #[.int .i64 P, .int .i64 Q, .int .i64 R] 56)).kept hgrow (Boxed.not_row ((hbL1.alloc _).alloc _) (by decide) hrow7)
      have hKp2 : KpS (w.heap.size + 1 + 1 + 1) W1 w1 := fun k h1 h2 _ => by
        rcases (show k = (w.heap.size + 1 + 1 + 1) ∨ k = (w.heap.size + 1 + 1 + 1) + 1 ∨ k = (w.heap.size + 1 + 1 + 1) + 2 by omega) with rfl | rfl | rfl
        · exact Eq.trans hbN' hbN1.symm
        · exact Eq.trans hbM' hbM1.symm
        · exact Eq.trans hbL' hbL1.symm
      have hc1 := a1.cell
      have hfz1 := a1.frozen
      have H2 := Lib.hid hb2'
      have H3 := Lib.hid hb3'
      have HN := Lib.hid hbN'
      have HM := Lib.hid hbM'
      have HL := Lib.hid hbL'
      have A2 := Lib.hid a2
      have A3 := Lib.hid a3
      clear hb2' hb3' hbN' hbM' hbL' a2 a3 a1
      gi_wp2
      refine ⟨(hKo.trans (KeepsOthers.alloc _ _)).trans a4, (hKp.trans hKp2).trans (KpS.setCell _ _ _ _ (by omega)), ⟨⟨_, A2.out, ?_, ?_⟩, ⟨H2.out.other (by omega) _, H3.out.other (by omega) _⟩, ⟨_, HN.out.other (by omega) _⟩, HM.out.other (by omega) _, HL.out.other (by omega) _⟩, (hB2.alloc hB2.size _).trans (a5.mono (Nat.le_refl _))⟩
      · rw [List.map_append, List.map_singleton, List.map_append, List.map_singleton, rowI_snoc, List.length_append, List.length_singleton]
        rw [show itemOf x.1 = (P, Q, R) from by unfold itemOf; rw [HP.out, HQ.out, HR.out]]
        rw [show ((pre.map Subtype.val).map itemOf).length = pre.length from by simp]
        exact A3.out
      · rw [List.map_append, List.all_append, hall]; simp [okI, hok]
  case done =>
    rintro D ys V hD hys ⟨⟨⟨v, hv, hrow, hall⟩, ⟨hb2, hb3⟩, _⟩, hB⟩ hK
    rw [hys] at hrow hall
    have hc2 := hb2.cell
    have hf2 := hb2.frozen
    have hc3 := hb3.cell
    have hf3 := hb3.frozen
    obtain ⟨va, vcap, rfl⟩ := ownsRow_formI hrow
    have hc4 := hv.cell
    have hf4 := hv.frozen
    have hd2 : Hid (itemsB s = ((splL s).map itemOf, true)) := by unfold Hid; rw [hd.out, if_pos hall]
    obtain ⟨ln, hln⟩ : ∃ k, ((splL s).map itemOf).length = k := ⟨_, rfl⟩
    rw [hln] at hrow hc4 hv
    have HLn := Lib.hid hln
    clear hln
    gi_wp2_with fail
    have c2 := ((hb2.set (.slice va ln vcap)).other (show w.heap.size ≠ w.heap.size + 1 by omega) (.bool true))
    have c3 := ((hb3.other (show w.heap.size + 1 ≠ w.heap.size by omega) (.slice va ln vcap)).set (.bool true))
    have cK : ((V.setCell ⟨w.heap.size, 0, none⟩ (.slice va ln vcap)).setCell ⟨w.heap.size + 1, 0, none⟩ (.bool true)).heap[D]? = some (.deferred (some [])) := by
      rw [Below.heap_setCell _ _ _ _ (by simp; omega), Below.heap_setCell _ _ _ _ (by simp; omega)]; exact hK
    have cB : Below w.heap.size w ((V.setCell ⟨w.heap.size, 0, none⟩ (.slice va ln vcap)).setCell ⟨w.heap.size + 1, 0, none⟩ (.bool true)) := (hB.setCell (Nat.le_refl _) _).setCell (by simp) _
    have cR := (hrow.kept (grownBy_setCell' V w.heap.size (.slice va ln vcap)) (.inr (Boxed.not_row hb2 (by decide) hrow).symm))
    have cR2 := cR.kept (grownBy_setCell' _ (w.heap.size + 1) (.bool true)) (.inr (Boxed.not_row (hb3.other (show w.heap.size + 1 ≠ w.heap.size by omega) (.slice va ln vcap)) (by decide) cR).symm)
    obtain ⟨V1, hV1⟩ : ∃ x, (V.setCell ⟨w.heap.size, 0, none⟩ (.slice va ln vcap)).setCell ⟨w.heap.size + 1, 0, none⟩ (.bool true) = x := ⟨_, rfl⟩
    rw [hV1] at c2 c3 cK cB cR2 ⊢
    refine ⟨by simp, .inl ⟨D, _, rfl, run_takeDeferred cK, ?_⟩⟩
    have k2 := (c2.kept (grownBy_putObj' V1 D (.deferred none)) (by simp; omega)).cell
    have k3 := (c3.kept (grownBy_putObj' V1 D (.deferred none)) (by simp; omega)).cell
    refine ⟨.tuple #[.slice va ln vcap, .bool true], by simp [results, Tryz.results24, go_sem, k2, k3], .slice va ln vcap, by rw [hd2.out], ?_, cB.trans (belowK_b (w := w) (Nat.le_refl _) V1 D _ _ (by omega) cK rfl rfl)⟩
    rw [hd2.out, HLn.out]
    exact ownsRow_putObj cR2 _ cK rfl
  case stop =>
    rintro D c pre V hD hSp ⟨⟨rfl, hall⟩, ⟨hb2, hb3⟩, hB⟩ hK
    have hc2 := hb2.cell
    have hc3 := hb3.cell
    have hd2 : Hid (itemsB s = ([], false)) := by
      unfold Hid; rw [hd.out, if_neg]
      intro h
      obtain ⟨t, ht⟩ := hSp
      rw [← ht, List.all_append, hall] at h
      cases h
    gi_wp2_with fail
    refine ⟨by simp, .inl ⟨D, _, rfl, run_takeDeferred hK, ?_⟩⟩
    have k2 := (hb2.kept (grownBy_putObj' V D (.deferred none)) (by simp; omega)).cell
    have k3 := (hb3.kept (grownBy_putObj' V D (.deferred none)) (by simp; omega)).cell
    refine ⟨.tuple #[.slice none 0 0, .bool false], by simp [results, Tryz.results24, go_sem, k2, k3], .slice none 0 0, by rw [hd2.out], by rw [hd2.out]; exact World.ownsRow_nil _ _ _ _, hB.trans (belowK_b (w := w) (Nat.le_refl _) V D _ _ (by omega) hK rfl rfl)⟩
end Go.Proofs.YtdcgfbebeiheiaaGreatDoor
