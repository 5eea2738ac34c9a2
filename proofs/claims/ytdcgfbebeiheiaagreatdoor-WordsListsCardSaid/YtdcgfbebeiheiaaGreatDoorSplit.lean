/- Split. -/
import Derived.Test.YtdcgfbebeiheiaaGreatDoorPieces
import Derived.Maps.AppendAt
import Derived.WalkSmall
import Derived.RangeFuncNested
namespace Go.Proofs.YtdcgfbebeiheiaaGreatDoor
open Go.RowKit Go.Shelf
attribute [local go_sem] Oper.semAt_some

theorem Tryz.infoField : (Tryz.prog.info? 42).map (fun i => (i.zero, i.size, i.bytes)) = some (some (.agg #[.bool false, .string ⟨#[]⟩]), 2, 24) := by kernel_rfl

/-- What Split answers. -/
def fieldsOf (l : List BA) : List (Bool × List UInt8) := l.map fun x => ((rfB x.data.toList).1, (rfB x.data.toList).2.1)
def okP (x : BA) : Bool := (rfB x.data.toList).2.2
def splitB (s : BA) : List (Bool × List UInt8) × Int :=
  if 4096 < s.size then ([], 3) else if s.toList.isEmpty then ([], 0) else if (piecesL s).all okP then (if 64 < (piecesL s).length then ([], 3) else (fieldsOf (piecesL s), 0)) else ([], 6)
def fieldV (f : Bool × List UInt8) : List Value := [.bool f.1, .string ⟨f.2.toArray⟩]
def rowF (l : List (Bool × List UInt8)) : List Value := l.flatMap fieldV
theorem rowF_snoc (l : List (Bool × List UInt8)) (x : Bool × List UInt8) : rowF (l ++ [x]) = rowF l ++ fieldV x := by simp [rowF]
theorem rowF_length (l : List (Bool × List UInt8)) : (rowF l).length = l.length * 2 := by induction l with | nil => rfl | cons x l ih => simp [rowF, fieldV] at *; omega

theorem fieldsOf_snoc (l : List BA) (x : BA) : fieldsOf (l ++ [x]) = fieldsOf l ++ [((rfB x.data.toList).1, (rfB x.data.toList).2.1)] := by simp [fieldsOf]

theorem ownsRow_form {W : World} {base : Nat} {e : TypeId} {size : Nat} {v : Value} {n : Nat} {xs : List Value} (h : W.ownsRow base e size v n xs) : ∃ a cap, v = .slice a n cap := by
  obtain ⟨_, ⟨rfl, rfl⟩ | ⟨g, cap, _, rfl, _⟩⟩ := h
  · exact ⟨_, _, rfl⟩
  · exact ⟨_, _, rfl⟩

set_option maxRecDepth 100000 in
set_option maxHeartbeats 4000000 in
theorem Split_any (s : BA) (hs0 : s.size ≤ maxLen) (w : World) (hgd : Gd w) :
    Calls Tryz.prog 13 #[.string s] w fun e w' => ∃ v, e = .returned (.tuple #[v, .int .i64 (splitB s).2]) ∧ w'.ownsRow w.heap.size 42 2 v (splitB s).1.length (rowF (splitB s).1) ∧ Below w.heap.size w w' := by
  unfold maxLen at hs0
  refine (callsIn_wide (n := 3)).1 ?_
  refine callsIn_of_wp_marks Tryz.func13 rfl trivial ?_ rfl
  simp only [Tryz.ntmps13, List.size_toArray, List.length_cons, List.length_nil, Nat.reduceAdd, Nat.reduceSub, Array.replicate_succ, Array.replicate_zero, List.push_toArray, List.append_toArray, List.nil_append, List.cons_append]
  by_cases h4 : 4096 < s.size
  · have hd : Hid (splitB s = ([], 3)) := by unfold Hid splitB; rw [if_pos h4]
    gi_wp2_with fail
    refine ⟨.tuple #[.slice none 0 0, .int .i64 3], by simp [results, Tryz.results13, go_sem], .slice none 0 0, by rw [hd.out], by rw [hd.out]; exact World.ownsRow_nil _ _ _ _, by go_grown⟩
  have hdec : decide ((4096 : Int) < (s.size : Int)) = false := decide_eq_false (by omega)
  cases he : s.toList.isEmpty
  case true =>
    have hd : Hid (splitB s = ([], 0)) := by unfold Hid splitB; rw [if_neg h4, he]; rfl
    gi_wp2_with fail
    refine ⟨.tuple #[.slice none 0 0, .int .i64 0], by simp [results, Tryz.results13, go_sem], .slice none 0 0, by rw [hd.out], by rw [hd.out]; exact World.ownsRow_nil _ _ _ _, by go_grown⟩
  have hd : Hid (splitB s = if (piecesL s).all okP then (if 64 < (piecesL s).length then ([], 3) else (fieldsOf (piecesL s), 0)) else ([], 6)) := by unfold Hid splitB; rw [if_neg h4, he]; rfl
  have hf1 := wide_fn 30
  obtain ⟨i0, hi, hz0, hz1, hz2⟩ := info_parts Tryz.infoField
  gi_wp2_with fail
  refine (pieces_any 2 s _).mono ?_
  rintro e w' ⟨rfl, rfl⟩
  gi_wp2_with fail
  have hbW : Below w.heap.size w ((((w.alloc (.cells #[.slice none 0 0] 31)).alloc (.cells #[.int .i64 0] 24)).alloc (.cells #[.slice none 0 0] 31)).alloc (.cells #[.string s] 9)) := ((((Below.refl _ w).alloc (Nat.le_refl _) _).alloc (by simp) _).alloc (by simp; omega) _).alloc (by simp; omega) _
  obtain ⟨WL, hWL⟩ : ∃ V, ((((w.alloc (.cells #[.slice none 0 0] 31)).alloc (.cells #[.int .i64 0] 24)).alloc (.cells #[.slice none 0 0] 31)).alloc (.cells #[.string s] 9)) = V := ⟨_, rfl⟩
  have hsW : WL.heap.size = w.heap.size + 4 := by rw [← hWL]; simp
  have b2 : Boxed WL w.heap.size 31 (.slice none 0 0) := by rw [← hWL]; exact (((Boxed.new w _ _).alloc _).alloc _).alloc _
  have b3 : Boxed WL (w.heap.size + 1) 24 (.int .i64 0) := by
    have := Boxed.new (w.alloc (.cells #[.slice none 0 0] 31)) 24 (.int .i64 0)
    rw [World.size_alloc] at this
    rw [← hWL]; exact (this.alloc _).alloc _
  have b4 : Boxed WL (w.heap.size + 1 + 1) 31 (.slice none 0 0) := by
    have := Boxed.new ((w.alloc (.cells #[.slice none 0 0] 31)).alloc (.cells #[.int .i64 0] 24)) 31 (.slice none 0 0)
    rw [World.size_alloc, World.size_alloc] at this
    rw [← hWL]; exact this.alloc _
  have hcs : WL.cell? ⟨w.heap.size + 1 + 1 + 1, 0, none⟩ = some (.string s) := by
    have := Boxed.new (((w.alloc (.cells #[.slice none 0 0] 31)).alloc (.cells #[.int .i64 0] 24)).alloc (.cells #[.slice none 0 0] 31)) 9 (.string s)
    rw [World.size_alloc, World.size_alloc, World.size_alloc] at this
    rw [← hWL]; exact this.cell
  rw [hWL] at hbW ⊢
  clear hWL
  refine wpIn_rangeFunc_ownF rfl (by decide) (gf := 54) (lb := #[.pointer (some ⟨w.heap.size + 1 + 1 + 1, 0, none⟩)]) rfl (wide_fn _) (enters_of Tryz.func54 (by kernel_rfl) rfl) (pieces_stops 2 (by decide) _ s (by omega) WL hcs)
    (fun _ _ => trivial) (fun _ _ _ _ _ _ _ _ => trivial) (Below.refl _ _) (fun _ => rfl)
    (fun pre V => ((∃ v, Boxed V (w.heap.size + 1 + 1) 31 v ∧ V.ownsRow w.heap.size 42 2 v (fieldsOf (pre.map Subtype.val)).length (rowF (fieldsOf (pre.map Subtype.val))) ∧ (pre.map Subtype.val).all okP = true) ∧ (Boxed V w.heap.size 31 (.slice none 0 0) ∧ Boxed V (w.heap.size + 1) 24 (.int .i64 0))) ∧ Below w.heap.size w V)
    (fun c pre V => (c = .ret ∧ (pre.map Subtype.val).all okP = false) ∧ (Boxed V w.heap.size 31 (.slice none 0 0) ∧ Boxed V (w.heap.size + 1) 24 (.int .i64 6)) ∧ Below w.heap.size w V)
    ?own ?ownx ?start (fun x => { tmps := #[.string s, undef, .pointer (some ⟨w.heap.size, 0, none⟩), .pointer (some ⟨w.heap.size + 1, 0, none⟩), .pointer (some ⟨w.heap.size + 1 + 1, 0, none⟩), .string x.1, undef, undef, .string s, .int .i64 (s.size : Int), .bool false, .string s, .bool false, .string s, .func (.func 54) #[] #[.pointer (some ⟨w.heap.size + 1 + 1 + 1, 0, none⟩)], .string x.1, undef, undef, undef, undef, undef, undef, undef, undef, undef, undef, undef, undef, undef, undef, undef], defers := [] }) ?assign ?body ?done ?stop
  case own =>
    exact OwnFrom.and (OwnFrom.and (Own.from (holdsRow_own w.heap.size (w.heap.size + 1 + 1) _ _ 2 (fun pre : List Pc => (fieldsOf (pre.map Subtype.val)).length) (fun pre => rowF (fieldsOf (pre.map Subtype.val))) (fun pre _ => (pre.map Subtype.val).all okP = true)) _)
      (OwnFrom.and (Own.from (boxed_own _ _ (fun _ => .slice none 0 0)) _) (Own.from (boxed_own _ _ (fun _ => .int .i64 0)) _))) (ownFrom_below (Nat.le_refl _) (by omega))
  case ownx =>
    intro c
    exact OwnFrom.and (ownFrom_pure _ (fun pre : List Pc => c = .ret ∧ (pre.map Subtype.val).all okP = false)) (OwnFrom.and (OwnFrom.and (Own.from (boxed_own _ _ (fun _ => .slice none 0 0)) _) (Own.from (boxed_own _ _ (fun _ => .int .i64 6)) _)) (ownFrom_below (Nat.le_refl _) (by omega)))
  case start => exact ⟨⟨⟨_, b4, World.ownsRow_nil _ _ _ _, rfl⟩, b2, b3⟩, hbW⟩
  case assign =>
    intro l x V K hK
    gi_wp2
    exact hK
  case body =>
    rintro l pre x V ⟨⟨⟨v, hv, hrow, hall⟩, hb2, hb3⟩, hB⟩ hlen
    have hf2 := wide_fn 31
    have hf3 : (Fence.wide.inRound l).fn 31 := hf2
    gi_wp2_with fail
    refine (CallsIn.inRound l (callsIn_wide.2 (readField_any x.1 _ (hgd.later hB) (by have := x.2; omega)))).mono ?_
    rintro e W1 ⟨rfl, hB1⟩
    have hg1 := grown_of_below hB1
    have hv1 := hv.kept hg1 (by simp)
    have hb21 := hb2.kept hg1 (by simp)
    have hb31 := hb3.kept hg1 (by simp)
    have hrow1 := hrow.kept hg1 (Classical.em _)
    have hB2 := hB.trans (hB1.mono hB.size)
    have hKo : KeepsOthers V W1 := ⟨hB1.size, fun k o hk _ => (hB1.block k (Array.getElem?_eq_some_iff.1 hk).1).trans hk⟩
    have hl1 := hb21.lt
    have hl2 := hb31.lt
    have hl3 := hv1.lt
    cases hok : (rfB x.1.data.toList).2.2
    · have hc2 := hb21.cell
      have hf2' := hb21.frozen
      have hc3 := hb31.cell
      have hf3' := hb31.frozen
      gi_wp2_with fail
      refine ⟨((hKo.trans (KeepsOthers.setCell _ _ _)).trans (KeepsOthers.setCell _ _ _)).trans (KeepsOthers.alloc _ _), ⟨rfl, ?_⟩, ⟨((hb21.set _).other (by omega) _).alloc _, ((hb31.other (by omega) _).set _).alloc _⟩, ((hB2.setCell (Nat.le_refl _) _).setCell (by simp) _).alloc (by have := hB2.size; simp; omega) _⟩
      rw [List.map_append, List.all_append, hall]; simp [okP, hok]
    · have hc4 := hv1.cell
      have hf4 := hv1.frozen
      have hkl : (fieldsOf (pre.map Subtype.val)).length < 5000 := by simpa [fieldsOf] using hlen
      obtain ⟨Q, hQ⟩ : ∃ q, (rfB x.1.data.toList).1 = q := ⟨_, rfl⟩
      obtain ⟨S, hS⟩ : ∃ q, (rfB x.1.data.toList).2.1 = q := ⟨_, rfl⟩
      rw [hQ, hS]
      have HQ := Lib.hid hQ
      have HS := Lib.hid hS
      clear hQ hS
      have hv6 := hv1.alloc (.cells #[.bool Q, .string ⟨S.toArray⟩] 42)
      have hrow6 := hrow1.alloc (.cells #[.bool Q, .string ⟨S.toArray⟩] 42)
      have hrow7 := hrow6.alloc (.cells #[.bool Q, .string ⟨S.toArray⟩] 42)
      have HV6 : Hid (Boxed _ _ _ _) := hv6
      have HR6 : Hid (World.ownsRow _ _ _ _ _ _ _) := hrow6
      clear hv6 hrow6
      gi_wp2_with (gi_at_builtin; refine wpListIn_append_own _ rfl _ _ 31 rfl w.heap.size 42 i0 (.agg #[.bool false, .string ⟨#[]⟩]) 2 24 Tryz.underlying31 hi hz0 hz1 hz2 rfl (by decide) _ _ _ rfl hrow7 ⟨W1.heap.size + 1, 0, none⟩ 1 1 [.bool Q, .string ⟨S.toArray⟩] rfl rfl ?c1 ?c2 ?c3 ?c4 ?c5 ?_)
      case c1 =>
        have := cell_two_new (W1.alloc (.cells #[.bool Q, .string ⟨S.toArray⟩] 42)) (.bool Q) (.string ⟨S.toArray⟩) 42
        rw [World.size_alloc] at this
        exact this
      case c2 => intro u hu; simp at hu; rcases hu with rfl | rfl <;> rfl
      case c3 => unfold maxLen; omega
      case c4 => omega
      case c5 => have := hB2.size; simp; omega
      intro v' w1 hown' hgrow _
      obtain ⟨g', cap', rfl⟩ := ownsRow_succ hown'
      obtain ⟨a1, a2, a3, a4, a5⟩ := HV6.out.appended (by decide) HR6.out (by have := hB2.size; simp; omega) (by omega) hown' hgrow
      have hb2' := ((hb21.alloc (.cells #[.bool Q, .string ⟨S.toArray⟩] 42)).alloc (.cells #[.bool Q, .string ⟨S.toArray⟩] 42)).kept hgrow (Boxed.not_row ((hb21.alloc _).alloc _) (by decide) hrow7)
      have hb3' := ((hb31.alloc (.cells #[.bool Q, .string ⟨S.toArray⟩] 42)).alloc (.cells #[.bool Q, .string ⟨S.toArray⟩] 42)).kept hgrow (Boxed.not_row ((hb31.alloc _).alloc _) (by decide) hrow7)
      have hc1 := a1.cell
      have hfz1 := a1.frozen
      have H2 := Lib.hid hb2'
      have H3 := Lib.hid hb3'
      have A2 := Lib.hid a2
      have A3 := Lib.hid a3
      clear hb2' hb3' a2 a3 a1
      gi_wp2
      refine ⟨(hKo.trans (KeepsOthers.alloc _ _)).trans a4, trivial, ⟨⟨_, A2.out, ?_, ?_⟩, H2.out.other (by omega) _, H3.out.other (by omega) _⟩, (hB2.alloc hB2.size _).trans (a5.mono (Nat.le_refl _))⟩
      · rw [List.map_append, List.map_singleton, fieldsOf_snoc, rowF_snoc, HQ.out, HS.out, List.length_append, List.length_singleton]
        exact A3.out
      · rw [List.map_append, List.all_append, hall]; simp [okP, hok]
  case done =>
    rintro D ys V hD hys ⟨⟨⟨v, hv, hrow, hall⟩, hb2, hb3⟩, hB⟩ hK
    rw [hys] at hrow hall
    have hc2 := hb2.cell
    have hf2 := hb2.frozen
    have hc3 := hb3.cell
    have hf3 := hb3.frozen
    have hpl : (fieldsOf (piecesL s)).length = (piecesL s).length := by simp [fieldsOf]
    rw [hpl] at hrow
    obtain ⟨va, vcap, rfl⟩ := ownsRow_form hrow
    have hc4 := hv.cell
    have hf4 := hv.frozen
    have hBD : Below w.heap.size V (V.putObj D (.deferred none)) := belowK_b (w := w) (Nat.le_refl _) V D _ _ (by omega) hK rfl rfl
    by_cases h64 : 64 < (piecesL s).length
    · have hd2 : Hid (splitB s = ([], 3)) := by unfold Hid; rw [hd.out, if_pos hall, if_pos h64]
      gi_wp2_with fail
      have c2 := ((hb2.set (.slice none 0 0)).other (show w.heap.size ≠ w.heap.size + 1 by omega) (.int .i64 3))
      have c3 := ((hb3.other (show w.heap.size + 1 ≠ w.heap.size by omega) (.slice none 0 0)).set (.int .i64 3))
      have cK : ((V.setCell ⟨w.heap.size, 0, none⟩ (.slice none 0 0)).setCell ⟨w.heap.size + 1, 0, none⟩ (.int .i64 3)).heap[D]? = some (.deferred (some [])) := by
        rw [Below.heap_setCell _ _ _ _ (by simp; omega), Below.heap_setCell _ _ _ _ (by simp; omega)]; exact hK
      have cB : Below w.heap.size w ((V.setCell ⟨w.heap.size, 0, none⟩ (.slice none 0 0)).setCell ⟨w.heap.size + 1, 0, none⟩ (.int .i64 3)) := (hB.setCell (Nat.le_refl _) _).setCell (by simp) _
      obtain ⟨V1, hV1⟩ : ∃ x, (V.setCell ⟨w.heap.size, 0, none⟩ (.slice none 0 0)).setCell ⟨w.heap.size + 1, 0, none⟩ (.int .i64 3) = x := ⟨_, rfl⟩
      rw [hV1] at c2 c3 cK cB ⊢
      refine ⟨by simp, .inl ⟨D, _, rfl, run_takeDeferred cK, ?_⟩⟩
      have k2 := (c2.kept (grownBy_putObj' V1 D (.deferred none)) (by simp; omega)).cell
      have k3 := (c3.kept (grownBy_putObj' V1 D (.deferred none)) (by simp; omega)).cell
      refine ⟨.tuple #[.slice none 0 0, .int .i64 3], by simp [results, Tryz.results13, go_sem, k2, k3], .slice none 0 0, by rw [hd2.out], by rw [hd2.out]; exact World.ownsRow_nil _ _ _ _, cB.trans (belowK_b (w := w) (Nat.le_refl _) V1 D _ _ (by omega) cK rfl rfl)⟩
    · have hd2 : Hid (splitB s = (fieldsOf (piecesL s), 0)) := by unfold Hid; rw [hd.out, if_pos hall, if_neg h64]
      gi_wp2_with fail
      have c2 := ((hb2.set (.slice va (piecesL s).length vcap)).other (show w.heap.size ≠ w.heap.size + 1 by omega) (.int .i64 0))
      have c3 := ((hb3.other (show w.heap.size + 1 ≠ w.heap.size by omega) (.slice va (piecesL s).length vcap)).set (.int .i64 0))
      have cK : ((V.setCell ⟨w.heap.size, 0, none⟩ (.slice va (piecesL s).length vcap)).setCell ⟨w.heap.size + 1, 0, none⟩ (.int .i64 0)).heap[D]? = some (.deferred (some [])) := by
        rw [Below.heap_setCell _ _ _ _ (by simp; omega), Below.heap_setCell _ _ _ _ (by simp; omega)]; exact hK
      have cB : Below w.heap.size w ((V.setCell ⟨w.heap.size, 0, none⟩ (.slice va (piecesL s).length vcap)).setCell ⟨w.heap.size + 1, 0, none⟩ (.int .i64 0)) := (hB.setCell (Nat.le_refl _) _).setCell (by simp) _
      have cR := (hrow.kept (grownBy_setCell' V w.heap.size (.slice va (piecesL s).length vcap)) (.inr (Boxed.not_row hb2 (by decide) hrow).symm))
      have cR2 := cR.kept (grownBy_setCell' _ (w.heap.size + 1) (.int .i64 0)) (.inr (Boxed.not_row (hb3.other (show w.heap.size + 1 ≠ w.heap.size by omega) (.slice va (piecesL s).length vcap)) (by decide) cR).symm)
      obtain ⟨V1, hV1⟩ : ∃ x, (V.setCell ⟨w.heap.size, 0, none⟩ (.slice va (piecesL s).length vcap)).setCell ⟨w.heap.size + 1, 0, none⟩ (.int .i64 0) = x := ⟨_, rfl⟩
      rw [hV1] at c2 c3 cK cB cR2 ⊢
      refine ⟨by simp, .inl ⟨D, _, rfl, run_takeDeferred cK, ?_⟩⟩
      have k2 := (c2.kept (grownBy_putObj' V1 D (.deferred none)) (by simp; omega)).cell
      have k3 := (c3.kept (grownBy_putObj' V1 D (.deferred none)) (by simp; omega)).cell
      refine ⟨.tuple #[.slice va (piecesL s).length vcap, .int .i64 0], by simp [results, Tryz.results13, go_sem, k2, k3], .slice va (piecesL s).length vcap, by rw [hd2.out], by rw [hd2.out]; exact (by rw [hpl]; exact ownsRow_putObj cR2 _ cK rfl), cB.trans (belowK_b (w := w) (Nat.le_refl _) V1 D _ _ (by omega) cK rfl rfl)⟩
  case stop =>
    rintro D c pre V hD hSp ⟨⟨rfl, hall⟩, ⟨hb2, hb3⟩, hB⟩ hK
    have hc2 := hb2.cell
    have hc3 := hb3.cell
    have hd2 : Hid (splitB s = ([], 6)) := by
      unfold Hid; rw [hd.out, if_neg]
      intro h
      obtain ⟨t, ht⟩ := hSp
      rw [← ht, List.all_append, hall] at h
      cases h
    gi_wp2_with fail
    refine ⟨by simp, .inl ⟨D, _, rfl, run_takeDeferred hK, ?_⟩⟩
    have k2 := (hb2.kept (grownBy_putObj' V D (.deferred none)) (by simp; omega)).cell
    have k3 := (hb3.kept (grownBy_putObj' V D (.deferred none)) (by simp; omega)).cell
    refine ⟨.tuple #[.slice none 0 0, .int .i64 6], by simp [results, Tryz.results13, go_sem, k2, k3], .slice none 0 0, by rw [hd2.out], by rw [hd2.out]; exact World.ownsRow_nil _ _ _ _, hB.trans (belowK_b (w := w) (Nat.le_refl _) V D _ _ (by omega) hK rfl rfl)⟩
end Go.Proofs.YtdcgfbebeiheiaaGreatDoor
