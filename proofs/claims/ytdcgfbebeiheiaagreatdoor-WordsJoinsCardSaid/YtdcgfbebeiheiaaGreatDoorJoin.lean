/- Join: the program's walk. -/
import Derived.Test.YtdcgfbebeiheiaaGreatDoorSplM
namespace Go.Proofs.YtdcgfbebeiheiaaGreatDoor
open Go.RowKit Go.Shelf

theorem bldAt_below {T e : TypeId} {B b : Nat} {p : Value} {bs : List Value} {W W' : World} (h : Lib.BuilderAtF T e B b p bs W) (hb : Below W.heap.size W W') : Lib.BuilderAtF T e B b p bs W' := by
  have hlt := h.lt
  obtain ⟨hB, v, hv, hown, hne⟩ := h
  exact ⟨hB, v, (hb.block b hlt).trans hv, hown.kept (row := none) ⟨hb.os, hb.tape, hb.output, hb.size, fun k hk _ => hb.block k hk⟩ (Classical.em _), hne⟩
theorem bld_below {T e : TypeId} {B b : Nat} {bs : List Value} {W W' : World} (h : Lib.IsBuilderF T e B b bs W) (hb : Below W.heap.size W W') : Lib.IsBuilderF T e B b bs W' :=
  h.elim (fun x => .inl (bldAt_below x hb)) (fun x => .inr (bldAt_below x hb))
theorem bld_new (W : World) (B : Nat) (hB : B ≤ W.heap.size) : Lib.IsBuilderF 77 5 B W.heap.size [] (W.alloc (.cells #[.pointer none, .slice none 0 0] 77)) :=
  Lib.IsBuilderF.of (.inl ⟨hB, _, World.alloc_heap_new W _, World.ownsRow_nil _ _ _ _, by simp [Value.ownBlock]⟩)

theorem dblQ_len : ∀ t : List UInt8, (dblQ t).length ≤ 2 * t.length
  | [] => Nat.le_refl _
  | c :: t => by
    have := dblQ_len t
    rw [dblQ]
    split <;> simp only [List.length_cons] <;> omega
theorem wr_len {f : Fd} (h : rightB f = true) : (wrB f).length ≤ 402 := by
  obtain ⟨q, t⟩ := f
  cases q
  · obtain ⟨_, h2, _⟩ := bare_no (l := t) h
    show t.length ≤ _
    omega
  · have ht : textB t = true := h
    unfold textB at ht
    rw [Bool.and_eq_true, decide_eq_true_eq] at ht
    have := dblQ_len t
    show (34 :: (dblQ t ++ [34])).length ≤ _
    simp only [List.length_cons, List.length_append, List.length_nil]
    omega
theorem jn_len : ∀ L : List Fd, (∀ x ∈ L, rightB x = true) → (jn (L.map wrB)).length ≤ 403 * L.length
  | [], _ => Nat.le_refl _
  | [x], h => by have := wr_len (h x (by simp)); show (wrB x).length ≤ _; simp only [List.length_cons, List.length_nil]; omega
  | x :: y :: L, h => by
    have h1 := wr_len (h x (by simp))
    have h2 := jn_len (y :: L) fun z hz => h z (by simp at hz ⊢; right; exact hz)
    show (wrB x ++ 32 :: jn ((y :: L).map wrB)).length ≤ _
    simp only [List.length_append, List.length_cons] at h2 ⊢
    omega
theorem jn_zero (L : List Fd) (x : Fd) (h : L[0]? = some x) : jn ((L.take (0 + 1)).map wrB) = wrB x := by
  cases L with
  | nil => cases h
  | cons y L => simp only [List.getElem?_cons_zero, Option.some.injEq] at h; subst h; rfl
theorem jn_next (L : List Fd) (k : Nat) (x : Fd) (h0 : 0 < k) (h : L[k]? = some x) : jn ((L.take (k + 1)).map wrB) = jn ((L.take k).map wrB) ++ 32 :: wrB x := by
  rw [List.take_add_one, h, List.map_append]
  refine jn_snoc _ _ ?_
  have hk := (List.getElem?_eq_some_iff.1 h).1
  intro e
  have := congrArg List.length e
  rw [List.length_map, List.length_take, List.length_nil] at this
  omega

theorem Quote_f (s : BA) (a : BA) (e : Int) (w : World) (hw : Gd w) (hs : s.size ≤ maxLen) (hq : quoteB s.data.toList = (a.data.toList, e)) :
    Calls Tryz.prog 21 #[.string s] w fun x w' => x = .returned (.tuple #[.string a, .int .i64 e]) ∧ Below w.heap.size w w' := by
  have h := Quote_any s w hw hs
  rw [hq] at h
  rw [show (⟨(a.data.toList, e).1.toArray⟩ : BA) = a from Lib.mk_data a] at h
  exact h

def wrX (q : Bool) (s : BA) : BA := if q then ⟨(quoteB s.data.toList).1.toArray⟩ else s
theorem wrX_right {q : Bool} {s : BA} (h : rightB (q, s.data.toList) = true) : wrX q s = ⟨(wrB (q, s.data.toList)).toArray⟩ := by
  cases q
  · exact (Lib.mk_data s).symm
  · have ht : textB s.data.toList = true := h
    show (⟨(quoteB s.data.toList).1.toArray⟩ : BA) = _
    rw [quoteB_eq, if_pos ht]; rfl

set_option maxRecDepth 100000 in
set_option maxHeartbeats 2000000 in
theorem writeField_any (q : Bool) (s : BA) (w : World) (hw : Gd w) (hs : s.size ≤ 1000000) :
    Calls Tryz.prog 35 #[.agg #[.bool q, .string s]] w fun e w' => e = .returned (.tuple #[.string (wrX q s), .bool (rightB (q, s.data.toList))]) ∧ Below w.heap.size w w' := by
  have hB0 : Below w.heap.size w (w.alloc (.cells #[.bool q, .string s] 42)) := (Below.refl _ _).alloc (Nat.le_refl _) _
  have hm : s.size ≤ maxLen := by unfold maxLen; omega
  cases q
  · go_enter Tryz.func35, Tryz.ntmps35
    go_wp2_with fail
    go_quiet ((go_at_call 58; exact Calls.quiet_of_same ((isBare_any s _ hm).mono fun _ _ ⟨h1, h2⟩ => ⟨h1, h2.symm⟩)))
    go_wp2_with fail
    go_ret2
    exact ⟨rfl, below_drewN hB0 _⟩
  · cases ht : textB s.data.toList
    · have hq : quoteB s.data.toList = ([], 2) := by rw [quoteB_eq, if_neg (by rw [ht]; decide)]
      have HQ := Lib.hid (fun w hw => Quote_f s ⟨#[]⟩ 2 w hw hm hq)
      have e1 : Hid (wrX true s = ⟨#[]⟩) := by unfold Hid wrX; rw [hq]; rfl
      have e2 : Hid (rightB (true, s.data.toList) = false) := ht
      clear hq ht
      go_enter Tryz.func35, Tryz.ntmps35
      go_wp2_with fail
      refine (HQ.out _ (hw.later hB0)).mono ?_
      rintro e w1 ⟨rfl, hB1⟩
      go_wp2_with fail
      go_ret2
      rw [e1.out, e2.out]
      exact ⟨rfl, hB0.trans (hB1.mono hB0.size)⟩
    · have hq : quoteB s.data.toList = (34 :: (dblQ s.data.toList ++ [34]), 0) := by rw [quoteB_eq, if_pos ht]
      have HQ := Lib.hid (fun w hw => Quote_f s ⟨(34 :: (dblQ s.data.toList ++ [34])).toArray⟩ 0 w hw hm hq)
      have e1 : Hid (wrX true s = ⟨(34 :: (dblQ s.data.toList ++ [34])).toArray⟩) := by unfold Hid wrX; rw [hq]; rfl
      have e2 : Hid (rightB (true, s.data.toList) = true) := ht
      obtain ⟨X, hX⟩ : ∃ X : BA, (⟨(34 :: (dblQ s.data.toList ++ [34])).toArray⟩ : BA) = X := ⟨_, rfl⟩
      rw [hX] at HQ e1
      clear hq ht hX
      go_enter Tryz.func35, Tryz.ntmps35
      go_wp2_with fail
      refine (HQ.out _ (hw.later hB0)).mono ?_
      rintro e w1 ⟨rfl, hB1⟩
      go_wp2_with fail
      go_ret2
      rw [e1.out, e2.out]
      exact ⟨rfl, hB0.trans (hB1.mono hB0.size)⟩

set_option maxRecDepth 100000 in
set_option maxHeartbeats 4000000 in
theorem Join_any (v : Value) (L : List Fd) (w : World) (h : FieldsAt w v L) (hL : ∀ x ∈ L, x.2.length ≤ 1000000) (hn0 : L.length ≤ 100000) (hw : Gd w) :
    Calls Tryz.prog 17 #[v] w fun e w' => e = .returned (.tuple #[.string ⟨(joinB L).1.toArray⟩, .int .i64 (joinB L).2]) ∧ Below w.heap.size w w' := by
  obtain ⟨a, cap, rfl⟩ := h.form
  obtain ⟨n, hn⟩ : ∃ n, L.length = n := ⟨_, rfl⟩
  have HN := Lib.hid hn
  rw [hn] at h hn0 ⊢
  by_cases h64 : 64 < n
  · have hd : Hid (joinB L = ([], 3)) := by unfold Hid joinB; rw [if_pos (by omega)]
    clear hn
    go_enter Tryz.func17, Tryz.ntmps17
    go_wp2_with fail
    go_ret2
    rw [hd.out]
    exact ⟨rfl, Below.refl _ _⟩
  have hd : Hid (joinB L = if L.all rightB then (if 4096 < (jn (L.map wrB)).length then ([], 3) else (jn (L.map wrB), 0)) else ([], 2)) := by unfold Hid joinB; rw [if_neg (by omega)]
  have HL := Lib.hid hL
  clear hL hn
  obtain ⟨W2, hW2⟩ : ∃ x, w.alloc (.cells #[.pointer none, .slice none 0 0] 77) = x := ⟨_, rfl⟩
  have bb : Lib.IsBuilderF 77 5 w.heap.size w.heap.size [] W2 := by rw [← hW2]; exact bld_new w _ (Nat.le_refl _)
  have B2 : Below w.heap.size w W2 := by rw [← hW2]; exact (Below.refl _ _).alloc (Nat.le_refl _) _
  go_enter Tryz.func17, Tryz.ntmps17
  go_wp2_with fail
  try rw [hW2]
  clear hW2
  go_loopw [14] (fun i wr => ∃ k : Nat, k ≤ n ∧ i = .int .i64 k ∧ Lib.IsBuilderF 77 5 w.heap.size w.heap.size (Lib.byteCells (jn ((L.take k).map wrB))) wr ∧ Hid (∀ x ∈ L.take k, rightB x = true) ∧ Below w.heap.size w wr) (fun i _ => n - (intOf i).toNat)
  case atStart => exact ⟨0, Nat.zero_le _, rfl, bb, (fun x hx => by cases hx), B2⟩
  case round =>
    obtain ⟨k, hk, rfl, hbb, hR, hB⟩ := hrel
    by_cases hlt : k < n
    · have hkl : k < L.length := by rw [HN.out]; exact hlt
      obtain ⟨b, off, rfl, k1, k2⟩ := h.at k hkl
      obtain ⟨x, hx⟩ : ∃ x, L[k] = x := ⟨_, rfl⟩
      have hxo : L[k]? = some x := by rw [List.getElem?_eq_getElem hkl, hx]
      have hxl := HL.out x (List.mem_of_getElem? hxo)
      rw [hx] at k1 k2
      obtain ⟨q, t⟩ := x
      obtain ⟨s, hs⟩ : ∃ s : BA, (⟨t.toArray⟩ : BA) = s := ⟨_, rfl⟩
      have hst : s.data.toList = t := by rw [← hs]
      rw [hs] at k2
      replace k1 := cell_later hB k1
      replace k2 := cell_later hB k2
      have hsl : s.size ≤ 1000000 := by rw [Lib.size_eq, hst]; exact hxl
      subst hst
      have hi1 : (k : Int) < (n : Int) := by omega
      have hGr := hw.later hB
      have hsz := hB.size
      have HXO := Lib.hid hxo
      simp only at k1 k2
      clear hx hs hxl hxo
      go_wp2_with fail
      have bA : Below wr.heap.size wr (wr.alloc (.cells #[.bool q, .string s] 42)) := (Below.refl _ _).alloc (Nat.le_refl _) _
      refine (writeField_any q s _ (hGr.later bA) hsl).mono ?_
      rintro e w3 ⟨rfl, B3⟩
      have hb3 := bld_below (bld_below hbb bA) B3
      have hB3 : Below w.heap.size w w3 := hB.trans ((bA.trans (B3.mono bA.size)).mono hB.size)
      cases hr : rightB (q, s.data.toList)
      · have hd2 : Hid (joinB L = ([], 2)) := by
          unfold Hid; rw [hd.out, if_neg]
          intro ha
          have := List.all_eq_true.1 ha _ (List.mem_of_getElem? HXO.out)
          rw [hr] at this; cases this
        clear hr
        go_wp2_with fail
        go_ret2
        rw [hd2.out]
        exact ⟨rfl, hB3⟩
      · have HX := Lib.hid (wrX_right hr)
        have hwl := wr_len hr
        have hR2 : Hid (∀ x ∈ L.take (k + 1), rightB x = true) := by
          intro y hy
          rw [List.take_add_one, HXO.out] at hy
          rcases List.mem_append.1 hy with hy | hy
          · exact hR.out y hy
          · simp at hy; rw [hy]; exact hr
        have hjl := jn_len (L.take k) hR.out
        have hlk : (L.take k).length ≤ 64 := by rw [List.length_take]; omega
        obtain ⟨Z, hZ⟩ : ∃ Z, wrB (q, s.data.toList) = Z := ⟨_, rfl⟩
        rw [hZ] at HX hwl
        obtain ⟨P, hP⟩ : ∃ P, wrX q s = P := ⟨_, rfl⟩
        rw [hP] at HX ⊢
        have hPs : P.size ≤ 402 := by rw [HX.out, Lib.size_eq]; exact hwl
        have hPl : Hid (P.data.toList = Z) := by unfold Hid; rw [HX.out]
        obtain ⟨J, hJ⟩ : ∃ J, jn ((L.take k).map wrB) = J := ⟨_, rfl⟩
        rw [hJ] at hb3 hjl
        have HZ := Lib.hid hZ
        have HJ := Lib.hid hJ
        clear hr hP hZ hJ
        have hbl : (Lib.byteCells J).length ≤ 30000 := by rw [Lib.byteCells_length]; omega
        by_cases hk0 : 0 < k
        · have hk1 : (0 : Int) < (k : Int) := by omega
          have HT : Hid (jn ((L.take (k + 1)).map wrB) = J ++ 32 :: Z) := by unfold Hid; rw [jn_next L k _ hk0 HXO.out, HJ.out, HZ.out]
          go_wp2_with fail
          refine (Tryz.Builder_WriteByte_k w.heap.size w.heap.size (Lib.byteCells J) 32 w3 hb3 (by omega) hB3.size).mono ?_
          rintro e w4 ⟨rfl, hb4, hB4, _⟩
          have hB5 := hB3.trans hB4
          go_wp2_with fail
          refine (Tryz.Builder_WriteString_k w.heap.size w.heap.size _ P w4 (.inr hb4) (by rw [List.length_append]; simp only [List.length_cons, List.length_nil]; omega) hB5.size).mono ?_
          rintro e w5 ⟨rfl, hb5, hB6, _⟩
          go_wp2
          go_roundw
          case rel =>
            refine ⟨k + 1, by omega, by go_num, ?_, hR2, hB5.trans hB6⟩
            rw [HT.out, Lib.byteCells_append, ← hPl.out]
            have e : Lib.byteCells (32 :: P.data.toList) = [.int .u8 32] ++ Lib.strCells P := rfl
            rw [e, ← List.append_assoc]
            exact .inr hb5
          case measure => simp [intOf]; omega
        · have hk1 : ¬ (0 : Int) < (k : Int) := by omega
          obtain rfl : k = 0 := by omega
          have hJ0 : J = [] := by rw [← HJ.out]; rfl
          subst hJ0
          have HT : Hid (jn ((L.take (0 + 1)).map wrB) = Z) := by unfold Hid; rw [jn_zero L _ HXO.out, HZ.out]
          go_wp2_with fail
          refine (Tryz.Builder_WriteString_k w.heap.size w.heap.size _ P w3 hb3 (by omega) hB3.size).mono ?_
          rintro e w5 ⟨rfl, hb5, hB6, _⟩
          go_wp2
          go_roundw
          case rel =>
            refine ⟨0 + 1, by omega, by go_num, ?_, hR2, hB3.trans hB6⟩
            rw [HT.out, ← hPl.out]
            exact .inr hb5
          case measure => simp [intOf]; omega
    · have hi1 : ¬ ((k : Int) < (n : Int)) := by omega
      have hs : L.take k = L := List.take_of_length_le (by rw [HN.out]; omega)
      rw [hs] at hbb
      have hall : L.all rightB = true := by rw [hs] at hR; exact List.all_eq_true.2 hR.out
      have hd2 : Hid (joinB L = if 4096 < (jn (L.map wrB)).length then ([], 3) else (jn (L.map wrB), 0)) := by unfold Hid; rw [hd.out, if_pos hall]
      have hjl := jn_len L (List.all_eq_true.1 hall)
      rw [HN.out] at hjl
      obtain ⟨J, hJ⟩ : ∃ J, jn (L.map wrB) = J := ⟨_, rfl⟩
      rw [hJ] at hbb hd2 hjl
      clear hs hall hJ
      go_wp2_with fail
      refine (Tryz.Builder_Len_f w.heap.size w.heap.size _ _ hbb).mono ?_
      rintro e w4 ⟨rfl, rfl⟩
      rw [Lib.byteCells_length]
      by_cases h4 : 4096 < J.length
      · have h5 : (4096 : Int) < (J.length : Int) := by omega
        have hd3 : Hid (joinB L = ([], 3)) := by unfold Hid; rw [hd2.out, if_pos h4]
        go_wp2_with fail
        go_ret2
        rw [hd3.out]
        exact ⟨rfl, hB⟩
      · have h5 : ¬ (4096 : Int) < (J.length : Int) := by omega
        have hd3 : Hid (joinB L = (J, 0)) := by unfold Hid; rw [hd2.out, if_neg h4]
        go_wp2_with fail
        refine (Tryz.Builder_String_any_k w.heap.size w.heap.size _ _ hbb hB.size).mono ?_
        rintro e w5 ⟨rfl, _, hB4, _⟩
        go_wp2
        go_ret2
        rw [hd3.out]
        exact ⟨rfl, hB.trans hB4⟩
end Go.Proofs.YtdcgfbebeiheiaaGreatDoor
