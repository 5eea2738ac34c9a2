/- The other way from a table of pages to a set. -/
import Derived.Test.YtgljfiihaehedaaMarks
import Derived.Test.YtgljfiihaehedaaJoin
namespace Go.Proofs.Ytgljfiihaehedaa
open Go.RowKit
attribute [local go_sem] Oper.semAt_some

/-- The set of the pages below p that are marked. -/
structure RInv (f : Nat → Bool) (p : Nat) (acc : List Sp) : Prop where
  set : SetL 0 acc
  pages : ∀ x, inS acc x = (decide (x < p) && f x)
  ends : ∀ y ∈ acc, y.1 + y.2 ≤ p
theorem RInv.start (f : Nat → Bool) : RInv f 0 [] := ⟨trivial, fun x => by simp [inS], fun y hy => by cases hy⟩
theorem RInv.skip {f : Nat → Bool} {p : Nat} {acc : List Sp} (h : RInv f p acc) (hp : f p = false) : RInv f (p + 1) acc :=
  ⟨h.set, fun x => by
    rw [h.pages x]
    by_cases hx : x = p
    · subst hx; rw [hp]; simp
    · rw [show decide (x < p + 1) = decide (x < p) by rw [Bool.eq_iff_iff]; simp; omega], fun y hy => by have := h.ends y hy; omega⟩
theorem RInv.add {f : Nat → Bool} {p : Nat} {acc : List Sp} (h : RInv f p acc) (hp : f p = true) (h0 : p = 0 ∨ f (p - 1) = false) (h24 : p < 1024) : RInv f (p + 1) (acc ++ [(p, 1)]) :=
  ⟨h.set.snoc (fun y hy => by
      have hm := List.mem_of_getLast? hy
      have h1 := h.ends y hm
      have h2 := h.set.lo y hm
      rcases Nat.lt_or_ge (y.1 + y.2) p with h3 | h3
      · exact h3
      · have h4 : inS acc (p - 1) = true := (inS_iff acc _).2 ⟨y, hm, by omega, by omega⟩
        rw [h.pages] at h4
        simp at h4
        rcases h0 with h0 | h0
        · omega
        · rw [h0] at h4; simp at h4) (Nat.zero_le _) (Nat.le_refl _) (by simp only; omega), fun x => by
    rw [inS_append, inS_one, h.pages x]
    by_cases hx : x = p
    · subst hx; rw [hp]; simp
    · rw [show (decide ((p, 1).1 ≤ x) && decide (x < (p, 1).1 + (p, 1).2)) = false by rw [Bool.eq_false_iff]; simp; omega, show decide (x < p + 1) = decide (x < p) by rw [Bool.eq_iff_iff]; simp; omega]; simp, fun y hy => by
    rcases List.mem_append.1 hy with hy | hy
    · have := h.ends y hy; omega
    · simp at hy; subst hy; exact Nat.le_refl _⟩
theorem RInv.grow {f : Nat → Bool} {p : Nat} {acc : List Sp} (h : RInv f p acc) (hp : f p = true) (h0 : 0 < p) (h1 : f (p - 1) = true) (h24 : p < 1024) : ∃ pre s n, acc = pre ++ [(s, n)] ∧ s + n = p ∧ RInv f (p + 1) (pre ++ [(s, n + 1)]) := by
  have h2 : inS acc (p - 1) = true := by rw [h.pages, h1]; simp; omega
  obtain ⟨y, hy, h3, h4⟩ := (inS_iff acc _).1 h2
  cases hl : acc.getLast? with
  | none =>
    rw [List.getLast?_eq_none_iff.1 hl] at hy; cases hy
  | some z =>
    obtain ⟨pre, rfl⟩ := List.getLast?_eq_some_iff.1 hl
    obtain ⟨s, n⟩ := z
    obtain ⟨k1, k2, _, k4, k5⟩ := h.set.init
    have hz := h.ends (s, n) (by simp)
    simp only at k4 k5 hz
    have hyz : y = (s, n) := by
      rcases List.mem_append.1 hy with hy | hy
      · exfalso
        have hb := far_init h.set y hy
        simp only at hb
        omega
      · simpa using hy
    subst hyz
    simp only at h3 h4
    have hsn : s + n = p := by omega
    refine ⟨pre, s, n, rfl, hsn, k1.snoc k2 (Nat.zero_le _) (by simp) (by simp only; omega), fun x => ?_, fun y hy => ?_⟩
    · have hx0 := h.pages x
      rw [inS_append, inS_one] at hx0 ⊢
      by_cases hx : x = p
      · subst hx; rw [hp]; simp; right; omega
      · rw [show decide (x < p + 1) = decide (x < p) by rw [Bool.eq_iff_iff]; simp; omega, ← hx0, show (decide ((s, n + 1).1 ≤ x) && decide (x < (s, n + 1).1 + (s, n + 1).2)) = (decide ((s, n).1 ≤ x) && decide (x < (s, n).1 + (s, n).2)) by rw [Bool.eq_iff_iff]; simp; omega]
    · rcases List.mem_append.1 hy with hy | hy
      · have := h.ends y (by simp [hy]); omega
      · simp at hy; subst hy; simp only; omega
where
  far_init : ∀ {l : List Sp} {a : Nat} {z : Sp}, SetL a (l ++ [z]) → ∀ y ∈ l, y.1 + y.2 < z.1
    | [], _, _, _, y, hy => by cases hy
    | [x], _, z, h, y, hy => by
      simp at hy; subst hy
      exact Nat.lt_of_lt_of_le (Nat.lt_succ_self _) h.2.2.2.1
    | x :: x' :: l, a, z, h, y, hy => by
      rcases List.mem_cons.1 hy with rfl | hy
      · have h2 := far_init (l := x' :: l) h.2.2.2 x' (by simp)
        have h3 := (h.2.2.2).1
        have h4 := h.2.2.2.2.1
        omega
      · exact far_init (l := x' :: l) h.2.2.2 y hy
theorem RInv.len {f : Nat → Bool} {p : Nat} {acc : List Sp} (h : RInv f p acc) : acc.length ≤ 2000 := by have := h.set.len (by omega); omega

set_option maxRecDepth 100000 in
set_option maxHeartbeats 4000000 in
theorem RSet_is (f : Nat → Bool) (w : World) :
    Calls Try.prog 50 #[.agg (mkA f)] w fun e w' => ∃ u M, e = .returned u ∧ SAt w' u (toI M) ∧ SetL 0 M ∧ (∀ x, x < 1024 → inS M x = f x) ∧ Below w.heap.size w w' := by
  obtain ⟨WL, hWL⟩ : ∃ x, w.alloc (.cells (mkA f) 69) = x := ⟨_, rfl⟩
  have hbL : Below w.heap.size w WL := by rw [← hWL]; exact (Below.refl _ _).alloc (Nat.le_refl _) _
  have aL : ABox WL w.heap.size f := by rw [← hWL]; exact World.alloc_heap_new w _
  have hzL : WL.heap.size = w.heap.size + 1 := by rw [← hWL]; simp
  obtain ⟨i0, hi, hz0, hz1, hz2⟩ := info_parts Try.infoSp
  have Hhi := Lib.hid hi
  have Hz0 := Lib.hid hz0
  have Hz1 := Lib.hid hz1
  have Hz2 := Lib.hid hz2
  clear hi hz0 hz1 hz2
  go_enter Try.func50, Try.ntmps50
  go_wp2_with (refine wpList_store_row rfl 69 _ _ rfl w.heap.size (mkA f) rfl rfl 69 _ (World.alloc_heap_new w _) (by rw [mkA_size]; kernel_rfl) (by rw [mkA_size]; kernel_rfl) (mkA_one _) ?_)
  try rw [hWL]
  clear hWL
  go_loopw [3, 4] (fun v i wr => ∃ (p : Nat) (acc : List Sp), p ≤ 1024 ∧ i = .int .i64 p ∧ SOwn wr (w.heap.size + 1) v (toI acc) ∧ RInv f p acc ∧ ABox wr w.heap.size f ∧ Below w.heap.size w wr ∧ w.heap.size + 1 ≤ wr.heap.size) (fun _ i _ => 1024 - (intOf i).toNat)
  case atStart => exact ⟨0, [], Nat.zero_le _, rfl, World.ownsRow_nil _ _ _ _, RInv.start f, aL, hbL, by omega⟩
  case round =>
    clear aL hbL hzL
    obtain ⟨p, acc, hp, rfl, hO, hI, aW, hB, hz⟩ := hrel
    have hlen := hI.len
    by_cases hlt : p < 1024
    · have hlt1 : (p : Int) < 1024 := by omega
      have hal := arr_len
      have cA := aW.cell p hlt
      have hz1 := aW.lt
      obtain ⟨va, vc, rfl⟩ := own_form2 hO
      cases hf : f p with
      | false =>
        rw [hf] at cA
        have HI := Lib.hid (hI.skip hf)
        clear hI hf
        go_wp2_with fail
        go_roundw
        case rel => exact ⟨p + 1, acc, by omega, by go_num, hO, HI.out, aW, hB, hz⟩
        case measure => simp [intOf]; omega
      | true =>
        rw [hf] at cA
        by_cases hg : 0 < p ∧ f (p - 1) = true
        · obtain ⟨pre, s, n, rfl, hsn, hI2⟩ := hI.grow hf hg.1 hg.2 hlt
          have HI := Lib.hid hI2
          obtain ⟨q, hq⟩ : ∃ q, p - 1 = q := ⟨_, rfl⟩
          have hq1 := hg.2
          rw [hq] at hq1
          have cQ := aW.cell q (by omega)
          rw [hq1] at cQ
          have hw1 : IntKind.i64.wrap ((p : Int) - 1) = (q : Int) := (IntWalk.i64_in _ (by omega)).trans (by omega)
          have hw2 : (p : Int) - 1 = (q : Int) := by omega
          have hp1 : (0 : Int) < (p : Int) := by omega
          have hq2 : (q : Int) < 1024 := by omega
          obtain ⟨m, hm⟩ : ∃ m, pre.length = m := ⟨_, rfl⟩
          have hmL : (toI (pre ++ [(s, n)])).length = m + 1 := by rw [toI_len, List.length_append, hm]; rfl
          have hym : (toI (pre ++ [(s, n)]))[m]? = some ((s : Int), (n : Int)) := toI_some (show (pre ++ [(s, n)])[m]? = some (s, n) by rw [← hm]; simp)
          have hat0 := SOwn.at hO
          have jO2 := hO
          unfold SOwn at jO2
          rw [hmL] at hat0 jO2 ⊢
          obtain ⟨g, go, hgv, hgl, r1, r2⟩ := hat0.at m _ hym
          subst hgv
          have hgo : go = 0 := by
            obtain ⟨_, ⟨hv, _⟩ | ⟨g', c', cur, hv, _⟩⟩ := jO2
            · cases hv
            · cases hv; rfl
          subst hgo
          rw [Nat.zero_add] at r1 r2
          simp only at r1 r2
          have hm4 : m ≤ 2000 := by rw [List.length_append] at hlen; simp at hlen; omega
          have hn4 : (n : Int) + 1 ≤ 1025 := by omega
          have hi5 : (m : Int) < (m : Int) + 1 := by omega
          rw [toI_snoc] at jO2
          obtain ⟨st1, st2, st3⟩ := own_storeS (r := ((s : Int), (n : Int))) jO2 (by rw [toI_len]; exact hm) ((n : Int) + 1)
          have ST := Lib.hid st1
          have aS := aW.other (a := ⟨g, m * 2 + 1, none⟩) (by show w.heap.size ≠ g; omega) (.int .i64 ((n : Int) + 1))
          have bS := hB.setCell (p := ⟨g, m * 2 + 1, none⟩) (by show w.heap.size ≤ g; omega) (.int .i64 ((n : Int) + 1))
          have AS := Lib.hid aS
          have BS := Lib.hid bS
          have hz5 : w.heap.size + 1 ≤ (wr.setCell ⟨g, m * 2 + 1, none⟩ (.int .i64 ((n : Int) + 1))).heap.size := Nat.le_trans hz (KeepsWalks.setCell wr _ _).size
          clear hI hI2 hf hg hq hat0 hym hO st1 aS bS hmL
          go_wp2_with fail
          go_roundw
          case rel =>
            refine ⟨p + 1, pre ++ [(s, n + 1)], by omega, by go_num, ?_, HI.out, AS.out, BS.out, hz5⟩
            unfold SOwn
            rw [toI_snoc, List.length_append, toI_len, hm]
            exact ST.out
          case measure => simp [intOf]; omega
        · have HI := Lib.hid (hI.add hf (by rcases Nat.eq_zero_or_pos p with h | h; exact .inl h; exact .inr (by cases h2 : f (p - 1); rfl; exact absurd ⟨h, h2⟩ hg)) hlt)
          have hr2 := World.ownsRow.alloc hO (.cells #[.int .i64 (p : Int), .int .i64 1] 31)
          have HR2 := Lib.hid hr2
          have hla : (toI acc).length ≤ 2000 := by rw [toI_len]; exact hlen
          clear hr2
          by_cases hp0 : 0 < p
          · have hq1 : f (p - 1) = false := by cases h2 : f (p - 1); rfl; exact absurd ⟨hp0, h2⟩ hg
            obtain ⟨q, hq⟩ : ∃ q, p - 1 = q := ⟨_, rfl⟩
            rw [hq] at hq1
            have cQ := aW.cell q (by omega)
            rw [hq1] at cQ
            have hw1 : IntKind.i64.wrap ((p : Int) - 1) = (q : Int) := (IntWalk.i64_in _ (by omega)).trans (by omega)
            have hw2 : (p : Int) - 1 = (q : Int) := by omega
            have hp1 : (0 : Int) < (p : Int) := by omega
            have hq2 : (q : Int) < 1024 := by omega
            clear hq
            clear hI hf hg
            go_wp2_with (at_builtin; refine wpList_append_own _ rfl _ _ 22 rfl (w.heap.size + 1) 31 i0 (.agg #[.int .i64 0, .int .i64 0]) 2 16 Try.underlying22 Hhi.out Hz0.out Hz1.out Hz2.out rfl (by decide) _ _ _ rfl HR2.out ⟨wr.heap.size, 0, none⟩ 1 1 [.int .i64 (p : Int), .int .i64 1] rfl rfl ?c1 ?c2 ?c3 ?c4 ?c5 ?_)
            try case c1 => exact cell_two_new wr (.int .i64 (p : Int)) (.int .i64 1) 31
            case c2 => first | exact ⟨rfl, rfl⟩ | (intro u hu; simp at hu; rcases hu with rfl | rfl <;> rfl)
            case c3 => unfold maxLen; omega
            case c4 => omega
            case c5 => first | omega | (simp; omega)
            intro v' w3 hown hgrow _
            obtain ⟨va', vc', rfl⟩ := own_form2 hown
            have hB4 := (hB.alloc hB.size (.cells #[.int .i64 (p : Int), .int .i64 1] 31)).grown hgrow (by have := hB.size; simp; omega) (fun j e => Nat.le_trans (Nat.le_succ _) (HR2.out.lt j e).1)
            have aW3 : ABox w3 w.heap.size f := (hgrow.block w.heap.size (by simp; omega) (fun e => by have := (HR2.out.lt _ e.symm).1; omega)).trans (aW.alloc _)
            have hz3 : w.heap.size + 1 ≤ w3.heap.size := by have := hgrow.size; simp at this; omega
            have HO := Lib.hid hown
            clear hown hgrow
            go_wp2
            go_roundw
            case rel =>
              refine ⟨p + 1, acc ++ [(p, 1)], by omega, by go_num, ?_, HI.out, aW3, hB4, hz3⟩
              have e1 : toI (acc ++ [(p, 1)]) = toI acc ++ [((p : Int), (1 : Int))] := by unfold toI; rw [List.map_append, List.map_singleton]; rfl
              unfold SOwn
              rw [e1, List.length_append, rowS_snoc]
              exact HO.out
            case measure => simp [intOf]; omega
          · have hp1 : ¬ (0 : Int) < (p : Int) := by omega
            clear hI hf hg
            go_wp2_with (at_builtin; refine wpList_append_own _ rfl _ _ 22 rfl (w.heap.size + 1) 31 i0 (.agg #[.int .i64 0, .int .i64 0]) 2 16 Try.underlying22 Hhi.out Hz0.out Hz1.out Hz2.out rfl (by decide) _ _ _ rfl HR2.out ⟨wr.heap.size, 0, none⟩ 1 1 [.int .i64 (p : Int), .int .i64 1] rfl rfl ?c1 ?c2 ?c3 ?c4 ?c5 ?_)
            try case c1 => exact cell_two_new wr (.int .i64 (p : Int)) (.int .i64 1) 31
            case c2 => first | exact ⟨rfl, rfl⟩ | (intro u hu; simp at hu; rcases hu with rfl | rfl <;> rfl)
            case c3 => unfold maxLen; omega
            case c4 => omega
            case c5 => first | omega | (simp; omega)
            intro v' w3 hown hgrow _
            obtain ⟨va', vc', rfl⟩ := own_form2 hown
            have hB4 := (hB.alloc hB.size (.cells #[.int .i64 (p : Int), .int .i64 1] 31)).grown hgrow (by have := hB.size; simp; omega) (fun j e => Nat.le_trans (Nat.le_succ _) (HR2.out.lt j e).1)
            have aW3 : ABox w3 w.heap.size f := (hgrow.block w.heap.size (by simp; omega) (fun e => by have := (HR2.out.lt _ e.symm).1; omega)).trans (aW.alloc _)
            have hz3 : w.heap.size + 1 ≤ w3.heap.size := by have := hgrow.size; simp at this; omega
            have HO := Lib.hid hown
            clear hown hgrow
            go_wp2
            go_roundw
            case rel =>
              refine ⟨p + 1, acc ++ [(p, 1)], by omega, by go_num, ?_, HI.out, aW3, hB4, hz3⟩
              have e1 : toI (acc ++ [(p, 1)]) = toI acc ++ [((p : Int), (1 : Int))] := by unfold toI; rw [List.map_append, List.map_singleton]; rfl
              unfold SOwn
              rw [e1, List.length_append, rowS_snoc]
              exact HO.out
            case measure => simp [intOf]; omega
    · have hlt1 : ¬ (p : Int) < 1024 := by omega
      have hp2 : p = 1024 := by omega
      have hat := SOwn.at hO
      have HI := Lib.hid hI
      have HT := Lib.hid hat
      obtain ⟨va, vc, rfl⟩ := own_form2 hO
      clear hI hat hO
      go_wp2
      go_ret
      exact ⟨_, rfl, acc, HT.out, HI.out.set, fun x hx => by rw [HI.out.pages, hp2]; simp [hx], hB⟩
end Go.Proofs.Ytgljfiihaehedaa
