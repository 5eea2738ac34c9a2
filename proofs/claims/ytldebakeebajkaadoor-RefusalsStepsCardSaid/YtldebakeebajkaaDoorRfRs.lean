/- Rest: the rules that are left. -/
import Derived.Test.YtldebakeebajkaaDoorRfFar
namespace Go.Proofs.YtldebakeebajkaaDoor
open Go.RowKit Go.Shelf
attribute [local go_sem] Oper.semAt_some

/-- What is left of a rule, numbered anew. -/
def rest1 (md : Nat → Nat) (r : Ru) : List Ru := match later r (md r.k) with
  | some r' => [⟨r'.k, r'.f - md r.k, r'.e, r'.t⟩]
  | none => []
def restL (L : List Ru) (md : Nat → Nat) : List Ru := L.flatMap (rest1 md)
theorem rest1_ok {md : Nat → Nat} {r r' : Ru} (h : r.ok) (hr : r' ∈ rest1 md r) : r'.ok ∧ r'.k = r.k := by
  unfold rest1 at hr
  cases hl : later r (md r.k) with
  | none => rw [hl] at hr; cases hr
  | some q =>
    rw [hl] at hr
    simp at hr
    subst hr
    obtain ⟨h1, h2, h3, h4, h5, h6, _⟩ := later_some h hl
    have a1 := h.k; have a2 := h.e2
    exact ⟨⟨by simp only; omega, by simp only; omega, by simp only; omega, by simp only; omega, h5, h4⟩, h1⟩
theorem restL_ok {L : List Ru} (h : OkL L) (md : Nat → Nat) : OkL (restL L md) := by
  refine ⟨?_, fun r' hr => ?_⟩
  · have key : ∀ l : List Ru, (l.flatMap (rest1 md)).length ≤ l.length := fun l => by
      induction l with
      | nil => exact Nat.le_refl _
      | cons r l ih =>
        rw [List.flatMap_cons, List.length_append, List.length_cons]
        have : (rest1 md r).length ≤ 1 := by unfold rest1; split <;> simp
        omega
    have := key L
    have := h.1
    unfold restL; omega
  · obtain ⟨r, hm, hr2⟩ := List.mem_flatMap.1 hr
    exact (rest1_ok (h.2 r hm) hr2).1
theorem rest1_ref {md : Nat → Nat} {r : Ru} (h : r.ok) (m : Nat) (hm : 1 ≤ m) : ((rest1 md r).any fun x => x.ref m) = r.ref (md r.k + m) := by
  unfold rest1
  cases hl : later r (md r.k) with
  | none =>
    rw [later_none h hl _ (by omega)]
    rfl
  | some q =>
    obtain ⟨h1, h2, h3, h4, h5, h6, h7⟩ := later_some h hl
    have hok : (⟨q.k, q.f - md r.k, q.e, q.t⟩ : Ru).ok := (rest1_ok (md := md) h (by unfold rest1; rw [hl]; simp)).1
    simp only [List.any_cons, List.any_nil, Bool.or_false]
    rw [Bool.eq_iff_iff, Ru.ref_iff _ _ hok, h7 _ (by omega)]
    simp only
    constructor
    · rintro ⟨i, hi, ht⟩; exact ⟨i, by omega, ht⟩
    · rintro ⟨i, hi, ht⟩; exact ⟨i, by omega, ht⟩
theorem restL_ref {L : List Ru} (h : OkL L) (md : Nat → Nat) (k m : Nat) (hm : 1 ≤ m) : refP (restL L md) k m = refP L k (md k + m) := by
  have key : ∀ l : List Ru, (∀ r ∈ l, r.ok) → refP (l.flatMap (rest1 md)) k m = refP l k (md k + m) := fun l => by
    induction l with
    | nil => intro _; rfl
    | cons r l ih =>
      intro hl
      have hr := hl r (by simp)
      have ih := ih fun x hx => hl x (by simp [hx])
      unfold refP at ih ⊢
      rw [List.flatMap_cons, List.any_append, ih, List.any_cons]
      congr 1
      by_cases hk : r.k = k
      · rw [← hk, ← rest1_ref hr m hm]
        simp only [decide_true, Bool.true_and]
        rw [Bool.eq_iff_iff, List.any_eq_true, List.any_eq_true]
        constructor
        · rintro ⟨x, hx, h2⟩
          simp at h2
          exact ⟨x, hx, h2.2⟩
        · rintro ⟨x, hx, h2⟩
          exact ⟨x, hx, by simp [(rest1_ok hr hx).2, h2]⟩
      · have : ((rest1 md r).any fun r => decide (r.k = k) && r.ref m) = false := by
          rw [List.any_eq_false]
          intro x hx
          simp [(rest1_ok hr hx).2, hk]
        rw [this]
        simp [hk]
  exact key L h.2
theorem restL_take (L : List Ru) (md : Nat → Nat) (k : Nat) (r : Ru) (h : L[k]? = some r) : restL (L.take (k + 1)) md = restL (L.take k) md ++ rest1 md r := by
  unfold restL; rw [List.take_add_one, h, List.flatMap_append]; simp

theorem cell_four_new (w : World) (a b c d : Value) (t : TypeId) : ∀ j u, [a, b, c, d][j]? = some u → (w.alloc (.cells #[a, b, c, d] t)).cell? ((⟨w.heap.size, 0, none⟩ : Addr).add j) = some u := by
  intro j u hj
  match j with
  | 0 => simp at hj; subst hj; simp [Addr.add]
  | 1 => simp at hj; subst hj; simp [Addr.add]
  | 2 => simp at hj; subst hj; simp [Addr.add]
  | 3 => simp at hj; subst hj; simp [Addr.add]
  | j + 4 => simp at hj
theorem boxed_set5 {W : World} {b : Nat} {t : TypeId} {v : Value} (s : Boxed W b t v) {a : Addr} (ha : b ≠ a.block) (u : Value) : Boxed (W.setCell a u) b t v := (Below.heap_setCell _ _ _ _ ha).trans s
theorem size_setCell5 (W : World) (a : Addr) (u : Value) : (W.setCell a u).heap.size = W.heap.size := by simp [World.setCell]
theorem rest_world (w : World) (v : Value) (c h : Nat → Int) : ∃ WL, (w.alloc (.cells (stA v c h) 40)).alloc (.cells #[.slice none 0 0] 24) = WL ∧ Below w.heap.size w WL ∧ SBox WL w.heap.size v c h ∧ Boxed WL (w.heap.size + 1) 24 (.slice none 0 0) := by
  refine ⟨_, rfl, ((Below.refl _ _).alloc (Nat.le_refl _) _).alloc (by simp) _, (SBox.new w v c h).alloc _, ?_⟩
  have := Boxed.new (w.alloc (.cells (stA v c h) 40)) 24 (.slice none 0 0)
  rw [World.size_alloc] at this
  exact this
set_option maxRecDepth 100000 in
set_option maxHeartbeats 2000000 in
theorem Rest_bad (v : Value) (c h : Nat → Int) (x : Int) (hx : x ≠ 0) (w : World) (hC : ∀ W, Below w.heap.size w W → Calls Tryd.prog 31 #[stV v c h] W fun e w' => e = .returned (.int .i64 x) ∧ Below W.heap.size W w') :
    Calls Tryd.prog 35 #[stV v c h] w fun e w' => e = .returned (.tuple #[.agg #[.slice none 0 0], .int .i64 x]) ∧ Below w.heap.size w w' := by
  obtain ⟨WL, hWL, hb, sS, sR⟩ := rest_world w v c h
  have HC := Lib.hid (hC WL hb)
  have hq : (x != 0) = true := by simp [hx]
  clear hx hC
  go_enter Tryd.func35, Tryd.ntmps35
  go_wp2_with (refine wpList_load_row rfl 40 _ rfl w.heap.size rfl 40 _ (0, 0) _ sS Tryd.underlying40 rfl (st_i _ _ _) ?_)
  try rw [hWL]
  refine HC.out.mono ?_
  rintro e w1 ⟨rfl, B1⟩
  have r1 : Boxed w1 (w.heap.size + 1) 24 (.slice none 0 0) := sR.kept (grown_of_below B1) (by simp)
  have hB1 := hb.trans (B1.mono hb.size)
  have f1 := r1.frozen
  have c1 := r1.cell
  clear hWL
  go_wp2_with fail
  have r2 : Boxed (w1.setCell ⟨w.heap.size + 1, 0, none⟩ (.slice none 0 0)) (w.heap.size + 1) 24 (.slice none 0 0) := r1.set _
  have c2 := r2.cell
  refine bodyPost_ret (v := .tuple #[.agg #[.slice none 0 0], .int .i64 x]) (by simp [results, Tryd.results35, go_sem, c2]) rfl ⟨rfl, hB1.setCell (by dsimp only; omega) _⟩

set_option maxRecDepth 100000 in
set_option maxHeartbeats 4000000 in
theorem Rest_ok (v : Value) (L : List Ru) (hL : OkL L) (c h : Nat → Int) (hs : ∀ k, k < 7 → c k ≤ 49708 ∨ 1000000 < c k) (hrs : csF L c h = 0) (md : Nat → Nat) (hmd : ∀ k, k < 7 → c k = (md k : Int)) (hmd2 : ∀ k, k < 7 → md k ≤ 1000000) (w : World) (hr : RAt w v (toI L)) :
    Calls Tryd.prog 35 #[stV v c h] w fun e w' => ∃ u, e = .returned (.tuple #[.agg #[u], .int .i64 0]) ∧ RAt w' u (toI (restL L md)) ∧ Below w.heap.size w w' := by
  obtain ⟨WL, hWL, hb, sS, sR⟩ := rest_world w v c h
  have HC := Lib.hid (CheckState_is v L hL c h hs 0 hrs WL (hr.later hb))
  have HL := Lib.hid hL
  obtain ⟨va, vc, rfl⟩ := hr.form
  obtain ⟨n, hn⟩ : ∃ n, L.length = n := ⟨_, rfl⟩
  have HN := Lib.hid hn
  have hn50 : n ≤ 50 := by have := hL.1; omega
  have HLN : Hid ((toI L).length = n) := by unfold Hid; rw [toI_len, hn]
  rw [HLN.out] at hr hWL sS HC ⊢
  obtain ⟨i0, hi, hz0, hz1, hz2⟩ := info_parts Tryd.infoRl
  have Hhi := Lib.hid hi
  have Hz0 := Lib.hid hz0
  have Hz1 := Lib.hid hz1
  have Hz2 := Lib.hid hz2
  clear hrs hs hn hi hz0 hz1 hz2
  go_enter Tryd.func35, Tryd.ntmps35
  go_wp2_with (refine wpList_load_row rfl 40 _ rfl w.heap.size rfl 40 _ (0, 0) _ sS Tryd.underlying40 rfl (st_i _ _ _) ?_)
  try rw [hWL]
  refine HC.out.mono ?_
  rintro e w1 ⟨rfl, B1⟩
  have s1 := sS.later B1
  have r1 : Boxed w1 (w.heap.size + 1) 24 (.slice none 0 0) := sR.kept (grown_of_below B1) (by simp)
  have hB1 := hb.trans (B1.mono hb.size)
  have r1l := r1.lt
  obtain ⟨W2, hW2⟩ : ∃ x, w1.alloc (.cells #[.slice none 0 0] 24) = x := ⟨_, rfl⟩
  have B2 : Below w1.heap.size w1 W2 := by rw [← hW2]; exact (Below.refl _ _).alloc (Nat.le_refl _) _
  have l2 : Boxed W2 w1.heap.size 24 (.slice none 0 0) := by rw [← hW2]; exact Boxed.new w1 _ _
  have s2 := s1.later B2
  have r2 : Boxed W2 (w.heap.size + 1) 24 (.slice none 0 0) := r1.kept (grown_of_below B2) (by simp)
  have hB2 := hB1.trans (B2.mono hB1.size)
  have q2 := s2.v
  obtain ⟨Q, hQ⟩ : ∃ x, w1.heap.size = x := ⟨_, rfl⟩
  clear hWL
  go_wp2_with fail
  try rw [hW2]
  rw [hQ] at l2 r1l
  have hz2 : W2.heap.size = Q + 1 := by rw [← hW2, World.size_alloc, hQ]
  clear hW2 hQ
  go_loopw [21] (fun i wr => ∃ (k : Nat) (u : Value), k ≤ n ∧ i = .int .i64 k ∧ Boxed wr Q 24 u ∧ wr.ownsRow (Q + 1) 61 4 u (toI (restL (L.take k) md)).length (rowU (toI (restL (L.take k) md))) ∧ SBox wr w.heap.size (.slice va n vc) c h ∧ Boxed wr (w.heap.size + 1) 24 (.slice none 0 0) ∧ Below w.heap.size w wr ∧ Q + 1 ≤ wr.heap.size) (fun i _ => n - (intOf i).toNat)
  case atStart => exact ⟨0, _, Nat.zero_le _, rfl, l2, World.ownsRow_nil _ _ _ _, s2, r2, hB2, by omega⟩
  case round =>
    clear l2 s2 r2 hB2 q2
    obtain ⟨k, u, hk, rfl, hl, ho, hS, hR, hB, hQ1⟩ := hrel
    by_cases hlt : k < n
    · obtain ⟨r, hx⟩ : ∃ x, L[k]? = some x := ⟨_, List.getElem?_eq_getElem (by rw [HN.out]; exact hlt)⟩
      have hrk := HL.out.get hx
      obtain ⟨b, off, rfl, _, k1, k2, k3, k4⟩ := hr.at k _ (toI_some hx)
      replace k1 := cell_later hB k1
      replace k2 := cell_later hB k2
      replace k3 := cell_later hB k3
      replace k4 := cell_later hB k4
      simp only [Ru.toI] at k1 k2 k3 k4
      have hi1 : (k : Int) < (n : Int) := by omega
      have hk7 := hrk.k
      have hck := hS.c r.k hk7
      rw [hmd r.k hk7] at hck
      obtain ⟨m, hm⟩ : ∃ m, md r.k = m := ⟨_, rfl⟩
      have hm6 : m ≤ 1000000 := by rw [← hm]; exact hmd2 r.k hk7
      rw [hm] at hck
      have hk7i : (r.k : Int) < 7 := by omega
      have hst := restL_take L md k r hx
      have har := arr7
      have hsz := hB.size
      have hSl := hS.lt
      cases hlat : later r m with
      | none =>
        have HS : Hid (restL (L.take (k + 1)) md = restL (L.take k) md) := by unfold Hid; rw [hst]; unfold rest1; rw [hm, hlat]; simp
        have HLt := Lib.hid (later_no r hrk m hm6 hlat)
        clear hst hx hm hlat hrk
        go_wp2_with fail
        refine (HLt.out _).mono ?_
        rintro e w3 ⟨rfl, B3⟩
        have bA : Below wr.heap.size wr w3 := ((Below.refl _ _).alloc (Nat.le_refl _) _).trans (B3.mono (by simp))
        go_wp2
        go_roundw
        case rel =>
          have bB : Below wr.heap.size wr (w3.alloc (.cells #[.int .i64 0, .int .i64 0, .int .i64 0, .int .i64 0] 61)) := bA.trans ((Below.refl _ _).alloc (by have := bA.size; exact this) _)
          refine ⟨k + 1, u, by omega, by go_num, hl.kept (grown_of_below bB) (by simp), ?_, hS.later bB, hR.kept (grown_of_below bB) (by simp), hB.trans (bB.mono hB.size), Nat.le_trans hQ1 bB.size⟩
          rw [HS.out]
          exact ho.kept (grown_of_below bB) (Classical.em _)
        case measure => simp [intOf]; omega
      | some q =>
        have hls := later_some hrk hlat
        have HS : Hid (restL (L.take (k + 1)) md = restL (L.take k) md ++ [⟨q.k, q.f - m, q.e, q.t⟩]) := by unfold Hid; rw [hst]; unfold rest1; rw [hm, hlat]
        have HLt := Lib.hid (later_yes r q hrk m hm6 hlat)
        have hqf : m < q.f := hls.2.2.1
        have hqb := hls.2.2.2.2.2.1
        obtain ⟨d, hd⟩ : ∃ d, q.f - m = d := ⟨_, rfl⟩
        have hdi : (q.f : Int) - (m : Int) = (d : Int) := by omega
        rw [hd] at HS
        clear hst hx hm hlat hrk hls
        go_wp2_with fail
        refine (HLt.out _).mono ?_
        rintro e w3 ⟨rfl, B3⟩
        have bA : Below wr.heap.size wr w3 := ((Below.refl _ _).alloc (Nat.le_refl _) _).trans (B3.mono (by simp))
        have hl3 : Boxed w3 Q 24 u := hl.kept (grown_of_below bA) (by simp)
        have ho3 := ho.kept (grown_of_below bA) (Classical.em _)
        obtain ⟨nr, hnr⟩ : ∃ nr, (toI (restL (L.take k) md)).length = nr := ⟨_, rfl⟩
        have hnr50 : nr ≤ 50 := by rw [← hnr, toI_len]; have h1 := (restL_ok ⟨by have := HL.out.1; rw [List.length_take]; omega, fun x hx => HL.out.2 x (List.mem_of_mem_take hx)⟩ md : OkL (restL (L.take k) md)).1; exact h1
        rw [hnr] at ho3
        obtain ⟨ua, uc, rfl⟩ : ∃ a c, u = .slice a nr c := by
          obtain ⟨_, ⟨rfl, rfl⟩ | ⟨g, cap, _, rfl, _⟩⟩ := ho3
          · exact ⟨_, _, rfl⟩
          · exact ⟨_, _, rfl⟩
        have ho4 := (ho3.alloc (.cells #[.int .i64 (q.k : Int), .int .i64 (d : Int), .int .i64 (q.e : Int), .int .i64 (q.t : Int)] 61)).alloc (.cells #[.int .i64 (q.k : Int), .int .i64 (d : Int), .int .i64 (q.e : Int), .int .i64 (q.t : Int)] 61)
        have HO4 := Lib.hid ho4
        have c3 := hl3.cell
        have f3 := hl3.frozen
        have hz3 := bA.size
        have hl3l := hl3.lt
        clear ho3 ho4
        go_wp2_with (at_builtin; refine wpList_append_own _ rfl _ _ 22 rfl (Q + 1) 61 i0 (.agg #[.int .i64 0, .int .i64 0, .int .i64 0, .int .i64 0]) 4 32 Tryd.underlying22 Hhi.out Hz0.out Hz1.out Hz2.out rfl (by decide) _ _ _ rfl HO4.out ⟨w3.heap.size + 1, 0, none⟩ 1 1 [.int .i64 (q.k : Int), .int .i64 (d : Int), .int .i64 (q.e : Int), .int .i64 (q.t : Int)] rfl rfl ?c1 ?c2 ?c3 ?c4 ?c5 ?_)
        case c1 =>
          have := cell_four_new (w3.alloc (.cells #[.int .i64 (q.k : Int), .int .i64 (d : Int), .int .i64 (q.e : Int), .int .i64 (q.t : Int)] 61)) (.int .i64 (q.k : Int)) (.int .i64 (d : Int)) (.int .i64 (q.e : Int)) (.int .i64 (q.t : Int)) 61
          rw [World.size_alloc] at this
          exact this
        case c2 => intro u hu; simp at hu; rcases hu with rfl | rfl | rfl | rfl <;> rfl
        case c3 => unfold maxLen; omega
        case c4 => omega
        case c5 => simp; omega
        intro v' w5 hown hgrow _
        obtain ⟨g, cap, rfl⟩ : ∃ g cap, v' = .slice (some ⟨g, 0, none⟩) (nr + 1) cap := by
          obtain ⟨_, ⟨_, h0⟩ | ⟨g, cap, _, hv, _⟩⟩ := hown
          · omega
          · exact ⟨g, cap, hv⟩
        have hrow := fun k e => (HO4.out.lt k e).1
        have hl5 : Boxed w5 Q 24 (.slice ua nr uc) := ((hl3.alloc _).alloc _).kept hgrow (fun e => by have := hrow _ e.symm; omega)
        have hS5 : SBox w5 w.heap.size (.slice (some ⟨b, off, none⟩) n vc) c h := (hgrow.block _ (by simp; omega) (fun e => by have := hrow _ e.symm; omega)).trans (((hS.later bA).alloc _).alloc _)
        have hR5 : Boxed w5 (w.heap.size + 1) 24 (.slice none 0 0) := (((hR.kept (grown_of_below bA) (by simp)).alloc _).alloc _).kept hgrow (fun e => by have := hrow _ e.symm; omega)
        have hB5 : Below w.heap.size w w5 := (((hB.trans (bA.mono hB.size)).alloc (by omega) _).alloc (by simp; omega) _).grown hgrow (by simp; omega) (fun k e => by have := hrow k e; omega)
        have hsz5 := hgrow.size
        simp only [World.size_alloc] at hsz5
        have hgl := World.ownsRow.lt hown g rfl
        have HOw := Lib.hid hown
        have c5 := hl5.cell
        have f5 := hl5.frozen
        clear hown hgrow c3 f3 k1 k2 k3 k4 hck HO4
        go_wp2_with fail
        go_roundw
        case rel =>
          refine ⟨k + 1, _, by omega, by go_num, hl5.set _, ?_, hS5.other (by show w.heap.size ≠ Q; omega) _, boxed_set5 hR5 (by show w.heap.size + 1 ≠ Q; omega) _, hB5.setCell (by dsimp only; omega) _, by rw [size_setCell5]; omega⟩
          have h6 := World.ownsRow.kept HOw.out (grownBy_setCell' w5 Q (.slice (some ⟨g, 0, none⟩) (nr + 1) cap)) (.inr (fun e => by simp [Value.ownBlock] at e; omega))
          rw [HS.out]
          unfold toI
          rw [List.map_append, List.map_singleton, List.length_append, List.length_singleton, rowU_snoc]
          rw [show (List.map Ru.toI (restL (L.take k) md)).length = nr from hnr]
          exact h6
        case measure => simp [intOf]; omega
    · have hi1 : ¬ ((k : Int) < (n : Int)) := by omega
      have hkn : k = n := by omega
      have hs : L.take k = L := by rw [hkn, ← HN.out, List.take_length]
      rw [hs] at ho
      clear hs hkn
      obtain ⟨ua, uc, rfl⟩ : ∃ a c, u = .slice a (toI (restL L md)).length c := by
        obtain ⟨_, ⟨rfl, h0⟩ | ⟨g, cap, _, rfl, _⟩⟩ := ho
        · rw [h0]; exact ⟨_, _, rfl⟩
        · exact ⟨_, _, rfl⟩
      have c1 := hl.cell
      have c2 := hR.cell
      have f2 := hR.frozen
      have hRl := hR.lt
      have hoA := UOwn.at ho
      go_wp2_with fail
      have r3 : Boxed (wr.setCell ⟨w.heap.size + 1, 0, none⟩ (.slice ua (toI (restL L md)).length uc)) (w.heap.size + 1) 24 (.slice ua (toI (restL L md)).length uc) := hR.set _
      have c3 := r3.cell
      refine bodyPost_ret (v := .tuple #[.agg #[.slice ua (toI (restL L md)).length uc], .int .i64 0]) (by simp [results, Tryd.results35, go_sem, c3]) rfl ⟨_, rfl, ?_, hB.setCell (by dsimp only; omega) _⟩
      exact UOwn.at (World.ownsRow.kept ho (grownBy_setCell' wr (w.heap.size + 1) _) (.inr (fun e => by have := (World.ownsRow.lt ho _ e).1; omega)))
end Go.Proofs.YtldebakeebajkaaDoor
