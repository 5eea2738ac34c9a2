/- Of. -/
import Derived.Test.YtgljfiihaehedaaOf0
import Derived.Test.YtgljfiihaehedaaJoin
namespace Go.Proofs.Ytgljfiihaehedaa
open Go.RowKit
attribute [local go_sem] Oper.semAt_some

theorem cells_cell {W : World} {k : Nat} {c : Array Value} {t : TypeId} {f : Nat × Nat} (h : W.heap[k]? = some (.cells c t f)) (o : Nat) : W.cell? ⟨k, o, none⟩ = c[o]? := by simp [World.cell?, h]
theorem vat_one (W : World) (x : Value) (t : TypeId) : VAt (W.alloc (.cells #[x] t)) (.slice (some ⟨W.heap.size, 0, none⟩) 1 1) [x] :=
  ⟨W.heap.size, 0, 1, rfl, fun j u hu => by
    match j with
    | 0 => simp at hu; subst hu; exact cells_cell (World.alloc_heap_new W _) 0
    | j + 1 => simp at hu⟩
theorem vat_two (W : World) (x y : Value) (t : TypeId) : VAt (W.alloc (.cells #[x, y] t)) (.slice (some ⟨W.heap.size, 0, none⟩) 2 2) [x, y] :=
  ⟨W.heap.size, 0, 2, rfl, fun j u hu => by
    match j with
    | 0 => simp at hu; subst hu; exact cells_cell (World.alloc_heap_new W _) 0
    | 1 => simp at hu; subst hu; exact cells_cell (World.alloc_heap_new W _) 1
    | j + 2 => simp at hu⟩
theorem join_one (L : List Sp) (hV : ValL L) (hn : L.length ≤ 2000) (v : Value) (t : TypeId) (w : World) (h : SAt w v (toI L)) :
    Calls Try.prog 48 #[.slice (some ⟨w.heap.size, 0, none⟩) 1 1] (w.alloc (.cells #[v] t)) fun e w' => ∃ u M, e = .returned u ∧ SAt w' u (toI M) ∧ SetL 0 M ∧ (∀ p, inS M p = inS L p) ∧ Below w.heap.size w w' := by
  have hB : Below w.heap.size w (w.alloc (.cells #[v] t)) := (Below.refl _ _).alloc (Nat.le_refl _) _
  refine (join_is _ [v] [L] rfl (by simp) (fun l hl => by simp at hl; subst hl; exact ⟨hn, hV⟩) _ (vat_one w v t) (fun j x l hx hl => ?_)).mono ?_
  · match j with
    | 0 => simp at hx hl; subst hx; subst hl; exact h.later hB
    | j + 1 => simp at hx
  · rintro e w' ⟨u, M, rfl, hu, hM, hp, hB2⟩
    exact ⟨u, M, rfl, SOwn.at hu, hM, fun p => by rw [hp]; simp, hB.trans (hB2.mono hB.size)⟩
theorem join_two (L R : List Sp) (hV : ValL L) (hW : ValL R) (hn : L.length ≤ 2000) (hm : R.length ≤ 2000) (u v : Value) (t : TypeId) (w : World) (h : SAt w u (toI L)) (h2 : SAt w v (toI R)) :
    Calls Try.prog 48 #[.slice (some ⟨w.heap.size, 0, none⟩) 2 2] (w.alloc (.cells #[u, v] t)) fun e w' => ∃ r M, e = .returned r ∧ SAt w' r (toI M) ∧ SetL 0 M ∧ (∀ p, inS M p = (inS L p || inS R p)) ∧ Below w.heap.size w w' := by
  have hB : Below w.heap.size w (w.alloc (.cells #[u, v] t)) := (Below.refl _ _).alloc (Nat.le_refl _) _
  refine (join_is _ [u, v] [L, R] rfl (by simp) (fun l hl => by simp at hl; rcases hl with rfl | rfl; exact ⟨hn, hV⟩; exact ⟨hm, hW⟩) _ (vat_two w u v t) (fun j x l hx hl => ?_)).mono ?_
  · match j with
    | 0 => simp at hx hl; subst hx; subst hl; exact h.later hB
    | 1 => simp at hx hl; subst hx; subst hl; exact h2.later hB
    | j + 2 => simp at hx
  · rintro e w' ⟨r, M, rfl, hu, hM, hp, hB2⟩
    exact ⟨r, M, rfl, SOwn.at hu, hM, fun p => by rw [hp]; simp [inS_append], hB.trans (hB2.mono hB.size)⟩

set_option maxRecDepth 100000 in
set_option maxHeartbeats 1000000 in
theorem Of_ok (L : List Sp) (hV : ValL L) (hn : L.length ≤ 2000) (v : Value) (w : World) (h : SAt w v (toI L)) :
    Calls Try.prog 13 #[v] w fun e w' => ∃ M, SetL 0 M ∧ (∀ p, inS M p = inS L p) ∧ RetS w M 0 e w' := by
  have hc : chkL (toI L) 2000 = 0 := by
    unfold chkL
    rw [if_neg (by rw [toI_len]; omega), if_pos (allV_of hV)]
  have HC := Lib.hid hc
  have h64 := len64 h
  have HF := Lib.hid (fit_nat L hV)
  clear hc
  obtain ⟨va, vc, rfl⟩ := h.form
  go_enter Try.func13, Try.ntmps13
  go_wp2_with fail
  refine (checkList_is _ (toI L) HF.out 2000 0 HC.out h64 _ h).mono ?_
  rintro e w1 ⟨rfl, B1⟩
  have h1 := h.later B1
  go_wp2_with fail
  refine (join_one L hV hn _ _ _ h1).mono ?_
  rintro e w2 ⟨u, M, rfl, hu, hM, hp, hB⟩
  obtain ⟨ua, uc, rfl⟩ := hu.form
  have HU := Lib.hid hu
  have HP := Lib.hid hp
  clear hu hp
  go_wp2
  go_ret2
  exact ⟨M, hM, HP.out, _, rfl, HU.out, B1.trans (hB.mono B1.size)⟩

set_option maxRecDepth 100000 in
set_option maxHeartbeats 1000000 in
theorem Of_bad (l : List SpI) (hf : Fit l) (c : Int) (hc : chkL l 2000 = c) (h0 : c ≠ 0) (v : Value) (w : World) (h : SAt w v l) :
    Calls Try.prog 13 #[v] w fun e w' => RetS w [] c e w' := by
  have HC := Lib.hid hc
  have h64 := len64 h
  have hq : (c != 0) = true := by simp [h0]
  clear hc h0
  go_enter Try.func13, Try.ntmps13
  go_wp2_with fail
  refine (checkList_is _ l hf 2000 c HC.out h64 _ h).mono ?_
  rintro e w1 ⟨rfl, B1⟩
  go_wp2
  go_ret2
  exact ⟨_, rfl, nil_at _, B1⟩
end Go.Proofs.Ytgljfiihaehedaa
