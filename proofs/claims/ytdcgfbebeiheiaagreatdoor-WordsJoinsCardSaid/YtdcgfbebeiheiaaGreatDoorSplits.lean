/- Split, and Join of what it returns: the law's walk. -/
import Derived.Test.YtdcgfbebeiheiaaGreatDoorShown
import Derived.Test.YtdcgfbebeiheiaaGreatDoorRJoin
namespace Go.Proofs.YtdcgfbebeiheiaaGreatDoor
open Go.RowKit

theorem joinB_bytes (L : List Fd) (l : List UInt8) (h : joinB L = (l, 0)) : (joinB L).1 = l ∧ (joinB L).2 = 0 := by rw [h]; exact ⟨rfl, rfl⟩
theorem split_fields (s : BA) (L : List Fd) (e : Int) (h : splitB s = (L, e)) : L.length ≤ 64 ∧ ∀ x ∈ L, x.2.length ≤ 200 := by
  unfold splitB at h
  split at h
  · cases h; exact ⟨by decide, fun x hx => by cases hx⟩
  · split at h
    · cases h; exact ⟨by decide, fun x hx => by cases hx⟩
    · split at h
      · split at h
        · cases h; exact ⟨by decide, fun x hx => by cases hx⟩
        · rename_i ha h64
          cases h
          refine ⟨by unfold fieldsOf; rw [List.length_map]; omega, fun x hx => ?_⟩
          obtain ⟨p, hp, rfl⟩ := List.mem_map.1 hx
          have hok := List.all_eq_true.1 ha p hp
          obtain ⟨w1, _⟩ := okB_wr (p := p.data.toList) hok
          show (fldB p.data.toList).2.length ≤ 200
          generalize fldB p.data.toList = f at w1
          obtain ⟨q, t⟩ := f
          cases q
          · obtain ⟨_, h2, _⟩ := bare_no (l := t) w1
            exact h2
          · have ht : textB t = true := w1
            unfold textB at ht
            rw [Bool.and_eq_true, decide_eq_true_eq] at ht
            exact ht.1
      · cases h; exact ⟨by decide, fun x hx => by cases hx⟩
theorem join_split (s : BA) (L : List Fd) (h : splitB s = (L, 0)) : joinB L = (s.data.toList, 0) := by
  have hsz : s.size = s.data.toList.length := Lib.size_eq s
  have hl := pcs_list (s.size + 1) s
  unfold splitB at h
  split at h
  · cases h
  · rename_i h4
    split at h
    · rename_i he
      cases h
      rw [Lib.toList_data] at he
      have : s.data.toList = [] := List.isEmpty_iff.1 he
      rw [this]; rfl
    · split at h
      · split at h
        · cases h
        · rename_i ha h64
          have hf : fieldsOf (piecesL s) = (pcsB (s.size + 1) s.data.toList).map fldB := by rw [← hl, List.map_map]; rfl
          have hall : (pcsB (s.size + 1) s.data.toList).all okB = true := by rw [← hl, List.all_map]; exact ha
          have hn : (piecesL s).length = (pcsB (s.size + 1) s.data.toList).length := by rw [← hl, List.length_map]; rfl
          have hL := (congrArg Prod.fst h).symm
          simp only at hL
          rw [hf] at hL
          have hw : L.map wrB = pcsB (s.size + 1) s.data.toList := by
            rw [hL, List.map_map]
            refine (List.map_congr_left fun p hp => ?_).trans (List.map_id _)
            exact (okB_wr (List.all_eq_true.1 hall p hp)).2
          have hr : L.all rightB = true := by
            rw [hL, List.all_map]
            refine List.all_eq_true.2 fun p hp => ?_
            exact (okB_wr (List.all_eq_true.1 hall p hp)).1
          have hj : jn (L.map wrB) = s.data.toList := by rw [hw]; exact jn_pcs _ _ (by rw [hsz]; exact Nat.lt_succ_self _)
          have hlen : L.length ≤ 64 := by rw [hL, List.length_map, ← hn]; omega
          unfold joinB
          rw [if_neg (by omega), if_pos hr, hj, if_neg (by omega)]
      · cases h

theorem refSplit_f (s : BA) (l : List Fd) (err : Int) (he : splitB s = (l, err)) (hs : s.size ≤ 6000) (w : World) :
    Calls Tryz.prog 14 #[.string s] w fun e w' => ∃ v, e = .returned (.tuple #[v, .int .i64 err]) ∧ FieldsAt w' v l ∧ Below w.heap.size w w' :=
  (refSplit_any s w hs).mono fun _ _ ⟨v, h1, h2, h3⟩ => by rw [← split_two, he] at h1 h2; exact ⟨v, h1, FieldsAt.of_row h2, h3⟩
theorem Join_f (v : Value) (L : List Fd) (s : BA) (e : Int) (hj : joinB L = (s.data.toList, e)) (w : World) (h : FieldsAt w v L) (hL : ∀ x ∈ L, x.2.length ≤ 1000000) (hn0 : L.length ≤ 100000) (hw : Gd w) :
    Calls Tryz.prog 17 #[v] w fun x w' => x = .returned (.tuple #[.string s, .int .i64 e]) ∧ Below w.heap.size w w' := by
  have h1 := Join_any v L w h hL hn0 hw
  rw [hj] at h1
  rw [show (⟨(s.data.toList, e).1.toArray⟩ : BA) = s from Lib.mk_data s] at h1
  exact h1
theorem refJoin_f (v : Value) (L : List Fd) (s : BA) (e : Int) (hj : joinB L = (s.data.toList, e)) (w : World) (h : FieldsAt w v L) (hL : ∀ x ∈ L, x.2.length ≤ 1000000) (hn0 : L.length ≤ 100000) :
    Calls Tryz.prog 18 #[v] w fun x w' => x = .returned (.tuple #[.string s, .int .i64 e]) ∧ Below w.heap.size w w' := by
  have h1 := refJoin_any v L w h hL hn0
  rw [hj] at h1
  rw [show (⟨(s.data.toList, e).1.toArray⟩ : BA) = s from Lib.mk_data s] at h1
  exact h1
theorem alike_same (v1 v2 : Value) (l : List Fd) (w : World) (h1 : FieldsAt w v1 l) (h2 : FieldsAt w v2 l) (hm1 : l.length ≤ 100000) :
    Calls Tryz.prog 15 #[v1, v2] w fun e w' => e = .returned (.bool true) ∧ Below w.heap.size w w' := by
  have h := alike_any v1 v2 l l w h1 h2 (by omega)
  rw [decide_eq_true rfl] at h
  exact h

set_option maxRecDepth 100000 in
set_option maxHeartbeats 8000000 in
theorem law_splits (s : BA) (w : World) (hgd : Gd w) (hs : s.size ≤ maxLen) :
    Calls Tryz.prog 4 #[.string s] w fun e w' => e = .returned (.bool true) ∧ Below w.heap.size w w' := by
  have hs' := hs
  unfold maxLen at hs'
  by_cases hb : 6000 < s.size
  · go_enter Tryz.func4, Tryz.ntmps4
    go_wp2_with (first | (go_at_call 7; refine (shown_any _ hgd).mono ?_; rintro e w1 ⟨rfl, hB⟩))
    go_ret
    exact ⟨rfl, hB⟩
  · obtain ⟨L, ec, hsp⟩ : ∃ L ec, splitB s = (L, ec) := ⟨_, _, rfl⟩
    obtain ⟨f1, f2⟩ := split_fields s L ec hsp
    have HS := Lib.hid hsp
    have HF := Lib.hid f2
    obtain ⟨n, hn⟩ : ∃ n, L.length = n := ⟨_, rfl⟩
    have HN := Lib.hid hn
    rw [hn] at f1
    clear hs' hsp f2 hn
    go_enter Tryz.func4, Tryz.ntmps4
    go_wp2_with fail
    refine (Split_f s L ec HS.out hs _ hgd).mono ?_
    rintro e w1 ⟨v1, rfl, hv1, hB1⟩
    obtain ⟨a1, c1, rfl⟩ := hv1.form
    go_wp2_with fail
    refine (refSplit_f s L ec HS.out (by omega) _).mono ?_
    rintro e w2 ⟨v2, rfl, hv2, hB2⟩
    have b2 := hB1.trans (hB2.mono hB1.size)
    have hv1b := hv1.later hB2
    obtain ⟨a2, c2, rfl⟩ := hv2.form
    clear hB1 hv1 hB2
    go_wp2_with fail
    refine (fields_f _ L _ hv1b (by rw [HN.out]; omega)).mono ?_
    rintro e w3 ⟨v3, rfl, hv3, hB3⟩
    have b3 := b2.trans (hB3.mono b2.size)
    have hv1c := hv1b.later hB3
    have hv2c := hv2.later hB3
    obtain ⟨a3, c3, rfl⟩ := hv3.form
    clear b2 hB3 hv1b hv2
    go_wp2_with fail
    refine (alike_same _ _ L _ hv3 hv2c (by rw [HN.out]; omega)).mono ?_
    rintro e w4 ⟨rfl, hB4⟩
    have b4 := b3.trans (hB4.mono b3.size)
    have hv1d := hv1c.later hB4
    clear b3 hB4 hv1c hv2c hv3
    by_cases hec : ec = 0
    · subst hec
      go_wp2_with fail
      refine (Join_f _ L s 0 (join_split s L HS.out) _ hv1d (fun x hx => by have := HF.out x hx; omega) (by rw [HN.out]; omega) (hgd.later b4)).mono ?_
      rintro e w5 ⟨rfl, hB5⟩
      have b5 := b4.trans (hB5.mono b4.size)
      clear hB5 hv1d b4
      go_wp2_with (first | (go_at_call 7; refine (shown_any _ (hgd.later b5)).mono ?_; rintro e w6 ⟨rfl, hB6⟩))
      all_goals first | (exfalso; simp_all; done) | skip
      go_ret
      exact ⟨rfl, b5.trans (hB6.mono b5.size)⟩
    · have hq : (ec == 0) = false := by simp [hec]
      clear hec hv1d
      go_wp2_with (first | (go_at_call 7; refine (shown_any _ (hgd.later b4)).mono ?_; rintro e w6 ⟨rfl, hB6⟩))
      all_goals first | (exfalso; simp_all; done) | skip
      go_ret
      exact ⟨rfl, b4.trans (hB6.mono b4.size)⟩
end Go.Proofs.YtdcgfbebeiheiaaGreatDoor
