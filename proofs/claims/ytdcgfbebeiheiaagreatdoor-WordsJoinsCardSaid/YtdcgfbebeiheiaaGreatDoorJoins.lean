/- Join, and Split of what it returns: the law's walk. -/
import Derived.Test.YtdcgfbebeiheiaaGreatDoorSplits
namespace Go.Proofs.YtdcgfbebeiheiaaGreatDoor
open Go.RowKit

theorem split_join (s : BA) (L : List Fd) (h : joinB L = (s.data.toList, 0)) : splitB s = (L, 0) := by
  unfold joinB at h
  split at h
  · exact absurd (congrArg Prod.snd h) (by simp)
  · rename_i h64
    split at h
    · rename_i hall
      split at h
      · exact absurd (congrArg Prod.snd h) (by simp)
      · rename_i h4
        have hs := (congrArg Prod.fst h).symm
        simp only at hs
        have hr := List.all_eq_true.1 hall
        rw [split_two, hs]
        cases hL : L with
        | nil => rfl
        | cons x L2 =>
          rw [hL] at hr hall h4 h64
          have hne : jn ((x :: L2).map wrB) ≠ [] := by
            have h1 := wr_ne (hr x (by simp))
            cases L2 with
            | nil => intro e; have e2 : wrB x = [] := e; rw [e2] at h1; cases h1
            | cons y L3 => intro e; have := congrArg List.length e; rw [show jn ((x :: y :: L3).map wrB) = wrB x ++ 32 :: jn ((y :: L3).map wrB) from rfl, List.length_append] at this; simp at this
          unfold rsplitB
          rw [if_neg h4, rs_pcs _ _ hne (Nat.lt_succ_self _), pcs_jn (x :: L2) _ (List.cons_ne_nil _ _) hr (Nat.lt_succ_self _)]
          have e1 : ((x :: L2).map wrB).all okB = true := by
            rw [List.all_map]
            exact List.all_eq_true.2 fun y hy => (wr_ok (hr y hy)).1
          have e2 : ((x :: L2).map wrB).map fldB = x :: L2 := by
            rw [List.map_map]
            exact (List.map_congr_left fun y hy => (wr_ok (hr y hy)).2).trans (List.map_id _)
          rw [if_pos e1, e2]
          simp only
          rw [if_neg h64]
    · have := congrArg Prod.snd h
      exact absurd this (by simp)

/-- What the law adds up. -/
def sumB (L : List Fd) : Nat := (L.map fun x => min x.2.length 6001).sum
theorem sumB_snoc (L : List Fd) (x : Fd) : sumB (L ++ [x]) = sumB L + min x.2.length 6001 := by simp [sumB]
theorem sumB_mem (L : List Fd) (x : Fd) (h : x ∈ L) : min x.2.length 6001 ≤ sumB L := by
  induction L with
  | nil => cases h
  | cons y L ih =>
    have e : sumB (y :: L) = min y.2.length 6001 + sumB L := by simp [sumB]
    rcases List.mem_cons.1 h with rfl | h
    · omega
    · have := ih h; omega

set_option maxRecDepth 100000 in
set_option maxHeartbeats 8000000 in
theorem law_joins (v : Value) (L : List Fd) (w : World) (hgd : Gd w) (h : FieldsAt w v L) (hl : L.length ≤ maxLen) (hx0 : ∀ x ∈ L, x.2.length ≤ maxLen) :
    Calls Tryz.prog 5 #[v] w fun e w' => e = .returned (.bool true) ∧ Below w.heap.size w w' := by
  have hl' := hl
  unfold maxLen at hl'
  obtain ⟨a, cap, rfl⟩ := h.form
  obtain ⟨n, hn⟩ : ∃ n, L.length = n := ⟨_, rfl⟩
  have HN := Lib.hid hn
  rw [hn] at h hl hl' ⊢
  by_cases hb : 100 < n
  · go_enter Tryz.func5, Tryz.ntmps5
    go_wp2_with (first | (go_at_call 7; refine (shown_any _ hgd).mono ?_; rintro e w1 ⟨rfl, hB⟩))
    go_ret
    exact ⟨rfl, hB⟩
  have HX := Lib.hid hx0
  clear hx0 hn
  go_enter Tryz.func5, Tryz.ntmps5
  go_wp2_with fail
  go_loop [3, 4] (fun m i => ∃ (k N : Nat), k ≤ n ∧ i = .int .i64 k ∧ m = .int .i64 N ∧ N ≤ 6001 * k ∧ Hid (N = sumB (L.take k))) (fun _ i => n - (intOf i).toNat)
  case atStart => exact ⟨0, 0, Nat.zero_le _, rfl, rfl, Nat.zero_le _, rfl⟩
  case round =>
    obtain ⟨k, N, hk, rfl, rfl, hNk, HS⟩ := hrel
    by_cases hlt : k < n
    · have hkl : k < L.length := by rw [HN.out]; exact hlt
      obtain ⟨b, off, rfl, k1, k2⟩ := h.at k hkl
      obtain ⟨x, hx⟩ : ∃ x, L[k] = x := ⟨_, rfl⟩
      have hxo : L[k]? = some x := by rw [List.getElem?_eq_getElem hkl, hx]
      have hxl := HX.out x (List.mem_of_getElem? hxo)
      rw [hx] at k2
      have hsum : Hid (sumB (L.take (k + 1)) = N + min x.2.length 6001) := by unfold Hid; rw [List.take_add_one, hxo, HS.out]; exact sumB_snoc _ _
      obtain ⟨q, t⟩ := x
      obtain ⟨s, hs⟩ : ∃ s : BA, (⟨t.toArray⟩ : BA) = s := ⟨_, rfl⟩
      have hst : s.data.toList = t := by rw [← hs]
      rw [hs] at k2
      have hsl : s.size ≤ maxLen := by rw [Lib.size_eq, hst]; exact hxl
      have hsz : s.size = t.length := by rw [Lib.size_eq, hst]
      unfold maxLen at hsl
      simp only at hsum
      rw [← hsz] at hsum
      have hi1 : (k : Int) < (n : Int) := by omega
      clear hx hs hxl hxo k1 hst hsz
      by_cases hm : s.size ≤ 6001
      · have hm1 : min (s.size : Int) 6001 = (s.size : Int) := by omega
        have hm2 : ¬ (6001 : Int) < (s.size : Int) := by omega
        go_wp2_with fail
        go_round
        case rel => exact ⟨k + 1, N + s.size, by omega, by go_num, by go_num, by omega, by unfold Hid; rw [hsum.out]; omega⟩
        case measure => simp [intOf]; omega
      · have hm1 : min (s.size : Int) 6001 = 6001 := by omega
        have hm2 : (6001 : Int) < (s.size : Int) := by omega
        go_wp2_with fail
        go_round
        case rel => exact ⟨k + 1, N + 6001, by omega, by go_num, by go_num, by omega, by unfold Hid; rw [hsum.out]; omega⟩
        case measure => simp [intOf]; omega
    · have hi1 : ¬ (k : Int) < (n : Int) := by omega
      have hs : L.take k = L := List.take_of_length_le (by rw [HN.out]; omega)
      rw [hs] at HS
      clear hs
      by_cases h6 : 6000 < N
      · go_wp2_with (first | (go_at_call 7; refine (shown_any _ hgd).mono ?_; rintro e w1 ⟨rfl, hB⟩))
        go_ret
        exact ⟨rfl, hB⟩
      have HL : Hid (∀ x ∈ L, x.2.length ≤ 1000000) := by
        intro x hx
        have h1 := sumB_mem L x hx
        rw [← HS.out] at h1
        omega
      obtain ⟨s, ec, hj⟩ : ∃ (s : BA) (ec : Int), joinB L = (s.data.toList, ec) := ⟨⟨(joinB L).1.toArray⟩, (joinB L).2, rfl⟩
      have HJ := Lib.hid hj
      clear hj
      go_wp2_with fail
      refine (Join_f _ L s ec HJ.out _ h HL.out (by rw [HN.out]; omega) hgd).mono ?_
      rintro e w1 ⟨rfl, hB1⟩
      have h1 := h.later hB1
      go_wp2_with fail
      refine (fields_f _ L _ h1 (by rw [HN.out]; omega)).mono ?_
      rintro e w2 ⟨v2, rfl, hv2, hB2⟩
      have b2 := hB1.trans (hB2.mono hB1.size)
      have h2 := h1.later hB2
      obtain ⟨a2, c2, rfl⟩ := hv2.form
      clear hB1 hB2 h1
      go_wp2_with fail
      refine (refJoin_f _ L s ec HJ.out _ hv2 HL.out (by rw [HN.out]; omega)).mono ?_
      rintro e w3 ⟨rfl, hB3⟩
      have b3 := b2.trans (hB3.mono b2.size)
      have h3 := h2.later hB3
      clear b2 hB3 hv2 h2
      by_cases hec : ec = 0
      · subst hec
        have hsl : s.size ≤ maxLen := by
          have hj := HJ.out
          unfold joinB at hj
          have hq : s.data.toList.length ≤ 4096 := by
            split at hj
            · exact absurd (congrArg Prod.snd hj) (by simp)
            · split at hj
              · split at hj
                · exact absurd (congrArg Prod.snd hj) (by simp)
                · have h9 := congrArg Prod.fst hj
                  simp only at h9
                  rw [← h9]; omega
              · exact absurd (congrArg Prod.snd hj) (by simp)
          rw [← Lib.size_eq] at hq
          unfold maxLen; omega
        go_wp2_with fail
        refine (Split_f s L 0 (split_join s L HJ.out) hsl _ (hgd.later b3)).mono ?_
        rintro e w4 ⟨v4, rfl, hv4, hB4⟩
        have b4 := b3.trans (hB4.mono b3.size)
        have h4 := h3.later hB4
        obtain ⟨a4, c4, rfl⟩ := hv4.form
        clear b3 hB4 h3 hsl
        go_wp2_with fail
        refine (fields_f _ L _ hv4 (by rw [HN.out]; omega)).mono ?_
        rintro e w5 ⟨v5, rfl, hv5, hB5⟩
        have b5 := b4.trans (hB5.mono b4.size)
        have h5 := h4.later hB5
        obtain ⟨a5, c5, rfl⟩ := hv5.form
        clear b4 hB5 h4 hv4
        go_wp2_with fail
        refine (fields_f _ L _ h5 (by rw [HN.out]; omega)).mono ?_
        rintro e w6 ⟨v6, rfl, hv6, hB6⟩
        have b6 := b5.trans (hB6.mono b5.size)
        have hv5b := hv5.later hB6
        obtain ⟨a6, c6, rfl⟩ := hv6.form
        clear b5 hB6 h5 hv5
        go_wp2_with fail
        refine (alike_same _ _ L _ hv5b hv6 (by rw [HN.out]; omega)).mono ?_
        rintro e w7 ⟨rfl, hB7⟩
        have b7 := b6.trans (hB7.mono b6.size)
        clear b6 hB7 hv5b hv6
        go_wp2_with (first | (go_at_call 7; refine (shown_any _ (hgd.later b7)).mono ?_; rintro e w8 ⟨rfl, hB8⟩))
        all_goals first | (exfalso; simp_all; done) | skip
        go_ret
        exact ⟨rfl, b7.trans (hB8.mono b7.size)⟩
      · have hq : (ec == 0) = false := by simp [hec]
        clear hec h3
        go_wp2_with (first | (go_at_call 7; refine (shown_any _ (hgd.later b3)).mono ?_; rintro e w8 ⟨rfl, hB8⟩))
        all_goals first | (exfalso; simp_all; done) | skip
        go_ret
        exact ⟨rfl, b3.trans (hB8.mono b3.size)⟩
end Go.Proofs.YtdcgfbebeiheiaaGreatDoor
