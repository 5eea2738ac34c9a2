/- The law of lists: its walk. -/
import Derived.Test.YtdcgfbebeiheiaaGreatDoorRList
namespace Go.Proofs.YtdcgfbebeiheiaaGreatDoor
open Go.RowKit

/-- Numbers as they come in. -/
def NumZ (W : World) (v : Value) (l : List Int) : Prop :=
  (v = .slice none 0 0 ∧ l = []) ∨ ∃ b off cap, v = .slice (some ⟨b, off, none⟩) l.length cap ∧ l.length ≤ cap ∧ cap ≤ maxLen ∧ ∀ j : Nat, j < l.length → W.cell? ⟨b, off + j, none⟩ = some (.int .i64 (l[j]?.getD 0))
theorem NumZ.ints {W : World} {v : Value} {l : List Int} (h : NumZ W v l) : IntsAt W v l := by
  rcases h with h | ⟨b, off, cap, e, _, _, hc⟩
  · exact .inl h
  · exact .inr ⟨b, off, cap, e, hc⟩
theorem NumZ.later {w w' : World} {v : Value} {l : List Int} (h : NumZ w v l) (hb : Below w.heap.size w w') : NumZ w' v l := by
  rcases h with h | ⟨b, off, cap, e, h1, h2, hc⟩
  · exact .inl h
  · exact .inr ⟨b, off, cap, e, h1, h2, fun j hj => cell_later hb (hc j hj)⟩
theorem NumZ.len {W : World} {v : Value} {l : List Int} (h : NumZ W v l) : l.length ≤ maxLen := by
  rcases h with ⟨_, rfl⟩ | ⟨b, off, cap, e, h1, h2, hc⟩
  · exact Nat.zero_le _
  · omega
theorem List_z (v : Value) (l : List Int) (w : World) (hgd : Gd w) (h : NumZ w v l) :
    Calls Tryz.prog 8 #[v] w fun e w' => e = .returned (.tuple #[.string (listA l).1, .int .i64 (listA l).2]) ∧ Below w.heap.size w w' := by
  rcases h with ⟨rfl, rfl⟩ | ⟨b, off, cap, rfl, h1, h2, hc⟩
  · exact List_nil w
  · exact List_any b off cap l h1 h2 w hgd hc

set_option maxRecDepth 100000 in
set_option maxHeartbeats 2000000 in
theorem refList_nil (w : World) :
    Calls Tryz.prog 9 #[.slice none 0 0] w fun e w' => e = .returned (.tuple #[.string ⟨#[]⟩, .int .i64 0]) ∧ Below w.heap.size w w' := by
  obtain ⟨i0, hi, hz0, hz1, hz2⟩ := info_parts Tryz.infoStr
  obtain ⟨w1, hmk, hown, hgr⟩ := run_make_full (P := Tryz.prog) (w := w) w.heap.size 45 9 i0 _ 1 Tryz.underlying45 hi hz0 hz1 .i64 .i64 1 (by rw [hz2]; omega) (by unfold maxLen; omega) (Nat.le_refl _)
  have ec : ((1 : Nat) : Int) = 1 := rfl
  rw [ec] at hmk
  have hb0 : w1.cell? ⟨w.heap.size, 0, none⟩ = some (.string ⟨#[]⟩) := by
    rw [hown.cellAt 0 (by decide)]
    simp [madeCells, Value.cells]
  have bel := (Below.refl w.heap.size w).grown hgr (Nat.le_refl _) (fun k e => by cases e)
  clear hi hown hgr
  go_enter Tryz.func9, Tryz.ntmps9
  go_wp2_with fail
  refine wp_loop_once ?_
  go_wp2_with fail
  refine wp_loop_once ?_
  go_wp2_with fail
  go_ret2
  exact ⟨rfl, bel⟩
theorem refList_z (v : Value) (l : List Int) (w : World) (h : NumZ w v l) :
    Calls Tryz.prog 9 #[v] w fun e w' => e = .returned (.tuple #[.string (listA l).1, .int .i64 (listA l).2]) ∧ Below w.heap.size w w' := by
  rcases h with ⟨rfl, rfl⟩ | ⟨b, off, cap, rfl, h1, h2, hc⟩
  · exact refList_nil w
  · exact refList_any b off cap l l.length rfl h1 h2 w hc
theorem refParse_n (s : BA) (l : List Int) (err : Int) (he : pB s.data.toList = (l, err)) (hs0 : s.size ≤ 1000000) (w : World) :
    Calls Tryz.prog 11 #[.string s] w fun e w' => ∃ v, e = .returned (.tuple #[v, .int .i64 err]) ∧ IntsAt w' v l ∧ Below w.heap.size w w' :=
  (refParse_any s w hs0).mono fun _ _ ⟨v, h1, h2, h3⟩ => by rw [he] at h1 h2; exact ⟨v, h1, IntsAt.of_row h2, h3⟩
theorem listA_zero {l : List Int} {X : BA} (h : listA l = (X, 0)) : Ok0 l ∧ X = canonA l := by
  unfold listA at h
  by_cases h5 : 500 < l.length
  · rw [if_pos h5] at h; cases h
  · rw [if_neg h5] at h
    cases ha : l.all okZ
    · rw [ha] at h; cases h
    · rw [ha] at h
      exact ⟨⟨by omega, all_small ha⟩, (Prod.mk.inj h).1.symm⟩

set_option maxRecDepth 100000 in
set_option maxHeartbeats 4000000 in
theorem law_lists (v : Value) (l : List Int) (s : BA) (w : World) (hgd : Gd w) (hl : NumZ w v l) (hs : s.size ≤ maxLen) :
    Calls Tryz.prog 3 #[v, .string s] w fun e w' => e = .returned (.bool true) ∧ Below w.heap.size w w' := by
  have hll := hl.len
  obtain ⟨a, cap, rfl⟩ := hl.ints.form
  obtain ⟨n, hn⟩ : ∃ n, l.length = n := ⟨_, rfl⟩
  rw [hn] at hl hll ⊢
  unfold maxLen at hll
  have hs' := hs
  unfold maxLen at hs'
  by_cases hb1 : 520 < n
  · clear hn
    go_enter Tryz.func3, Tryz.ntmps3
    go_wp2_with (first | (go_at_call 7; refine (shown_any _ hgd).mono ?_; rintro e w1 ⟨rfl, hB⟩))
    all_goals first | (exfalso; omega) | skip
    go_ret
    exact ⟨rfl, hB⟩
  by_cases hb2 : 3000 < s.size
  · clear hn
    go_enter Tryz.func3, Tryz.ntmps3
    go_wp2_with (first | (go_at_call 7; refine (shown_any _ hgd).mono ?_; rintro e w1 ⟨rfl, hB⟩))
    all_goals first | (exfalso; omega) | skip
    go_ret
    exact ⟨rfl, hB⟩
  obtain ⟨X, ex, hX⟩ : ∃ (X : BA) (ex : Int), listA l = (X, ex) := ⟨_, _, rfl⟩
  obtain ⟨L, ec, hp⟩ : ∃ (L : List Int) (ec : Int), pB s.data.toList = (L, ec) := ⟨_, _, rfl⟩
  have hL5 : L.length ≤ 500 := by
    by_cases h0 : ec = 0
    · subst h0; exact (ok0_of hp).1
    · rw [pB_err hp h0]; exact Nat.zero_le _
  have HX := Lib.hid hX
  have HP := Lib.hid hp
  have HL5 := Lib.hid hL5
  have HLN := Lib.hid hn
  have HL := Lib.hid hl
  have HS := Lib.hid hs
  clear hX hp hL5 hn hl hs
  go_enter Tryz.func3, Tryz.ntmps3
  go_wp2_with fail
  all_goals first | (exfalso; omega) | skip
  refine (List_z _ l _ hgd HL.out).mono ?_
  rintro e w1 ⟨rfl, hB1⟩
  rw [HX.out]
  have HL1 := Lib.hid (HL.out.later hB1)
  go_wp2_with fail
  refine (refList_z _ l _ HL1.out).mono ?_
  rintro e w2 ⟨rfl, hB2⟩
  rw [HX.out]
  have HL2 := Lib.hid (HL1.out.later hB2)
  have b2 := hB1.trans (hB2.mono hB1.size)
  clear hB1 hB2 HL1
  go_wp2_with fail
  refine (ParseList_n s L ec HP.out HS.out _ (hgd.later b2)).mono ?_
  rintro e w3 ⟨v3, rfl, hv3, hB3⟩
  obtain ⟨a3, c3, rfl⟩ := hv3.ints.form
  have HV3 := Lib.hid hv3.ints
  have HL3 := Lib.hid (HL2.out.later hB3)
  have b3 := b2.trans (hB3.mono b2.size)
  clear b2 hB3 HL2 hv3
  go_wp2_with fail
  refine (refParse_n s L ec HP.out (by omega) _).mono ?_
  rintro e w4 ⟨v4, rfl, hv4, hB4⟩
  obtain ⟨a4, c4, rfl⟩ := hv4.form
  have HV4 := Lib.hid hv4
  have HV3b := Lib.hid (HV3.out.later hB4)
  have HL4 := Lib.hid (HL3.out.later hB4)
  have b4 := b3.trans (hB4.mono b3.size)
  clear b3 hB4 HL3 hv4 HV3
  by_cases hex : ex = 0
  case neg =>
    have hq : (ex == 0) = false := by rw [beq_eq_false_iff_ne]; exact hex
    go_wp2_with fail
    refine (ints_same _ _ L _ HV3b.out HV4.out HL5.out).mono ?_
    rintro e w5 ⟨rfl, hB5⟩
    have b5 := b4.trans (hB5.mono b4.size)
    go_wp2_with (first | (go_at_call 7; refine (shown_any _ (hgd.later b5)).mono ?_; rintro e w6 ⟨rfl, hB6⟩))
    all_goals first | (exfalso; omega) | skip
    go_ret
    exact ⟨rfl, b5.trans (hB6.mono b5.size)⟩
  subst hex
  obtain ⟨hok, hXc⟩ := listA_zero HX.out
  have HPC : Hid (pB X.data.toList = (l, 0)) := by
    unfold Hid; rw [hXc, can_ba]
    have h1 := can_sz hok
    rw [Lib.size_eq, can_ba] at h1
    exact parse_can_ok hok h1
  have hXs : X.size ≤ maxLen := by rw [hXc]; have := can_sz hok; unfold maxLen; omega
  have HOK := Lib.hid hok
  have HXS := Lib.hid hXs
  clear hok hXc hXs
  go_wp2_with fail
  refine (ints_same _ _ L _ HV3b.out HV4.out HL5.out).mono ?_
  rintro e w5 ⟨rfl, hB5⟩
  have b5 := b4.trans (hB5.mono b4.size)
  have HL5b := Lib.hid (HL4.out.later hB5)
  clear b4 hB5 HL4
  go_wp2_with fail
  refine (ParseList_n X l 0 HPC.out HXS.out _ (hgd.later b5)).mono ?_
  rintro e w6 ⟨v6, rfl, hv6, hB6⟩
  obtain ⟨a6, c6, rfl⟩ := hv6.ints.form
  have HV6 := Lib.hid hv6.ints
  have HL6 := Lib.hid (HL5b.out.later hB6)
  have b6 := b5.trans (hB6.mono b5.size)
  clear b5 hB6 HL5b hv6
  go_wp2_with fail
  refine (ints_same _ _ l _ HV6.out HL6.out.ints HOK.out.1).mono ?_
  rintro e w7 ⟨rfl, hB7⟩
  have b7 := b6.trans (hB7.mono b6.size)
  clear b6 hB7
  go_wp2_with (first | (go_at_call 7; refine (shown_any _ (hgd.later b7)).mono ?_; rintro e w8 ⟨rfl, hB8⟩))
  all_goals first | (exfalso; omega) | skip
  go_ret
  exact ⟨rfl, b7.trans (hB8.mono b7.size)⟩
end Go.Proofs.YtdcgfbebeiheiaaGreatDoor
