/- The laws of the best texts: their walks. -/
import Derived.Test.YtdcgfbebeiheiaaDoorShown
import Derived.Test.YtdcgfbebeiheiaaDoorListM
import Derived.Test.YtdcgfbebeiheiaaDoorListNil
namespace Go.Proofs.YtdcgfbebeiheiaaDoor
open Go.RowKit

theorem listA_ok {l : List Int} (h : Ok0 l) : listA l = (canonA l, 0) := by
  have h2 : l.all okZ = true := by
    refine List.all_eq_true.2 fun z hz => decide_eq_true ?_
    obtain ⟨j, hj, rfl⟩ := List.mem_iff_getElem.1 hz
    have := h.2 j
    rw [List.getElem?_eq_getElem hj] at this
    exact this
  unfold listA
  rw [if_neg (by have := h.1; omega), if_pos h2]
theorem can_ba (l : List Int) : (canonA l).data.toList = canL l := rfl

/-- A slice of numbers with its bounds. -/
def NumsAt (W : World) (v : Value) (l : List Int) : Prop := ∃ base, W.ownsRow base 3 1 v l.length (rowZ l)
theorem NumsAt.later {w w' : World} {v : Value} {l : List Int} (h : NumsAt w v l) (hb : Below w.heap.size w w') : NumsAt w' v l := by
  obtain ⟨base, h⟩ := h
  exact ⟨base, h.kept (grown_of_below hb) (Classical.em _)⟩
theorem NumsAt.ints {W : World} {v : Value} {l : List Int} (h : NumsAt W v l) : IntsAt W v l := by
  obtain ⟨base, h⟩ := h; exact IntsAt.of_row h
theorem ParseList_n (s : BA) (l : List Int) (err : Int) (he : pB s.data.toList = (l, err)) (hs0 : s.size ≤ maxLen) (w : World) (hgd : Gd w) :
    Calls Tryd.prog 19 #[.string s] w fun e w' => ∃ v, e = .returned (.tuple #[v, .int .i64 err]) ∧ NumsAt w' v l ∧ Below w.heap.size w w' :=
  (ParseList_any s hs0 w hgd (fun h => bdI_any s h)).mono fun _ _ ⟨v, h1, h2, h3⟩ => by rw [parse_eq, he] at h1 h2; exact ⟨v, h1, ⟨_, h2⟩, h3⟩
theorem List_n (v : Value) (l : List Int) (w : World) (hgd : Gd w) (h : NumsAt w v l) (hl : Ok0 l) :
    Calls Tryd.prog 20 #[v] w fun e w' => e = .returned (.tuple #[.string (canonA l), .int .i64 0]) ∧ Below w.heap.size w w' := by
  obtain ⟨base, h⟩ := h
  rcases h.2 with ⟨rfl, h2⟩ | ⟨g, cap, cur, rfl, _, _, hle, hmx, _⟩
  · obtain rfl := List.eq_nil_of_length_eq_zero h2
    exact List_nil w
  · have hL := List_any g 0 cap l hle hmx w hgd (fun j hj => by
      rw [Nat.zero_add, h.cellAt _ (by omega)]
      simp [rowZ, hj])
    rw [listA_ok hl] at hL
    exact hL
theorem ints_same (v1 v2 : Value) (l : List Int) (w : World) (h1 : IntsAt w v1 l) (h2 : IntsAt w v2 l) (hm1 : l.length ≤ 500) :
    Calls Tryd.prog 21 #[v1, v2] w fun e w' => e = .returned (.bool true) ∧ Below w.heap.size w w' := by
  have h := ints_any v1 v2 l l w h1 h2 (by omega)
  rw [decide_eq_true rfl] at h
  exact h

set_option maxRecDepth 100000 in
set_option maxHeartbeats 8000000 in
theorem law_least (s : BA) (w : World) (hgd : Gd w) (hs : s.size ≤ maxLen) :
    Calls Tryd.prog 5 #[.string s] w fun e w' => e = .returned (.bool true) ∧ Below w.heap.size w w' := by
  have hs' := hs
  unfold maxLen at hs'
  by_cases hb : 3000 < s.size
  · go_enter Tryd.func5, Tryd.ntmps5
    go_wp2_with (first | (go_at_call 10; refine (shown_any _ hgd).mono ?_; rintro e w1 ⟨rfl, hB⟩))
    go_ret
    exact ⟨rfl, hB⟩
  obtain ⟨l, ec, hp⟩ : ∃ (l : List Int) (ec : Int), pB s.data.toList = (l, ec) := ⟨_, _, rfl⟩
  have HP := Lib.hid hp
  by_cases hec : ec = 0
  case neg =>
    have hl := pB_err hp hec
    subst hl
    have hq : (ec != 0) = true := by simp [hec]
    clear hp hec hs'
    go_enter Tryd.func5, Tryd.ntmps5
    go_wp2_with fail
    refine (ParseList_n s [] ec HP.out hs _ hgd).mono ?_
    rintro e w1 ⟨v1, rfl, hv1, hB1⟩
    obtain ⟨a1, c1, rfl⟩ := hv1.ints.form
    go_wp2_with (first | (go_at_call 10; refine (shown_any _ (hgd.later hB1)).mono ?_; rintro e w6 ⟨rfl, hB6⟩))
    go_ret
    exact ⟨rfl, hB1.trans (hB6.mono hB1.size)⟩
  subst hec
  have hok := ok0_of hp
  have hle := least_of hp
  have h25 := (pB_ok hp).1
  have hts : (canonA l).size = (canL l).length := Lib.size_eq _
  have hss : s.size = s.data.toList.length := Lib.size_eq s
  have hlen : (canonA l).size ≤ s.size := by unfold le at hle; omega
  have hpc : Hid (pB (canonA l).data.toList = (l, 0)) := by
    unfold Hid; rw [can_ba]; exact parse_can_ok hok (by omega)
  have hcmp : Hid ((canonA l).size = s.size → (Op.bytesLess (canonA l).toList s.toList || (canonA l).toList == s.toList) = true) := by
    intro h
    rw [Lib.toList_data, Lib.toList_data, Bool.or_eq_true]
    have hll : (canonA l).data.toList.length = s.data.toList.length := by rw [can_ba]; omega
    by_cases hv : vl (canonA l).data.toList < vl s.data.toList
    · exact .inl ((less_vl _ _ hll).2 hv)
    · refine .inr (beq_iff_eq.2 (vl_inj _ _ hll ?_))
      unfold le at hle
      rw [can_ba] at hv ⊢
      omega
  have HOK := Lib.hid hok
  have hll := hok.1
  obtain ⟨t, ht⟩ : ∃ t, canonA l = t := ⟨_, rfl⟩
  rw [ht] at hlen hpc hcmp
  have HT := Lib.hid ht
  obtain ⟨n, hn⟩ : ∃ n, l.length = n := ⟨_, rfl⟩
  rw [hn] at hll
  have HN := Lib.hid hn
  clear hp hok hle h25 hts hss hs' ht hn
  go_enter Tryd.func5, Tryd.ntmps5
  go_wp2_with fail
  refine (ParseList_n s l 0 HP.out hs _ hgd).mono ?_
  rintro e w1 ⟨v1, rfl, hv1, hB1⟩
  obtain ⟨a1, c1, rfl⟩ := hv1.ints.form
  go_wp2_with fail
  refine (List_n _ l _ (hgd.later hB1) hv1 HOK.out).mono ?_
  rintro e w2 ⟨rfl, hB2⟩
  rw [HT.out]
  have b2 := hB1.trans (hB2.mono hB1.size)
  have hv2 := hv1.later hB2
  clear hB1 hB2 hv1
  go_wp2_with fail
  refine (ParseList_n t l 0 hpc.out (by unfold maxLen; omega) _ (hgd.later b2)).mono ?_
  rintro e w3 ⟨v3, rfl, hv3, hB3⟩
  obtain ⟨a3, c3, rfl⟩ := hv3.ints.form
  have b3 := b2.trans (hB3.mono b2.size)
  have hv2b := hv2.later hB3
  clear b2 hB3 hv2
  go_wp2_with fail
  refine (ints_same _ _ l _ hv2b.ints hv3.ints (by rw [HN.out]; omega)).mono ?_
  rintro e w4 ⟨rfl, hB4⟩
  have b4 := b3.trans (hB4.mono b3.size)
  clear b3 hB4 hv2b hv3
  by_cases hlt : t.size < s.size
  · have hlti : (t.size : Int) < (s.size : Int) := by omega
    go_wp2_with (first | (go_at_call 10; refine (shown_any _ (hgd.later b4)).mono ?_; rintro e w6 ⟨rfl, hB6⟩))
    all_goals first | (exfalso; simp_all; done) | skip
    go_ret
    exact ⟨rfl, b4.trans (hB6.mono b4.size)⟩
  · have heq : t.size = s.size := by omega
    have hq1 : ((t.size : Int) == (s.size : Int)) = true := by simp [heq]
    have hlti : ¬ (t.size : Int) < (s.size : Int) := by omega
    have hc := hcmp.out heq
    have HQ := Lib.hid heq
    clear heq
    go_wp2_with (first | (go_at_call 10; refine (shown_any _ (hgd.later b4)).mono ?_; rintro e w6 ⟨rfl, hB6⟩))
    all_goals first | (exfalso; simp_all; done) | skip
    go_ret
    exact ⟨rfl, b4.trans (hB6.mono b4.size)⟩
end Go.Proofs.YtdcgfbebeiheiaaDoor
