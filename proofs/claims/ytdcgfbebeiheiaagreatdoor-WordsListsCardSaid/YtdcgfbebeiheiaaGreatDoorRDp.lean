/- The other way to write a list: the best text so far. No program stands in it. -/
import Derived.Test.YtdcgfbebeiheiaaGreatDoorRTexts
namespace Go.Proofs.YtdcgfbebeiheiaaGreatDoor
open Go

theorem take_at (L : List Int) (n m : Nat) (h : m < n) : (L.take n)[m]?.getD 0 = L[m]?.getD 0 := by rw [List.getElem?_take, if_pos h]
theorem ups_take (L : List Int) (n : Nat) (hn : n ≤ L.length) (h1 : 1 ≤ n) : upsP (L.take n) ↔ ∀ m, m < n → L[m]?.getD 0 = L[0]?.getD 0 + m := by
  unfold upsP
  rw [List.length_take, Nat.min_eq_left hn]
  constructor
  · intro h m hm; have := h m hm; rwa [take_at L n m hm, take_at L n 0 h1] at this
  · intro h m hm; rw [take_at L n m hm, take_at L n 0 h1]; exact h m hm
theorem reps_take (L : List Int) (n : Nat) (hn : n ≤ L.length) (h1 : 1 ≤ n) : repsP (L.take n) ↔ ∀ m, m < n → L[m]?.getD 0 = L[0]?.getD 0 := by
  unfold repsP
  rw [List.length_take, Nat.min_eq_left hn]
  constructor
  · intro h m hm; have := h m hm; rwa [take_at L n m hm, take_at L n 0 h1] at this
  · intro h m hm; rw [take_at L n m hm, take_at L n 0 h1]; exact h m hm
theorem isIt_ups {L : List Int} {n : Nat} (h : ∀ m, m < n → L[m]?.getD 0 = L[0]?.getD 0 + m) : ∀ m, 2 ≤ m → m ≤ n → L[m - 1]?.getD 0 = L[0]?.getD 0 + m - 1 := by
  intro m h2 hm; have := h (m - 1) (by omega); omega
theorem ups_isIt {L : List Int} {n : Nat} (h : ∀ m, 2 ≤ m → m ≤ n → L[m - 1]?.getD 0 = L[0]?.getD 0 + m - 1) : ∀ m, m < n → L[m]?.getD 0 = L[0]?.getD 0 + m := by
  intro m hm
  by_cases h0 : m = 0
  · subst h0; simp
  · have := h (m + 1) (by omega) (by omega)
    rw [Nat.add_sub_cancel] at this; omega
theorem reps_isIt {L : List Int} {n : Nat} (h : ∀ m, 2 ≤ m → m ≤ n → L[m - 1]?.getD 0 = L[0]?.getD 0) : ∀ m, m < n → L[m]?.getD 0 = L[0]?.getD 0 := by
  intro m hm
  by_cases h0 : m = 0
  · subst h0; rfl
  · have := h (m + 1) (by omega) (by omega)
    rwa [Nat.add_sub_cancel] at this
theorem tx_some {L : List Int} {n : Nat} {t : BA} (h1 : 1 ≤ n) (hn : n ≤ L.length) (h : txO (L.take n) = some t) : IsIt L t.data.toList n := by
  have hl : (L.take n).length = n := by rw [List.length_take, Nat.min_eq_left hn]
  unfold IsIt
  by_cases h0 : n = 1
  · rw [txO_one (by rw [hl]; exact h0), take_at L n 0 h1] at h
    exact .inl ⟨h0, by rw [← Option.some.inj h]; rfl⟩
  · right
    by_cases hu : upsP (L.take n)
    · rw [txO_ups (by rw [hl]; exact h0) hu, hl, take_at L n 0 h1, take_at L n (n - 1) (by omega)] at h
      exact .inl ⟨by omega, hn, isIt_ups ((ups_take L n hn h1).1 hu), by rw [← Option.some.inj h]; exact cat3 _ _ _⟩
    · by_cases hr : repsP (L.take n)
      · rw [txO_reps (by rw [hl]; exact h0) hu hr, hl, take_at L n 0 h1] at h
        exact .inr ⟨by omega, hn, fun m h2 hm => (reps_take L n hn h1).1 hr (m - 1) (by omega), by rw [← Option.some.inj h]; exact cat3 _ _ _⟩
      · rw [txO_none (by rw [hl]; exact h0) hu hr] at h; cases h
theorem is_tx {L : List Int} {n : Nat} {t : List UInt8} (h0 : 1 ≤ L.length) (h : IsIt L t n) : ∃ x, txO (L.take n) = some x ∧ x.data.toList = t := by
  obtain ⟨h1, hn⟩ := items_bounds h h0
  have hl : (L.take n).length = n := by rw [List.length_take, Nat.min_eq_left hn]
  rcases h with ⟨rfl, rfl⟩ | ⟨h2, _, h4, rfl⟩ | ⟨h2, _, h4, rfl⟩
  · exact ⟨_, txO_one hl, by rw [take_at L 1 0 (by decide)]; rfl⟩
  · have hu := (ups_take L n hn h1).2 (ups_isIt h4)
    refine ⟨_, txO_ups (by rw [hl]; omega) hu, ?_⟩
    rw [hl, take_at L n 0 h1, take_at L n (n - 1) (by omega)]
    exact cat3 _ _ _
  · have hr := (reps_take L n hn h1).2 (reps_isIt h4)
    have hu : ¬ upsP (L.take n) := by
      intro hu
      have e1 := (ups_take L n hn h1).1 hu 1 (by omega)
      have e2 := (reps_take L n hn h1).1 hr 1 (by omega)
      omega
    refine ⟨_, txO_reps (by rw [hl]; omega) hu hr, ?_⟩
    rw [hl, take_at L n 0 h1]
    exact cat3 _ _ _
theorem tx_stop {L : List Int} {n m : Nat} {t : List UInt8} (h1 : 1 ≤ n) (hn : n ≤ L.length) (h : txO (L.take n) = none) (hm : n ≤ m) : ¬ IsIt L t m := by
  intro hi
  have hl : (L.take n).length = n := by rw [List.length_take, Nat.min_eq_left hn]
  have hne : n ≠ 1 := fun e => by rw [txO_one (by rw [hl]; exact e)] at h; cases h
  have hu : ¬ upsP (L.take n) := fun hu => by rw [txO_ups (by rw [hl]; exact hne) hu] at h; cases h
  have hr : ¬ repsP (L.take n) := fun hr => by rw [txO_reps (by rw [hl]; exact hne) hu hr] at h; cases h
  rcases hi with ⟨e, _⟩ | ⟨h2, _, h4, _⟩ | ⟨h2, _, h4, _⟩
  · omega
  · exact hu ((ups_take L n hn h1).2 fun k hk => ups_isIt h4 k (by omega))
  · exact hr ((reps_take L n hn h1).2 fun k hk => reps_isIt h4 k (by omega))

theorem le_anti {a b : List UInt8} (h : le a b) (k : le b a) : a = b := by
  unfold le at h k
  exact vl_inj a b (by omega) (by omega)
/-- The best of the first n. -/
def MinUp (L : List Int) (n : Nat) (cur : List UInt8) : Prop :=
  cur ≠ [] ∧ (∃ t m, IsIt L t m ∧ cur = cnd (canL (L.drop m)) t) ∧ ∀ t m, m ≤ n → IsIt L t m → le cur (cnd (canL (L.drop m)) t)
def Far (L : List Int) (n : Nat) (cur : List UInt8) : Prop := (n = 0 ∧ cur = []) ∨ (1 ≤ n ∧ MinUp L n cur)
theorem min_done {L : List Int} {n : Nat} {cur : List UInt8} (h0 : 1 ≤ L.length) (h : Far L n cur) (h1 : 1 ≤ n) (hs : ∀ t m, n < m → ¬ IsIt L t m) : cur = canL L := by
  rcases h with ⟨h, _⟩ | ⟨_, _, ⟨t, m, hi, e⟩, hle⟩
  · omega
  obtain ⟨_, ⟨t2, m2, hi2, e2⟩, hle2⟩ := canon_spec L h0
  refine le_anti ?_ ?_
  · rw [e2]
    refine hle t2 m2 ?_ hi2
    by_cases hm : m2 ≤ n
    · exact hm
    · exact absurd hi2 (hs t2 m2 (by omega))
  · rw [e]; exact hle2 t m hi
/-- The candidate at a length. -/
theorem min_step {L : List Int} {n : Nat} {cur c : List UInt8} {t : BA} (h0 : n + 1 ≤ L.length) (h : Far L n cur) (ht : txO (L.take (n + 1)) = some t) (hc : c = cnd (canL (L.drop (n + 1))) t.data.toList) :
    ((cur = [] ∨ bf c cur) → Far L (n + 1) c) ∧ (¬ (cur = [] ∨ bf c cur) → Far L (n + 1) cur) := by
  have hi := tx_some (by omega) h0 ht
  have hone : ∀ t' , IsIt L t' (n + 1) → t' = t.data.toList := by
    intro t' h'
    obtain ⟨x, e1, e2⟩ := is_tx (by omega) h'
    rw [ht] at e1
    rw [← e2, ← Option.some.inj e1]
  have hcne : c ≠ [] := by
    rw [hc]; unfold cnd
    split
    · exact isIt_ne hi
    · simp
  constructor
  · intro hb
    refine .inr ⟨by omega, hcne, ⟨_, _, hi, hc⟩, ?_⟩
    intro t' m hm hi'
    by_cases he : m = n + 1
    · subst he
      rw [hone t' hi', ← hc]; exact le_refl' _
    · rcases h with ⟨hn, hcur⟩ | ⟨hn, hne, _, hle⟩
      · have := (items_bounds hi' (by omega)).1; omega
      · rcases hb with hb | hb
        · exact absurd hb hne
        · exact le_tr (bf_le hb) (hle t' m (by omega) hi')
  · intro hb
    rcases h with ⟨hn, hcur⟩ | ⟨hn, hne, hex, hle⟩
    · exact absurd (.inl hcur) hb
    · refine .inr ⟨by omega, hne, hex, ?_⟩
      intro t' m hm hi'
      by_cases he : m = n + 1
      · subst he
        rw [hone t' hi', ← hc]
        exact le_not fun hbf => hb (.inr hbf)
      · exact hle t' m (by omega) hi'

/-- The row of the best texts while the rest at i is sought. -/
def bestR (zs : List Int) (i : Nat) (cur : BA) : List BA := (List.range (zs.length + 1)).map fun k => if k < i then ⟨#[]⟩ else if k = i then cur else canonA (zs.drop k)
theorem bestR_len (zs : List Int) (i : Nat) (cur : BA) : (bestR zs i cur).length = zs.length + 1 := by unfold bestR; rw [List.length_map, List.length_range]
theorem bestR_at (zs : List Int) (i : Nat) (cur : BA) (h : i ≤ zs.length) : (bestR zs i cur)[i]? = some cur := by
  unfold bestR
  rw [List.getElem?_map, List.getElem?_range (by omega), Option.map_some, if_neg (by omega), if_pos rfl]
theorem bestR_up (zs : List Int) (i k : Nat) (cur : BA) (hk : i < k) (h : k ≤ zs.length) : (bestR zs i cur)[k]? = some (canonA (zs.drop k)) := by
  unfold bestR
  rw [List.getElem?_map, List.getElem?_range (by omega), Option.map_some, if_neg (by omega), if_neg (by omega)]
theorem bestR_set (zs : List Int) (i : Nat) (cur c : BA) : (bestR zs i cur).set i c = bestR zs i c := by
  apply List.ext_getElem?
  intro k
  rw [List.getElem?_set]
  unfold bestR
  by_cases hk : i = k
  · subst hk
    rw [if_pos rfl, List.length_map, List.length_range, List.getElem?_map]
    by_cases hlt : i < zs.length + 1
    · rw [if_pos hlt, List.getElem?_range hlt, Option.map_some, if_neg (by omega), if_pos rfl]
    · rw [if_neg hlt, List.getElem?_eq_none (by rw [List.length_range]; omega)]; rfl
  · rw [if_neg hk, List.getElem?_map, List.getElem?_map]
    by_cases hlt : k < zs.length + 1
    · rw [List.getElem?_range hlt, Option.map_some, Option.map_some]
      by_cases hki : k < i
      · rw [if_pos hki, if_pos hki]
      · rw [if_neg hki, if_neg hki, if_neg (fun e => hk e.symm), if_neg (fun e => hk e.symm)]
    · rw [List.getElem?_eq_none (by rw [List.length_range]; omega)]; rfl
theorem bestR_next (zs : List Int) (i : Nat) (c : BA) (hc : c = canonA (zs.drop (i + 1))) : bestR zs (i + 1) c = bestR zs i ⟨#[]⟩ := by
  unfold bestR
  refine List.map_congr_left fun k _ => ?_
  by_cases h1 : k < i
  · rw [if_pos (by omega), if_pos h1]
  · by_cases h2 : k = i
    · rw [if_pos (by omega), if_neg h1, if_pos h2]
    · by_cases h3 : k = i + 1
      · rw [if_neg (by omega), if_pos h3, if_neg h1, if_neg h2, hc, h3]
      · rw [if_neg (by omega), if_neg h3, if_neg h1, if_neg h2]
theorem bestR_start (zs : List Int) : bestR zs zs.length ⟨#[]⟩ = List.replicate (zs.length + 1) ⟨#[]⟩ := by
  apply List.ext_getElem?
  intro k
  rw [List.getElem?_replicate]
  unfold bestR
  rw [List.getElem?_map]
  by_cases hlt : k < zs.length + 1
  · rw [List.getElem?_range hlt, Option.map_some, if_pos hlt]
    by_cases hk : k < zs.length
    · rw [if_pos hk]
    · rw [if_neg hk, if_pos (by omega)]
  · rw [if_neg hlt, List.getElem?_eq_none (by rw [List.length_range]; omega)]; rfl
end Go.Proofs.YtdcgfbebeiheiaaGreatDoor
