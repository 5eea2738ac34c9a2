/- The other way to lists: what a good item stands for. No program stands in it. -/
import Derived.Test.YtdcgfbebeiheiaaGreatDoorRRead
import Derived.Test.YtdcgfbebeiheiaaGreatDoorListW
namespace Go.Proofs.YtdcgfbebeiheiaaGreatDoor
open Go.RowKit

theorem RD.size {l n m t : List UInt8} {ok : Bool} (h : RD l n m t ok) : n.length ≤ l.length + 1 ∧ m.length ≤ l.length + 1 ∧ t.length ≤ l.length + 1 := by
  rcases h with ⟨a, b, rfl, h1, h2, rfl, rfl, rfl, _⟩ | ⟨a, b, e0, h1, h2, e1, e2, e3, _⟩ | ⟨h1, h2, rfl, rfl, rfl, _⟩
  · simp; omega
  · rw [e0, e1, e2, e3]; simp; omega
  · simp
/-- A good item, as the other way holds it. -/
structure PI where
  x : List UInt8
  n : BA
  m : BA
  t : BA
  h : RD x n.data.toList m.data.toList t.data.toList true
  hx : x.length ≤ 1000000
theorem PI.size (i : PI) : i.n.size ≤ maxLen ∧ i.m.size ≤ maxLen ∧ i.t.size ≤ maxLen := by
  have h := i.h.size
  have := i.hx
  unfold maxLen
  rw [Lib.size_eq, Lib.size_eq, Lib.size_eq]
  omega
def PI.it (i : PI) : I3 := itL i.x

theorem int_nat {l : List UInt8} (h : natB l = true) (mn mx : Int) (h1 : mn ≤ mx) (h2 : mx ≤ 9999) : intB l mn mx = if clampB l < mn ∨ mx < clampB l then (0, 7) else (clampB l, 0) := by
  have e := clampB_nat l h
  have hd := (natB_dec l h).1
  have hv : numV l = (natV l : Int) := by
    rcases decB_cases l hd with ⟨r, hr, _, _, _⟩ | ⟨_, _, h3⟩
    · exact absurd (by rw [hr]; rfl) (natB_dec l h).2
    · exact h3
  unfold intB
  rw [if_neg (by omega), if_neg (by rw [hd]; decide), hv, e]
  by_cases h9 : natV l ≤ 9999
  · rw [if_pos h9]
  · rw [if_neg h9, if_pos (by omega), if_pos (by omega)]
theorem big_before {m : List UInt8} (hm : natB m = true) : beforeB (Lib.itoa 9999) m = decide (9999 < clampB m) := by
  obtain ⟨h1, h2⟩ := nat_text 9999 (by decide) (by decide)
  cases hb : beforeB (Lib.itoa 9999) m
  · symm; apply decide_eq_false
    intro h
    rw [before_of_lt h1 hm (by omega)] at hb
    exact absurd hb (by decide)
  · symm; apply decide_eq_true
    by_cases h9 : clampB m ≤ 9999
    · have := lt_of_before h1 hm h9 hb; omega
    · omega
/-- The numbers of an item that is not too great: where it begins, where it ends, how often. -/
theorem PI.nums (i : PI) (hb : bigI i.it = false) : ∃ (N : Int) (K T : Nat), 0 ≤ N ∧ N + K ≤ 10000 ∧ 1 ≤ K ∧ 1 ≤ T ∧ T ≤ 10000 ∧ (T = 1 ∨ K = 1) ∧
    intB i.n.data.toList 0 9999 = (N, 0) ∧ intB i.m.data.toList 0 9999 = (N + K - 1, 0) ∧ intB i.t.data.toList 1 500 = (if T ≤ 500 then ((T : Int), 0) else (0, 7)) ∧
    i.it.2.1 = ((T * K : Nat) : Int) ∧ ∀ r q : Nat, r < T → q < K → r * K + q < T * K ∧ (expI i.it)[r * K + q]? = some (N + q) := by
  obtain ⟨g1, g2, g3, g4, g5, g6, g7, g8⟩ := i.h.good
  have bn := clampB_bd i.n.data.toList
  have bm := clampB_bd i.m.data.toList
  have bt := clampB_bd i.t.data.toList
  unfold PI.it at hb ⊢
  rw [g5, decide_eq_false_iff_not] at hb
  obtain ⟨K, hK⟩ : ∃ K : Nat, clampB i.m.data.toList - clampB i.n.data.toList + 1 = (K : Int) := ⟨(clampB i.m.data.toList - clampB i.n.data.toList + 1).toNat, by omega⟩
  obtain ⟨T, hT⟩ : ∃ T : Nat, clampB i.t.data.toList = (T : Int) := ⟨(clampB i.t.data.toList).toNat, by omega⟩
  have hcount : (itL i.x).2.1 = ((T * K : Nat) : Int) ∧ (T = 1 ∨ K = 1) := by
    rcases g8 with ⟨a, b, _⟩ | ⟨a, b, _⟩
    · have : T = 1 := by omega
      subst this
      exact ⟨by rw [b]; omega, .inl rfl⟩
    · have : K = 1 := by omega
      subst this
      exact ⟨by rw [b]; omega, .inr rfl⟩
  refine ⟨clampB i.n.data.toList, K, T, by omega, by omega, by omega, by omega, by omega, hcount.2, ?_, ?_, ?_, hcount.1, ?_⟩
  · rw [int_nat g1 0 9999 (by decide) (by decide), if_neg (by omega)]
  · rw [int_nat g2 0 9999 (by decide) (by decide), if_neg (by omega), show clampB i.n.data.toList + (K : Int) - 1 = clampB i.m.data.toList by omega]
  · rw [int_nat g3 1 500 (by decide) (by decide), hT]
    by_cases h5 : T ≤ 500
    · rw [if_neg (by omega), if_pos h5]
    · rw [if_pos (by omega), if_neg h5]
  · intro r q hr hq
    have hlt : r * K + q < T * K := by
      have : (r + 1) * K ≤ T * K := Nat.mul_le_mul_right _ hr
      rw [Nat.add_mul] at this
      omega
    refine ⟨hlt, ?_⟩
    unfold expI
    rw [hcount.1, Int.toNat_natCast, List.getElem?_map, List.getElem?_range hlt, Option.map_some, g4]
    congr 1
    rcases g8 with ⟨a, b, c⟩ | ⟨a, b, c⟩
    · have : T = 1 := by omega
      subst this
      have : r = 0 := by omega
      subst this
      rcases c with c | c
      · rw [c]; omega
      · have : K = 1 := by omega
        subst this
        have : q = 0 := by omega
        subst this
        simp
    · have : K = 1 := by omega
      subst this
      have : q = 0 := by omega
      subst this
      rw [c]; simp
theorem PI.len (i : PI) (C : Nat) (h : i.it.2.1 = (C : Int)) : (expI i.it).length = C := by unfold expI; rw [List.length_map, List.length_range, h]; omega
theorem PI.pos (i : PI) : 0 ≤ i.it.2.1 := by have := bdL i.h.ok.symm; unfold PI.it; omega
def itsP (L : List PI) : List I3 := L.map PI.it
theorem itsP_all (L : List PI) : ∀ i ∈ itsP L, 0 ≤ i.2.1 := by
  intro i hi
  obtain ⟨p, _, rfl⟩ := List.mem_map.1 hi
  exact p.pos
theorem itsP_x (L : List PI) : (L.map PI.x).map itL = itsP L := by unfold itsP; rw [List.map_map]; rfl
theorem itsP_drop (L : List PI) (k : Nat) (h : k < L.length) : (itsP L).drop k = L[k].it :: (itsP L).drop (k + 1) := by
  rw [List.drop_eq_getElem_cons (by unfold itsP; rw [List.length_map]; exact h)]
  congr 1
  unfold itsP; rw [List.getElem_map]
theorem itsP_take (L : List PI) (k : Nat) (h : k < L.length) : expL ((itsP L).take (k + 1)) = expL ((itsP L).take k) ++ expI L[k].it := by
  rw [List.take_succ_eq_append_getElem (by unfold itsP; rw [List.length_map]; exact h)]
  unfold expL
  rw [List.flatMap_append]
  unfold itsP
  simp
theorem itsP_tot (L : List PI) (k : Nat) (h : k < L.length) : ((expL ((itsP L).take k)).length : Int) + L[k].it.2.1 ≤ totI (itsP L) := by
  rw [expL_length _ (fun i hi => itsP_all L i (List.mem_of_mem_take hi)), totI_take (itsP L) k, itsP_drop L k h, totI_cons]
  have := totI_nonneg ((itsP L).drop (k + 1)) (fun i hi => itsP_all L i (List.mem_of_mem_drop hi))
  omega
theorem itsP_end (L : List PI) (h : (expL (itsP L)).length ≤ 500) : ¬ 500 < totI (itsP L) := by
  rw [← expL_length _ (itsP_all L)]; omega
end Go.Proofs.YtdcgfbebeiheiaaGreatDoor
