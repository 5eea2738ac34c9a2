/- Lines: both ways' walks, and the law's. -/
import Derived.Test.YtdcgfbebeiheiaaGreatDoorShown
import Derived.Lib.SplitLaws
import Derived.Maps.AppendAt
namespace Go.Proofs.YtdcgfbebeiheiaaGreatDoor
open Go.RowKit

/-- The lines of a text; acc stands ahead of the first one. What has no line feed behind it is no line. -/
def lnA : List UInt8 → List UInt8 → List (List UInt8)
  | _, [] => []
  | acc, c :: r => if c = 10 then acc :: lnA [] r else lnA (acc ++ [c]) r
def hdA (acc : List UInt8) : List (List UInt8) → List (List UInt8)
  | [] => []
  | h :: t => (acc ++ h) :: t
theorem hdA_nil (l : List (List UInt8)) : hdA [] l = l := by cases l <;> rfl
theorem ix_hit (l : List UInt8) : Lib.index (10 :: l) [10] = 0 := by rw [Lib.index, if_pos (by simp)]
theorem ix_miss (c : UInt8) (l : List UInt8) (h : ¬ c = 10) : Lib.index (c :: l) [10] = if Lib.index l [10] == -1 then -1 else Lib.index l [10] + 1 := by
  rw [Lib.index, if_neg (by simp [List.isPrefixOf]; exact fun e => h e.symm)]
theorem ln_split : ∀ (l acc : List UInt8), lnA acc (l ++ [10]) = hdA acc (Lib.splitK [10] 0 (Lib.count l [10]) l)
  | [], acc => by
    have e : Lib.count [] [10] = 0 := Lib.count_miss rfl
    rw [e]
    show [acc] = [acc ++ []]
    simp
  | c :: l, acc => by
    by_cases hc : c = 10
    · subst hc
      rw [Lib.count_cons_eq, Nat.add_comm 1, Lib.splitK, ix_hit, if_neg (by decide)]
      have e : lnA acc (10 :: l ++ [10]) = acc :: lnA [] (l ++ [10]) := by rw [List.cons_append, lnA, if_pos rfl]
      rw [e, ln_split l [], hdA_nil]
      simp [hdA]
    · have e : lnA acc (c :: l ++ [10]) = lnA (acc ++ [c]) (l ++ [10]) := by rw [List.cons_append, lnA, if_neg hc]
      rw [e, ln_split l (acc ++ [c]), Lib.count_cons_ne c 10 l hc]
      rcases Lib.index_spec l [10] with ⟨h1, _⟩ | ⟨i, h1, _, _, _⟩
      · rw [Lib.count_miss h1]
        simp [Lib.splitK, hdA]
      · have h2 : Lib.index (c :: l) [10] = ((i + 1 : Nat) : Int) := by
          rw [ix_miss c l hc, h1, if_neg (by intro e; have := eq_of_beq e; omega)]; rfl
        rw [Lib.count_hit (by simp) h1, Nat.add_comm 1, Lib.splitK, Lib.splitK, h1, h2, if_neg (by intro e; have := eq_of_beq e; omega), if_neg (by intro e; have := eq_of_beq e; omega)]
        have e1 : ((i : Nat) : Int).toNat = i := by omega
        have e2 : ((i + 1 : Nat) : Int).toNat = i + 1 := by omega
        rw [e1, e2]
        simp [hdA]
theorem ln_count : ∀ (l acc : List UInt8), (lnA acc l).length = l.count 10
  | [], _ => rfl
  | c :: l, acc => by
    rw [lnA]
    by_cases hc : c = 10
    · rw [if_pos hc, hc, List.length_cons, ln_count l [], List.count_cons_self]
    · rw [if_neg hc, ln_count l _, List.count_cons_of_ne hc]
def lnE (l : List UInt8) : List (List UInt8) × Int :=
  if 1048576 < l.length then ([], 3) else if l = [] then ([], 0) else if l.getLast? = some 10 then (if 5000 < (lnA [] l).length then ([], 3) else (lnA [] l, 0)) else ([], 6)
theorem suffix_last (l : List UInt8) : Lib.hasSuffix l [10] = decide (l.getLast? = some 10) := by
  unfold Lib.hasSuffix
  rw [Bool.eq_iff_iff, List.isSuffixOf_iff_suffix, decide_eq_true_eq]
  constructor
  · rintro ⟨t, rfl⟩; simp
  · intro h
    obtain ⟨t, rfl⟩ := List.getLast?_eq_some_iff.1 h
    exact ⟨t, rfl⟩
theorem trim_last (t : List UInt8) : Lib.trimSuffix (t ++ [10]) [10] = t := by
  unfold Lib.trimSuffix
  rw [suffix_last]
  simp

def StrsAt (W : World) (v : Value) (l : List BA) : Prop :=
  (v = .slice none 0 0 ∧ l = []) ∨ ∃ b off cap, v = .slice (some ⟨b, off, none⟩) l.length cap ∧ ∀ (j : Nat) (h : j < l.length), W.cell? ⟨b, off + j, none⟩ = some (.string l[j])
theorem StrsAt.form {W : World} {v : Value} {l : List BA} (h : StrsAt W v l) : ∃ a cap, v = .slice a l.length cap := by
  rcases h with ⟨rfl, rfl⟩ | ⟨b, off, cap, rfl, _⟩
  · exact ⟨_, _, rfl⟩
  · exact ⟨_, _, rfl⟩
theorem StrsAt.at {W : World} {a : Option Addr} {n cap : Nat} {l : List BA} (h : StrsAt W (.slice a n cap) l) (k : Nat) (hk : k < l.length) : ∃ b off, a = some ⟨b, off, none⟩ ∧ W.cell? ⟨b, off + k, none⟩ = some (.string l[k]) := by
  rcases h with ⟨_, rfl⟩ | ⟨b, off, cap', hv, hc⟩
  · simp at hk
  · cases hv; exact ⟨b, off, rfl, hc k hk⟩
theorem StrsAt.later {w w' : World} {v : Value} {l : List BA} (h : StrsAt w v l) (hb : Below w.heap.size w w') : StrsAt w' v l := by
  rcases h with h | ⟨b, off, cap, rfl, hc⟩
  · exact .inl h
  · exact .inr ⟨b, off, cap, rfl, fun j hj => cell_later hb (hc j hj)⟩
def rowT (l : List BA) : List Value := l.map Value.string
theorem rowT_snoc (l : List BA) (x : BA) : rowT (l ++ [x]) = rowT l ++ [.string x] := by simp [rowT]
theorem StrsAt.of_row {W : World} {base : Nat} {e : TypeId} {v : Value} {l : List BA} (h : W.ownsRow base e 1 v l.length (rowT l)) : StrsAt W v l := by
  obtain ⟨a, cap, rfl⟩ := ownsRow_form h
  rcases h.2 with ⟨h1, h2⟩ | ⟨g, cap', cur, hv, _⟩
  · exact .inl ⟨h1, List.eq_nil_of_length_eq_zero h2⟩
  · simp only [Value.slice.injEq] at hv
    obtain ⟨rfl, _, rfl⟩ := hv
    exact .inr ⟨g, 0, cap, rfl, fun j hj => by
      rw [Nat.zero_add, h.cellAt _ (by omega)]
      simp [rowT, hj]⟩
/-- The lines, as strings. -/
def bsL (l : List (List UInt8)) : List BA := l.map fun x => ⟨x.toArray⟩
theorem bsL_list (L : List BA) : bsL (L.map fun x => x.data.toList) = L := by
  unfold bsL
  rw [List.map_map]
  exact (List.map_congr_left fun x _ => Lib.mk_data x).trans (List.map_id _)
theorem infoStr2 : (Tryz.prog.info? 9).map (fun i => (i.zero, i.size, i.bytes)) = some (some (.string ⟨#[]⟩), 1, 16) := by kernel_rfl

theorem ne10 {c : UInt8} (h : ¬ (c.toNat : Int) = 10) : ¬ c = 10 := fun e => h (by rw [e]; rfl)
theorem is10 {c : UInt8} (h : (c.toNat : Int) = 10) : c = 10 := UInt8.toNat_inj.1 (by have : ((10 : UInt8).toNat : Int) = 10 := rfl; omega)
theorem lnA_hit (acc : List UInt8) (c : UInt8) (r : List UInt8) (h : c = 10) : lnA acc (c :: r) = acc :: lnA [] r := by rw [lnA, if_pos h]
theorem lnA_miss (acc : List UInt8) (c : UInt8) (r : List UInt8) (h : ¬ c = 10) : lnA acc (c :: r) = lnA (acc ++ [c]) r := by rw [lnA, if_neg h]
theorem ext_snoc (s : BA) (p k : Nat) (hp : p ≤ k) (hk : k < s.size) : (s.extract p (k + 1)).data.toList = (s.extract p k).data.toList ++ [s[k]] := by
  rw [Lib.extract_data, Lib.extract_data, show k + 1 - p = (k - p) + 1 by omega, List.take_add_one]
  congr 1
  rw [List.getElem?_drop, show p + (k - p) = k by omega, List.getElem?_eq_getElem (by rw [← Lib.size_eq]; exact hk)]
  rfl
theorem ext_nil (s : BA) (p : Nat) : (s.extract p p).data.toList = [] := by rw [Lib.extract_data, Nat.sub_self]; rfl
theorem last_get (s : BA) (h : 0 < s.size) : (s.data.toList.getLast? = some 10) ↔ (s[s.size - 1].toNat : Int) = 10 := by
  have hs := Lib.size_eq s
  rw [List.getLast?_eq_getElem?, ← hs, List.getElem?_eq_getElem (by omega)]
  constructor
  · intro h2
    have h3 : s[s.size - 1] = 10 := Option.some.inj h2
    rw [h3]; rfl
  · intro h2
    exact congrArg some (is10 h2)

set_option maxRecDepth 100000 in
set_option maxHeartbeats 4000000 in
theorem refLines_any (s : BA) (w : World) (hs : s.size ≤ 2000000) :
    Calls Tryz.prog 20 #[.string s] w fun e w' => ∃ v, e = .returned (.tuple #[v, .int .i64 (lnE s.data.toList).2]) ∧ StrsAt w' v (bsL (lnE s.data.toList).1) ∧ Below w.heap.size w w' := by
  by_cases h4 : 1048576 < s.size
  · have hd : Hid (lnE s.data.toList = ([], 3)) := by unfold Hid lnE; rw [if_pos (by rw [← Lib.size_eq]; omega)]
    go_enter Tryz.func20, Tryz.ntmps20
    go_wp2
    go_ret2
    rw [hd.out]
    exact ⟨_, rfl, .inl ⟨rfl, rfl⟩, Below.refl _ _⟩
  have hd : Hid (lnE s.data.toList = if s.data.toList = [] then ([], 0) else if s.data.toList.getLast? = some 10 then (if 5000 < (lnA [] s.data.toList).length then ([], 3) else (lnA [] s.data.toList, 0)) else ([], 6)) := by unfold Hid lnE; rw [if_neg (by rw [← Lib.size_eq]; omega)]
  have hcnt : Hid ((lnA [] s.data.toList).length ≤ s.size) := by unfold Hid; rw [ln_count, Lib.size_eq]; exact List.count_le_length
  obtain ⟨i0, hi, hz0, hz1, hz2⟩ := info_parts infoStr2
  have Hhi := Lib.hid hi
  have Hz0 := Lib.hid hz0
  have Hz1 := Lib.hid hz1
  have Hz2 := Lib.hid hz2
  clear hi hz0 hz1 hz2
  by_cases hbad : ∃ h : 0 < s.size, ¬ (s[s.size - 1].toNat : Int) = 10
  · obtain ⟨h0, h10⟩ := hbad
    have hne : ¬ s.data.toList = [] := by
      intro e
      have h9 : s.size = 0 := by rw [Lib.size_eq, e]; rfl
      omega
    have hd2 : Hid (lnE s.data.toList = ([], 6)) := by unfold Hid; rw [hd.out, if_neg hne, if_neg (fun e => h10 ((last_get s h0).1 e))]
    have g1 : (0 : Int) < (s.size : Int) := by omega
    have g2 : (s.size : Int) - 1 < (s.size : Int) := by omega
    have g3 : (0 : Int) ≤ (s.size : Int) - 1 := by omega
    have g4 : ((s.size : Int) - 1).toNat = s.size - 1 := by omega
    have g5 : ((s[s.size - 1].toNat : Int) != 10) = true := by simp [h10]
    clear h10 hne
    go_enter Tryz.func20, Tryz.ntmps20
    go_wp2
    go_ret2
    rw [hd2.out]
    exact ⟨_, rfl, .inl ⟨rfl, rfl⟩, Below.refl _ _⟩
  have hd2 : Hid (lnE s.data.toList = if 5000 < (lnA [] s.data.toList).length then ([], 3) else (lnA [] s.data.toList, 0)) := by
    unfold Hid
    rw [hd.out]
    by_cases he : s.data.toList = []
    · rw [if_pos he, he]; rfl
    · have h0 : 0 < s.size := by rw [Lib.size_eq]; exact List.length_pos_iff.2 he
      have h10 : (s[s.size - 1].toNat : Int) = 10 := by
        by_cases h : (s[s.size - 1].toNat : Int) = 10
        · exact h
        · exact absurd ⟨h0, h⟩ hbad
      rw [if_neg he, if_pos ((last_get s h0).2 h10)]
  have HLN : Hid (∀ L : List BA, (L.map fun x => x.data.toList) = lnA [] s.data.toList → bsL (lnA [] s.data.toList) = L ∧ (lnA [] s.data.toList).length = L.length) := by
    intro L h; rw [← h]; exact ⟨bsL_list L, by rw [List.length_map]⟩
  by_cases h0 : 0 < s.size
  · have h10 : (s[s.size - 1].toNat : Int) = 10 := by
      by_cases h : (s[s.size - 1].toNat : Int) = 10
      · exact h
      · exact absurd ⟨h0, h⟩ hbad
    have g1 : (0 : Int) < (s.size : Int) := by omega
    have g2 : (s.size : Int) - 1 < (s.size : Int) := by omega
    have g3 : (0 : Int) ≤ (s.size : Int) - 1 := by omega
    have g4 : ((s.size : Int) - 1).toNat = s.size - 1 := by omega
    have g5 : ((s[s.size - 1].toNat : Int) != 10) = false := by simp [h10]
    clear h10 hbad
    go_enter Tryz.func20, Tryz.ntmps20
    go_wp2
    go_loopw [4, 5, 6] (fun v q i wr => ∃ (k p : Nat) (L : List BA), k ≤ s.size ∧ p ≤ k ∧ i = .int .i64 k ∧ q = .int .i64 p ∧ wr.ownsRow w.heap.size 9 1 v L.length (rowT L) ∧ Hid (L.length ≤ k) ∧ Hid (lnA [] s.data.toList = (L.map fun x => x.data.toList) ++ lnA (s.extract p k).data.toList (s.data.toList.drop k)) ∧ Below w.heap.size w wr) (fun _ _ i _ => s.size - (intOf i).toNat)
    case atStart => exact ⟨0, 0, [], Nat.zero_le _, Nat.le_refl _, rfl, rfl, World.ownsRow_nil _ _ _ _, Nat.le_refl _, by unfold Hid; rw [ext_nil, List.drop_zero]; rfl, Below.refl _ _⟩
    case round =>
      obtain ⟨k, p, L, hk, hpk, rfl, rfl, hr, HL, HR, hB⟩ := hrel
      by_cases hlt : k < s.size
      · have hdr : Hid (s.data.toList.drop k = s[k] :: s.data.toList.drop (k + 1)) := drop_get s k hlt
        have hki : (k : Int) < (s.size : Int) := by omega
        by_cases h10 : (s[k].toNat : Int) = 10
        · have q10 : ((s[k].toNat : Int) == 10) = true := by simp [h10]
          have HT := Lib.hid (is10 h10)
          obtain ⟨x, hx⟩ : ∃ x, s.extract p k = x := ⟨_, rfl⟩
          rw [hx] at HR
          have hr4 := hr.alloc (.cells #[.string x] 9)
          have hnews := cell_one_new wr (.string x) 9
          obtain ⟨n, hn⟩ : ∃ n, L.length = n := ⟨_, rfl⟩
          have hL2 : n ≤ 2000000 := by have := HL.out; omega
          rw [hn] at hr4
          have HN := Lib.hid hn
          have HR4 := Lib.hid hr4
          have HNW2 := Lib.hid hnews
          have HN1 : Hid (∀ u ∈ [Value.string x], u.oneCell' = true) := by intro u hu; simp at hu; subst hu; rfl
          have hm1 : n + 1 ≤ maxLen := by unfold maxLen; omega
          have hm2 : (n + 1) * 16 ≤ 140737488355328 := by omega
          have HK3 : Hid (w.heap.size ≤ (wr.alloc (.cells #[.string x] 9)).heap.size) := by unfold Hid; have := hB.size; simp; omega
          clear hr4 hnews hn h10
          go_wp2_with (at_builtin; refine wpList_append_own _ rfl _ _ 45 rfl w.heap.size 9 i0 (.string ⟨#[]⟩) 1 16 Tryz.underlying45 Hhi.out Hz0.out Hz1.out Hz2.out rfl (by decide) _ _ _ rfl HR4.out ⟨wr.heap.size, 0, none⟩ 1 1 [.string x] rfl rfl HNW2.out HN1.out hm1 hm2 HK3.out ?_; intro v' w4 hown' hgrow _)
          have HO := Lib.hid hown'
          have hB5 := (hB.alloc hB.size (.cells #[.string x] 9)).grown hgrow (by have := hB.size; simp; omega) (fun j e => (hr.lt j e).1)
          clear hown' hgrow
          go_wp2
          go_roundw
          case rel => exact ⟨k + 1, k + 1, L ++ [x], by omega, Nat.le_refl _, by go_num, by go_num, by rw [rowT_snoc, List.length_append, List.length_singleton, HN.out]; exact HO.out, by unfold Hid; rw [List.length_append, List.length_singleton]; have := HL.out; omega, by
            unfold Hid
            rw [HR.out, hdr.out, lnA_hit _ _ _ HT.out, ext_nil]
            simp, hB5⟩
          case measure => simp [intOf]; omega
        · have q10 : ((s[k].toNat : Int) == 10) = false := by simp [h10]
          have HT := Lib.hid (ne10 h10)
          clear h10
          go_wp2_with fail
          go_roundw
          case rel => exact ⟨k + 1, p, L, by omega, by omega, by go_num, rfl, hr, by unfold Hid; have := HL.out; omega, by
            unfold Hid
            rw [HR.out, hdr.out, lnA_miss _ _ _ HT.out, ext_snoc s p k hpk hlt], hB⟩
          case measure => simp [intOf]; omega
      · have hkk : k = s.size := by omega
        have hdn : s.data.toList.drop k = [] := List.drop_eq_nil_of_le (by rw [← Lib.size_eq]; omega)
        have hLL : (L.map fun x => x.data.toList) = lnA [] s.data.toList := by rw [HR.out, hdn]; simp [lnA]
        obtain ⟨e1, e2⟩ := HLN.out L hLL
        have hki : ¬ (k : Int) < (s.size : Int) := by omega
        have E1 := Lib.hid e1
        have hcl : L.length ≤ 2000000 := by have := hcnt.out; omega
        have hd3 : Hid (lnE s.data.toList = if 5000 < L.length then ([], 3) else (lnA [] s.data.toList, 0)) := by unfold Hid; rw [hd2.out, e2]
        obtain ⟨va, vc, rfl⟩ := ownsRow_form hr
        obtain ⟨n, hn⟩ : ∃ n, L.length = n := ⟨_, rfl⟩
        rw [hn] at hd3 hcl
        have HN := Lib.hid hn
        have HRW := Lib.hid hr
        rw [hn]
        clear e1 e2 hLL hdn hkk hn hr
        by_cases h5 : 5000 < n
        · have hd4 : Hid (lnE s.data.toList = ([], 3)) := by unfold Hid; rw [hd3.out, if_pos h5]
          go_wp2_with fail
          go_ret2
          rw [hd4.out]
          exact ⟨_, rfl, .inl ⟨rfl, rfl⟩, hB⟩
        · have hd4 : Hid (lnE s.data.toList = (lnA [] s.data.toList, 0)) := by unfold Hid; rw [hd3.out, if_neg h5]
          go_wp2_with fail
          go_ret2
          rw [hd4.out]
          refine ⟨_, rfl, ?_, hB⟩
          rw [E1.out, ← HN.out]
          exact StrsAt.of_row HRW.out
  · have g1 : ¬ (0 : Int) < (s.size : Int) := by omega
    clear hbad
    go_enter Tryz.func20, Tryz.ntmps20
    go_wp2
    go_loopw [4, 5, 6] (fun v q i wr => ∃ (k p : Nat) (L : List BA), k ≤ s.size ∧ p ≤ k ∧ i = .int .i64 k ∧ q = .int .i64 p ∧ wr.ownsRow w.heap.size 9 1 v L.length (rowT L) ∧ Hid (L.length ≤ k) ∧ Hid (lnA [] s.data.toList = (L.map fun x => x.data.toList) ++ lnA (s.extract p k).data.toList (s.data.toList.drop k)) ∧ Below w.heap.size w wr) (fun _ _ i _ => s.size - (intOf i).toNat)
    case atStart => exact ⟨0, 0, [], Nat.zero_le _, Nat.le_refl _, rfl, rfl, World.ownsRow_nil _ _ _ _, Nat.le_refl _, by unfold Hid; rw [ext_nil, List.drop_zero]; rfl, Below.refl _ _⟩
    case round =>
      obtain ⟨k, p, L, hk, hpk, rfl, rfl, hr, HL, HR, hB⟩ := hrel
      by_cases hlt : k < s.size
      · exfalso; omega
      · have hkk : k = s.size := by omega
        have hdn : s.data.toList.drop k = [] := List.drop_eq_nil_of_le (by rw [← Lib.size_eq]; omega)
        have hLL : (L.map fun x => x.data.toList) = lnA [] s.data.toList := by rw [HR.out, hdn]; simp [lnA]
        obtain ⟨e1, e2⟩ := HLN.out L hLL
        have hki : ¬ (k : Int) < (s.size : Int) := by omega
        have E1 := Lib.hid e1
        have hcl : L.length ≤ 2000000 := by have := hcnt.out; omega
        have hd3 : Hid (lnE s.data.toList = if 5000 < L.length then ([], 3) else (lnA [] s.data.toList, 0)) := by unfold Hid; rw [hd2.out, e2]
        obtain ⟨va, vc, rfl⟩ := ownsRow_form hr
        obtain ⟨n, hn⟩ : ∃ n, L.length = n := ⟨_, rfl⟩
        rw [hn] at hd3 hcl
        have HN := Lib.hid hn
        have HRW := Lib.hid hr
        rw [hn]
        clear e1 e2 hLL hdn hkk hn hr
        by_cases h5 : 5000 < n
        · have hd4 : Hid (lnE s.data.toList = ([], 3)) := by unfold Hid; rw [hd3.out, if_pos h5]
          go_wp2_with fail
          go_ret2
          rw [hd4.out]
          exact ⟨_, rfl, .inl ⟨rfl, rfl⟩, hB⟩
        · have hd4 : Hid (lnE s.data.toList = (lnA [] s.data.toList, 0)) := by unfold Hid; rw [hd3.out, if_neg h5]
          go_wp2_with fail
          go_ret2
          rw [hd4.out]
          refine ⟨_, rfl, ?_, hB⟩
          rw [E1.out, ← HN.out]
          exact StrsAt.of_row HRW.out

theorem own_of_alloc (w : World) (cs : List Value) (e : TypeId) (n : Nat) (hn : cs.length = n) (hm : n ≤ maxLen) : (w.alloc (.cells cs.toArray e)).ownsRow w.heap.size e 1 (.slice (some ⟨w.heap.size, 0, none⟩) n n) n cs :=
  ⟨by omega, .inr ⟨w.heap.size, n, cs.toArray, rfl, Nat.le_refl _, World.alloc_heap_new w _, Nat.le_refl _, hm, by simp [hn], by simp [← hn]⟩⟩
theorem set_same {l : List Value} {k : Nat} {x : Value} (h : l[k]? = some x) : l.set k x = l := by
  obtain ⟨hk, hx⟩ := List.getElem?_eq_some_iff.1 h
  rw [← hx]; exact List.set_getElem_self hk

set_option maxRecDepth 100000 in
set_option maxHeartbeats 4000000 in
theorem Lines_any (s : BA) (w : World) (hs : s.size ≤ 2000000) (hgd : Gd w) :
    Calls Tryz.prog 19 #[.string s] w fun e w' => ∃ v, e = .returned (.tuple #[v, .int .i64 (lnE s.data.toList).2]) ∧ StrsAt w' v (bsL (lnE s.data.toList).1) ∧ Below w.heap.size w w' := by
  have hsz : s.size = s.data.toList.length := Lib.size_eq s
  by_cases h4 : 1048576 < s.size
  · have hd : Hid (lnE s.data.toList = ([], 3)) := by unfold Hid lnE; rw [if_pos (by omega)]
    clear hsz
    go_enter Tryz.func19, Tryz.ntmps19
    go_wp2
    go_ret2
    rw [hd.out]
    exact ⟨_, rfl, .inl ⟨rfl, rfl⟩, Below.refl _ _⟩
  have hd : Hid (lnE s.data.toList = if s.data.toList = [] then ([], 0) else if s.data.toList.getLast? = some 10 then (if 5000 < (lnA [] s.data.toList).length then ([], 3) else (lnA [] s.data.toList, 0)) else ([], 6)) := by unfold Hid lnE; rw [if_neg (by omega)]
  have e0 : s.toList = s.data.toList := Lib.toList_data s
  cases he : s.toList.isEmpty
  case true =>
    have hd2 : Hid (lnE s.data.toList = ([], 0)) := by unfold Hid; rw [hd.out, if_pos (by rw [e0] at he; exact List.isEmpty_iff.1 he)]
    clear hsz e0
    go_enter Tryz.func19, Tryz.ntmps19
    go_wp2
    go_ret2
    rw [hd2.out]
    exact ⟨_, rfl, .inl ⟨rfl, rfl⟩, Below.refl _ _⟩
  have hne : ¬ s.data.toList = [] := by intro e; rw [e0, e] at he; cases he
  have hcs := Tryz.strings_CutSuffix s ⟨#[10]⟩ w (by omega)
  rw [show (⟨#[10]⟩ : BA).data.toList = [10] from rfl, suffix_last] at hcs
  by_cases hlast : s.data.toList.getLast? = some 10
  case neg =>
    have hd2 : Hid (lnE s.data.toList = ([], 6)) := by unfold Hid; rw [hd.out, if_neg hne, if_neg hlast]
    rw [decide_eq_false hlast] at hcs
    have HCS := Lib.hid hcs
    clear hsz e0 hne hlast hcs
    go_enter Tryz.func19, Tryz.ntmps19
    go_wp2_with fail
    refine HCS.out.mono ?_
    rintro e w1 ⟨rfl, rfl⟩
    go_wp2_with fail
    go_ret2
    rw [hd2.out]
    exact ⟨_, rfl, .inl ⟨rfl, rfl⟩, Below.refl _ _⟩
  obtain ⟨t, ht⟩ := List.getLast?_eq_some_iff.1 hlast
  have hd2 : Hid (lnE s.data.toList = if 5000 < s.data.toList.count 10 then ([], 3) else (lnA [] s.data.toList, 0)) := by unfold Hid; rw [hd.out, if_neg hne, if_pos hlast, ln_count]
  have hcn := Tryz.strings_Count_one s 10 w
  unfold Lib.countByte at hcn
  obtain ⟨C, hC⟩ : ∃ C, s.data.toList.count 10 = C := ⟨_, rfl⟩
  rw [hC] at hcn hd2
  have hCl : C ≤ 2000000 := by rw [← hC]; have := List.count_le_length (a := (10 : UInt8)) (l := s.data.toList); omega
  have hCL : Hid (C = (lnA [] s.data.toList).length) := by unfold Hid; rw [ln_count, hC]
  obtain ⟨B, hBd⟩ : ∃ B : BA, B = ⟨t.toArray⟩ := ⟨_, rfl⟩
  have hBt : B.data.toList = t := by rw [hBd]
  have htr : (⟨(Lib.trimSuffix s.data.toList [10]).toArray⟩ : BA) = B := by rw [ht, trim_last, hBd]
  rw [decide_eq_true hlast, htr] at hcs
  have hBs : B.size ≤ 2000000 := by rw [Lib.size_eq, hBt]; have := congrArg List.length ht; rw [List.length_append] at this; omega
  obtain ⟨m, hm⟩ := hgd.ml
  have hsp : ∀ W, W = w → Calls Tryz.prog 43 #[.string B, .string ⟨#[10]⟩] W fun e w' => e = .returned (.slice (some ⟨W.heap.size, 0, none⟩) (Lib.countB B ⟨#[10]⟩ + 1) (Lib.countB B ⟨#[10]⟩ + 1)) ∧ w' = W.alloc (.cells ((Lib.splitB ⟨#[10]⟩ 0 (Lib.countB B ⟨#[10]⟩) B).map Value.string).toArray 9) := by
    rintro W rfl
    exact Tryz.strings_Split B ⟨#[10]⟩ m _ (by omega) hm (by decide)
  obtain ⟨L, hL⟩ : ∃ L, Lib.splitB ⟨#[10]⟩ 0 (Lib.countB B ⟨#[10]⟩) B = L := ⟨_, rfl⟩
  have hLn : L.length = Lib.countB B ⟨#[10]⟩ + 1 := by rw [← hL]; exact Lib.splitB_all ⟨#[10]⟩ (by decide) 0 _ _ rfl
  have hLl : (L.map fun x => x.data.toList) = lnA [] s.data.toList := by
    rw [← hL, Lib.splitB_data, ht, ln_split, hdA_nil]
    show Lib.splitK [10] 0 (Lib.count B.data.toList [10]) B.data.toList = _
    rw [hBt]
  rw [hL, ← hLn] at hsp
  obtain ⟨n, hn⟩ : ∃ n, L.length = n := ⟨_, rfl⟩
  have hnC : n = C := by rw [hCL.out, ← hLl, List.length_map, hn]
  rw [hn] at hsp
  have HLB : Hid (bsL (lnA [] s.data.toList) = L) := by unfold Hid; rw [← hLl]; exact bsL_list L
  have HLs : Hid (∀ x ∈ L, x.size ≤ 281474976710656) := by
    intro x hx
    have h1 : x.data.toList ∈ lnA [] s.data.toList := by rw [← hLl]; exact List.mem_map_of_mem hx
    have h2 : ∀ (l acc : List UInt8) (y : List UInt8), y ∈ lnA acc l → y.length ≤ acc.length + l.length := by
      intro l
      induction l with
      | nil => intro acc y hy; cases hy
      | cons c l ih =>
        intro acc y hy
        rw [lnA] at hy
        split at hy
        · rcases List.mem_cons.1 hy with rfl | hy
          · simp
          · have := ih [] y hy; simp only [List.length_nil, List.length_cons] at this ⊢; omega
        · have := ih _ y hy; simp only [List.length_append, List.length_cons, List.length_nil] at this ⊢; omega
    have h3 := h2 _ _ _ h1
    rw [Lib.size_eq]
    simp only [List.length_nil] at h3
    omega
  have HCS := Lib.hid hcs
  have HCN := Lib.hid hcn
  have HSP := Lib.hid hsp
  have HN := Lib.hid hn
  clear hsz e0 hne hlast hcs hcn hsp ht htr hBd hBt hL hLn hLl hC hm hn
  go_enter Tryz.func19, Tryz.ntmps19
  go_wp2_with fail
  refine HCS.out.mono ?_
  rintro e w1 ⟨rfl, rfl⟩
  go_wp2_with fail
  refine HCN.out.mono ?_
  rintro e w1 ⟨rfl, rfl⟩
  by_cases h5 : 5000 < C
  · have h5i : (5000 : Int) < (C : Int) := by omega
    have hd3 : Hid (lnE s.data.toList = ([], 3)) := by unfold Hid; rw [hd2.out, if_pos h5]
    clear hnC
    go_wp2_with fail
    go_ret2
    rw [hd3.out]
    exact ⟨_, rfl, .inl ⟨rfl, rfl⟩, Below.refl _ _⟩
  have h5i : ¬ (5000 : Int) < (C : Int) := by omega
  have hd3 : Hid (lnE s.data.toList = (lnA [] s.data.toList, 0)) := by unfold Hid; rw [hd2.out, if_neg h5]
  have hnl : n ≤ 2000000 := by omega
  clear hnC
  go_wp2_with fail
  refine (HSP.out _ rfl).mono ?_
  rintro e w2 ⟨rfl, hw2⟩
  have hr0 : w2.ownsRow w1.heap.size 9 1 (.slice (some ⟨w1.heap.size, 0, none⟩) n n) n (rowT L) := by rw [hw2]; exact own_of_alloc w1 _ _ n (by rw [List.length_map, HN.out]) (by unfold maxLen; omega)
  have hB0 : Below w1.heap.size w1 w2 := by rw [hw2]; exact (Below.refl _ _).alloc (Nat.le_refl _) _
  clear hw2
  go_wp2_with fail
  go_loopw [28] (fun i wr => ∃ k : Nat, k ≤ n ∧ i = .int .i64 k ∧ wr.ownsRow w1.heap.size 9 1 (.slice (some ⟨w1.heap.size, 0, none⟩) n n) n (rowT L) ∧ Below w1.heap.size w1 wr) (fun i _ => n - (intOf i).toNat)
  case atStart => exact ⟨0, Nat.zero_le _, rfl, hr0, hB0⟩
  case round =>
    clear hr0 hB0
    obtain ⟨k, hk, rfl, hr, hB⟩ := hrel
    by_cases hlt : k < n
    · have hkl : k < L.length := by rw [HN.out]; exact hlt
      obtain ⟨x, hx⟩ : ∃ x, L[k]? = some x := ⟨_, List.getElem?_eq_getElem hkl⟩
      have hxr : (rowT L)[k]? = some (.string x) := by unfold rowT; rw [List.getElem?_map, hx]; rfl
      have hxs := HLs.out x (List.mem_of_getElem? hx)
      have c1 : wr.cell? ⟨w1.heap.size, k, none⟩ = some (.string x) := (hr.cellAt k (by omega)).trans hxr
      have hki : (k : Int) < (n : Int) := by omega
      have HXR := Lib.hid hxr
      clear hx hxr
      go_wp2_with fail
      refine (Clone_any x _ hxs).mono ?_
      rintro e w3 ⟨rfl, B3⟩
      have hr3 := hr.kept (grown_of_below B3) (Classical.em _)
      have hB3 : Below w1.heap.size w1 w3 := hB.trans (B3.mono hB.size)
      have c3 : w3.cell? ⟨w1.heap.size, k, none⟩ = some (.string x) := (hr3.cellAt k (by omega)).trans HXR.out
      have f3 : w3.frozen? ⟨w1.heap.size, k, none⟩ = false := hr3.frozenAt k
      have hr4 := (hr3.stored k (.string x)).1
      rw [set_same HXR.out] at hr4
      have HR4 := Lib.hid hr4
      clear hr4 c1
      go_wp2_with fail
      go_roundw
      case rel => exact ⟨k + 1, by omega, by go_num, HR4.out, hB3.setCell (Nat.le_refl _) _⟩
      case measure => simp [intOf]; omega
    · have hki : ¬ (k : Int) < (n : Int) := by omega
      go_wp2_with fail
      go_ret2
      rw [hd3.out]
      refine ⟨_, rfl, ?_, hB⟩
      rw [HLB.out]
      have := StrsAt.of_row (l := L) (v := .slice (some ⟨w1.heap.size, 0, none⟩) n n) (by rw [HN.out]; exact hr)
      exact this

set_option maxRecDepth 100000 in
set_option maxHeartbeats 4000000 in
theorem law_lines (s : BA) (w : World) (hgd : Gd w) (hs : s.size ≤ maxLen) :
    Calls Tryz.prog 6 #[.string s] w fun e w' => e = .returned (.bool true) ∧ Below w.heap.size w w' := by
  have hs' := hs
  unfold maxLen at hs'
  by_cases hb : 1048676 < s.size
  · go_enter Tryz.func6, Tryz.ntmps6
    go_wp2_with (first | (go_at_call 7; refine (shown_any _ hgd).mono ?_; rintro e w1 ⟨rfl, hB⟩))
    go_ret
    exact ⟨rfl, hB⟩
  have HLn := Lib.hid (fun w hgd => Lines_any s w (by omega) hgd)
  have HRn := Lib.hid (fun w => refLines_any s w (by omega))
  have hbl : (bsL (lnE s.data.toList).1).length ≤ 2000000 := by
    have hsz : s.size = s.data.toList.length := Lib.size_eq s
    unfold bsL
    rw [List.length_map]
    unfold lnE
    split
    · exact Nat.zero_le _
    · split
      · exact Nat.zero_le _
      · split
        · split
          · exact Nat.zero_le _
          · show (lnA [] s.data.toList).length ≤ _
            omega
        · exact Nat.zero_le _
  generalize bsL (lnE s.data.toList).1 = L at HLn HRn hbl
  generalize (lnE s.data.toList).2 = ec at HLn HRn
  obtain ⟨n, hn⟩ : ∃ n, L.length = n := ⟨_, rfl⟩
  have HN := Lib.hid hn
  rw [hn] at hbl
  clear hn hs'
  go_enter Tryz.func6, Tryz.ntmps6
  go_wp2_with fail
  refine (HLn.out _ hgd).mono ?_
  rintro e w1 ⟨v1, rfl, hv1, hB1⟩
  obtain ⟨a1, c1, rfl⟩ := hv1.form
  go_wp2_with fail
  refine (HRn.out _).mono ?_
  rintro e w2 ⟨v2, rfl, hv2, hB2⟩
  have b2 := hB1.trans (hB2.mono hB1.size)
  have hv1b := hv1.later hB2
  obtain ⟨a2, c2, rfl⟩ := hv2.form
  clear hB1 hv1 hB2
  rw [HN.out] at hv1b hv2 ⊢
  go_wp2_with fail
  go_loopw [7] (fun i wr => ∃ k : Nat, k ≤ n ∧ i = .int .i64 k ∧ Below w.heap.size w wr ∧ StrsAt wr (.slice a1 n c1) L ∧ StrsAt wr (.slice a2 n c2) L) (fun i _ => n - (intOf i).toNat)
  case atStart => exact ⟨0, Nat.zero_le _, rfl, b2, hv1b, hv2⟩
  case round =>
    clear b2 hv1b hv2
    obtain ⟨k, hk, rfl, hB, g1, g2⟩ := hrel
    by_cases hlt : k < n
    · have hkl : k < L.length := by rw [HN.out]; exact hlt
      obtain ⟨b1, o1, rfl, q1⟩ := g1.at k hkl
      obtain ⟨b3, o3, rfl, q2⟩ := g2.at k hkl
      obtain ⟨x, hx⟩ : ∃ x, L[k] = x := ⟨_, rfl⟩
      rw [hx] at q1 q2
      have hki : (k : Int) < (n : Int) := by omega
      clear hx
      go_wp2_with fail
      go_quiet (fail)
      go_wp2_with fail
      all_goals first | (exfalso; simp_all; done) | skip
      go_roundw
      case rel => exact ⟨k + 1, by omega, by go_num, below_drewN hB _, g1, g2⟩
      case measure => simp [intOf]; omega
    · have hki : ¬ (k : Int) < (n : Int) := by omega
      go_wp2_with (first | (go_at_call 7; refine (shown_any _ (hgd.later hB)).mono ?_; rintro e w6 ⟨rfl, hB6⟩))
      go_ret
      exact ⟨rfl, hB.trans (hB6.mono hB.size)⟩
end Go.Proofs.YtdcgfbebeiheiaaGreatDoor
