/- The other way to lists: reading a list. -/
import Derived.Test.YtdcgfbebeiheiaaGreatDoorRReadW
import Derived.Test.YtdcgfbebeiheiaaGreatDoorRPi
import Derived.Test.YtdcgfbebeiheiaaGreatDoorSplM
namespace Go.Proofs.YtdcgfbebeiheiaaGreatDoor
open Go.RowKit

theorem Tryz.infoRItem : (Tryz.prog.info? 60).map (fun i => (i.zero, i.size, i.bytes)) = some (some (.agg #[.string ⟨#[]⟩, .string ⟨#[]⟩, .string ⟨#[]⟩]), 3, 48) := by kernel_rfl
def piV (i : PI) : List Value := [.string i.n, .string i.m, .string i.t]
def rowP (L : List PI) : List Value := L.flatMap piV
theorem rowP_snoc (L : List PI) (i : PI) : rowP (L ++ [i]) = rowP L ++ [.string i.n, .string i.m, .string i.t] := by simp [rowP, piV]
theorem rowP_get : ∀ (l : List PI) (k : Nat) (h : k < l.length), (rowP l)[k * 3]? = some (.string l[k].n) ∧ (rowP l)[k * 3 + 1]? = some (.string l[k].m) ∧ (rowP l)[k * 3 + 2]? = some (.string l[k].t)
  | [], k, h => by cases h
  | i :: l, 0, _ => ⟨rfl, rfl, rfl⟩
  | i :: l, k + 1, h => by
    have ih := rowP_get l k (by simpa using h)
    have e : ∀ j, (rowP (i :: l))[(k + 1) * 3 + j]? = (rowP l)[k * 3 + j]? := fun j => by
      rw [show (k + 1) * 3 + j = 3 + (k * 3 + j) from by omega]
      show ([Value.string i.n, .string i.m, .string i.t] ++ rowP l)[3 + (k * 3 + j)]? = _
      rw [List.getElem?_append_right (by simp)]
      simp
    exact ⟨(e 0).trans ih.1, (e 1).trans ih.2.1, (e 2).trans ih.2.2⟩
theorem ext_nil0 (s : BA) (p : Nat) : (s.extract p p).data.toList = [] := by rw [Lib.extract_data, Nat.sub_self]; rfl
theorem ext_snoc0 (s : BA) (p k : Nat) (hp : p ≤ k) (hk : k < s.size) : (s.extract p (k + 1)).data.toList = (s.extract p k).data.toList ++ [s[k]] := by
  rw [Lib.extract_data, Lib.extract_data, show k + 1 - p = (k - p) + 1 by omega, List.take_add_one]
  congr 1
  rw [List.getElem?_drop, show p + (k - p) = k by omega, List.getElem?_eq_getElem (by rw [← Lib.size_eq]; exact hk)]
  rfl
/-- What is still to be read. -/
def restP (s : BA) (p k : Nat) : List (List UInt8) := if s.size = 0 ∨ s.size < k then [] else spB (s.data.toList.drop p)
theorem restP_end (s : BA) (p k : Nat) (h : s.size = 0 ∨ s.size < k) : restP s p k = [] := if_pos h
theorem restP_start (s : BA) : its s.data.toList = restP s 0 0 := by
  unfold its restP
  by_cases h : s.data.toList = []
  · rw [if_pos h, if_pos (.inl (by rw [Lib.size_eq, h]; rfl))]
  · have h2 : ¬ s.size = 0 := fun e => h (List.length_eq_zero_iff.1 (by rw [← Lib.size_eq]; exact e))
    rw [if_neg h, if_neg (by omega), List.drop_zero]
theorem restP_piece (s : BA) (p k : Nat) (h0 : 0 < s.size) (hp : p ≤ k) (hk : k ≤ s.size) (hn : 44 ∉ (s.extract p k).data.toList) (hc : ∀ h : k < s.size, s[k] = 44) :
    restP s p k = (s.extract p k).data.toList :: restP s (k + 1) (k + 1) := by
  unfold restP
  rw [if_neg (by omega)]
  have e1 : (s.extract p k).data.toList = (s.data.toList.drop p).take (k - p) := Lib.extract_data _ _ _
  have e2 : (s.data.toList.drop p).drop (k - p) = s.data.toList.drop k := by rw [List.drop_drop, show p + (k - p) = k by omega]
  have e3 : s.data.toList.drop p = (s.extract p k).data.toList ++ s.data.toList.drop k := by rw [e1, ← e2, List.take_append_drop]
  by_cases hlt : k < s.size
  · rw [if_neg (by omega), e3, drop_get s k hlt, hc hlt, spB_cat _ _ hn]
  · rw [if_pos (by omega), e3, List.drop_eq_nil_of_le (by rw [← Lib.size_eq]; omega), List.append_nil, spB_none _ hn]
theorem restP_more (s : BA) (p k : Nat) (hlt : k < s.size) : restP s p (k + 1) = restP s p k := by
  unfold restP
  rw [if_neg (by omega), if_neg (by omega)]
theorem all_fst (L : List PI) : (L.map PI.x).all okL = true := by
  rw [List.all_eq_true]
  intro x hx
  obtain ⟨i, _, rfl⟩ := List.mem_map.1 hx
  exact i.h.ok.symm

theorem pB_nil {s : BA} (h : s.size = 0) : pB s.data.toList = ([], 0) := by
  have : s.data.toList = [] := List.length_eq_zero_iff.1 (by rw [← Lib.size_eq]; exact h)
  rw [this]; rfl
set_option maxRecDepth 100000 in
set_option maxHeartbeats 2000000 in
theorem refParse_zero (s : BA) (w : World) (hz : s.size = 0) :
    Calls Tryz.prog 11 #[.string s] w fun e w' => ∃ v, e = .returned (.tuple #[v, .int .i64 (pB s.data.toList).2]) ∧ w'.ownsRow w.heap.size 3 1 v (pB s.data.toList).1.length (rowZ (pB s.data.toList).1) ∧ Below w.heap.size w w' := by
  have hd := Lib.hid (pB_nil hz)
  have g1 : ¬ (0 : Int) < (s.size : Int) := by omega
  have g2 : ¬ (2500 : Int) < (s.size : Int) := by omega
  go_enter Tryz.func11, Tryz.ntmps11
  go_wp2_with fail
  go_loop [4, 6] (fun v i => v = .slice none 0 0 ∧ i = .int .i64 0) (fun _ _ => 0)
  case atStart => exact ⟨rfl, rfl⟩
  case round =>
    obtain ⟨rfl, rfl⟩ := hrel
    go_wp2_with fail
    all_goals first | (exfalso; omega) | skip
    go_loop [9] (fun i => i = .int .i64 0) (fun _ => 0)
    case atStart => rfl
    case round =>
      obtain rfl := hrel
      go_wp2_with fail
      go_loop [10, 11] (fun v i => v = .slice none 0 0 ∧ i = .int .i64 0) (fun _ _ => 0)
      case atStart => exact ⟨rfl, rfl⟩
      case round =>
        obtain ⟨rfl, rfl⟩ := hrel
        go_wp2_with fail
        go_ret2
        rw [hd.out]
        exact ⟨_, rfl, World.ownsRow_nil _ _ _ _, Below.refl _ _⟩

theorem dig9_any (W : World) (b o : Nat) (v : Value) (X : BA) (hX : (⟨(Lib.itoa 9999).toArray⟩ : BA) = X) (h : W.cell? ⟨b, o, none⟩ = some v) :
    Calls Tryz.prog 28 #[.int .i64 9999] W fun e w' => e = .returned (.string X) ∧ w'.cell? ⟨b, o, none⟩ = some v ∧ Below W.heap.size W w' :=
  (refDigits_any 9999 W (by decide) (by decide)).mono fun _ _ ⟨h1, h2⟩ => ⟨by rw [h1, hX], cell_later h2 h, h2⟩

set_option maxRecDepth 100000 in
set_option maxHeartbeats 8000000 in
theorem refParse_pos (s : BA) (w : World) (hs : s.size ≤ 1000000) (h0 : 0 < s.size) :
    Calls Tryz.prog 11 #[.string s] w fun e w' => ∃ v, e = .returned (.tuple #[v, .int .i64 (pB s.data.toList).2]) ∧ w'.ownsRow w.heap.size 3 1 v (pB s.data.toList).1.length (rowZ (pB s.data.toList).1) ∧ Below w.heap.size w w' := by
  have h0i : (0 : Int) < (s.size : Int) := by omega
  have hsz : s.size = s.data.toList.length := Lib.size_eq s
  by_cases h4 : 2500 < s.size
  · have hd : Hid (pB s.data.toList = ([], 3)) := by unfold Hid pB; rw [if_pos (by omega)]
    clear hsz
    go_enter Tryz.func11, Tryz.ntmps11
    go_wp2
    go_ret2
    rw [hd.out]
    exact ⟨_, rfl, World.ownsRow_nil _ _ _ _, Below.refl _ _⟩
  have hd : Hid (pB s.data.toList = if (its s.data.toList).all okL = false then ([], 6) else if ((its s.data.toList).map itL).any bigI then ([], 7) else if 500 < totI ((its s.data.toList).map itL) then ([], 3) else (expL ((its s.data.toList).map itL), 0)) := by unfold Hid pB; rw [if_neg (by omega)]
  clear hsz
  obtain ⟨i0, hi, hz0, hz1, hz2⟩ := info_parts Tryz.infoRItem
  have Hhi := Lib.hid hi
  have Hz0 := Lib.hid hz0
  have Hz1 := Lib.hid hz1
  have Hz2 := Lib.hid hz2
  clear hi hz0 hz1 hz2
  obtain ⟨i1, ji, jz0, jz1, jz2⟩ := info_parts Tryz.infoInt
  have Jhi := Lib.hid ji
  have Jz0 := Lib.hid jz0
  have Jz1 := Lib.hid jz1
  have Jz2 := Lib.hid jz2
  clear ji jz0 jz1 jz2
  go_enter Tryz.func11, Tryz.ntmps11
  go_wp2_with fail
  go_loopw [4, 5, 6] (fun v q i wr => ∃ (k p : Nat) (L : List PI), k ≤ s.size + 1 ∧ p ≤ k ∧ i = .int .i64 k ∧ q = .int .i64 p ∧ wr.ownsRow w.heap.size 60 3 v L.length (rowP L) ∧ Hid (L.length ≤ k) ∧ Hid (its s.data.toList = L.map PI.x ++ restP s p k) ∧ Hid (44 ∉ (s.extract p k).data.toList) ∧ Below w.heap.size w wr) (fun _ _ i _ => s.size + 1 - (intOf i).toNat)
  case atStart => exact ⟨0, 0, [], Nat.zero_le _, Nat.le_refl _, rfl, rfl, World.ownsRow_nil _ _ _ _, Nat.le_refl _, (by unfold Hid; rw [restP_start]; rfl), (by unfold Hid; rw [ext_nil0]; exact List.not_mem_nil), Below.refl _ _⟩
  case round =>
    obtain ⟨k, p, L, hk, hpk, rfl, rfl, hr, HL, HR, HC, hB⟩ := hrel
    by_cases hks : k ≤ s.size
    · have hksi : (k : Int) ≤ (s.size : Int) := by omega
      by_cases hcm : ∀ h : k < s.size, (s[k].toNat : Int) = 44
      · have HP : Hid (restP s p k = (s.extract p k).data.toList :: restP s (k + 1) (k + 1)) := restP_piece s p k h0 hpk hks HC.out (fun h => UInt8.toNat_inj.1 (by have : ((44 : UInt8).toNat : Int) = 44 := rfl; have := hcm h; omega))
        by_cases hlt : k < s.size
        · have hcb : ((s[k].toNat : Int) != 44) = false := by simp [hcm hlt]
          have hki : (k : Int) < (s.size : Int) := by omega
          clear hcm
          obtain ⟨x, hx⟩ : ∃ x, s.extract p k = x := ⟨_, rfl⟩
          have hxs : x.size ≤ 1000000 := by rw [← hx, Lib.size_eq, Lib.extract_data]; simp only [List.length_take, List.length_drop]; rw [← Lib.size_eq]; omega
          have HX := Lib.hid hx
          have HXL : Hid (x.data.toList.length ≤ 1000000) := by unfold Hid; rw [← Lib.size_eq]; exact hxs
          have hpi : (p : Int) ≤ (k : Int) := by omega
          clear hx
          go_wp2_with fail
          rw [HX.out]
          refine (read_any x _ hxs).mono ?_
          rintro e w1 ⟨xn, xm, xt, ok, rfl, hrd, hB1⟩
          have HRD := Lib.hid hrd
          have hB1' := hB.trans (hB1.mono hB.size)
          have hr1 := hr.kept (grown_of_below hB1) (Classical.em _)
          clear hrd
          cases ok
          · have hd2 : Hid (pB s.data.toList = ([], 6)) := by
              unfold Hid
              rw [hd.out, if_pos (by rw [HR.out, HP.out, HX.out, List.all_append, List.all_cons, ← HRD.out.ok]; simp)]
            go_wp2_with fail
            go_ret2
            rw [hd2.out]
            exact ⟨_, rfl, World.ownsRow_nil _ _ _ _, hB1'.alloc hB1'.size _⟩
          · have hr3 := hr1.alloc (.cells #[.string xn, .string xm, .string xt] 60)
            have hr4 := hr3.alloc (.cells #[.string xn, .string xm, .string xt] 60)
            have hW0 : Below w.heap.size w (w1.alloc (.cells #[.string xn, .string xm, .string xt] 60)) := hB1'.alloc hB1'.size _
            have hnews := cell_three_new (w1.alloc (.cells #[.string xn, .string xm, .string xt] 60)) (.string xn) (.string xm) (.string xt) 60
            simp only [World.size_alloc] at hnews
            have HNW2 := Lib.hid hnews
            have HN1 : Hid (∀ u ∈ [Value.string xn, .string xm, .string xt], u.oneCell' = true) := by intro u hu; simp at hu; rcases hu with rfl | rfl | rfl <;> rfl
            obtain ⟨n, hn⟩ : ∃ n, L.length = n := ⟨_, rfl⟩
            have hL2 : n ≤ 2501 := by have := HL.out; omega
            rw [hn] at hr4
            have HN := Lib.hid hn
            have HR4 := Lib.hid hr4
            have hm1 : n + 1 ≤ maxLen := by unfold maxLen; omega
            have hm2 : (n + 1) * 48 ≤ 140737488355328 := by omega
            have HK3 : Hid (w.heap.size ≤ ((w1.alloc (.cells #[.string xn, .string xm, .string xt] 60)).alloc (.cells #[.string xn, .string xm, .string xt] 60)).heap.size) := by unfold Hid; have := hB1'.size; simp; omega
            clear hr4 hr3 hnews hn hr1
            go_wp2_with (at_builtin; refine wpList_append_own _ rfl _ _ 58 rfl w.heap.size 60 i0 (.agg #[.string ⟨#[]⟩, .string ⟨#[]⟩, .string ⟨#[]⟩]) 3 48 Tryz.underlying58 Hhi.out Hz0.out Hz1.out Hz2.out rfl (by decide) _ _ _ rfl HR4.out ⟨w1.heap.size + 1, 0, none⟩ 1 1 [.string xn, .string xm, .string xt] rfl rfl HNW2.out HN1.out hm1 hm2 HK3.out ?_; intro v' w4 hown' hgrow _)
            have HO := Lib.hid hown'
            have hB5 := (hW0.alloc hW0.size (.cells #[.string xn, .string xm, .string xt] 60)).grown hgrow (by have := hB1'.size; simp; omega) (fun j e => (hr.lt j e).1)
            clear hown' hgrow
            go_wp2
            go_roundw
            case rel => exact ⟨k + 1, k + 1, L ++ [⟨x.data.toList, xn, xm, xt, HRD.out, HXL.out⟩], by omega, Nat.le_refl _, by go_num, by go_num, by rw [rowP_snoc, List.length_append, List.length_singleton, HN.out]; exact HO.out, by unfold Hid; rw [List.length_append, List.length_singleton]; have := HL.out; omega, by
              unfold Hid
              rw [HR.out, HP.out, HX.out]
              simp, (by unfold Hid; rw [ext_nil0]; exact List.not_mem_nil), hB5⟩
            case measure => simp [intOf]; omega
        · have hki : ¬ (k : Int) < (s.size : Int) := by omega
          have hki2 : (k : Int) ≤ (s.size : Int) := by omega
          clear hcm
          obtain ⟨x, hx⟩ : ∃ x, s.extract p k = x := ⟨_, rfl⟩
          have hxs : x.size ≤ 1000000 := by rw [← hx, Lib.size_eq, Lib.extract_data]; simp only [List.length_take, List.length_drop]; rw [← Lib.size_eq]; omega
          have HX := Lib.hid hx
          have HXL : Hid (x.data.toList.length ≤ 1000000) := by unfold Hid; rw [← Lib.size_eq]; exact hxs
          have hpi : (p : Int) ≤ (k : Int) := by omega
          clear hx
          go_wp2_with fail
          rw [HX.out]
          refine (read_any x _ hxs).mono ?_
          rintro e w1 ⟨xn, xm, xt, ok, rfl, hrd, hB1⟩
          have HRD := Lib.hid hrd
          have hB1' := hB.trans (hB1.mono hB.size)
          have hr1 := hr.kept (grown_of_below hB1) (Classical.em _)
          clear hrd
          cases ok
          · have hd2 : Hid (pB s.data.toList = ([], 6)) := by
              unfold Hid
              rw [hd.out, if_pos (by rw [HR.out, HP.out, HX.out, List.all_append, List.all_cons, ← HRD.out.ok]; simp)]
            go_wp2_with fail
            go_ret2
            rw [hd2.out]
            exact ⟨_, rfl, World.ownsRow_nil _ _ _ _, hB1'.alloc hB1'.size _⟩
          · have hr3 := hr1.alloc (.cells #[.string xn, .string xm, .string xt] 60)
            have hr4 := hr3.alloc (.cells #[.string xn, .string xm, .string xt] 60)
            have hW0 : Below w.heap.size w (w1.alloc (.cells #[.string xn, .string xm, .string xt] 60)) := hB1'.alloc hB1'.size _
            have hnews := cell_three_new (w1.alloc (.cells #[.string xn, .string xm, .string xt] 60)) (.string xn) (.string xm) (.string xt) 60
            simp only [World.size_alloc] at hnews
            have HNW2 := Lib.hid hnews
            have HN1 : Hid (∀ u ∈ [Value.string xn, .string xm, .string xt], u.oneCell' = true) := by intro u hu; simp at hu; rcases hu with rfl | rfl | rfl <;> rfl
            obtain ⟨n, hn⟩ : ∃ n, L.length = n := ⟨_, rfl⟩
            have hL2 : n ≤ 2501 := by have := HL.out; omega
            rw [hn] at hr4
            have HN := Lib.hid hn
            have HR4 := Lib.hid hr4
            have hm1 : n + 1 ≤ maxLen := by unfold maxLen; omega
            have hm2 : (n + 1) * 48 ≤ 140737488355328 := by omega
            have HK3 : Hid (w.heap.size ≤ ((w1.alloc (.cells #[.string xn, .string xm, .string xt] 60)).alloc (.cells #[.string xn, .string xm, .string xt] 60)).heap.size) := by unfold Hid; have := hB1'.size; simp; omega
            clear hr4 hr3 hnews hn hr1
            go_wp2_with (at_builtin; refine wpList_append_own _ rfl _ _ 58 rfl w.heap.size 60 i0 (.agg #[.string ⟨#[]⟩, .string ⟨#[]⟩, .string ⟨#[]⟩]) 3 48 Tryz.underlying58 Hhi.out Hz0.out Hz1.out Hz2.out rfl (by decide) _ _ _ rfl HR4.out ⟨w1.heap.size + 1, 0, none⟩ 1 1 [.string xn, .string xm, .string xt] rfl rfl HNW2.out HN1.out hm1 hm2 HK3.out ?_; intro v' w4 hown' hgrow _)
            have HO := Lib.hid hown'
            have hB5 := (hW0.alloc hW0.size (.cells #[.string xn, .string xm, .string xt] 60)).grown hgrow (by have := hB1'.size; simp; omega) (fun j e => (hr.lt j e).1)
            clear hown' hgrow
            go_wp2
            go_roundw
            case rel => exact ⟨k + 1, k + 1, L ++ [⟨x.data.toList, xn, xm, xt, HRD.out, HXL.out⟩], by omega, Nat.le_refl _, by go_num, by go_num, by rw [rowP_snoc, List.length_append, List.length_singleton, HN.out]; exact HO.out, by unfold Hid; rw [List.length_append, List.length_singleton]; have := HL.out; omega, by
              unfold Hid
              rw [HR.out, HP.out, HX.out]
              simp, (by unfold Hid; rw [ext_nil0]; exact List.not_mem_nil), hB5⟩
            case measure => simp [intOf]; omega
      · have hlt : k < s.size := by
          by_cases h : k < s.size
          · exact h
          · exact absurd (fun h' => absurd h' h) hcm
        have hc44 : ¬ (s[k].toNat : Int) = 44 := fun e => hcm (fun _ => e)
        have hcb : ((s[k].toNat : Int) != 44) = true := by simp [hc44]
        have HNC : Hid (44 ∉ (s.extract p (k + 1)).data.toList) := by
          unfold Hid
          rw [ext_snoc0 s p k hpk hlt]
          intro h
          rcases List.mem_append.1 h with h | h
          · exact HC.out h
          · rw [List.mem_singleton] at h
            exact hc44 (by rw [← h]; rfl)
        have HRR : Hid (restP s p (k + 1) = restP s p k) := restP_more s p k hlt
        clear hcm hc44
        go_wp2_with fail
        go_roundw
        case rel => exact ⟨k + 1, p, L, by omega, by omega, by go_num, rfl, hr, by unfold Hid; have := HL.out; omega, by unfold Hid; rw [HR.out, HRR.out], HNC, hB⟩
        case measure => simp [intOf]; omega
    · have HE : Hid (its s.data.toList = L.map PI.x) := by unfold Hid; rw [HR.out, restP_end s p k (by omega), List.append_nil]
      have hksi : ¬ (k : Int) ≤ (s.size : Int) := by omega
      have hd2 : Hid (pB s.data.toList = if (itsP L).any bigI then ([], 7) else if 500 < totI (itsP L) then ([], 3) else (expL (itsP L), 0)) := by
        unfold Hid
        rw [hd.out, HE.out, all_fst, itsP_x]; rfl
      obtain ⟨wq, rfl⟩ : ∃ x, x = wr := ⟨_, rfl⟩
      obtain ⟨a, cap, rfl⟩ := ownsRow_form hr
      have HI : Hid (∀ k (h : k < L.length), ∃ g, a = some ⟨g, 0, none⟩ ∧ g < wq.heap.size ∧ wq.cell? ⟨g, k * 3, none⟩ = some (.string L[k].n) ∧ wq.cell? ⟨g, k * 3 + 1, none⟩ = some (.string L[k].m) ∧ wq.cell? ⟨g, k * 3 + 2, none⟩ = some (.string L[k].t)) := by
        intro k h
        rcases hr.2 with ⟨_, h0⟩ | ⟨g, cap', cur, hv, _⟩
        · omega
        · simp only [Value.slice.injEq] at hv
          obtain ⟨rfl, _, rfl⟩ := hv
          have hg := rowP_get L k h
          exact ⟨g, rfl, (hr.lt g rfl).2, (hr.cellAt _ (by omega)).trans hg.1, (hr.cellAt _ (by omega)).trans hg.2.1, (hr.cellAt _ (by omega)).trans hg.2.2⟩
      have hL2 : L.length ≤ 2501 := by have := HL.out; omega
      clear hr HL HR HC HE hd
      go_wp2_with fail
      go_loopw [9] (fun i wx => ∃ j : Nat, j ≤ L.length ∧ i = .int .i64 j ∧ Hid ((itsP L).any bigI = ((itsP L).drop j).any bigI) ∧ Hid (∀ i (h : i < L.length), i < j → bigI L[i].it = false) ∧ Below wq.heap.size wq wx) (fun i _ => L.length - (intOf i).toNat)
      case atStart => exact ⟨0, Nat.zero_le _, rfl, rfl, (fun i _ h => absurd h (Nat.not_lt_zero _)), Below.refl _ _⟩
      case round =>
        obtain ⟨j, hj, rfl, HA, HN, hBr⟩ := hrel
        have hBw := hB.trans (hBr.mono hB.size)
        by_cases hlt : j < L.length
        · obtain ⟨g, rfl, hg, c0, c1, c2⟩ := HI.out j hlt
          have r1 := (hBr.cell (p := ⟨g, j * 3 + 1, none⟩) hg).trans c1
          have hdr0 := itsP_drop L j hlt
          have HNE : Hid (bigI L[j].it = false → ∀ i (h : i < L.length), i < j + 1 → bigI L[i].it = false) := by
            intro hb i h hi
            by_cases e : i = j
            · subst e; exact hb
            · exact HN.out i h (by omega)
          obtain ⟨P, hP⟩ : ∃ x, L[j] = x := ⟨_, rfl⟩
          rw [hP] at r1 hdr0 HNE
          have hdr := Lib.hid hdr0
          clear hdr0
          have hj1 : j + 1 ≤ L.length := hlt
          have hji : (j : Int) < (L.length : Int) := by omega
          clear c0 c1 c2 hP hlt HN
          obtain ⟨X, hX⟩ : ∃ X : BA, (⟨(Lib.itoa 9999).toArray⟩ : BA) = X := ⟨_, rfl⟩
          have HX := Lib.hid hX
          have HBF : Hid (beforeB X.data.toList P.m.data.toList = bigI P.it) := by
            unfold Hid
            obtain ⟨_, g2, _, _, g5, _⟩ := P.h.good
            rw [← hX]
            show beforeB (Lib.itoa 9999) _ = _
            rw [big_before g2]
            exact g5.symm
          clear hX
          cases hbig : bigI P.it
          · have HB2 := Lib.hid hbig
            rw [hbig] at HBF
            clear hbig
            go_wp2_with fail
            first | go_region_held3 (fun w' => w'.cell? ⟨g, j * 3 + 1, none⟩ = some (.string P.m)) (go_keep) (first | (go_at_call 28; refine (dig9_any _ g (j * 3 + 1) (.string P.m) X HX.out (by assumption)).mono ?_; rintro e w2 ⟨rfl, r2, hB2⟩) | (go_at_call 27; refine (rless_is X P.m _ _ HBF.out).mono ?_; rintro e w3 ⟨rfl, rfl⟩)) | fail
            all_goals
              go_wp2
              go_roundw
              case rel => exact ⟨j + 1, by omega, by go_num, by unfold Hid; rw [HA.out, hdr.out, List.any_cons, HB2.out]; rfl, HNE.out HB2.out, hBr.drew.trans (hB2.mono (by have := hBr.size; simpa using this))⟩
              case measure => simp [intOf]; omega
          · have HB2 := Lib.hid hbig
            rw [hbig] at HBF
            clear hbig
            have hd3 : Hid (pB s.data.toList = ([], 7)) := by unfold Hid; rw [hd2.out, if_pos]; rw [HA.out, hdr.out, List.any_cons, HB2.out]; rfl
            go_wp2_with fail
            first | go_region_held3 (fun w' => w'.cell? ⟨g, j * 3 + 1, none⟩ = some (.string P.m)) (go_keep) (first | (go_at_call 28; refine (dig9_any _ g (j * 3 + 1) (.string P.m) X HX.out (by assumption)).mono ?_; rintro e w2 ⟨rfl, r2, hB2⟩) | (go_at_call 27; refine (rless_is X P.m _ _ HBF.out).mono ?_; rintro e w3 ⟨rfl, rfl⟩)) | fail
            all_goals
              go_wp2
              go_ret2
              rw [hd3.out]
              exact ⟨_, rfl, World.ownsRow_nil _ _ _ _, hBw.drew.trans (hB2.mono (by have := hBw.size; simpa using this))⟩
        · have HAA : Hid ((itsP L).any bigI = false) := by unfold Hid; rw [HA.out, List.drop_eq_nil_of_le (by unfold itsP; rw [List.length_map]; omega)]; rfl
          have HNN : Hid (∀ i (h : i < L.length), bigI L[i].it = false) := fun i h => HN.out i h (by omega)
          have hd3 : Hid (pB s.data.toList = if 500 < totI (itsP L) then ([], 3) else (expL (itsP L), 0)) := by unfold Hid; rw [hd2.out, if_neg (by rw [HAA.out]; decide)]
          have hji : ¬ (j : Int) < (L.length : Int) := by omega
          clear HA HN hd2 hlt
          go_wp2_with fail
          go_loopw [10, 11] (fun v i wy => ∃ c : Nat, c ≤ L.length ∧ i = .int .i64 c ∧ wy.ownsRow wq.heap.size 3 1 v (expL ((itsP L).take c)).length (rowZ (expL ((itsP L).take c))) ∧ Hid ((expL ((itsP L).take c)).length ≤ 500) ∧ Below w.heap.size w wy ∧ Below wq.heap.size wq wy) (fun _ i _ => L.length - (intOf i).toNat)
          case atStart => exact ⟨0, Nat.zero_le _, rfl, World.ownsRow_nil _ _ _ _, Nat.zero_le _, hBw, hBr⟩
          case round =>
            clear hBr hBw
            obtain ⟨c, hc, rfl, hrow, HLE, hBw, hBr⟩ := hrel
            by_cases hlt : c < L.length
            · obtain ⟨g, rfl, hg, c0, c1, c2⟩ := HI.out c hlt
              have r0 := (hBr.cell (p := ⟨g, c * 3, none⟩) hg).trans c0
              have r1 := (hBr.cell (p := ⟨g, c * 3 + 1, none⟩) hg).trans c1
              have r2 := (hBr.cell (p := ⟨g, c * 3 + 2, none⟩) hg).trans c2
              have hci : (c : Int) < (L.length : Int) := by omega
              obtain ⟨N, K, T, n1, n2, n3, n4, n5, n6, n7, n8, n9, n10, n11⟩ := L[c].nums (HNN.out c hlt)
              obtain ⟨z1, z2, z3⟩ := L[c].size
              have t1 := itsP_take L c hlt
              have t2 := itsP_tot L c hlt
              have t3 := L[c].len (T * K) n10
              have hc1 : c + 1 ≤ L.length := hlt
              obtain ⟨P, hP⟩ : ∃ x, L[c] = x := ⟨_, rfl⟩
              rw [hP] at r0 r1 r2 n7 n8 n9 n10 n11 z1 z2 z3 t1 t2 t3
              rw [n10] at t2
              clear hP hlt c0 c1 c2 n10
              have hq : T * K ≤ 100000000 ∧ T * K = K * T := ⟨Nat.le_trans (Nat.mul_le_mul n5 (show K ≤ 10000 by omega)) (by decide), Nat.mul_comm _ _⟩
              have hTC : T ≤ T * K := Nat.le_mul_of_pos_right _ (by omega)
              have hprod : (T : Int) * (N + (K : Int) - 1 - N + 1) = ((T * K : Nat) : Int) := by
                rw [show N + (K : Int) - 1 - N + 1 = (K : Int) by omega]; exact (Int.natCast_mul T K).symm
              obtain ⟨M, hM⟩ : ∃ M : Int, N + (K : Int) - 1 = M := ⟨_, rfl⟩
              rw [hM] at hprod n8
              have hM1 : N ≤ M ∧ M ≤ 9999 := by omega
              have HM := Lib.hid hM
              clear hM
              obtain ⟨C, hC⟩ : ∃ x, T * K = x := ⟨_, rfl⟩
              rw [hC] at hq t2 t3 n11 hTC hprod
              have hp1 : 0 ≤ (T : Int) * (M - N + 1) := by omega
              have hp2 : (T : Int) * (M - N + 1) ≤ 100000000 := by omega
              have HPR := Lib.hid hprod
              have hC2 : C ≤ 100000000 := hq.1
              have HN11 := Lib.hid n11
              have HT1 := Lib.hid t1
              have HT2 := Lib.hid t2
              have HT3 := Lib.hid t3
              have HN7 := Lib.hid n7
              have HN8 := Lib.hid n8
              have HN9 := Lib.hid n9
              have HC := Lib.hid hC
              obtain ⟨pre, hpre⟩ : ∃ x, expL ((itsP L).take c) = x := ⟨_, rfl⟩
              rw [hpre] at hrow HLE HT1 HT2
              have HPRE := Lib.hid hpre
              clear n7 n8 n9 n11 t1 t2 t3 hC hpre hq hprod
              obtain ⟨pl, hpl⟩ : ∃ x, pre.length = x := ⟨_, rfl⟩
              rw [hpl] at hrow HLE HT2
              have hpl5 : pl ≤ 500 := HLE.out
              have HPL := Lib.hid hpl
              clear hpl
              obtain ⟨va, vc, rfl⟩ := ownsRow_form hrow
              go_wp2_with fail
              refine (refInt_any P.n 0 9999 _ z1 (by decide) (by decide)).mono ?_
              rintro e w3 ⟨rfl, hB3⟩
              rw [HN7.out]
              have r1 := cell_later hB3 r1
              have r2 := cell_later hB3 r2
              have hrow3 := hrow.kept (grown_of_below hB3) (Classical.em _)
              have hBr3 := hBr.trans (hB3.mono hBr.size)
              have hBw3 := hBw.trans (hB3.mono hBw.size)
              clear hrow hBr hBw r0
              go_wp2_with fail
              refine (refInt_any P.m 0 9999 _ z2 (by decide) (by decide)).mono ?_
              rintro e w4 ⟨rfl, hB4⟩
              rw [HN8.out]
              have r2 := cell_later hB4 r2
              have hrow4 := hrow3.kept (grown_of_below hB4) (Classical.em _)
              have hBr4 := hBr3.trans (hB4.mono hBr3.size)
              have hBw4 := hBw3.trans (hB4.mono hBw3.size)
              clear hrow3 hBr3 hBw3 r1 hB3
              go_wp2_with fail
              refine (refInt_any P.t 1 500 _ z3 (by decide) (by decide)).mono ?_
              rintro e w5 ⟨rfl, hB5⟩
              rw [HN9.out]
              have hrow5 := hrow4.kept (grown_of_below hB5) (Classical.em _)
              have hBr5 := hBr4.trans (hB5.mono hBr4.size)
              have hBw5 := hBw4.trans (hB5.mono hBw4.size)
              clear hrow4 hBr4 hBw4 r2 hB4 hB5
              by_cases h5 : T ≤ 500
              case neg =>
                rw [if_neg h5]
                have hd4 : Hid (pB s.data.toList = ([], 3)) := by unfold Hid; rw [hd3.out, if_pos (by have := HT2.out; omega)]
                clear h5
                go_wp2_with fail
                go_ret2
                rw [hd4.out]
                exact ⟨_, rfl, World.ownsRow_nil _ _ _ _, hBw5⟩
              rw [if_pos h5]
              by_cases hover : (500 : Int) - (pl : Int) < (T : Int) * (M - N + 1)
              · have hd4 : Hid (pB s.data.toList = ([], 3)) := by unfold Hid; rw [hd3.out, if_pos (by have := HT2.out; have := HPR.out; omega)]
                go_wp2_with fail
                go_ret2
                rw [hd4.out]
                exact ⟨_, rfl, World.ownsRow_nil _ _ _ _, hBw5⟩
              have hC5 : pl + C ≤ 500 := by have := HPR.out; omega
              go_wp2_with fail
              go_loopw [10, 18] (fun v i wz => ∃ r d : Nat, r ≤ T ∧ i = .int .i64 r ∧ Hid (d = r * K) ∧ d ≤ C ∧ wz.ownsRow wq.heap.size 3 1 v (pl + d) (rowZ (pre ++ (expI P.it).take d)) ∧ Below w.heap.size w wz ∧ Below wq.heap.size wq wz) (fun _ i _ => T - (intOf i).toNat)
              case atStart => exact ⟨0, 0, Nat.zero_le _, rfl, (Nat.zero_mul K).symm, Nat.zero_le _, by rw [List.take_zero, List.append_nil]; exact hrow5, hBw5, hBr5⟩
              case round =>
                clear hrow5 hBw5 hBr5
                obtain ⟨r, d, hr, rfl, HD, hd, hrow, hBw, hBr⟩ := hrel
                by_cases hlt : r < T
                · have hri : (r : Int) < (T : Int) := by omega
                  go_wp2_with fail
                  go_loopw [10, 19] (fun v i wz => ∃ q d : Nat, q ≤ K ∧ i = .int .i64 (N + q) ∧ Hid (d = r * K + q) ∧ d ≤ C ∧ wz.ownsRow wq.heap.size 3 1 v (pl + d) (rowZ (pre ++ (expI P.it).take d)) ∧ Below w.heap.size w wz ∧ Below wq.heap.size wq wz) (fun _ i _ => (N + K - intOf i).toNat)
                  case atStart => exact ⟨0, d, Nat.zero_le _, by simp, by unfold Hid; rw [HD.out, Nat.add_zero], hd, hrow, hBw, hBr⟩
                  case round =>
                    clear HD hrow hBw hBr hd
                    obtain ⟨q, d, hq, rfl, HD, hd, hrow, hBw, hBr⟩ := hrel
                    by_cases hlq : q < K
                    · obtain ⟨x1, x2⟩ := HN11.out r q hlt hlq
                      have hqi : N + (q : Int) ≤ M := by have := HM.out; omega
                      have hdc : d < C := by have := HD.out; omega
                      have HEX : Hid ((expI P.it).take (d + 1) = (expI P.it).take d ++ [N + (q : Int)]) := by
                        unfold Hid; rw [List.take_add_one, HD.out, x2]; rfl
                      have hr1 := hrow.alloc (.cells #[.int .i64 (N + (q : Int))] 3)
                      have hnews := cell_one_new wr (.int .i64 (N + (q : Int))) 3
                      have HR1 := Lib.hid hr1
                      have HNW := Lib.hid hnews
                      have HN1 : Hid (∀ u ∈ [Value.int .i64 (N + (q : Int))], u.oneCell' = true) := by intro u hu; simp at hu; subst hu; rfl
                      have hm1 : pl + d + 1 ≤ maxLen := by unfold maxLen; omega
                      have hm2 : (pl + d + 1) * 8 ≤ 140737488355328 := by omega
                      have HK3 : Hid (wq.heap.size ≤ (wr.alloc (.cells #[.int .i64 (N + (q : Int))] 3)).heap.size) := by unfold Hid; have := hBr.size; simp; omega
                      obtain ⟨va', vc', rfl⟩ := ownsRow_form hrow
                      have HO1 : Hid (∀ j, (Value.slice va' (pl + d) vc').ownBlock = some j → w.heap.size ≤ j ∧ wq.heap.size ≤ j) := fun j e => ⟨Nat.le_trans hB.size (hrow.lt j e).1, (hrow.lt j e).1⟩
                      clear x1 x2 hr1 hnews
                      go_wp2_with (at_builtin; refine wpList_append_own _ rfl _ _ 22 rfl wq.heap.size 3 i1 (.int .i64 0) 1 8 Tryz.underlying22 Jhi.out Jz0.out Jz1.out Jz2.out rfl (by decide) _ _ _ rfl HR1.out ⟨wr.heap.size, 0, none⟩ 1 1 [.int .i64 (N + (q : Int))] rfl rfl HNW.out HN1.out hm1 hm2 HK3.out ?_; intro v' w6 hown' hgrow _)
                      have HO := Lib.hid hown'
                      have hB6 := (hBw.alloc hBw.size (.cells #[.int .i64 (N + (q : Int))] 3)).grown hgrow (by have := hBw.size; simp; omega) (fun j e => (HO1.out j e).1)
                      have hgrow2 := Lib.hid hgrow
                      clear hown' hgrow
                      go_wp2
                      go_roundw
                      case rel => exact ⟨q + 1, d + 1, by omega, by go_num, by unfold Hid; rw [HD.out]; omega, by omega, by rw [HEX.out, ← List.append_assoc, rowZ_snoc]; exact HO.out, hB6, by
                        exact (hBr.alloc hBr.size (.cells #[.int .i64 (N + (q : Int))] 3)).grown hgrow2.out (by have := hBr.size; simp; omega) (fun j e => (HO1.out j e).2)⟩
                      case measure => simp [intOf]; omega
                    · have hqi : ¬ N + (q : Int) ≤ M := by have := HM.out; omega
                      have HD1 : Hid (d = (r + 1) * K) := by
                        unfold Hid
                        rw [HD.out, Nat.add_mul]
                        omega
                      go_wp2_with fail
                      go_roundw
                      case rel => exact ⟨r + 1, d, by omega, by go_num, HD1, hd, hrow, hBw, hBr⟩
                      case measure => simp [intOf]; omega
                · have hri : ¬ (r : Int) < (T : Int) := by omega
                  have hdC : d = C := by rw [HD.out, show r = T by omega, HC.out]
                  have HTK : Hid ((expI P.it).take d = expI P.it) := List.take_of_length_le (by rw [HT3.out]; omega)
                  rw [HTK.out] at hrow
                  have HLL : Hid ((expL ((itsP L).take (c + 1))).length = pl + d) := by unfold Hid; rw [HT1.out, List.length_append, HT3.out, HPL.out]; omega
                  clear hdC
                  go_wp2_with fail
                  go_roundw
                  case rel => exact ⟨c + 1, hc1, by go_num, by rw [HLL.out, HT1.out]; exact hrow, by unfold Hid; rw [HLL.out]; omega, hBw, hBr⟩
                  case measure => simp [intOf]; omega
            · have hci : ¬ (c : Int) < (L.length : Int) := by omega
              have HFIN : Hid ((itsP L).take c = itsP L) := List.take_of_length_le (by unfold itsP; rw [List.length_map]; omega)
              rw [HFIN.out] at hrow HLE
              have hd4 : Hid (pB s.data.toList = (expL (itsP L), 0)) := by unfold Hid; rw [hd3.out, if_neg (itsP_end L HLE.out)]
              clear hlt
              obtain ⟨va, vc, rfl⟩ := ownsRow_form hrow
              have HROW := Lib.hid hrow
              clear hrow
              go_wp2_with fail
              go_ret2
              rw [hd4.out]
              exact ⟨_, rfl, ownsRow_base HROW.out hB.size, hBw⟩
theorem refParse_any (s : BA) (w : World) (hs : s.size ≤ 1000000) :
    Calls Tryz.prog 11 #[.string s] w fun e w' => ∃ v, e = .returned (.tuple #[v, .int .i64 (pB s.data.toList).2]) ∧ w'.ownsRow w.heap.size 3 1 v (pB s.data.toList).1.length (rowZ (pB s.data.toList).1) ∧ Below w.heap.size w w' := by
  by_cases h0 : 0 < s.size
  · exact refParse_pos s w hs h0
  · exact refParse_zero s w (by omega)
end Go.Proofs.YtdcgfbebeiheiaaGreatDoor
