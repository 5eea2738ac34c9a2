/- The other way to write a list: its walk. -/
import Derived.Test.YtdcgfbebeiheiaaGreatDoorRDp
namespace Go.Proofs.YtdcgfbebeiheiaaGreatDoor
open Go.RowKit

def rowS (l : List BA) : List Value := l.map Value.string
theorem rowS_at {l : List BA} {k : Nat} {x : BA} (h : l[k]? = some x) : (rowS l)[k]? = some (.string x) := by unfold rowS; rw [List.getElem?_map, h]; rfl
theorem rowS_set (l : List BA) (k : Nat) (x : BA) : (rowS l).set k (.string x) = rowS (l.set k x) := by unfold rowS; rw [List.map_set]
theorem bestR_made (zs : List Int) : rowS (bestR zs zs.length ⟨#[]⟩) = (madeCells (Value.string ⟨#[]⟩).cells ((zs.length + 1) * 1)).toList := by
  rw [bestR_start]
  unfold rowS madeCells
  have hf : (fun x => [Value.string ⟨#[]⟩][x % 1]?.getD default) = fun _ : Nat => Value.string ⟨#[]⟩ := funext fun x => by simp [Nat.mod_one]
  simp [Value.cells, hf, List.map_const']
theorem tx_size {zs : List Int} (hz : ∀ j : Nat, 0 ≤ zs[j]?.getD 0 ∧ zs[j]?.getD 0 ≤ 9999) (hn : zs.length ≤ 500) {t : BA} (h : txO zs = some t) : t.size ≤ 43 := by
  have b : ∀ j : Nat, -9223372036854775808 ≤ zs[j]?.getD 0 ∧ zs[j]?.getD 0 ≤ 9223372036854775807 := fun j => by have := hz j; omega
  by_cases h0 : zs.length = 1
  · rw [txO_one h0] at h
    rw [← Option.some.inj h]
    have := numS_size _ (b 0).1 (b 0).2
    omega
  · by_cases hu : upsP zs
    · rw [txO_ups h0 hu] at h
      rw [← Option.some.inj h]
      exact upT_size _ _ (b _) (b _)
    · by_cases hr : repsP zs
      · rw [txO_reps h0 hu hr] at h
        rw [← Option.some.inj h]
        exact repT_size _ _ (b _) (by omega)
      · rw [txO_none h0 hu hr] at h; cases h
theorem can_sz {L : List Int} (h : Ok0 L) : (canonA L).size ≤ 2500 := by
  rw [Lib.size_eq]
  have h1 := can_size L.length L (Nat.le_refl _) h
  have h2 := h.1
  show (canL L).length ≤ 2500
  omega
theorem can_nil_iff {L : List Int} : canL L = [] ↔ L.length = 0 := by
  constructor
  · intro h
    by_cases h0 : L.length = 0
    · exact h0
    · exact absurd h (canon_spec L (by omega)).1
  · intro h; rw [List.length_eq_zero_iff.1 h]; rfl
theorem ba_eq {a b : BA} (h : a.data.toList = b.data.toList) : a = b := by
  rw [← Lib.mk_data a, ← Lib.mk_data b, h]

set_option maxRecDepth 100000 in
set_option maxHeartbeats 8000000 in
theorem refList_any (b off cap : Nat) (zs : List Int) (n : Nat) (hn : zs.length = n) (hcap : n ≤ cap) (hcap2 : cap ≤ maxLen) (w : World)
    (hc : ∀ j : Nat, j < n → w.cell? ⟨b, off + j, none⟩ = some (.int .i64 (zs[j]?.getD 0))) :
    Calls Tryz.prog 9 #[.slice (some ⟨b, off, none⟩) n cap] w fun e w' => e = .returned (.tuple #[.string (listA zs).1, .int .i64 (listA zs).2]) ∧ Below w.heap.size w w' := by
  have hcm : n ≤ 9223372036854775807 := by unfold maxLen at hcap2; omega
  have HC := Lib.hid hc
  clear hc
  have HNN := Lib.hid hn
  by_cases h5 : 500 < n
  · have hd : Hid (listA zs = (⟨#[]⟩, 3)) := by unfold Hid listA; rw [if_pos (by omega)]
    clear hn
    go_enter Tryz.func9, Tryz.ntmps9
    go_wp2
    go_ret2
    rw [hd.out]
    exact ⟨rfl, Below.refl _ _⟩
  have hd : Hid (listA zs = if zs.all okZ then (canonA zs, 0) else (⟨#[]⟩, 7)) := by unfold Hid listA; rw [if_neg (by omega)]
  clear hn
  go_enter Tryz.func9, Tryz.ntmps9
  go_wp2
  go_loop [4] (fun i => ∃ k : Nat, k ≤ n ∧ i = .int .i64 k ∧ Hid (zs.all okZ = (zs.drop k).all okZ)) (fun i => n - (intOf i).toNat)
  case atStart => exact ⟨0, Nat.zero_le _, rfl, rfl⟩
  case round =>
    obtain ⟨k, hk, rfl, HR⟩ := hrel
    by_cases hlt : k < n
    · have hdr : Hid (zs.drop k = zs[k]?.getD 0 :: zs.drop (k + 1)) := by
        unfold Hid
        have hlt' : k < zs.length := by rw [HNN.out]; exact hlt
        rw [List.drop_eq_getElem_cons hlt', List.getElem?_eq_getElem hlt']; rfl
      have hck := HC.out k hlt
      obtain ⟨z, hz⟩ : ∃ x, zs[k]?.getD 0 = x := ⟨_, rfl⟩
      rw [hz] at hck hdr
      clear hz
      by_cases h1 : 0 ≤ z <;> by_cases h2 : z ≤ 9999
      · have hok : Hid (okZ z = true) := by unfold Hid okZ; exact decide_eq_true ⟨h1, h2⟩
        go_wp2
        all_goals first | (exfalso; omega) | skip
        go_round
        case rel => exact ⟨k + 1, by omega, by go_num, by unfold Hid; rw [HR.out, hdr.out, List.all_cons, hok.out]; rfl⟩
        case measure => first | (simp [intOf]; done) | (simp [intOf]; omega)
      all_goals
        have hok : Hid (okZ z = false) := by unfold Hid okZ; exact decide_eq_false (by omega)
        go_wp2
        all_goals first | (exfalso; omega) | (go_ret2; rw [hd.out, HR.out, hdr.out, List.all_cons, hok.out]; exact ⟨rfl, Below.refl _ _⟩)
    · have hall : Hid (zs.all okZ = true) := by unfold Hid; rw [HR.out, List.drop_eq_nil_of_le (by rw [HNN.out]; omega)]; rfl
      have hd2 : Hid (listA zs = (canonA zs, 0)) := by unfold Hid; rw [hd.out, hall.out]; rfl
      have HZ := Lib.hid (all_small hall.out)
      have HOK : Hid (Ok0 zs) := ⟨by rw [HNN.out]; omega, HZ.out⟩
      clear HR hall hd
      obtain ⟨i0, hi, hz0, hz1, hz2⟩ := info_parts Tryz.infoStr
      obtain ⟨w1, hmk, hown, hgr⟩ := run_make_full (P := Tryz.prog) (w := w) w.heap.size 45 9 i0 _ 1 Tryz.underlying45 hi hz0 hz1 .i64 .i64 (n + 1) (by rw [hz2]; omega) (by unfold maxLen; omega) (Nat.le_refl _)
      have ec : ((n + 1 : Nat) : Int) = (n : Int) + 1 := by omega
      rw [ec] at hmk
      have hrow0 : w1.ownsRow w.heap.size 9 1 (.slice (some ⟨w.heap.size, 0, none⟩) (n + 1) (n + 1)) (n + 1) (rowS (bestR zs n ⟨#[]⟩)) := by
        have e := bestR_made zs
        rw [HNN.out] at e
        rw [e]; exact hown
      have hB1 : Below w.heap.size w w1 := (Below.refl w.heap.size w).grown hgr (Nat.le_refl _) (fun k e => by cases e)
      have hltB : w.heap.size < w1.heap.size := (hown.lt w.heap.size rfl).2
      clear hi hown hgr hz0 hz1 hz2 ec
      have hki : ¬ (k : Int) < (n : Int) := by omega
      go_wp2_with fail
      go_loopw [6] (fun i wr => ∃ m : Nat, m ≤ n ∧ i = .int .i64 ((m : Int) - 1) ∧ wr.ownsRow w.heap.size 9 1 (.slice (some ⟨w.heap.size, 0, none⟩) (n + 1) (n + 1)) (n + 1) (rowS (bestR zs m (canonA (zs.drop m)))) ∧ Below w.heap.size w wr) (fun i _ => (intOf i + 1).toNat)
      case atStart => exact ⟨n, Nat.le_refl _, rfl, (by rw [List.drop_eq_nil_of_le (by rw [HNN.out]; exact Nat.le_refl _)]; exact hrow0), hB1⟩
      case round =>
        clear hrow0 hB1 hltB hmk
        obtain ⟨m, hm, rfl, hrow, hB⟩ := hrel
        by_cases hm0 : m = 0
        · subst hm0
          have c0 : wr.cell? ⟨w.heap.size, 0, none⟩ = some (.string (canonA zs)) := by
            rw [hrow.cellAt 0 (by omega)]
            exact rowS_at (bestR_at zs 0 _ (Nat.zero_le _))
          have hnn : (0 : Int) < (n : Int) + 1 := by omega
          clear hrow
          go_wp2_with fail
          go_ret2
          rw [hd2.out]
          exact ⟨rfl, hB⟩
        obtain ⟨k, rfl⟩ : ∃ k, m = k + 1 := ⟨m - 1, by omega⟩
        have hrow0 : Hid (wr.ownsRow w.heap.size 9 1 (.slice (some ⟨w.heap.size, 0, none⟩) (n + 1) (n + 1)) (n + 1) (rowS (bestR zs k ⟨#[]⟩))) := by
          unfold Hid
          rw [← bestR_next zs k _ rfl]; exact hrow
        have hki : ((k + 1 : Nat) : Int) - 1 = (k : Int) := by omega
        rw [hki]
        have hk0 : (0 : Int) ≤ (k : Int) := by omega
        have hkn : k < n := by omega
        have hDL : Hid ((zs.drop k).length = n - k) := by unfold Hid; rw [List.length_drop, HNN.out]
        clear hrow hm0 hki
        go_wp2_with fail
        go_loopw [7] (fun j wr => ∃ (q : Nat) (cur : BA), k + q ≤ n ∧ j = .int .i64 ((k : Int) + (q : Int)) ∧ Hid (Far (zs.drop k) q cur.data.toList) ∧ cur.size ≤ 2600 ∧ wr.ownsRow w.heap.size 9 1 (.slice (some ⟨w.heap.size, 0, none⟩) (n + 1) (n + 1)) (n + 1) (rowS (bestR zs k cur)) ∧ Below w.heap.size w wr) (fun j _ => n - (intOf j).toNat)
        case atStart => exact ⟨0, ⟨#[]⟩, by omega, by simp, .inl ⟨rfl, rfl⟩, by decide, hrow0.out, hB⟩
        case round =>
          clear hrow0 hB
          obtain ⟨q, cur, hq, rfl, HF, hcs, hrow, hB⟩ := hrel
          by_cases hlt : k + q < n
          · have hqi : (k : Int) + (q : Int) < (n : Int) := by omega
            have hWL : Hid (((zs.drop k).take (q + 1)).length = k + q + 1 - k) := by unfold Hid; rw [List.length_take, hDL.out]; omega
            have HWZ : Hid (∀ j : Nat, 0 ≤ ((zs.drop k).take (q + 1))[j]?.getD 0 ∧ ((zs.drop k).take (q + 1))[j]?.getD 0 ≤ 9999) := by
              intro j
              by_cases hj : j < q + 1
              · rw [take_at _ _ _ hj, List.getElem?_drop]; exact HZ.out _
              · rw [List.getElem?_eq_none (by rw [List.length_take]; omega)]; decide
            have HWC : Hid (∀ j : Nat, j < k + q + 1 - k → wr.cell? ⟨b, off + k + j, none⟩ = some (.int .i64 (((zs.drop k).take (q + 1))[j]?.getD 0))) := by
              intro j hj
              rw [take_at _ _ _ (by omega), List.getElem?_drop, Nat.add_assoc]
              exact cell_later hB (HC.out (k + j) (by omega))
            go_wp2_with fail
            refine (texts_any b (off + k) (cap - k) _ (k + q + 1 - k) hWL.out (by omega) (by omega) (by omega) (by omega) HWZ.out _ HWC.out).mono ?_
            rintro e w2 ⟨v, rfl, hone, hB2⟩
            have hrow2 := hrow.kept (grown_of_below hB2) (Classical.em _)
            have hBw := hB.trans (hB2.mono hB.size)
            have hltB : w.heap.size < wr.heap.size := (hrow.lt w.heap.size rfl).2
            clear hrow hB HWC
            cases htx : txO ((zs.drop k).take (q + 1)) with
            | none =>
              rw [htx] at hone
              obtain rfl : v = .slice none 0 0 := hone
              have hfin : cur = canonA (zs.drop k) := by
                have hq1 : 1 ≤ q := by
                  rcases Nat.eq_zero_or_pos q with h0 | h0
                  · subst h0
                    rw [txO_one (by rw [hWL.out]; omega)] at htx; cases htx
                  · exact h0
                exact ba_eq (min_done (by rw [hDL.out]; omega) HF.out hq1 (fun t m hm => tx_stop (by omega) (by rw [hDL.out]; omega) htx hm))
              subst hfin
              clear htx
              go_wp2_with fail
              go_loop [9] (fun i => i = .int .i64 0) (fun _ => 0)
              case atStart => rfl
              case round =>
                obtain rfl := hrel
                go_wp2_with fail
                go_roundw
                case rel => exact ⟨k, by omega, rfl, hrow2, hBw⟩
                case measure => first | (simp [intOf]; done) | (simp [intOf]; omega)
            | some t =>
              rw [htx] at hone
              obtain ⟨g, rfl, hgb, hgc⟩ := hone
              have hts := tx_size HWZ.out (by rw [hWL.out]; omega) htx
              have HTX := Lib.hid htx
              clear htx
              go_wp2_with fail
              go_loopw [9] (fun z wr => ∃ (p : Nat) (new : BA), p ≤ 1 ∧ z = .int .i64 p ∧ Hid (p = 0 → new = cur ∧ wr.cell? ⟨g, 0, none⟩ = some (.string t)) ∧ Hid (p = 1 → Far (zs.drop k) (q + 1) new.data.toList) ∧ new.size ≤ 2600 ∧ wr.ownsRow w.heap.size 9 1 (.slice (some ⟨w.heap.size, 0, none⟩) (n + 1) (n + 1)) (n + 1) (rowS (bestR zs k new)) ∧ Below w.heap.size w wr) (fun z _ => 1 - (intOf z).toNat)
              case atStart => exact ⟨0, cur, by decide, rfl, (fun _ => ⟨rfl, hgc⟩), (fun h => by cases h), hcs, hrow2, hBw⟩
              case round =>
                clear hrow2 hBw hgc
                obtain ⟨p, new, hp, rfl, H0, H1, hns, hrow, hB⟩ := hrel
                by_cases hp0 : p = 0
                · subst hp0
                  obtain ⟨e0, hgc⟩ := H0.out rfl
                  subst e0
                  have ccur : wr.cell? ⟨w.heap.size, k, none⟩ = some (.string new) := by
                    rw [hrow.cellAt k (by omega)]
                    exact rowS_at (bestR_at zs k _ (by rw [HNN.out]; omega))
                  have hkn1 : (k : Int) < (n : Int) + 1 := by omega
                  by_cases hnx : k + q + 1 < n
                  · have hnxi : (k : Int) + (q : Int) + 1 < (n : Int) := by omega
                    obtain ⟨R, hR⟩ : ∃ R, canonA (zs.drop (k + q + 1)) = R := ⟨_, rfl⟩
                    have cR : wr.cell? ⟨w.heap.size, k + q + 1, none⟩ = some (.string R) := by
                      rw [hrow.cellAt (k + q + 1) (by omega), ← hR]
                      exact rowS_at (bestR_up zs k (k + q + 1) _ (by omega) (by rw [HNN.out]; omega))
                    have hRs : R.size ≤ 2500 := by rw [← hR]; exact can_sz (HOK.out.drop _)
                    have q1 : (⟨#[44]⟩ : BA).size = 1 := rfl
                    have HCN : Hid ((t ++ ⟨#[44]⟩ ++ R).data.toList = cnd (canL ((zs.drop k).drop (q + 1))) t.data.toList) := by
                      unfold Hid
                      rw [List.drop_drop, show k + (q + 1) = k + q + 1 by omega]
                      have e1 : canL (zs.drop (k + q + 1)) = R.data.toList := by unfold canL; rw [hR]
                      have e2 : ¬ canL (zs.drop (k + q + 1)) = [] := by rw [can_nil_iff, List.length_drop, HNN.out]; omega
                      unfold cnd
                      rw [if_neg e2, e1]
                      simp
                    clear hR hnx
                    have HST := min_step (by rw [hDL.out]; omega) HF.out HTX.out HCN.out
                    have HS1 := Lib.hid HST.1
                    have HS2 := Lib.hid HST.2
                    clear HST
                    have hCz : (t ++ ⟨#[44]⟩ ++ R).size = t.size + 1 + R.size := by first | rfl | (rw [ByteArray.size_append, ByteArray.size_append, q1])
                    have hCs : (t ++ ⟨#[44]⟩ ++ R).size ≤ 2600 := by omega
                    have HCZ := Lib.hid hCz
                    have hfz : wr.frozen? ⟨w.heap.size, k, none⟩ = false := hrow.frozenAt k
                    clear hCz
                    by_cases hne : new.toList = []
                    · have hne2 : new.toList.isEmpty = true := by rw [hne]; rfl
                      have HCOND : Hid (new.data.toList = [] ∨ bf (t ++ ⟨#[44]⟩ ++ R).data.toList new.data.toList) := .inl (by rw [← Lib.toList_data]; exact hne)
                      go_wp2_with fail
                      all_goals first | (exfalso; omega) | contradiction | skip
                      all_goals
                        go_roundw
                        case rel => exact ⟨1, t ++ ⟨#[44]⟩ ++ R, by decide, rfl, (fun h => by cases h), (fun _ => HS1.out HCOND.out), hCs, (by rw [← bestR_set zs k new (t ++ ⟨#[44]⟩ ++ R), ← rowS_set]; exact (hrow.stored k _).1), hB.setCell (Nat.le_refl _) _⟩
                        case measure => simp [intOf]
                    have hne2 : new.toList.isEmpty = false := by cases hE : new.toList.isEmpty; rfl; exact absurd (List.isEmpty_iff.1 hE) hne
                    have HNE2 : Hid (¬ new.data.toList = []) := by unfold Hid; rw [← Lib.toList_data]; exact hne
                    have HBA : Hid (bf (t ++ ⟨#[44]⟩ ++ R).data.toList new.data.toList ↔ (if (t ++ ⟨#[44]⟩ ++ R).size = new.size then Op.bytesLess (t ++ ⟨#[44]⟩ ++ R).toList new.toList else decide ((t ++ ⟨#[44]⟩ ++ R).size < new.size)) = true) := (beforeA_bf _ _).symm
                    rcases Nat.lt_trichotomy (t.size + 1 + R.size) new.size with hsz | hsz | hsz
                    · have HCOND : Hid (new.data.toList = [] ∨ bf (t ++ ⟨#[44]⟩ ++ R).data.toList new.data.toList) := .inr (by rw [HBA.out, HCZ.out, if_neg (by omega)]; exact decide_eq_true hsz)
                      have hszi : (t.size : Int) + 1 + (R.size : Int) < (new.size : Int) := by omega
                      go_wp2_with fail
                      all_goals first | (exfalso; omega) | contradiction | skip
                      all_goals
                        go_roundw
                        case rel => exact ⟨1, t ++ ⟨#[44]⟩ ++ R, by decide, rfl, (fun h => by cases h), (fun _ => HS1.out HCOND.out), hCs, (by rw [← bestR_set zs k new (t ++ ⟨#[44]⟩ ++ R), ← rowS_set]; exact (hrow.stored k _).1), hB.setCell (Nat.le_refl _) _⟩
                        case measure => simp [intOf]
                    · have hszi : (t.size : Int) + 1 + (R.size : Int) = (new.size : Int) := by omega
                      have hszb : ((t.size : Int) + 1 + (R.size : Int) == (new.size : Int)) = true := by simp [hszi]
                      cases hbl : Op.bytesLess (t ++ ⟨#[44]⟩ ++ R).toList new.toList
                      · have HCOND : Hid (¬ (new.data.toList = [] ∨ bf (t ++ ⟨#[44]⟩ ++ R).data.toList new.data.toList)) := by
                          rintro (h | h)
                          · exact HNE2.out h
                          · rw [HBA.out, HCZ.out, if_pos hsz, hbl] at h; cases h
                        go_wp2_with fail
                        all_goals first | (exfalso; omega) | contradiction | skip
                        all_goals
                          go_roundw
                          case rel => exact ⟨1, new, by decide, rfl, (fun h => by cases h), (fun _ => HS2.out HCOND.out), hns, hrow, hB⟩
                          case measure => simp [intOf]
                      · have HCOND : Hid (new.data.toList = [] ∨ bf (t ++ ⟨#[44]⟩ ++ R).data.toList new.data.toList) := .inr (by rw [HBA.out, HCZ.out, if_pos hsz]; exact hbl)
                        go_wp2_with fail
                        all_goals first | (exfalso; omega) | contradiction | skip
                        all_goals
                          go_roundw
                          case rel => exact ⟨1, t ++ ⟨#[44]⟩ ++ R, by decide, rfl, (fun h => by cases h), (fun _ => HS1.out HCOND.out), hCs, (by rw [← bestR_set zs k new (t ++ ⟨#[44]⟩ ++ R), ← rowS_set]; exact (hrow.stored k _).1), hB.setCell (Nat.le_refl _) _⟩
                          case measure => simp [intOf]
                    · have HCOND : Hid (¬ (new.data.toList = [] ∨ bf (t ++ ⟨#[44]⟩ ++ R).data.toList new.data.toList)) := by
                        rintro (h | h)
                        · exact HNE2.out h
                        · rw [HBA.out, HCZ.out, if_neg (by omega), decide_eq_true_eq] at h; omega
                      have hszi : (new.size : Int) < (t.size : Int) + 1 + (R.size : Int) := by omega
                      have hszb : ((t.size : Int) + 1 + (R.size : Int) == (new.size : Int)) = false := by rw [beq_eq_false_iff_ne]; omega
                      go_wp2_with fail
                      all_goals first | (exfalso; omega) | contradiction | skip
                      all_goals
                        go_roundw
                        case rel => exact ⟨1, new, by decide, rfl, (fun h => by cases h), (fun _ => HS2.out HCOND.out), hns, hrow, hB⟩
                        case measure => simp [intOf]
                  · have hnxi : ¬ (k : Int) + (q : Int) + 1 < (n : Int) := by omega
                    have HCN : Hid (t.data.toList = cnd (canL ((zs.drop k).drop (q + 1))) t.data.toList) := by
                      unfold Hid
                      have e2 : canL ((zs.drop k).drop (q + 1)) = [] := by rw [can_nil_iff, List.length_drop, hDL.out]; omega
                      unfold cnd
                      rw [if_pos e2]
                    clear hnx
                    have HST := min_step (by rw [hDL.out]; omega) HF.out HTX.out HCN.out
                    have HS1 := Lib.hid HST.1
                    have HS2 := Lib.hid HST.2
                    clear HST
                    have hCz : (t).size = t.size := by first | rfl | (rw [ByteArray.size_append, ByteArray.size_append, q1])
                    have hCs : (t).size ≤ 2600 := by omega
                    have HCZ := Lib.hid hCz
                    have hfz : wr.frozen? ⟨w.heap.size, k, none⟩ = false := hrow.frozenAt k
                    clear hCz
                    by_cases hne : new.toList = []
                    · have hne2 : new.toList.isEmpty = true := by rw [hne]; rfl
                      have HCOND : Hid (new.data.toList = [] ∨ bf (t).data.toList new.data.toList) := .inl (by rw [← Lib.toList_data]; exact hne)
                      go_wp2_with fail
                      all_goals first | (exfalso; omega) | contradiction | skip
                      all_goals
                        go_roundw
                        case rel => exact ⟨1, t, by decide, rfl, (fun h => by cases h), (fun _ => HS1.out HCOND.out), hCs, (by rw [← bestR_set zs k new (t), ← rowS_set]; exact (hrow.stored k _).1), hB.setCell (Nat.le_refl _) _⟩
                        case measure => simp [intOf]
                    have hne2 : new.toList.isEmpty = false := by cases hE : new.toList.isEmpty; rfl; exact absurd (List.isEmpty_iff.1 hE) hne
                    have HNE2 : Hid (¬ new.data.toList = []) := by unfold Hid; rw [← Lib.toList_data]; exact hne
                    have HBA : Hid (bf (t).data.toList new.data.toList ↔ (if (t).size = new.size then Op.bytesLess (t).toList new.toList else decide ((t).size < new.size)) = true) := (beforeA_bf _ _).symm
                    rcases Nat.lt_trichotomy (t.size) new.size with hsz | hsz | hsz
                    · have HCOND : Hid (new.data.toList = [] ∨ bf (t).data.toList new.data.toList) := .inr (by rw [HBA.out, HCZ.out, if_neg (by omega)]; exact decide_eq_true hsz)
                      have hszi : (t.size : Int) < (new.size : Int) := by omega
                      go_wp2_with fail
                      all_goals first | (exfalso; omega) | contradiction | skip
                      all_goals
                        go_roundw
                        case rel => exact ⟨1, t, by decide, rfl, (fun h => by cases h), (fun _ => HS1.out HCOND.out), hCs, (by rw [← bestR_set zs k new (t), ← rowS_set]; exact (hrow.stored k _).1), hB.setCell (Nat.le_refl _) _⟩
                        case measure => simp [intOf]
                    · have hszi : (t.size : Int) = (new.size : Int) := by omega
                      have hszb : ((t.size : Int) == (new.size : Int)) = true := by simp [hszi]
                      cases hbl : Op.bytesLess (t).toList new.toList
                      · have HCOND : Hid (¬ (new.data.toList = [] ∨ bf (t).data.toList new.data.toList)) := by
                          rintro (h | h)
                          · exact HNE2.out h
                          · rw [HBA.out, HCZ.out, if_pos hsz, hbl] at h; cases h
                        go_wp2_with fail
                        all_goals first | (exfalso; omega) | contradiction | skip
                        all_goals
                          go_roundw
                          case rel => exact ⟨1, new, by decide, rfl, (fun h => by cases h), (fun _ => HS2.out HCOND.out), hns, hrow, hB⟩
                          case measure => simp [intOf]
                      · have HCOND : Hid (new.data.toList = [] ∨ bf (t).data.toList new.data.toList) := .inr (by rw [HBA.out, HCZ.out, if_pos hsz]; exact hbl)
                        go_wp2_with fail
                        all_goals first | (exfalso; omega) | contradiction | skip
                        all_goals
                          go_roundw
                          case rel => exact ⟨1, t, by decide, rfl, (fun h => by cases h), (fun _ => HS1.out HCOND.out), hCs, (by rw [← bestR_set zs k new (t), ← rowS_set]; exact (hrow.stored k _).1), hB.setCell (Nat.le_refl _) _⟩
                          case measure => simp [intOf]
                    · have HCOND : Hid (¬ (new.data.toList = [] ∨ bf (t).data.toList new.data.toList)) := by
                        rintro (h | h)
                        · exact HNE2.out h
                        · rw [HBA.out, HCZ.out, if_neg (by omega), decide_eq_true_eq] at h; omega
                      have hszi : (new.size : Int) < (t.size : Int) := by omega
                      have hszb : ((t.size : Int) == (new.size : Int)) = false := by rw [beq_eq_false_iff_ne]; omega
                      go_wp2_with fail
                      all_goals first | (exfalso; omega) | contradiction | skip
                      all_goals
                        go_roundw
                        case rel => exact ⟨1, new, by decide, rfl, (fun h => by cases h), (fun _ => HS2.out HCOND.out), hns, hrow, hB⟩
                        case measure => simp [intOf]
                · obtain rfl : p = 1 := by omega
                  have HF1 := Lib.hid (H1.out rfl)
                  clear hp0 H0 H1
                  go_wp2_with fail
                  go_roundw
                  case rel => exact ⟨q + 1, new, by omega, by go_num, HF1.out, hns, hrow, hB⟩
                  case measure => first | (simp [intOf]; done) | (simp [intOf]; omega)
          · have hqi : ¬ (k : Int) + (q : Int) < (n : Int) := by omega
            have hfin : cur = canonA (zs.drop k) := ba_eq (min_done (by rw [hDL.out]; omega) HF.out (by omega) (fun t m hm hi => by have := (items_bounds hi (by rw [hDL.out]; omega)).2; rw [hDL.out] at this; omega))
            subst hfin
            go_wp2_with fail
            go_roundw
            case rel => exact ⟨k, by omega, rfl, hrow, hB⟩
            case measure => first | (simp [intOf]; done) | (simp [intOf]; omega)
end Go.Proofs.YtdcgfbebeiheiaaGreatDoor
