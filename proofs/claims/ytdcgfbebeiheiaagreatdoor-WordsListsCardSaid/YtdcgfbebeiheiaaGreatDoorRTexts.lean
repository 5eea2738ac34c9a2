/- The other way to write a list: the texts of a window. -/
import Derived.Test.YtdcgfbebeiheiaaGreatDoorRParse
namespace Go.Proofs.YtdcgfbebeiheiaaGreatDoor
open Go.RowKit

def upsP (zs : List Int) : Prop := ∀ m, m < zs.length → zs[m]?.getD 0 = zs[0]?.getD 0 + m
def repsP (zs : List Int) : Prop := ∀ m, m < zs.length → zs[m]?.getD 0 = zs[0]?.getD 0
open Classical in
/-- The text that stands for the whole of a list, if one does. -/
noncomputable def txO (zs : List Int) : Option BA :=
  if zs.length = 1 then some (numS (zs[0]?.getD 0)) else if upsP zs then some (upT (zs[0]?.getD 0) (zs[zs.length - 1]?.getD 0)) else if repsP zs then some (repT (zs[0]?.getD 0) zs.length) else none
/-- A slice of no text or one. -/
def OneAt (base : Nat) (W : World) (v : Value) : Option BA → Prop
  | none => v = .slice none 0 0
  | some t => ∃ g, v = .slice (some ⟨g, 0, none⟩) 1 1 ∧ base ≤ g ∧ W.cell? ⟨g, 0, none⟩ = some (.string t)
theorem digS_any (z : Int) (h0 : -9223372036854775808 ≤ z) (h1 : z ≤ 9223372036854775807) (B0 : Nat) (w0 W : World) (hb : Below B0 w0 W) (hle : B0 ≤ W.heap.size) (b o1 o2 : Nat) (u v : Value) (h : W.cell? ⟨b, o1, none⟩ = some u ∧ W.cell? ⟨b, o2, none⟩ = some v) :
    Calls Tryz.prog 28 #[.int .i64 z] W fun e w' => e = .returned (.string (numS z)) ∧ (w'.cell? ⟨b, o1, none⟩ = some u ∧ w'.cell? ⟨b, o2, none⟩ = some v) ∧ Below B0 w0 w' ∧ B0 ≤ w'.heap.size :=
  (refDigits_any z W h0 h1).mono fun _ _ ⟨e, h2⟩ => ⟨by rw [e]; rfl, ⟨cell_later h2 h.1, cell_later h2 h.2⟩, hb.trans (h2.mono hle), Nat.le_trans hle h2.size⟩
theorem txO_one {zs : List Int} (h : zs.length = 1) : txO zs = some (numS (zs[0]?.getD 0)) := by unfold txO; rw [if_pos h]
theorem txO_ups {zs : List Int} (h : zs.length ≠ 1) (hu : upsP zs) : txO zs = some (upT (zs[0]?.getD 0) (zs[zs.length - 1]?.getD 0)) := by unfold txO; rw [if_neg h, if_pos hu]
theorem txO_reps {zs : List Int} (h : zs.length ≠ 1) (hu : ¬ upsP zs) (hr : repsP zs) : txO zs = some (repT (zs[0]?.getD 0) zs.length) := by unfold txO; rw [if_neg h, if_neg hu, if_pos hr]
theorem txO_none {zs : List Int} (h : zs.length ≠ 1) (hu : ¬ upsP zs) (hr : ¬ repsP zs) : txO zs = none := by unfold txO; rw [if_neg h, if_neg hu, if_neg hr]

set_option maxRecDepth 100000 in
set_option maxHeartbeats 4000000 in
theorem texts_any (b off cap : Nat) (zs : List Int) (n : Nat) (hn : zs.length = n) (h1 : 1 ≤ n) (h5 : n ≤ 500) (hcap : n ≤ cap) (hcap2 : cap ≤ maxLen) (hz : ∀ j : Nat, 0 ≤ zs[j]?.getD 0 ∧ zs[j]?.getD 0 ≤ 9999) (w : World)
    (hc : ∀ j : Nat, j < n → w.cell? ⟨b, off + j, none⟩ = some (.int .i64 (zs[j]?.getD 0))) :
    Calls Tryz.prog 23 #[.slice (some ⟨b, off, none⟩) n cap] w fun e w' => ∃ v, e = .returned v ∧ OneAt w.heap.size w' v (txO zs) ∧ Below w.heap.size w w' := by
  have HC := Lib.hid hc
  have HZ := Lib.hid hz
  have c0 := hc 0 (by omega)
  have c1 := hc (n - 1) (by omega)
  have z0b := hz 0
  have z1b := hz (n - 1)
  clear hc hz
  obtain ⟨z0, hz0⟩ : ∃ x, zs[0]?.getD 0 = x := ⟨_, rfl⟩
  obtain ⟨z1, hz1⟩ : ∃ x, zs[n - 1]?.getD 0 = x := ⟨_, rfl⟩
  rw [hz0] at c0 z0b
  rw [hz1] at c1 z1b
  rw [Nat.add_zero] at c0
  have HZ0 := Lib.hid hz0
  have HZ1 := Lib.hid hz1
  have HNN := Lib.hid hn
  have hcm : n ≤ 9223372036854775807 := by omega
  have hi3 : ((n : Int) - 1).toNat = n - 1 := by omega
  have hi2 : (n : Int) - 1 < (n : Int) := by omega
  have hi1 : (0 : Int) ≤ (n : Int) - 1 := by omega
  have hw1 : IntKind.i64.wrap ((n : Int) - 1) = (n : Int) - 1 := IntWalk.i64_in _ (by omega)
  have hni : (1 : Int) ≤ (n : Int) := by omega
  have hpi : (0 : Int) < (n : Int) := by omega
  have hpn : 0 < n := h1
  have hb1 : -9223372036854775808 ≤ z0 := by omega
  have hb2 : z0 ≤ 9223372036854775807 := by omega
  have hb3 : -9223372036854775808 ≤ z1 := by omega
  have hb4 : z1 ≤ 9223372036854775807 := by omega
  clear hz0 hz1 hn
  have hB : Below w.heap.size w w := Below.refl _ _
  have hle : w.heap.size ≤ w.heap.size := Nat.le_refl _
  have hs0 := numS_size z0 hb1 hb2
  have hs1 := numS_size z1 hb3 hb4
  go_enter Tryz.func23, Tryz.ntmps23
  go_wp2_with fail
  first | go_region_held3 (fun w' => w'.cell? ⟨b, off, none⟩ = some (.int .i64 z0) ∧ w'.cell? ⟨b, off + (n - 1), none⟩ = some (.int .i64 z1)) (go_keep) (first | (go_at_call 28; refine (digS_any _ (by omega) (by omega) w.heap.size w _ (by first | exact hB | exact hB.drew) (by exact hle) b off (off + (n - 1)) (.int .i64 z0) (.int .i64 z1) (by exact ⟨c0, c1⟩)).mono ?_; rintro e w2 ⟨rfl, ⟨c0, c1⟩, hB, hle⟩)) | fail
  obtain ⟨X0, HX0⟩ : ∃ x, Hid (numS z0 = x) := ⟨_, rfl⟩
  obtain ⟨X1, HX1⟩ : ∃ x, Hid (numS z1 = x) := ⟨_, rfl⟩
  rw [HX0.out, HX1.out]
  rw [HX0.out] at hs0
  rw [HX1.out] at hs1
  by_cases hn1 : n = 1
  · have hT : Hid (txO zs = some X0) := by unfold Hid; rw [txO_one (by rw [HNN.out]; exact hn1), HZ0.out, HX0.out]
    have hq : ((n : Int) == 1) = true := by simp [hn1]
    clear hn1
    go_wp2_with fail
    go_ret
    rw [hT.out]
    exact ⟨_, rfl, ⟨_, rfl, hle, by simp⟩, hB.alloc hle _⟩
  have hq : ((n : Int) == 1) = false := by rw [beq_eq_false_iff_ne]; omega
  have HN1 : Hid (zs.length ≠ 1) := by unfold Hid; rw [HNN.out]; exact hn1
  clear hn1
  go_wp2_with fail
  go_loopw [5, 6, 7] (fun u r i wr => ∃ (k : Nat) (bu br : Bool), 1 ≤ k ∧ k ≤ n ∧ i = .int .i64 k ∧ u = .bool bu ∧ r = .bool br ∧ Hid (bu = true ↔ ∀ m, m < k → zs[m]?.getD 0 = z0 + m) ∧ Hid (br = true ↔ ∀ m, m < k → zs[m]?.getD 0 = z0) ∧ wr.cell? ⟨b, off, none⟩ = some (.int .i64 z0) ∧ Below w.heap.size w wr ∧ w.heap.size ≤ wr.heap.size) (fun _ _ i _ => n - (intOf i).toNat)
  case atStart => exact ⟨1, true, true, Nat.le_refl _, h1, rfl, rfl, rfl, (by
      unfold Hid; refine ⟨fun _ m hm => ?_, fun _ => rfl⟩
      obtain rfl : m = 0 := by omega
      rw [HZ0.out]; simp), (by
      unfold Hid; refine ⟨fun _ m hm => ?_, fun _ => rfl⟩
      obtain rfl : m = 0 := by omega
      rw [HZ0.out]), c0, hB, hle⟩
  case round =>
    clear c0 c1 hB hle
    obtain ⟨k, bu, br, hk1, hk, rfl, rfl, rfl, HU, HR, c0, hB, hle⟩ := hrel
    by_cases hlt : k < n
    · have hki : (k : Int) < (n : Int) := by omega
      have ck := cell_later hB (HC.out k hlt)
      have zkb := HZ.out k
      obtain ⟨zk, hzk⟩ : ∃ x, zs[k]?.getD 0 = x := ⟨_, rfl⟩
      rw [hzk] at ck zkb
      have HZK := Lib.hid hzk
      have hwk : IntKind.i64.wrap (z0 + (k : Int)) = z0 + (k : Int) := IntWalk.i64_in _ (by omega)
      have HU2 : Hid ((bu && (zk == z0 + (k : Int))) = true ↔ ∀ m, m < k + 1 → zs[m]?.getD 0 = z0 + m) := by
        unfold Hid
        rw [Bool.and_eq_true, HU.out, beq_iff_eq]
        constructor
        · rintro ⟨h, e⟩ m hm
          by_cases hmk : m = k
          · subst hmk; rw [HZK.out, e]
          · exact h m (by omega)
        · intro h
          exact ⟨fun m hm => h m (by omega), by rw [← HZK.out]; exact h k (by omega)⟩
      have HR2 : Hid ((br && (zk == z0)) = true ↔ ∀ m, m < k + 1 → zs[m]?.getD 0 = z0) := by
        unfold Hid
        rw [Bool.and_eq_true, HR.out, beq_iff_eq]
        constructor
        · rintro ⟨h, e⟩ m hm
          by_cases hmk : m = k
          · subst hmk; rw [HZK.out, e]
          · exact h m (by omega)
        · intro h
          exact ⟨fun m hm => h m (by omega), by rw [← HZK.out]; exact h k (by omega)⟩
      clear hzk
      cases bu <;> cases br
      all_goals
        go_wp2_with fail
        go_quiet (fail)
        go_wp2_with fail
        go_quiet (fail)
        go_wp2
        go_roundw
        case rel => exact ⟨k + 1, _, _, by omega, by omega, by go_num, rfl, rfl, HU2, HR2, c0, (by first | exact below_drewN hB _ | go_grown), hle⟩
        case measure => simp [intOf]; omega
    · have hkn : k = n := by omega
      have hki : ¬ (k : Int) < (n : Int) := by omega
      have HU3 : Hid (bu = true ↔ upsP zs) := by
        unfold Hid upsP; rw [HU.out, hkn, HNN.out, HZ0.out]
      have HR3 : Hid (br = true ↔ repsP zs) := by
        unfold Hid repsP; rw [HR.out, hkn, HNN.out, HZ0.out]
      clear HU HR hkn
      cases bu
      case true =>
        have hT : Hid (txO zs = some (X0 ++ ⟨#[45]⟩ ++ X1)) := by
          unfold Hid
          rw [txO_ups HN1.out (HU3.out.1 rfl), HZ0.out, HNN.out, HZ1.out]
          unfold upT
          rw [HX0.out, HX1.out]
        have q1 : (⟨#[45]⟩ : BA).size = 1 := rfl
        go_wp2_with fail
        go_ret
        rw [hT.out]
        exact ⟨_, rfl, ⟨_, rfl, hle, by simp⟩, hB.alloc hle _⟩
      case false =>
        have hnu : Hid (¬ upsP zs) := fun h => by have := HU3.out.2 h; cases this
        cases br
        case true =>
          have hT : Hid (txO zs = some (numS n ++ ⟨#[120]⟩ ++ X0)) := by
            unfold Hid
            rw [txO_reps HN1.out hnu.out (HR3.out.1 rfl), HZ0.out, HNN.out]
            unfold repT
            rw [HX0.out]
          have q1 : (⟨#[120]⟩ : BA).size = 1 := rfl
          have hsn := numS_size (n : Int) (by omega) (by omega)
          go_wp2_with fail
          refine (digS_any _ (by omega) (by omega) w.heap.size w _ hB hle b off off (.int .i64 z0) (.int .i64 z0) ⟨c0, c0⟩).mono ?_
          rintro e w3 ⟨rfl, _, hB, hle⟩
          obtain ⟨Y, HY⟩ : ∃ x, Hid (numS (n : Int) = x) := ⟨_, rfl⟩
          rw [HY.out] at hsn ⊢
          rw [HY.out] at hT
          go_wp2_with fail
          go_ret
          rw [hT.out]
          exact ⟨_, rfl, ⟨_, rfl, hle, by simp⟩, hB.alloc hle _⟩
        case false =>
          have hT : Hid (txO zs = none) := txO_none HN1.out hnu.out (fun h => by have := HR3.out.2 h; cases this)
          go_wp2_with fail
          go_ret
          rw [hT.out]
          exact ⟨_, rfl, rfl, hB⟩
end Go.Proofs.YtdcgfbebeiheiaaGreatDoor
