/- The items of every text of at most 2500 bytes keep their bounds. -/
import Derived.Test.YtdcgfbebeiheiaaGreatDoorParseL
import Derived.Test.YtdcgfbebeiheiaaGreatDoorNumM
namespace Go.Proofs.YtdcgfbebeiheiaaGreatDoor
open Go.RowKit

theorem valF_lo : ∀ (l : List UInt8) (a : Nat), a * 10 ^ l.length ≤ valF a l
  | [], a => by simp [valF]
  | c :: l, a => by
    rw [valF_cons]
    refine Nat.le_trans ?_ (valF_lo l _)
    rw [List.length_cons, Nat.pow_succ, Nat.mul_comm (10 ^ l.length) 10, ← Nat.mul_assoc]
    exact Nat.mul_le_mul_right _ (by omega)
theorem valF_hi : ∀ (l : List UInt8) (a : Nat), l.all dgB = true → valF a l + 1 ≤ (a + 1) * 10 ^ l.length
  | [], a, _ => by simp [valF]
  | c :: l, a, h => by
    rw [List.all_cons, Bool.and_eq_true] at h
    have hb := dgB_nat c h.1
    rw [valF_cons]
    refine Nat.le_trans (valF_hi l _ h.2) ?_
    rw [List.length_cons, Nat.pow_succ, Nat.mul_comm (10 ^ l.length) 10, ← Nat.mul_assoc]
    exact Nat.mul_le_mul_right _ (by omega)

theorem nDigits_mono : ∀ (n a b : Nat), a ≤ n → b ≤ a → Lib.nDigits b ≤ Lib.nDigits a := by
  intro n
  induction n with
  | zero => intro a b ha hb; obtain rfl : a = b := by omega
            exact Nat.le_refl _
  | succ n ih =>
    intro a b ha hb
    by_cases hb1 : b < 10
    · rw [Lib.nDigits_small hb1]; exact Lib.nDigits_pos a
    · rw [Lib.nDigits_big hb1, Lib.nDigits_big (by omega : ¬ a < 10)]
      have := ih (a / 10) (b / 10) (by omega) (by omega)
      omega

theorem natV_len {a b : List UInt8} (ha : natB a = true) (hb : natB b = true) (h : a.length < b.length) : natV a ≤ natV b := by
  rcases Nat.lt_or_ge (natV b) (natV a) with hx | hx
  · have h1 := nDigits_mono _ _ _ (Nat.le_refl _) (Nat.le_of_lt hx)
    have e1 := congrArg List.length (digs_natV _ a (Nat.le_refl _) ha)
    have e2 := congrArg List.length (digs_natV _ b (Nat.le_refl _) hb)
    rw [Lib.decDigits_length] at e1 e2
    omega
  · exact hx

theorem clampB_nat (l : List UInt8) (h : natB l = true) : clampB l = if natV l ≤ 9999 then (natV l : Int) else 10000 := by
  have hd : Lib.hasPrefix l [45] = false := by
    obtain ⟨j1, _, j3⟩ := (natB_iff l).1 h
    cases l with
    | nil => exact absurd rfl j1
    | cons a b =>
      rw [List.all_cons, Bool.and_eq_true] at j3
      have := dgB_nat a j3.1
      cases hb : Lib.hasPrefix (a :: b) [45] with
      | false => rfl
      | true =>
        simp [Lib.hasPrefix, List.isPrefixOf] at hb
        rw [← hb] at this
        exact absurd this.1 (by decide)
  have hn : numV l = (natV l : Int) := by unfold numV; rw [hd]; rfl
  have hdec : decB l = true := by unfold decB; rw [hd]; exact h
  rcases clampB_cases l with ⟨e, _⟩ | ⟨_, h2, e⟩ | ⟨_, h2, h3, e⟩
  · rw [hdec] at e; cases e
  · rw [e, if_neg (by rw [hn] at h2; omega)]
  · rw [e, hn, if_pos (by rw [hn] at h3; omega)]

theorem less_val : ∀ (a b : List UInt8) (u v : Nat), a.length = b.length → a.all dgB = true → b.all dgB = true → Op.bytesLess a b = true → u ≤ v → valF u a ≤ valF v b
  | a, [], u, v, hl, _, _, h, _ => by cases a with | nil => simp [Op.bytesLess] at h | cons x y => simp at hl
  | [], y :: b, u, v, hl, _, _, _, _ => by simp at hl
  | x :: a, y :: b, u, v, hl, ha, hb, h, huv => by
    rw [List.all_cons, Bool.and_eq_true] at ha hb
    have dx := dgB_nat x ha.1
    have dy := dgB_nat y hb.1
    simp only [List.length_cons, Nat.add_right_cancel_iff] at hl
    unfold Op.bytesLess at h
    rw [Bool.or_eq_true, Bool.and_eq_true] at h
    rw [valF_cons, valF_cons]
    rcases h with h | ⟨h1, h2⟩
    · have hlt : x.toNat < y.toNat := by simpa [UInt8.lt_iff_toNat_lt] using h
      have h3 := valF_hi a (u * 10 + (x.toNat - 48)) ha.2
      have h4 := valF_lo b (v * 10 + (y.toNat - 48))
      rw [← hl] at h4
      have h5 : (u * 10 + (x.toNat - 48) + 1) * 10 ^ a.length ≤ (v * 10 + (y.toNat - 48)) * 10 ^ a.length := Nat.mul_le_mul_right _ (by omega)
      omega
    · have e : x = y := eq_of_beq h1
      subst e
      exact less_val a b _ _ hl ha.2 hb.2 h2 (by omega)

theorem clampB_mono {a b : List UInt8} (ha : natB a = true) (hb : natB b = true) (h : beforeB a b = true) : clampB a ≤ clampB b := by
  have hv : natV a ≤ natV b := by
    unfold beforeB at h
    by_cases hl : a.length = b.length
    · rw [if_pos hl] at h
      exact less_val a b 0 0 hl ((natB_iff a).1 ha).2.2 ((natB_iff b).1 hb).2.2 h (Nat.le_refl _)
    · rw [if_neg hl, decide_eq_true_eq] at h
      exact natV_len ha hb h
  rw [clampB_nat a ha, clampB_nat b hb]
  split <;> split <;> omega

theorem item_bd (x : BA) (h : okI x = true) : 0 ≤ (itemOf x).1 ∧ (itemOf x).1 ≤ 10000 ∧ 1 ≤ (itemOf x).2.1 ∧ (itemOf x).2.1 ≤ 10001 ∧ 0 ≤ (itemOf x).2.2 ∧ (itemOf x).2.2 ≤ 1 := by
  unfold okI at h
  unfold itemOf
  unfold piB at h ⊢
  split at h
  · rename_i hx
    rw [if_pos hx]
    simp only [Bool.and_eq_true, decide_eq_true_eq] at h ⊢
    have c1 := clampB_bd (Lib.cut x.data.toList [120]).2.1
    have c2 := clampB_bd (Lib.cut x.data.toList [120]).1
    omega
  · rename_i hx
    rw [if_neg hx]
    split at h
    · rename_i hy
      rw [if_pos hy]
      simp only [Bool.and_eq_true] at h ⊢
      have c1 := clampB_bd (Lib.cut x.data.toList [45]).1
      have c2 := clampB_bd (Lib.cut x.data.toList [45]).2.1
      have c3 := clampB_mono h.1.1 h.1.2 h.2
      omega
    · rename_i hy
      rw [if_neg hy]
      have c1 := clampB_bd x.data.toList
      simp only
      omega

theorem spl_len : ∀ (f : Nat) (r : BA), (spl f r).length ≤ f
  | 0, _ => Nat.le_refl _
  | f + 1, r => by
    unfold spl
    split
    · simp
    · rw [List.length_cons]
      have := spl_len f (r.extract ((Lib.indexByte r.data.toList 44).toNat + 1) r.size)
      omega

/-- The items of a text of at most 2500 bytes keep their bounds. -/
theorem bdI_any (s : BA) (hs : s.size ≤ 2500) : BdI (itemsB s).1 := by
  unfold itemsB
  split
  · exact ⟨by simp, fun i hi => by cases hi⟩
  · split
    · rename_i hall
      refine ⟨?_, fun i hi => ?_⟩
      · rw [List.length_map]
        have := spl_len (s.size + 1) s
        unfold splL
        omega
      · obtain ⟨x, hx, rfl⟩ := List.mem_map.1 hi
        exact item_bd x (List.all_eq_true.1 hall x hx)
    · exact ⟨by simp, fun i hi => by cases hi⟩
end Go.Proofs.YtdcgfbebeiheiaaGreatDoor
