/- The other way to lists: the walk that reads one item. -/
import Derived.Test.YtdcgfbebeiheiaaGreatDoorRRead
namespace Go.Proofs.YtdcgfbebeiheiaaGreatDoor
open Go.RowKit

theorem number_is (s : ByteArray) (w : World) (hs : s.size ≤ maxLen) (b : Bool) (hb : natB s.data.toList = b) :
    Calls Tryz.prog 51 #[.string s] w fun e w' => e = .returned (.bool b) ∧ w = w' := by
  rw [← hb]; exact number_any s w hs
theorem rless_is (a b : ByteArray) (w : World) (c : Bool) (hb : beforeB a.data.toList b.data.toList = c) :
    Calls Tryz.prog 27 #[.string a, .string b] w fun e w' => e = .returned (.bool c) ∧ w = w' := by
  rw [← hb]; exact rless_any a b w
def noDX (l : List UInt8) : Bool := l.all fun c => !(c == 45) && !(c == 120)
theorem noDX_iff (l : List UInt8) : noDX l = true ↔ 45 ∉ l ∧ 120 ∉ l := by
  unfold noDX
  rw [List.all_eq_true]
  constructor
  · intro h
    exact ⟨fun h1 => by simpa using h _ h1, fun h1 => by simpa using h _ h1⟩
  · intro ⟨h1, h2⟩ c hc
    have e1 : ¬ c = 45 := fun e => h1 (e ▸ hc)
    have e2 : ¬ c = 120 := fun e => h2 (e ▸ hc)
    simp [e1, e2]

set_option maxRecDepth 100000 in
set_option maxHeartbeats 4000000 in
theorem read_any (s : ByteArray) (w : World) (hs : s.size ≤ 1000000) :
    Calls Tryz.prog 26 #[.string s] w fun e w' => ∃ (n m t : BA) (ok : Bool), e = .returned (.tuple #[.agg #[.string n, .string m, .string t], .bool ok]) ∧ RD s.data.toList n.data.toList m.data.toList t.data.toList ok ∧ Below w.heap.size w w' := by
  have hsm : s.size ≤ maxLen := by unfold maxLen; omega
  have HSL := Lib.hid (Lib.size_eq s)
  go_enter Tryz.func26, Tryz.ntmps26
  go_wp2_with fail
  have hB0 : Below w.heap.size w (w.alloc (.cells #[.string ⟨#[]⟩, .string ⟨#[]⟩, .string ⟨#[]⟩] 60)) := (Below.refl _ _).alloc (Nat.le_refl _) _
  obtain ⟨q0, q1, q2⟩ := cell_new3 w (.string ⟨#[]⟩) (.string ⟨#[]⟩) (.string ⟨#[]⟩) 60
  have c0 := q0
  have f0 : (w.alloc (.cells #[.string ⟨#[]⟩, .string ⟨#[]⟩, .string ⟨#[]⟩] 60)).frozen? ⟨w.heap.size, 0, none⟩ = false := by simp
  have f1 : (w.alloc (.cells #[.string ⟨#[]⟩, .string ⟨#[]⟩, .string ⟨#[]⟩] 60)).frozen? ⟨w.heap.size, 1, none⟩ = false := by simp
  have f2 : (w.alloc (.cells #[.string ⟨#[]⟩, .string ⟨#[]⟩, .string ⟨#[]⟩] 60)).frozen? ⟨w.heap.size, 2, none⟩ = false := by simp
  have hlt0 : w.heap.size < (w.alloc (.cells #[.string ⟨#[]⟩, .string ⟨#[]⟩, .string ⟨#[]⟩] 60)).heap.size := by simp
  clear c0
  obtain ⟨W0, hW0⟩ : ∃ x, w.alloc (.cells #[.string ⟨#[]⟩, .string ⟨#[]⟩, .string ⟨#[]⟩] 60) = x := ⟨_, rfl⟩
  rw [hW0] at hB0 q0 q1 q2 f0 f1 f2 hlt0 ⊢
  clear hW0
  go_loopw [4] (fun i wr => ∃ k : Nat, k ≤ s.size ∧ i = .int .i64 k ∧ Hid (noDX (s.data.toList.take k) = true) ∧ (wr.cell? ⟨w.heap.size, 0, none⟩ = some (.string ⟨#[]⟩) ∧ wr.cell? ⟨w.heap.size, 1, none⟩ = some (.string ⟨#[]⟩) ∧ wr.cell? ⟨w.heap.size, 2, none⟩ = some (.string ⟨#[]⟩)) ∧ (wr.frozen? ⟨w.heap.size, 0, none⟩ = false ∧ wr.frozen? ⟨w.heap.size, 1, none⟩ = false ∧ wr.frozen? ⟨w.heap.size, 2, none⟩ = false) ∧ w.heap.size < wr.heap.size ∧ Below w.heap.size w wr) (fun i _ => s.size - (intOf i).toNat)
  case atStart => exact ⟨0, Nat.zero_le _, rfl, rfl, ⟨q0, q1, q2⟩, ⟨f0, f1, f2⟩, hlt0, hB0⟩
  case round =>
    clear q0 q1 q2 f0 f1 f2 hlt0 hB0
    obtain ⟨k, hk, rfl, HP, ⟨q0, q1, q2⟩, ⟨f0, f1, f2⟩, hlt0, hB0⟩ := hrel
    by_cases hlt : k < s.size
    · have HD := Lib.hid (drop_get s k hlt)
      have HT := Lib.hid (take_step s k hlt)
      have eA : Hid ((s.extract 0 k).data.toList = s.data.toList.take k) := by unfold Hid; rw [Lib.extract_data]; simp
      have eB : Hid ((s.extract (k + 1) s.size).data.toList = s.data.toList.drop (k + 1)) := by
        unfold Hid; rw [Lib.extract_data, List.take_of_length_le (by rw [List.length_drop, ← Lib.size_eq]; exact Nat.le_refl _)]
      have hAm : (s.extract 0 k).size ≤ maxLen := by rw [Lib.size_eq, eA.out, List.length_take, ← Lib.size_eq]; omega
      have hBm : (s.extract (k + 1) s.size).size ≤ maxLen := by rw [Lib.size_eq, eB.out, List.length_drop, ← Lib.size_eq]; omega
      have hi1 : (k : Int) < (s.size : Int) := by omega
      go_wp2_with fail
      go_quiet (fail)
      have q0 : (wr.drewN nq).cell? ⟨w.heap.size, 0, none⟩ = some (.string ⟨#[]⟩) := by simpa using q0
      have q1 : (wr.drewN nq).cell? ⟨w.heap.size, 1, none⟩ = some (.string ⟨#[]⟩) := by simpa using q1
      have q2 : (wr.drewN nq).cell? ⟨w.heap.size, 2, none⟩ = some (.string ⟨#[]⟩) := by simpa using q2
      have f0 : (wr.drewN nq).frozen? ⟨w.heap.size, 0, none⟩ = false := by simpa using f0
      have f1 : (wr.drewN nq).frozen? ⟨w.heap.size, 1, none⟩ = false := by simpa using f1
      have f2 : (wr.drewN nq).frozen? ⟨w.heap.size, 2, none⟩ = false := by simpa using f2
      have hB0 : Below w.heap.size w (wr.drewN nq) := below_drewN hB0 nq
      have hlt0 : w.heap.size < (wr.drewN nq).heap.size := by simpa using hlt0
      obtain ⟨V, hV⟩ : ∃ x, wr.drewN nq = x := ⟨_, rfl⟩
      rw [hV] at q0 q1 q2 f0 f1 f2 hB0 hlt0 ⊢
      clear hV
      by_cases h45 : (s[k].toNat : Int) = 45
      · have hb1 : ((s[k].toNat : Int) == 45) = true := by simp [h45]
        have HC : Hid (s[k] = 45) := UInt8.toNat_inj.1 (by have : ((45 : UInt8).toNat : Int) = 45 := rfl; omega)
        have HRD : Hid (∀ ok, ok = (natB (s.extract 0 k).data.toList && natB (s.extract (k + 1) s.size).data.toList && beforeB (s.extract 0 k).data.toList (s.extract (k + 1) s.size).data.toList) → RD s.data.toList (s.extract 0 k).data.toList (s.extract (k + 1) s.size).data.toList [49] ok) := by
          intro ok h
          obtain ⟨n1, n2⟩ := (noDX_iff _).1 HP.out
          refine .inl ⟨_, _, ?_, by rw [eA.out]; exact n1, by rw [eA.out]; exact n2, rfl, rfl, rfl, h⟩
          rw [eA.out, eB.out, ← HC.out, ← HD.out, List.take_append_drop]
        cases nA : natB (s.extract 0 k).data.toList
        case false =>
          go_wp2_with (first | (go_at_call 51; refine (number_is _ _ (by assumption) _ (by first | exact nA | exact nB)).mono ?_; rintro e w' ⟨rfl, rfl⟩) | (go_at_call 27; refine (rless_is _ _ _ _ nL).mono ?_; rintro e w' ⟨rfl, rfl⟩))
          all_goals first | (exfalso; omega) | skip
          refine bodyPost_ret (v := .tuple #[.agg #[.string (s.extract 0 k), .string (s.extract (k + 1) s.size), .string ((⟨#[49]⟩ : BA))], .bool false]) (by simp [results, Tryz.results26, go_sem, q0, q1, q2, f0, f1, f2]) rfl ⟨s.extract 0 k, s.extract (k + 1) s.size, (⟨#[49]⟩ : BA), false, rfl, ?_, ?_⟩
          · exact HRD.out false (by rw [nA]; rfl)
          · exact ((hB0.setCell (Nat.le_refl _) _).setCell (Nat.le_refl _) _).setCell (Nat.le_refl _) _
        cases nB : natB (s.extract (k + 1) s.size).data.toList
        case false =>
          go_wp2_with (first | (go_at_call 51; refine (number_is _ _ (by assumption) _ (by first | exact nA | exact nB)).mono ?_; rintro e w' ⟨rfl, rfl⟩) | (go_at_call 27; refine (rless_is _ _ _ _ nL).mono ?_; rintro e w' ⟨rfl, rfl⟩))
          all_goals first | (exfalso; omega) | skip
          refine bodyPost_ret (v := .tuple #[.agg #[.string (s.extract 0 k), .string (s.extract (k + 1) s.size), .string ((⟨#[49]⟩ : BA))], .bool false]) (by simp [results, Tryz.results26, go_sem, q0, q1, q2, f0, f1, f2]) rfl ⟨s.extract 0 k, s.extract (k + 1) s.size, (⟨#[49]⟩ : BA), false, rfl, ?_, ?_⟩
          · exact HRD.out false (by rw [nA, nB]; rfl)
          · exact ((hB0.setCell (Nat.le_refl _) _).setCell (Nat.le_refl _) _).setCell (Nat.le_refl _) _
        case true =>
          obtain ⟨bL, nL⟩ : ∃ b, beforeB (s.extract 0 k).data.toList (s.extract (k + 1) s.size).data.toList = b := ⟨_, rfl⟩
          go_wp2_with (first | (go_at_call 51; refine (number_is _ _ (by assumption) _ (by first | exact nA | exact nB)).mono ?_; rintro e w' ⟨rfl, rfl⟩) | (go_at_call 27; refine (rless_is _ _ _ _ nL).mono ?_; rintro e w' ⟨rfl, rfl⟩))
          all_goals first | (exfalso; omega) | skip
          refine bodyPost_ret (v := .tuple #[.agg #[.string (s.extract 0 k), .string (s.extract (k + 1) s.size), .string ((⟨#[49]⟩ : BA))], .bool bL]) (by simp [results, Tryz.results26, go_sem, q0, q1, q2, f0, f1, f2]) rfl ⟨s.extract 0 k, s.extract (k + 1) s.size, (⟨#[49]⟩ : BA), bL, rfl, ?_, ?_⟩
          · exact HRD.out bL (by rw [nA, nB, nL]; rfl)
          · exact ((hB0.setCell (Nat.le_refl _) _).setCell (Nat.le_refl _) _).setCell (Nat.le_refl _) _
      · have hb1 : ((s[k].toNat : Int) == 45) = false := by simp [h45]
        by_cases h120 : (s[k].toNat : Int) = 120
        · have hb2 : ((s[k].toNat : Int) == 120) = true := by simp [h120]
          have HC : Hid (s[k] = 120) := UInt8.toNat_inj.1 (by have : ((120 : UInt8).toNat : Int) = 120 := rfl; omega)
          have HRD : Hid (∀ ok, ok = (natB (s.extract 0 k).data.toList && natB (s.extract (k + 1) s.size).data.toList && beforeB [49] (s.extract 0 k).data.toList) → RD s.data.toList (s.extract (k + 1) s.size).data.toList (s.extract (k + 1) s.size).data.toList (s.extract 0 k).data.toList ok) := by
            intro ok h
            obtain ⟨n1, n2⟩ := (noDX_iff _).1 HP.out
            refine .inr (.inl ⟨_, _, ?_, by rw [eA.out]; exact n1, by rw [eA.out]; exact n2, rfl, rfl, rfl, h⟩)
            rw [eA.out, eB.out, ← HC.out, ← HD.out, List.take_append_drop]
          cases nA : natB (s.extract 0 k).data.toList
          case false =>
            go_wp2_with (first | (go_at_call 51; refine (number_is _ _ (by assumption) _ (by first | exact nA | exact nB)).mono ?_; rintro e w' ⟨rfl, rfl⟩) | (go_at_call 27; refine (rless_is _ _ _ _ nL).mono ?_; rintro e w' ⟨rfl, rfl⟩))
            all_goals first | (exfalso; omega) | skip
            refine bodyPost_ret (v := .tuple #[.agg #[.string (s.extract (k + 1) s.size), .string (s.extract (k + 1) s.size), .string (s.extract 0 k)], .bool false]) (by simp [results, Tryz.results26, go_sem, q0, q1, q2, f0, f1, f2]) rfl ⟨s.extract (k + 1) s.size, s.extract (k + 1) s.size, s.extract 0 k, false, rfl, ?_, ?_⟩
            · exact HRD.out false (by rw [nA]; rfl)
            · exact ((hB0.setCell (Nat.le_refl _) _).setCell (Nat.le_refl _) _).setCell (Nat.le_refl _) _
          cases nB : natB (s.extract (k + 1) s.size).data.toList
          case false =>
            go_wp2_with (first | (go_at_call 51; refine (number_is _ _ (by assumption) _ (by first | exact nA | exact nB)).mono ?_; rintro e w' ⟨rfl, rfl⟩) | (go_at_call 27; refine (rless_is _ _ _ _ nL).mono ?_; rintro e w' ⟨rfl, rfl⟩))
            all_goals first | (exfalso; omega) | skip
            refine bodyPost_ret (v := .tuple #[.agg #[.string (s.extract (k + 1) s.size), .string (s.extract (k + 1) s.size), .string (s.extract 0 k)], .bool false]) (by simp [results, Tryz.results26, go_sem, q0, q1, q2, f0, f1, f2]) rfl ⟨s.extract (k + 1) s.size, s.extract (k + 1) s.size, s.extract 0 k, false, rfl, ?_, ?_⟩
            · exact HRD.out false (by rw [nA, nB]; rfl)
            · exact ((hB0.setCell (Nat.le_refl _) _).setCell (Nat.le_refl _) _).setCell (Nat.le_refl _) _
          case true =>
            obtain ⟨bL, nL⟩ : ∃ b, beforeB (⟨#[49]⟩ : BA).data.toList (s.extract 0 k).data.toList = b := ⟨_, rfl⟩
            go_wp2_with (first | (go_at_call 51; refine (number_is _ _ (by assumption) _ (by first | exact nA | exact nB)).mono ?_; rintro e w' ⟨rfl, rfl⟩) | (go_at_call 27; refine (rless_is _ _ _ _ nL).mono ?_; rintro e w' ⟨rfl, rfl⟩))
            all_goals first | (exfalso; omega) | skip
            refine bodyPost_ret (v := .tuple #[.agg #[.string (s.extract (k + 1) s.size), .string (s.extract (k + 1) s.size), .string (s.extract 0 k)], .bool bL]) (by simp [results, Tryz.results26, go_sem, q0, q1, q2, f0, f1, f2]) rfl ⟨s.extract (k + 1) s.size, s.extract (k + 1) s.size, s.extract 0 k, bL, rfl, ?_, ?_⟩
            · exact HRD.out bL (by rw [nA, nB, ← nL]; rfl)
            · exact ((hB0.setCell (Nat.le_refl _) _).setCell (Nat.le_refl _) _).setCell (Nat.le_refl _) _
        · have hb2 : ((s[k].toNat : Int) == 120) = false := by simp [h120]
          have HQ : Hid (noDX (s.data.toList.take (k + 1)) = true) := by
            unfold Hid
            have e1 : ¬ s[k] = 45 := fun e => h45 (by rw [e]; rfl)
            have e2 : ¬ s[k] = 120 := fun e => h120 (by rw [e]; rfl)
            have := HP.out
            unfold noDX at this ⊢
            rw [HT.out, List.all_append, this]
            simp [e1, e2]
          go_wp2
          all_goals first | (exfalso; omega) | skip
          go_round
          case rel => exact ⟨k + 1, by omega, by go_num, HQ, ⟨q0, q1, q2⟩, ⟨f0, f1, f2⟩, hlt0, hB0⟩
          case measure => simp [intOf]; omega
    · have hke : k = s.size := by omega
      have HRD : Hid (∀ ok, ok = natB s.data.toList → RD s.data.toList s.data.toList s.data.toList [49] ok) := by
        intro ok h
        have := HP.out
        rw [hke, List.take_of_length_le (by rw [← Lib.size_eq]; exact Nat.le_refl _)] at this
        obtain ⟨n1, n2⟩ := (noDX_iff _).1 this
        exact .inr (.inr ⟨n1, n2, rfl, rfl, rfl, h⟩)
      clear hke
      obtain ⟨bS, nS⟩ : ∃ b, natB s.data.toList = b := ⟨_, rfl⟩
      go_wp2_with (go_at_call 51; refine (number_is s _ hsm _ nS).mono ?_; rintro e w' ⟨rfl, rfl⟩)
      all_goals first | (exfalso; omega) | skip
      refine bodyPost_ret (v := .tuple #[.agg #[.string s, .string s, .string (⟨#[49]⟩ : BA)], .bool bS]) (by simp [results, Tryz.results26, go_sem, q0, q1, q2, f0, f1, f2]) rfl ⟨s, s, ⟨#[49]⟩, bS, rfl, ?_, ?_⟩
      · exact HRD.out bS nS.symm
      · exact ((hB0.setCell (Nat.le_refl _) _).setCell (Nat.le_refl _) _).setCell (Nat.le_refl _) _
end Go.Proofs.YtdcgfbebeiheiaaGreatDoor
