/- The decimal digits of a number: the program's way and the other way. -/
import Derived.Test.YtdcgfbebeiheiaaGreatDoorRefQ
import Derived.Test.YtdcgfbebeiheiaaGreatDoorItems
import Derived.Lib.ItoaLen
import Derived.Laws.BytesString
import Derived.Laws.Cells
namespace Go.Proofs.YtdcgfbebeiheiaaGreatDoor
open Go.RowKit

theorem conv_one (n : Int) (w : World) :
    (convert 75 9 (.slice (some ⟨w.heap.size, 0, none⟩) 1 1)).run Tryz.prog (w.alloc (.cells #[.int .u8 n] 5)) = .ok (.string ⟨#[UInt8.ofNat n.toNat]⟩) (w.alloc (.cells #[.int .u8 n] 5)) := by
  rw [run_convert_bytes_string _ _ _ 5 _ _ _ Tryz.underlying75 Tryz.underlying5 Tryz.underlying9]
  exact (run_bytesToString (P := Tryz.prog) (w.alloc (.cells #[.int .u8 n] 5)) ⟨w.heap.size, 0, none⟩ 1 1 [n] (run_loadCells_list _ _ [.int .u8 n] (fun j v hj => by
    match j, hj with
    | 0, hj => cases hj; simp [Addr.add]))).trans rfl

theorem dig_cat (u : Nat) (h : ¬ u < 10) : Lib.decDigits u = Lib.decDigits (u / 10) ++ Lib.decDigits (u % 10) := by
  rw [Lib.decDigits_one (Nat.mod_lt _ (by decide)), Lib.decDigits, dif_neg h]
theorem digs_size (u : Nat) (h : u < 18446744073709551616) : (⟨(Lib.decDigits u).toArray⟩ : BA).size ≤ 20 := by
  rw [Lib.size_eq]
  show (Lib.decDigits u).length ≤ _
  rw [Lib.decDigits_length]; exact Lib.nDigits_le20 u h

set_option maxRecDepth 100000 in
set_option maxHeartbeats 2000000 in
theorem refDigits_small (u : Nat) (h10 : u < 10) (w : World) :
    Calls Tryz.prog 28 #[.int .i64 u] w fun e w' => e = .returned (.string ⟨(Lib.decDigits u).toArray⟩) ∧ Below w.heap.size w w' := by
  go_enter Tryz.func28, Tryz.ntmps28
  go_wp2
  rw [conv_one]
  go_wp2
  go_ret
  have hfin : (⟨#[UInt8.ofNat (48 + u)]⟩ : BA) = ⟨(Lib.decDigits u).toArray⟩ := by rw [Lib.decDigits_one h10]
  exact ⟨congrArg (fun x => Ending.returned (.string x)) hfin, (Below.refl _ _).alloc (Nat.le_refl _) _⟩

set_option maxRecDepth 100000 in
set_option maxHeartbeats 2000000 in
theorem refDigits_nat : ∀ (b u : Nat), u ≤ b → u ≤ 9223372036854775807 → ∀ w : World,
    Calls Tryz.prog 28 #[.int .i64 u] w fun e w' => e = .returned (.string ⟨(Lib.decDigits u).toArray⟩) ∧ Below w.heap.size w w' := by
  intro b
  induction b with
  | zero =>
    intro u hu hm w
    exact refDigits_small u (by omega) w
  | succ b ih =>
    intro u hu hm w
    by_cases h10 : u < 10
    · exact refDigits_small u h10 w
    · have s1 := digs_size (u / 10) (by omega)
      have s2 := digs_size (u % 10) (by omega)
      have HC := Lib.hid (dig_cat u h10)
      go_enter Tryz.func28, Tryz.ntmps28
      go_wp2_with fail
      rw [show (u : Int) / 10 = ((u / 10 : Nat) : Int) from by omega]
      refine (ih (u / 10) (by omega) (by omega) _).mono ?_
      rintro e w1 ⟨rfl, hB1⟩
      go_wp2_with fail
      rw [show (u : Int) % 10 = ((u % 10 : Nat) : Int) from by omega]
      refine (ih (u % 10) (by omega) (by omega) _).mono ?_
      rintro e w2 ⟨rfl, hB2⟩
      go_wp2_with fail
      go_ret
      exact ⟨by rw [HC.out]; rfl, hB1.trans (hB2.mono hB1.size)⟩

theorem itoa_neg (n : Int) (h : n < 0) : Lib.itoa n = 45 :: Lib.decDigits n.natAbs := by unfold Lib.itoa; rw [if_pos h]
theorem itoa_pos (n : Int) (h : ¬ n < 0) : Lib.itoa n = Lib.decDigits n.toNat := by unfold Lib.itoa; rw [if_neg h]

set_option maxRecDepth 100000 in
set_option maxHeartbeats 2000000 in
theorem refDigits_neg : ∀ (b u : Nat), u ≤ b → 1 ≤ u → u ≤ 9223372036854775808 → ∀ w : World,
    Calls Tryz.prog 28 #[.int .i64 (-(u : Int))] w fun e w' => e = .returned (.string ⟨(45 :: Lib.decDigits u).toArray⟩) ∧ Below w.heap.size w w' := by
  intro b
  induction b with
  | zero => intro u hu h1; omega
  | succ b ih =>
    intro u hu h1 hm w
    by_cases h10 : u < 10
    · have s1 := digs_size u (by omega)
      have s3 : (⟨#[45]⟩ : BA).size = 1 := rfl
      have s4 : (Lib.decDigits u).length ≤ 20 := s1
      go_enter Tryz.func28, Tryz.ntmps28
      go_wp2_with fail
      refine (refDigits_nat u u (Nat.le_refl _) (by omega) _).mono ?_
      rintro e w1 ⟨rfl, hB1⟩
      go_wp2_with fail
      go_ret
      exact ⟨rfl, hB1⟩
    · have s1 : (⟨(45 :: Lib.decDigits (u / 10)).toArray⟩ : BA).size ≤ 21 := by
        have := digs_size (u / 10) (by omega)
        rw [Lib.size_eq] at this ⊢
        show (Lib.decDigits (u / 10)).length + 1 ≤ _
        have e : (⟨(Lib.decDigits (u / 10)).toArray⟩ : BA).data.toList.length = (Lib.decDigits (u / 10)).length := rfl
        omega
      have s2 := digs_size (u % 10) (by omega)
      have HC := Lib.hid (dig_cat u h10)
      go_enter Tryz.func28, Tryz.ntmps28
      go_wp2_with fail
      rw [show -((u : Int) / 10) = -((u / 10 : Nat) : Int) from by omega]
      refine (ih (u / 10) (by omega) (by omega) (by omega) _).mono ?_
      rintro e w1 ⟨rfl, hB1⟩
      go_wp2_with fail
      rw [show (u : Int) % 10 = ((u % 10 : Nat) : Int) from by omega]
      refine (refDigits_nat _ (u % 10) (Nat.le_refl _) (by omega) _).mono ?_
      rintro e w2 ⟨rfl, hB2⟩
      go_wp2_with fail
      go_ret
      exact ⟨by rw [HC.out]; rfl, hB1.trans (hB2.mono hB1.size)⟩

theorem refDigits_any (n : Int) (w : World) (h0 : -9223372036854775808 ≤ n) (h1 : n ≤ 9223372036854775807) :
    Calls Tryz.prog 28 #[.int .i64 n] w fun e w' => e = .returned (.string ⟨(Lib.itoa n).toArray⟩) ∧ Below w.heap.size w w' := by
  by_cases h : n < 0
  · obtain ⟨u, rfl⟩ : ∃ u : Nat, n = -(u : Int) := ⟨n.natAbs, by omega⟩
    rw [itoa_neg _ h, show (-(u : Int)).natAbs = u by omega]
    exact refDigits_neg u u (Nat.le_refl _) (by omega) (by omega) w
  · obtain ⟨u, rfl⟩ : ∃ u : Nat, n = (u : Int) := ⟨n.toNat, by omega⟩
    rw [itoa_pos _ h, show (u : Int).toNat = u by omega]
    exact refDigits_nat u u (Nat.le_refl _) (by omega) w
end Go.Proofs.YtdcgfbebeiheiaaGreatDoor
