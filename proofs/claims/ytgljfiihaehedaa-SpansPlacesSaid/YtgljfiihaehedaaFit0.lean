/- validAlign and aligned. -/
import Derived.Test.YtgljfiihaehedaaCount
namespace Go.Proofs.Ytgljfiihaehedaa
open Go.RowKit
attribute [local go_sem] Oper.semAt_some

/-- The least multiple of al that is not less than p. -/
def algn (p al : Nat) : Nat := (p + al - 1) / al * al
set_option maxRecDepth 100000 in
theorem aligned_is (p al : Nat) (hp : p ≤ 1024) (ha : 1 ≤ al) (ha2 : al ≤ 1024) (w : World) :
    Calls Try.prog 64 #[.int .i64 p, .int .i64 al] w fun e w' => e = .returned (.int .i64 (algn p al : Nat)) ∧ Below w.heap.size w w' := by
  have hz : ((al : Int) == 0) = false := by simp; omega
  have hq : ((p : Int) + (al : Int) - 1).tdiv (al : Int) = (((p + al - 1) / al : Nat) : Int) := by
    rw [show (p : Int) + (al : Int) - 1 = ((p + al - 1 : Nat) : Int) by omega]; rfl
  obtain ⟨q, hqq⟩ : ∃ q, (p + al - 1) / al = q := ⟨_, rfl⟩
  have hle : q * al ≤ 2047 := by rw [← hqq]; have := Nat.div_mul_le_self (p + al - 1) al; omega
  have hq2 : q ≤ 2047 := by rw [← hqq]; exact Nat.le_trans (Nat.div_le_self _ _) (by omega)
  have hA : algn p al = q * al := by unfold algn; rw [hqq]
  rw [hqq] at hq
  rw [hA]
  have hle2 : (q : Int) * (al : Int) ≤ 2047 := by exact_mod_cast hle
  have hge2 : (0 : Int) ≤ (q : Int) * (al : Int) := Int.mul_nonneg (by omega) (by omega)
  go_enter Try.func64, Try.ntmps64
  go_wp2
  go_ret
  exact ⟨ret_int (Int.natCast_mul q al).symm, Below.refl _ _⟩

/-- Is that an alignment? -/
def alB (a : Int) : Bool := decide (1 ≤ a) && decide (a ≤ 1024) && (bits BinOp.and IntKind.i64 a (a - 1) == 0)
set_option maxRecDepth 100000 in
theorem validAlign_is (a : Int) (ha : I64 a) (r : Bool) (hr : alB a = r) (w : World) :
    Calls Try.prog 79 #[.int .i64 a] w fun e w' => e = .returned (.bool r) ∧ Below w.heap.size w w' := by
  have HR : Hid (alB a = r) := hr
  clear hr
  unfold I64 at ha
  by_cases h1 : 1 ≤ a
  · by_cases h2 : a ≤ 1024
    · have d1 : decide (1 ≤ a) = true := by simpa using h1
      have d2 : decide (a ≤ 1024) = true := by simpa using h2
      go_enter Try.func79, Try.ntmps79
      go_wp2
      go_ret
      exact ⟨ret_bool (by rw [← HR.out]; unfold alB; rw [d1, d2]; rfl), Below.refl _ _⟩
    · have d1 : decide (1 ≤ a) = true := by simpa using h1
      have d2 : decide (a ≤ 1024) = false := by simpa using h2
      go_enter Try.func79, Try.ntmps79
      go_wp2
      go_ret
      exact ⟨ret_bool (by rw [← HR.out]; unfold alB; rw [d1, d2]; rfl), Below.refl _ _⟩
  · have d1 : decide (1 ≤ a) = false := by simpa using h1
    go_enter Try.func79, Try.ntmps79
    go_wp2
    go_ret
    exact ⟨ret_bool (by rw [← HR.out]; unfold alB; rw [d1]; rfl), Below.refl _ _⟩
theorem alB_nat {a : Int} (h : alB a = true) : ∃ n : Nat, a = (n : Int) ∧ 1 ≤ n ∧ n ≤ 1024 := by
  unfold alB at h
  simp at h
  exact ⟨a.toNat, by omega, by omega, by omega⟩
end Go.Proofs.Ytgljfiihaehedaa
