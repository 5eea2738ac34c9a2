/- The reference: Rest. -/
import Derived.Test.YtldebakeebajkaaDoorRfRn
import Derived.Test.YtldebakeebajkaaDoorRfRs
namespace Go.Proofs.YtldebakeebajkaaDoor
open Go.RowKit Go.Shelf
attribute [local go_sem] Oper.semAt_some

def Stp (f e t n i : Nat) : Prop := i = 0 ∨ (0 < e ∧ f + (i - 1) * e ≤ n ∧ (t = 0 ∨ i < t))
theorem stp_end {k f e t n i : Nat} (h : Stp f e t n i) (hn : n < f + i * e) : later ⟨k, f, e, t⟩ n = some ⟨k, f + i * e, e, t - i⟩ := by
  rcases Nat.eq_zero_or_pos i with rfl | hi
  · rw [Nat.zero_mul, Nat.add_zero] at hn
    unfold later
    simp only
    rw [if_pos hn]
    simp
  · rcases h with h | ⟨he, h1, h2⟩
    · omega
    obtain ⟨j, rfl⟩ : ∃ j, i = j + 1 := ⟨i - 1, by omega⟩
    rw [Nat.add_sub_cancel] at h1
    have hq : (n - f) / e = j := by
      rw [Nat.div_eq_iff he]
      rw [Nat.add_mul, Nat.one_mul] at hn
      omega
    unfold later
    simp only
    rw [if_neg (by have := Nat.zero_le (j * e); omega), hq, if_neg (by omega), Nat.add_comm 1 j]
theorem stp_none {k f e t n i : Nat} (ho : (⟨k, f, e, t⟩ : Ru).ok) (_ : Stp f e t n i) (hn : f + i * e ≤ n) (hl : e = 0 ∨ t - i = 1) : later ⟨k, f, e, t⟩ n = none := by
  have het := ho.et
  simp only at het
  unfold later
  simp only
  rw [if_neg (by have := Nat.zero_le (i * e); omega)]
  rcases Nat.eq_zero_or_pos e with he | he
  · have := het he
    have h0 := Nat.zero_le ((n - f) / e)
    generalize (n - f) / e = d at h0 ⊢
    rw [if_pos (by omega)]
  · have h1 : i ≤ (n - f) / e := by rw [Nat.le_div_iff_mul_le he]; omega
    rw [if_pos (by omega)]
theorem stp_next {f e t n i : Nat} (h : Stp f e t n i) (hn : f + i * e ≤ n) (he : 0 < e) (ht : t - i ≠ 1) : Stp f e t n (i + 1) := by
  refine .inr ⟨he, by rw [Nat.add_sub_cancel]; exact hn, ?_⟩
  rcases h with h | ⟨_, _, h⟩ <;> omega
theorem RBox.setf {W : World} {b : Nat} {x : RlI} (s : RBox W b x) (z : Int) : RBox (W.setCell ⟨b, 1, none⟩ (.int .i64 z)) b ⟨x.k, z, x.e, x.t⟩ := by
  exact heap_setCell_same W b _ _ _ _ s
theorem RBox.sett {W : World} {b : Nat} {x : RlI} (s : RBox W b x) (z : Int) : RBox (W.setCell ⟨b, 3, none⟩ (.int .i64 z)) b ⟨x.k, x.f, x.e, z⟩ := by
  exact heap_setCell_same W b _ _ _ _ s
theorem RBox.frozen {W : World} {b : Nat} {x : RlI} (s : RBox W b x) (j : Nat) : W.frozen? ⟨b, j, none⟩ = false := by unfold RBox at s; simp [World.frozen?, s]
theorem RBox.row {W : World} {b : Nat} {x : RlI} (s : RBox W b x) (y : RlI) : RBox (W.setRow b #[.int .i64 y.k, .int .i64 y.f, .int .i64 y.e, .int .i64 y.t]) b y := setRow_heap W b _ _ _ _ s
def lfm (v : Value) (W : World) (B n : Nat) : Nat := (match v with | .bool true => 1 | _ => 0) + (n + 1 - (match W.cell? ⟨B, 1, none⟩ with | some (.int _ z) => z.toNat | _ => 0))
theorem lfm_is {W : World} {B : Nat} {x : RlI} (s : RBox W B x) (b : Bool) (n : Nat) : lfm (.bool b) W B n = b.toNat + (n + 1 - x.f.toNat) := by
  unfold lfm
  rw [s.c1]
  cases b <;> rfl
end Go.Proofs.YtldebakeebajkaaDoor
