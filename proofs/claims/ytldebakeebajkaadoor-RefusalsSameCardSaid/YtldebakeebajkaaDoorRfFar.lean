/- far. -/
import Derived.Test.YtldebakeebajkaaDoorRfEq
namespace Go.Proofs.YtldebakeebajkaaDoor
open Go.RowKit Go.Shelf
attribute [local go_sem] Oper.semAt_some

def farB (n : Nat) : Bool := (decide (8 < n) && decide (n ≤ 50)) || decide (60 < n)
set_option maxRecDepth 100000 in
set_option maxHeartbeats 1000000 in
theorem far_is (v : Value) (l : List RlI) (b : Bool) (hb : farB l.length = b) (w : World) (h : RAt w v l) :
    Calls Tryd.prog 12 #[.agg #[v]] w fun e w' => e = .returned (.bool b) ∧ Below w.heap.size w w' := by
  have hl64 := h.len
  obtain ⟨a, cap, rfl⟩ := h.form
  obtain ⟨n, hn⟩ : ∃ n, l.length = n := ⟨_, rfl⟩
  rw [hn] at hb hl64 ⊢
  clear h hn
  unfold farB at hb
  have HB := Lib.hid hb
  clear hb
  have hw : ∀ o : Obj, Below w.heap.size w (w.alloc o) := fun o => (Below.refl _ _).alloc (Nat.le_refl _) _
  by_cases h1 : (8 : Int) < (n : Int) <;> by_cases h2 : (n : Int) ≤ 50 <;> by_cases h3 : (60 : Int) < (n : Int)
  all_goals first | (exfalso; omega) | skip
  all_goals
    have e1 : decide (8 < n) = decide ((8 : Int) < (n : Int)) := by rw [Bool.eq_iff_iff]; simp; omega
    have e2 : decide (n ≤ 50) = decide ((n : Int) ≤ 50) := by rw [Bool.eq_iff_iff]; simp; omega
    have e3 : decide (60 < n) = decide ((60 : Int) < (n : Int)) := by rw [Bool.eq_iff_iff]; simp; omega
    have HB2 : Hid (b = ((decide ((8 : Int) < (n : Int)) && decide ((n : Int) ≤ 50)) || decide ((60 : Int) < (n : Int)))) := by unfold Hid; rw [← HB.out, e1, e2, e3]
    clear e1 e2 e3
    go_enter Tryd.func12, Tryd.ntmps12
    go_wp2
    go_ret
    exact ⟨ret_bool (by rw [HB2.out]; simp [h1, h2, h3]), hw _⟩
theorem chkP_len {l : List RlI} (h : 50 < l.length) : chkP l = (0, 3) := by unfold chkP; rw [if_pos h]
end Go.Proofs.YtldebakeebajkaaDoor
