/- The reference's Same, Get, Count. -/
import Derived.Test.YtpplleojdcgceaaDoorFlip
namespace Go.Proofs.YtpplleojdcgceaaDoor
open Go.RowKit Go.Shelf
attribute [local go_sem] Oper.semAt_some

set_option maxRecDepth 100000 in
set_option maxHeartbeats 1000000 in
theorem Same_eq (K : Int) (u v : Value) (ws : List Nat) (hl : ws.length ≤ 1000000) (w : World) (hu : WAt w u ws) (hv : WAt w v ws) :
    Calls Tryd.prog 21 #[bv K u, bv K v] w fun e w' => e = .returned (.bool true) ∧ Below w.heap.size w w' := by
  obtain ⟨wA, hwA, hAB, bA, bB⟩ : ∃ wA, (w.alloc (.cells #[.int .i64 K, u] 24)).alloc (.cells #[.int .i64 K, v] 24) = wA ∧ Below w.heap.size w wA ∧ BBox wA w.heap.size K u ∧ BBox wA (w.heap.size + 1) K v := by
    refine ⟨_, rfl, ((Below.refl _ _).alloc (Nat.le_refl _) _).alloc (by simp) _, (BBox.new w K u).alloc _, ?_⟩
    have := BBox.new (w.alloc (.cells #[.int .i64 K, u] 24)) K v
    rw [World.size_alloc] at this
    exact this
  have hA := hu.later hAB
  have hB := hv.later hAB
  have HW := Lib.hid hwA
  clear hwA
  obtain ⟨ua, uc, rfl⟩ := hu.form
  obtain ⟨va, vc, rfl⟩ := hv.form
  obtain ⟨n, hn⟩ : ∃ n, ws.length = n := ⟨_, rfl⟩
  have HN := Lib.hid hn
  have x1 := bA.c1
  have y1 := bB.c1
  rw [hn] at x1 y1 hl
  go_enter Tryd.func21, Tryd.ntmps21
  rw [hn]
  have x0 := bA.c0
  have y0 := bB.c0
  clear hn
  go_wp2_with fail
  rw [show (w.alloc (.cells #[.int .i64 K, .slice ua n uc] 24)).alloc (.cells #[.int .i64 K, .slice va n vc] 24) = wA by rw [← HN.out]; exact HW.out]
  go_loopw [5] (fun i wr => ∃ (m d : Nat), m ≤ n ∧ i = .int .i64 m ∧ wr = wA.drewN d) (fun i _ => n - (intOf i).toNat)
  case atStart => exact ⟨0, 0, Nat.zero_le _, rfl, rfl⟩
  case round =>
    obtain ⟨m, d, hm, rfl, rfl⟩ := hrel
    by_cases hlt : m < n
    · have hmw : m < ws.length := by rw [HN.out]; exact hlt
      obtain ⟨b1, o1, rfl, _, k1⟩ := hA.at m hmw
      obtain ⟨b2, o2, rfl, _, k2⟩ := hB.at m hmw
      obtain ⟨x, hx⟩ : ∃ x, ws[m] = x := ⟨_, rfl⟩
      rw [hx] at k1 k2
      have hi1 : (m : Int) < (n : Int) := by omega
      clear hx
      go_wp2_with fail
      go_quiet (fail)
      go_wp2
      refine ⟨⟨m + 1, _, by omega, by go_num, rfl⟩, by simp [intOf]; omega⟩
    · have hi1 : ¬ ((m : Int) < (n : Int)) := by omega
      go_wp2
      go_ret
      exact ⟨rfl, below_drewN hAB _⟩
end Go.Proofs.YtpplleojdcgceaaDoor
