/- Count. -/
import Derived.Test.YtgljfiihaehedaaUnion
namespace Go.Proofs.Ytgljfiihaehedaa
open Go.RowKit
attribute [local go_sem] Oper.semAt_some

def cntL (L : List Sp) : Nat := (L.map fun x => x.2).sum
theorem cntL_take (L : List Sp) (k : Nat) (x : Sp) (h : L[k]? = some x) : cntL (L.take (k + 1)) = cntL (L.take k) + x.2 := by
  unfold cntL; rw [List.take_add_one, h]; simp
theorem cnt_le : ∀ {L : List Sp} {a : Nat}, SetL a L → a ≤ 1025 → a + cntL L ≤ 1025
  | [], _, _, h => by unfold cntL; simpa using h
  | x :: L, a, h, _ => by
    obtain ⟨h1, h2, h3, h4⟩ := h
    have := cnt_le h4 (by omega)
    have e : cntL (x :: L) = x.2 + cntL L := by unfold cntL; simp
    omega
theorem cnt_take_le (L : List Sp) (k : Nat) : cntL (L.take k) ≤ cntL L := by
  conv => rhs; rw [← List.take_append_drop k L]
  unfold cntL; rw [List.map_append, List.sum_append]; omega

set_option maxRecDepth 100000 in
set_option maxHeartbeats 1000000 in
theorem Count_ok (L : List Sp) (hL : SetL 0 L) (v : Value) (w : World) (h : SAt w v (toI L)) :
    Calls Try.prog 30 #[v] w fun e w' => e = .returned (.tuple #[.int .i64 (cntL L : Nat), .int .i64 0]) ∧ Below w.heap.size w w' := by
  have HC := Lib.hid (chkS_set hL)
  have HF := Lib.hid (fit_nat L hL.val)
  have h64 := len64 h
  have hcl : cntL L ≤ 1025 := by have := cnt_le hL (by omega); omega
  obtain ⟨c, hc⟩ : ∃ c, cntL L = c := ⟨_, rfl⟩
  have HCC := Lib.hid hc
  rw [hc] at hcl
  rw [hc]
  obtain ⟨n, hn⟩ : ∃ n, L.length = n := ⟨_, rfl⟩
  have HN := Lib.hid hn
  have HL := Lib.hid hL
  have hn2 : n ≤ 2000 := by rw [← hn]; exact set_len hL
  obtain ⟨va, vc, rfl⟩ := h.form
  rw [toI_len, hn] at h h64
  rw [toI_len, hn]
  clear hn hc
  go_enter Try.func30, Try.ntmps30
  go_wp2_with fail
  refine (Check_is _ (toI L) HF.out (by rw [toI_len, HN.out]; exact h64) 0 HC.out _ h).mono ?_
  rintro e w1 ⟨rfl, B1⟩
  have h1 := h.later B1
  go_wp2_with fail
  go_loopw [5, 15] (fun s i wr => ∃ k : Nat, k ≤ n ∧ i = .int .i64 k ∧ s = .int .i64 (cntL (L.take k) : Nat) ∧ Below w1.heap.size w1 wr) (fun _ i _ => n - (intOf i).toNat)
  case atStart => exact ⟨0, Nat.zero_le _, rfl, rfl, Below.refl _ _⟩
  case round =>
    obtain ⟨k, hk, rfl, rfl, hB⟩ := hrel
    by_cases hlt : k < n
    · obtain ⟨x, hx⟩ : ∃ x, L[k]? = some x := ⟨_, List.getElem?_eq_getElem (by rw [HN.out]; exact hlt)⟩
      obtain ⟨p, q⟩ := x
      obtain ⟨b, off, rfl, _, k1, k2⟩ := h1.at k _ (toI_some hx)
      replace k1 := cell_later hB k1
      replace k2 := cell_later hB k2
      have hi1 : (k : Int) < (n : Int) := by omega
      have e2 := cntL_take L k _ hx
      have e3 := cnt_take_le L (k + 1)
      rw [HCC.out] at e3
      obtain ⟨m, hm⟩ : ∃ m, cntL (L.take k) = m := ⟨_, rfl⟩
      have HM := Lib.hid hm
      rw [hm] at e2
      rw [e2] at e3
      have E2 := Lib.hid e2
      have hsz := hB.size
      have hm1 : (m : Int) + (q : Int) ≤ 1025 := by simp only at e3; omega
      rw [hm]
      simp only at k1 k2
      clear hm hx e2 e3
      go_wp2
      go_roundw
      case rel => exact ⟨k + 1, by omega, by go_num, by rw [E2.out]; go_num, hB.alloc hB.size _⟩
      case measure => simp [intOf]; omega
    · have hi1 : ¬ ((k : Int) < (n : Int)) := by omega
      have hkn : k = n := by omega
      have hs : cntL (L.take k) = c := by rw [hkn, ← HN.out, List.take_length]; exact HCC.out
      rw [hs]
      clear hs hkn
      go_wp2
      go_ret2
      exact ⟨rfl, B1.trans (hB.mono B1.size)⟩

set_option maxRecDepth 100000 in
set_option maxHeartbeats 1000000 in
theorem Count_bad (l : List SpI) (fl : Fit l) (c : Int) (hc : chkS l = c) (h0 : c ≠ 0) (v : Value) (w : World) (h : SAt w v l) :
    Calls Try.prog 30 #[v] w fun e w' => e = .returned (.tuple #[.int .i64 0, .int .i64 c]) ∧ Below w.heap.size w w' := by
  have HC := Lib.hid hc
  have h64 := len64 h
  have hq : (c != 0) = true := by simp [h0]
  clear hc h0
  go_enter Try.func30, Try.ntmps30
  go_wp2_with fail
  refine (Check_is _ l fl h64 c HC.out _ h).mono ?_
  rintro e w1 ⟨rfl, B1⟩
  go_wp2
  go_ret2
  exact ⟨rfl, B1⟩
end Go.Proofs.Ytgljfiihaehedaa
