/- place and within, of the law SpansLeast. -/
import Derived.Test.YtgljfiihaehedaaMin
import Derived.Test.YtgljfiihaehedaaHas
namespace Go.Proofs.Ytgljfiihaehedaa
open Go.RowKit
attribute [local go_sem] Oper.semAt_some

def plB (L : List Sp) (m al p : Nat) : Bool := decide (p + m ≤ 1024) && decide (p % al = 0) && L.any (hasOne p m)
set_option maxRecDepth 100000 in
set_option maxHeartbeats 1000000 in
theorem place_is (L : List Sp) (hL : SetL 0 L) (m al p : Nat) (hm1 : 1 ≤ m) (hm2 : m ≤ 1024) (ha1 : 1 ≤ al) (ha2 : al ≤ 1024) (hp : p < 1024) (v : Value) (w : World) (h : SAt w v (toI L)) :
    Calls Try.prog 43 #[v, .int .i64 p, .agg #[.int .i64 m, .int .i64 al]] w fun e w' => e = .returned (.bool (plB L m al p)) ∧ Below w.heap.size w w' := by
  have e1 : ¬ (p : Int) < 0 := by omega
  have e2 : ¬ (1024 : Int) ≤ (p : Int) := by omega
  have e3 : ¬ (m : Int) < 1 := by omega
  have e4 : ¬ (al : Int) < 1 := by omega
  by_cases c1 : p + m ≤ 1024
  · have f1 : ¬ (1024 : Int) - (p : Int) < (m : Int) := by omega
    obtain ⟨WX, hWX⟩ : ∃ y, w.alloc (.cells #[.int .i64 (m : Int), .int .i64 (al : Int)] 58) = y := ⟨_, rfl⟩
    have D0 : Below w.heap.size w WX := by rw [← hWX]; exact (Below.refl _ _).alloc (Nat.le_refl _) _
    have HW := Lib.hid hWX
    have h1 := h.later D0
    clear hWX
    by_cases c2 : p % al = 0
    · have f2 : ((p : Int) % (al : Int) != 0) = false := by have : (p : Int) % (al : Int) = ((p % al : Nat) : Int) := rfl; rw [this, c2]; rfl
      have hr : plB L m al p = L.any (hasOne p m) := by unfold plB; simp [c1, c2]
      rw [hr]
      obtain ⟨r, hr2⟩ : ∃ r, L.any (hasOne p m) = r := ⟨_, rfl⟩
      have HR := Lib.hid hr2
      rw [hr2]
      clear hr hr2 c2
      go_enter Try.func43, Try.ntmps43
      go_wp2_with fail
      try rw [HW.out]
      refine (Has_ok L hL p m ⟨hm1, c1⟩ _ _ h1).mono ?_
      rintro e w1 ⟨rfl, B1⟩
      rw [HR.out]
      go_wp2
      go_ret
      exact ⟨rfl, D0.trans (B1.mono D0.size)⟩
    · have f2 : ((p : Int) % (al : Int) != 0) = true := by have : (p : Int) % (al : Int) = ((p % al : Nat) : Int) := rfl; rw [this]; simp; omega
      have hr : plB L m al p = false := by unfold plB; simp [c2]
      rw [hr]
      clear hr c2
      go_enter Try.func43, Try.ntmps43
      go_wp2_with fail
      try rw [HW.out]
      go_ret
      exact ⟨rfl, D0⟩
  · have f1 : (1024 : Int) - (p : Int) < (m : Int) := by omega
    have hr : plB L m al p = false := by unfold plB; simp [c1]
    rw [hr]
    clear hr
    go_enter Try.func43, Try.ntmps43
    go_wp2_with fail
    go_ret
    exact ⟨rfl, (Below.refl _ _).alloc (Nat.le_refl _) _⟩
def witF (L : List Sp) (p : Nat) : Nat := match L.find? (fun x => decide (x.1 ≤ p) && decide (p < x.1 + x.2)) with | some x => x.2 | none => 0
theorem find_take {f : Sp → Bool} {L : List Sp} {k : Nat} {x : Sp} (h : (L.take k).find? f = none) (hx : L[k]? = some x) (hf : f x = true) : L.find? f = some x := by
  have hk : k < L.length := (List.getElem?_eq_some_iff.1 hx).1
  rw [← List.take_append_drop k L, List.find?_append, h, List.drop_eq_getElem_cons hk]
  have : L[k] = x := by rw [List.getElem?_eq_getElem hk] at hx; exact Option.some.inj hx
  rw [this]; simp [hf]

set_option maxRecDepth 100000 in
set_option maxHeartbeats 1000000 in
theorem within_is (L : List Sp) (hL : SetL 0 L) (p : Nat) (hp : p < 1024) (v : Value) (w : World) (h : SAt w v (toI L)) :
    Calls Try.prog 44 #[v, .int .i64 p] w fun e w' => e = .returned (.int .i64 (witF L p : Nat)) ∧ Below w.heap.size w w' := by
  obtain ⟨c, hc⟩ : ∃ c, witF L p = c := ⟨_, rfl⟩
  rw [hc]
  have HC := Lib.hid hc
  obtain ⟨n, hn⟩ : ∃ n, L.length = n := ⟨_, rfl⟩
  have HN := Lib.hid hn
  have hn2 : n ≤ 2000 := by rw [← hn]; exact set_len2 hL
  obtain ⟨va, vc, rfl⟩ := h.form
  rw [toI_len, hn] at h ⊢
  clear hn hc
  go_enter Try.func44, Try.ntmps44
  go_wp2_with fail
  go_loopw [5] (fun i wr => ∃ k : Nat, k ≤ n ∧ i = .int .i64 k ∧ Hid ((L.take k).find? (fun x => decide (x.1 ≤ p) && decide (p < x.1 + x.2)) = none) ∧ Below w.heap.size w wr) (fun i _ => n - (intOf i).toNat)
  case atStart => exact ⟨0, Nat.zero_le _, rfl, rfl, Below.refl _ _⟩
  case round =>
    obtain ⟨k, hk, rfl, HF, hB⟩ := hrel
    by_cases hlt : k < n
    · obtain ⟨x, hx⟩ : ∃ x, L[k]? = some x := ⟨_, List.getElem?_eq_getElem (by rw [HN.out]; exact hlt)⟩
      have vx := hL.val x (List.mem_of_getElem? hx)
      have ix := toI_some hx
      obtain ⟨a, b'⟩ := x
      simp only at vx ix
      obtain ⟨b, off, rfl, hbl, k1, k2⟩ := h.at k _ ix
      simp only at k1 k2
      replace k1 := cell_later hB k1
      replace k2 := cell_later hB k2
      have hbw := Nat.lt_of_lt_of_le hbl hB.size
      have hi1 : (k : Int) < (n : Int) := by omega
      have HX := Lib.hid hx
      clear hx ix
      by_cases c1 : a ≤ p
      · have d1 : decide ((a : Int) ≤ (p : Int)) = true := by simp; omega
        have d1n : decide (a ≤ p) = true := by simpa using c1
        have d1p : (a : Int) ≤ (p : Int) := by omega
        by_cases c2 : p < a + b'
        · have d2 : decide ((p : Int) - (a : Int) < (b' : Int)) = true := by simp; omega
          have d2p : (p : Int) - (a : Int) < (b' : Int) := by omega
          have hcc : b' = c := by rw [← HC.out]; unfold witF; rw [find_take HF.out HX.out (by simp; omega)]
          subst hcc
          go_wp2_with fail
          try (go_quiet (fail); go_wp2_with fail)
          go_ret
          first | exact ⟨rfl, hB⟩ | exact ⟨rfl, below_drewN hB _⟩ | exact ⟨rfl, below_drewN (below_drewN hB _) _⟩
        · have d2 : decide ((p : Int) - (a : Int) < (b' : Int)) = false := by simp; omega
          have d2p : ¬ (p : Int) - (a : Int) < (b' : Int) := by omega
          have HF2 : Hid ((L.take (k + 1)).find? (fun x => decide (x.1 ≤ p) && decide (p < x.1 + x.2)) = none) := by unfold Hid; rw [List.take_add_one, HX.out, List.find?_append, HF.out]; simp; omega
          go_wp2_with fail
          try (go_quiet (fail); go_wp2_with fail)
          go_roundw
          case rel => first | exact ⟨k + 1, by omega, by go_num, HF2, hB⟩ | exact ⟨k + 1, by omega, by go_num, HF2, below_drewN hB _⟩
          case measure => simp [intOf]; omega
      · have d1 : decide ((a : Int) ≤ (p : Int)) = false := by simp; omega
        have d1n : decide (a ≤ p) = false := by simpa using c1
        have d1p : ¬ (a : Int) ≤ (p : Int) := by omega
        have HF2 : Hid ((L.take (k + 1)).find? (fun x => decide (x.1 ≤ p) && decide (p < x.1 + x.2)) = none) := by unfold Hid; rw [List.take_add_one, HX.out, List.find?_append, HF.out]; simp; omega
        go_wp2_with fail
        try (go_quiet (fail); go_wp2_with fail)
        go_roundw
        case rel => first | exact ⟨k + 1, by omega, by go_num, HF2, hB⟩ | exact ⟨k + 1, by omega, by go_num, HF2, below_drewN hB _⟩
        case measure => simp [intOf]; omega
    · have hi1 : ¬ ((k : Int) < (n : Int)) := by omega
      have hkn : k = n := by omega
      have hcc : 0 = c := by rw [← HC.out]; have h2 := HF.out; rw [hkn, ← HN.out, List.take_length] at h2; unfold witF; rw [h2]
      subst hcc
      go_wp2_with fail
      go_ret
      exact ⟨rfl, hB⟩
end Go.Proofs.Ytgljfiihaehedaa
