/- The other way's Of. -/
import Derived.Test.YtgljfiihaehedaaRSet
import Derived.Test.YtgljfiihaehedaaOf1
namespace Go.Proofs.Ytgljfiihaehedaa
open Go.RowKit
attribute [local go_sem] Oper.semAt_some

set_option maxRecDepth 100000 in
set_option maxHeartbeats 2000000 in
theorem ROf_is (v : Value) (l : List SpI) (hf : Fit l) (hl64 : l.length ≤ 9223372036854775807) (c : Int) (hc : chkL l 2000 = c) (w : World) (h : SAt w v l) :
    Calls Try.prog 14 #[v] w fun e w' => (c ≠ 0 ∧ RetS w [] c e w') ∨ (c = 0 ∧ ∃ L M, l = toI L ∧ SetL 0 M ∧ (∀ x, x < 1024 → inS M x = inS L x) ∧ RetS w M 0 e w') := by
  obtain ⟨a, cap, rfl⟩ := h.form
  unfold chkL at hc
  by_cases h1 : (2000 : Int) < (l.length : Int)
  · have h3 : (3 : Int) = c := by rw [← hc]; simp [h1]
    subst h3
    clear hc
    go_enter Try.func14, Try.ntmps14
    go_wp2
    go_ret2
    exact .inl ⟨by decide, _, rfl, nil_at _, Below.refl _ _⟩
  · rw [if_neg h1] at hc
    have HC := Lib.hid hc
    clear hc
    obtain ⟨n, hn⟩ : ∃ n, l.length = n := ⟨_, rfl⟩
    have HN := Lib.hid hn
    rw [hn] at h h1 hl64
    rw [hn]
    have hn2 : n ≤ 2000 := by omega
    clear hn
    go_enter Try.func14, Try.ntmps14
    go_wp2_with fail
    go_loopw [4] (fun i wr => ∃ k : Nat, k ≤ n ∧ i = .int .i64 k ∧ Hid (allV (l.take k) = true) ∧ Below w.heap.size w wr) (fun i _ => n - (intOf i).toNat)
    case atStart => exact ⟨0, Nat.zero_le _, rfl, rfl, Below.refl _ _⟩
    case round =>
      obtain ⟨k, hk, rfl, HV, hB⟩ := hrel
      by_cases hlt : k < n
      · obtain ⟨⟨p, q⟩, hx⟩ : ∃ x, l[k]? = some x := ⟨_, List.getElem?_eq_getElem (by rw [HN.out]; exact hlt)⟩
        obtain ⟨b, off, rfl, _, k1, k2⟩ := h.at k _ hx
        replace k1 := cell_later hB k1
        replace k2 := cell_later hB k2
        have hfx := hf _ (List.mem_of_getElem? hx)
        have hi1 : (k : Int) < (n : Int) := by omega
        obtain ⟨r, hr⟩ : ∃ r, vld (p, q) = r := ⟨_, rfl⟩
        have HR := Lib.hid hr
        have HX := Lib.hid hx
        have hsz := hB.size
        simp only at k1 k2
        clear hr hx
        cases r
        · go_wp2_with fail
          refine (Valid_is p q hfx.1 false HR.out _).mono ?_
          rintro e w1 ⟨rfl, hB1⟩
          have hc7 : (7 : Int) = c := by rw [← HC.out, allV_cut l k _ HX.out HR.out]; rfl
          subst hc7
          go_wp2
          go_ret2
          exact .inl ⟨by decide, _, rfl, nil_at _, hB.trans (hB1.mono hB.size)⟩
        · go_wp2_with fail
          refine (Valid_is p q hfx.1 true HR.out _).mono ?_
          rintro e w1 ⟨rfl, hB1⟩
          go_wp2
          go_roundw
          case rel => exact ⟨k + 1, by omega, by go_num, by unfold Hid; rw [allV_take l k _ HX.out HV.out]; exact HR.out, hB.trans (hB1.mono hB.size)⟩
          case measure => simp [intOf]; omega
      · have hi1 : ¬ ((k : Int) < (n : Int)) := by omega
        have hkn : k = n := by omega
        have hall : allV l = true := by
          have h1 := HV.out
          rw [hkn, ← HN.out, List.take_length] at h1
          exact h1
        obtain ⟨L, rfl, hL⟩ := allV_nat hall
        have hc2 : c = 0 := by rw [← HC.out, hall]; simp
        have HNL : Hid (L.length = n) := by rw [← HN.out, toI_len]; rfl
        have h2 := h.later hB
        clear hkn hall HV
        go_wp2_with fail
        refine (Marks_is L hL (by rw [HNL.out]; omega) _ _ h2).mono ?_
        rintro e w1 ⟨rfl, B1⟩
        go_wp2_with fail
        refine (RSet_is (inS L) _).mono ?_
        rintro e w2 ⟨u, M, rfl, hu, hM, hp, B2⟩
        obtain ⟨ua, uc, rfl⟩ := hu.form
        have HU := Lib.hid hu
        have HP := Lib.hid hp
        clear hu hp
        go_wp2
        go_ret2
        exact .inr ⟨hc2, L, M, rfl, hM, HP.out, _, rfl, HU.out, hB.trans ((B1.trans (B2.mono B1.size)).mono hB.size)⟩
end Go.Proofs.Ytgljfiihaehedaa
