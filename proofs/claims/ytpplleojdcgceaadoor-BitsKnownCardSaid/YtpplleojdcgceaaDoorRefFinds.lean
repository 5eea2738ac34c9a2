/- The reference's Select, Next, Last. -/
import Derived.Test.YtpplleojdcgceaaDoorRefList
namespace Go.Proofs.YtpplleojdcgceaaDoor
open Go.RowKit Go.Shelf
attribute [local go_sem] Oper.semAt_some

theorem own_form {W : World} {base : Nat} {e : TypeId} {v : Value} {n : Nat} {xs : List Value} (h : W.ownsRow base e 1 v n xs) : ∃ a cap, v = .slice a n cap := by
  obtain ⟨_, ⟨rfl, rfl⟩ | ⟨g, cap, _, rfl, _⟩⟩ := h
  · exact ⟨_, _, rfl⟩
  · exact ⟨_, _, rfl⟩
theorem own_at {W : World} {base : Nat} {e : TypeId} {a : Option Addr} {n cap : Nat} {xs : List Value} (h : W.ownsRow base e 1 (.slice a n cap) n xs) (k : Nat) (hk : k < n) (x : Value) (hx : xs[k]? = some x) : ∃ g, a = some ⟨g, 0, none⟩ ∧ W.cell? ⟨g, k, none⟩ = some x := by
  obtain ⟨_, ⟨_, rfl⟩ | ⟨g, cap', cur, hv, _, hg, _, _, _, ht⟩⟩ := h
  · omega
  · cases hv
    refine ⟨g, rfl, ?_⟩
    rw [← ht, Nat.mul_one, List.getElem?_take, if_pos hk] at hx
    simp only [World.cell?, hg]
    simpa using hx
theorem bitL_at (ws : List Nat) (n k : Nat) (hk : k < n) : (bitL ws n)[k]? = some (.bool (btW ws k)) := by
  unfold bitL; rw [List.getElem?_map, List.getElem?_range hk]; rfl

theorem hits_one (ws : List Nat) (on : Bool) (m : Nat) : hits ws on m (m + 1) = if btW ws m = on then [m] else [] := by
  unfold hits; rw [show m + 1 - m = 1 by omega]
  by_cases h : btW ws m = on <;> simp [h]
theorem hits_snoc (ws : List Nat) (on : Bool) (m : Nat) : hits ws on 0 (m + 1) = hits ws on 0 m ++ if btW ws m = on then [m] else [] := by
  rw [hits_split ws on 0 m (m + 1) (Nat.zero_le _) (by omega), hits_one]

set_option maxRecDepth 100000 in
set_option maxHeartbeats 1000000 in
theorem RefPart_is (N a t : Int) (v : Value) (ws : List Nat) (c : Int) (hc : runB N ws a t = c) (hf : Fit64 ws) (w : World) (h : WAt w v ws) :
    Calls Tryd.prog 58 #[bv N v, .int .i64 a, .int .i64 t] w fun e w' => e = .returned (.int .i64 c) ∧ Below w.heap.size w w' := by
  obtain ⟨r, hr⟩ : ∃ r, checkB N ws = r := ⟨_, rfl⟩
  obtain ⟨wA, hwA⟩ : ∃ wA, w.alloc (.cells #[.int .i64 N, v] 24) = wA := ⟨_, rfl⟩
  have hAB : Below w.heap.size w wA := by rw [← hwA]; exact (Below.refl _ _).alloc (Nat.le_refl _) _
  have bA : BBox wA w.heap.size N v := by rw [← hwA]; exact BBox.new w N v
  have hA := h.later hAB
  have HW := Lib.hid hwA
  have HR := Lib.hid hr
  clear hwA
  have hd : (r ≠ 0 ∧ c = r) ∨ (r = 0 ∧ ((a < 0 ∨ t < a ∨ N < t) ∧ c = 7 ∨ (¬ a < 0 ∧ ¬ t < a ∧ ¬ N < t) ∧ c = 0)) := by
    unfold runB at hc
    rw [hr] at hc
    by_cases h0 : r = 0
    · rw [if_neg (by simp [h0])] at hc
      by_cases h1 : a < 0 ∨ t < a ∨ N < t
      · rw [if_pos h1] at hc; exact .inr ⟨h0, .inl ⟨h1, hc.symm⟩⟩
      · rw [if_neg h1] at hc; exact .inr ⟨h0, .inr ⟨by omega, hc.symm⟩⟩
    · rw [if_pos h0] at hc; exact .inl ⟨h0, hc.symm⟩
  clear hr hc
  rcases hd with ⟨h0, rfl⟩ | ⟨rfl, ⟨h1, rfl⟩ | ⟨⟨h1, h2, h3⟩, rfl⟩⟩
  · have hq : (c == 0) = false := by simp [h0]
    clear h0
    go_enter Tryd.func58, Tryd.ntmps58
    go_wp2_with fail
    rw [HW.out]
    refine (RefCheck_is N v ws hf _ hA c HR.out).mono ?_
    rintro e w1 ⟨rfl, hB⟩
    have x0 := (bA.later hB).c0
    have x1 := (bA.later hB).c1
    go_wp2
    go_ret
    exact ⟨rfl, hAB.trans (hB.mono hAB.size)⟩
  · by_cases q1 : a < 0 <;> by_cases q2 : t < a <;> by_cases q3 : N < t
    all_goals first | (exfalso; omega) | skip
    all_goals
      clear h1
      go_enter Tryd.func58, Tryd.ntmps58
      go_wp2_with fail
      rw [HW.out]
      refine (RefCheck_is N v ws hf _ hA 0 HR.out).mono ?_
      rintro e w1 ⟨rfl, hB⟩
      have x0 := (bA.later hB).c0
      have x1 := (bA.later hB).c1
      go_wp2
      go_ret
      exact ⟨rfl, hAB.trans (hB.mono hAB.size)⟩
  · go_enter Tryd.func58, Tryd.ntmps58
    go_wp2_with fail
    rw [HW.out]
    refine (RefCheck_is N v ws hf _ hA 0 HR.out).mono ?_
    rintro e w1 ⟨rfl, hB⟩
    have x0 := (bA.later hB).c0
    have x1 := (bA.later hB).c1
    go_wp2
    go_ret
    exact ⟨rfl, hAB.trans (hB.mono hAB.size)⟩

set_option maxRecDepth 100000 in
set_option maxHeartbeats 4000000 in
theorem RefSelect_ok (n k : Nat) (v : Value) (on : Bool) (ws : List Nat) (hf : Fit64 ws) (w : World) (h : WAt w v ws) (hc : checkB n ws = 0) (hk64 : k ≤ 9223372036854775807) (x y : Int) (hx : selectB n ws k on = (x, y)) :
    Calls Tryd.prog 27 #[bv n v, .int .i64 k, .bool on] w fun e w' => e = .returned (.tuple #[.int .i64 x, .int .i64 y]) ∧ Below w.heap.size w w' := by
  obtain ⟨n', hn', hn4, hlen⟩ := check_ok hc
  obtain rfl : n = n' := by omega
  obtain ⟨wA, hwA⟩ : ∃ wA, w.alloc (.cells #[.int .i64 (n : Int), v] 24) = wA := ⟨_, rfl⟩
  have hAB : Below w.heap.size w wA := by rw [← hwA]; exact (Below.refl _ _).alloc (Nat.le_refl _) _
  have bA : BBox wA w.heap.size n v := by rw [← hwA]; exact BBox.new w n v
  have hA := h.later hAB
  have HW := Lib.hid hwA
  have HC := Lib.hid hc
  have HX := Lib.hid hx
  have hl : n ≤ 64 * ws.length := by omega
  have HL := Lib.hid hl
  clear hwA hc hx hn' hlen hl
  go_enter Tryd.func27, Tryd.ntmps27
  go_wp2_with fail
  rw [HW.out]
  refine (RefCheck_is n v ws hf _ hA 0 HC.out).mono ?_
  rintro e w1 ⟨rfl, hB1⟩
  have x0 := (bA.later hB1).c0
  have x1 := (bA.later hB1).c1
  go_wp2_with fail
  refine (RefList_any n v ws hf hn4 HL.out w1 (hA.later hB1)).mono ?_
  rintro e w2 ⟨u, rfl, hu, hB2⟩
  obtain ⟨a, cap, rfl⟩ := own_form hu
  have D2 := hAB.trans ((hB1.trans (hB2.mono hB1.size)).mono hAB.size)
  clear x0 x1
  go_wp2_with fail
  go_loop [1, 10] (fun c i => ∃ (m q : Nat), m ≤ n ∧ q ≤ k ∧ i = .int .i64 m ∧ c = .int .i64 q ∧ Hid ((hits ws on 0 m).length + q = k)) (fun _ i => n - (intOf i).toNat)
  case atStart => exact ⟨0, k, Nat.zero_le _, Nat.le_refl _, rfl, rfl, by unfold Hid; rw [hits_nil _ _ _ _ (Nat.le_refl 0)]; simp⟩
  case round =>
    obtain ⟨m, q, hm, hq, rfl, rfl, HQ⟩ := hrel
    by_cases hlt : m < n
    · obtain ⟨g, rfl, hcell⟩ := own_at hu m hlt _ (bitL_at ws n m hlt)
      obtain ⟨b, hb⟩ : ∃ b, btW ws m = b := ⟨_, rfl⟩
      rw [hb] at hcell
      have hi1 : (m : Int) < (n : Int) := by omega
      have hsn : hits ws on 0 (m + 1) = hits ws on 0 m ++ if b = on then [m] else [] := by rw [← hb]; exact hits_snoc ws on m
      by_cases hbo : b = on
      · have hin : (hits ws on 0 n)[(hits ws on 0 m).length]? = some m := by
          rw [hits_split ws on 0 (m + 1) n (Nat.zero_le _) (by omega), hsn, if_pos hbo]; simp
        have HS : Hid ((hits ws on 0 (m + 1)).length = (hits ws on 0 m).length + 1) := by unfold Hid; rw [hsn, if_pos hbo]; simp
        have HI := Lib.hid hin
        clear hsn hin hb
        by_cases hq0 : q = 0
        · subst hq0
          have hxy : ((m : Int), (0 : Int)) = (x, y) := by
            rw [← HX.out]
            refine (selectB_some HC.out ?_).symm
            rw [← HQ.out, Nat.add_zero]; exact HI.out
          obtain ⟨rfl, rfl⟩ := Prod.mk.inj hxy
          clear hxy
          subst hbo
          cases b
          all_goals
            go_wp2
            go_ret2
            exact ⟨rfl, D2⟩
        · have hq1 : ¬ ((q : Int) = 0) := by omega
          obtain ⟨r, rfl⟩ : ∃ r, q = r + 1 := ⟨q - 1, by omega⟩
          subst hbo
          cases b
          all_goals
            go_wp2
            refine ⟨⟨m + 1, r, by omega, by omega, by go_num, by go_num, by unfold Hid; rw [HS.out]; have := HQ.out; omega⟩, by simp [intOf]; omega⟩
      · have HS : Hid (hits ws on 0 (m + 1) = hits ws on 0 m) := by unfold Hid; rw [hsn, if_neg hbo]; simp
        clear hb hsn
        cases b <;> cases on
        all_goals first | (exact absurd rfl hbo) | skip
        all_goals
          clear hbo
          go_wp2
          refine ⟨⟨m + 1, q, by omega, by omega, by go_num, rfl, by unfold Hid; rw [HS.out]; exact HQ.out⟩, by simp [intOf]; omega⟩
    · have hmn : m = n := by omega
      have hxy : ((0 : Int), (4 : Int)) = (x, y) := by
        rw [← HX.out]
        refine (selectB_none HC.out ?_).symm
        rw [List.getElem?_eq_none_iff, ← hmn]; have := HQ.out; omega
      obtain ⟨rfl, rfl⟩ := Prod.mk.inj hxy
      clear hxy hmn
      go_wp2
      go_ret2
      exact ⟨rfl, D2⟩

set_option maxRecDepth 100000 in
set_option maxHeartbeats 1000000 in
theorem RefSelect_is (N k : Int) (v : Value) (on : Bool) (ws : List Nat) (hf : Fit64 ws) (w : World) (h : WAt w v ws) (hk64 : k ≤ 9223372036854775807) (x y : Int) (hx : selectB N ws k on = (x, y)) :
    Calls Tryd.prog 27 #[bv N v, .int .i64 k, .bool on] w fun e w' => e = .returned (.tuple #[.int .i64 x, .int .i64 y]) ∧ Below w.heap.size w w' := by
  obtain ⟨c, hc⟩ : ∃ c, checkB N ws = c := ⟨_, rfl⟩
  obtain ⟨wA, hwA⟩ : ∃ wA, w.alloc (.cells #[.int .i64 N, v] 24) = wA := ⟨_, rfl⟩
  have hAB : Below w.heap.size w wA := by rw [← hwA]; exact (Below.refl _ _).alloc (Nat.le_refl _) _
  have hA := h.later hAB
  have HW := Lib.hid hwA
  have HC := Lib.hid hc
  clear hwA
  by_cases h0 : c = 0
  · subst h0
    by_cases hk : k < 0
    · have hxy : ((0 : Int), (7 : Int)) = (x, y) := by rw [← hx]; unfold selectB; rw [if_neg (by simp [hc]), if_pos hk]
      obtain ⟨rfl, rfl⟩ := Prod.mk.inj hxy
      clear hxy hx hc
      go_enter Tryd.func27, Tryd.ntmps27
      go_wp2_with fail
      rw [HW.out]
      refine (RefCheck_is N v ws hf _ hA 0 HC.out).mono ?_
      rintro e w1 ⟨rfl, hB1⟩
      go_wp2
      go_ret2
      exact ⟨rfl, hAB.trans (hB1.mono hAB.size)⟩
    · obtain ⟨n, rfl, _, _⟩ := check_ok hc
      obtain ⟨q, rfl⟩ : ∃ q : Nat, k = q := ⟨k.toNat, by omega⟩
      exact RefSelect_ok n q v on ws hf w h hc (by omega) x y hx
  · have hq : (c != 0) = true := by simp [h0]
    have hxy : ((0 : Int), c) = (x, y) := by rw [← hx]; unfold selectB; rw [hc, if_pos h0]
    obtain ⟨rfl, rfl⟩ := Prod.mk.inj hxy
    clear hxy hx hc h0
    go_enter Tryd.func27, Tryd.ntmps27
    go_wp2_with fail
    rw [HW.out]
    refine (RefCheck_is N v ws hf _ hA c HC.out).mono ?_
    rintro e w1 ⟨rfl, hB1⟩
    go_wp2
    go_ret2
    exact ⟨rfl, hAB.trans (hB1.mono hAB.size)⟩
end Go.Proofs.YtpplleojdcgceaaDoor
