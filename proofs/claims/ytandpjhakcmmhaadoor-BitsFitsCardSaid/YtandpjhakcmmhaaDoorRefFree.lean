/- The other way's free, Fit and Block. -/
import Derived.Test.YtandpjhakcmmhaaDoorRefNL
import Derived.Test.YtandpjhakcmmhaaDoorSearchM
namespace Go.Proofs.YtandpjhakcmmhaaDoor
open Go.RowKit Go.Shelf
attribute [local go_sem] Oper.semAt_some

def freeB (ws : List Nat) (n f s : Nat) : Bool := decide (f + s ≤ n) && (hits ws true f (f + s)).isEmpty
theorem freeB_iff (ws : List Nat) (n f s : Nat) : freeB ws n f s = true ↔ Clear ws n f s := by
  unfold freeB Clear
  rw [Bool.and_eq_true, decide_eq_true_eq, List.isEmpty_iff]
  refine and_congr_right fun _ => ⟨fun h i h1 h2 => ?_, fun h => ?_⟩
  · cases hb : btW ws i with
    | false => rfl
    | true => have := (hits_mem ws true f (f + s) i).2 ⟨h1, h2, hb⟩; rw [h] at this; cases this
  · rw [List.eq_nil_iff_forall_not_mem]
    intro i hi
    obtain ⟨h1, h2, h3⟩ := (hits_mem _ _ _ _ _).1 hi
    rw [h i h1 h2] at h3; cases h3

theorem runsL_from (ws : List Nat) (on : Bool) (a n : Nat) (ha : a ≤ n) :
    (∀ r ∈ runsL ws on a n, a ≤ r.1 ∧ r.1 < r.2 ∧ r.2 ≤ n ∧ (∀ i, r.1 ≤ i → i < r.2 → btW ws i = on) ∧ (r.2 = n ∨ btW ws r.2 ≠ on)) ∧
    (runsL ws on a n).Pairwise (fun a b => a.2 < b.1) ∧ (∀ x, a ≤ x → x < n → btW ws x = on → ∃ r ∈ runsL ws on a n, r.1 ≤ x ∧ x < r.2) := by
  obtain ⟨m1, m2, m3, m4⟩ := nextB_spec ws on a n ha
  obtain ⟨i1, i2, i3⟩ := runsF_all ws on n (n + 1) (nextB ws on a n) m2 m3 (by omega)
  refine ⟨fun r hr => ⟨by have := (i1 r hr).1; omega, (i1 r hr).2⟩, i2, fun x h0 hx1 hx2 => ?_⟩
  rcases Nat.lt_or_ge x (nextB ws on a n) with h | h
  · exact absurd hx2 (m4 x h0 h)
  · exact i3 x h hx1 hx2
theorem in_run_from {ws : List Nat} {a n x s : Nat} (ha : a ≤ x) (hs : 1 ≤ s) (h : Clear ws n x s) : ∃ r ∈ runsL ws false a n, r.1 ≤ x ∧ x + s ≤ r.2 := by
  have hn := h.1
  obtain ⟨i1, _, i3⟩ := runsL_from ws false a n (by omega)
  obtain ⟨r, hr, h1, h2⟩ := i3 x ha (by omega) (h.2 x (Nat.le_refl _) (by omega))
  obtain ⟨_, j1, j2, j3, j4⟩ := i1 r hr
  refine ⟨r, hr, h1, ?_⟩
  rcases Nat.lt_or_ge r.2 (x + s) with h5 | h5
  · rcases j4 with h6 | h6
    · omega
    · exact absurd (h.2 r.2 (by omega) h5) h6
  · exact h5
theorem fit_from {ws : List Nat} {a n s j : Nat} (ha : a ≤ n) (hs : 1 ≤ s) (h : fitL (runsL ws false a n) s = some j) : a ≤ j ∧ Clear ws n j s ∧ ∀ x, a ≤ x → x < j → ¬ Clear ws n x s := by
  obtain ⟨i1, i2, _⟩ := runsL_from ws false a n ha
  unfold fitL at h
  obtain ⟨r, hr, rfl⟩ := Option.map_eq_some_iff.1 h
  obtain ⟨hp, pre, bs, he, hq⟩ := List.find?_eq_some_iff_append.1 hr
  have hm : r ∈ runsL ws false a n := by rw [he]; simp
  have hp' : s ≤ r.2 - r.1 := by simpa using hp
  obtain ⟨j0, j1, j2, j3, _⟩ := i1 r hm
  refine ⟨j0, ⟨by omega, fun i h1 h2 => j3 i h1 (by omega)⟩, fun x hx0 hx hc => ?_⟩
  obtain ⟨r', hr', h1, h2⟩ := in_run_from hx0 hs hc
  rw [he] at hr' i2
  rcases List.mem_append.1 hr' with h3 | h3
  · have := hq r' h3
    simp at this; omega
  · rcases List.mem_cons.1 h3 with rfl | h3
    · omega
    · have := (List.pairwise_cons.1 (List.pairwise_append.1 i2).2.1).1 r' h3
      omega
theorem fit_from_none {ws : List Nat} {a n s : Nat} (hs : 1 ≤ s) (h : fitL (runsL ws false a n) s = none) (x : Nat) (hx : a ≤ x) : ¬ Clear ws n x s := by
  intro hc
  obtain ⟨r, hr, h1, h2⟩ := in_run_from hx hs hc
  unfold fitL at h
  rw [Option.map_eq_none_iff, List.find?_eq_none] at h
  have := h r hr
  simp at this; omega
theorem fiB_hit {ws : List Nat} {a n s i : Nat} (ha : a ≤ n) (hs : 1 ≤ s) (hi : a ≤ i) (hc : Clear ws n i s) (hno : ∀ x, a ≤ x → x < i → ¬ Clear ws n x s) : fiB ws s a n = ((i : Int), 0) := by
  unfold fiB
  cases hf : fitL (runsL ws false a n) s with
  | none => exact absurd hc (fit_from_none hs hf i hi)
  | some j =>
    obtain ⟨h1, h2, h3⟩ := fit_from ha hs hf
    rcases Nat.lt_trichotomy i j with h | h | h
    · exact absurd hc (h3 i hi h)
    · rw [h]
    · exact absurd h2 (hno j h1 h)
theorem fiB_miss {ws : List Nat} {a n s : Nat} (ha : a ≤ n) (hs : 1 ≤ s) (hno : ∀ x, a ≤ x → x < n → ¬ Clear ws n x s) : fiB ws s a n = (0, 4) := by
  unfold fiB
  cases hf : fitL (runsL ws false a n) s with
  | none => rfl
  | some j =>
    obtain ⟨h1, h2, _⟩ := fit_from ha hs hf
    exact absurd h2 (hno j h1 (by have := h2.1; omega))

set_option maxRecDepth 100000 in
set_option maxHeartbeats 2000000 in
theorem Free_is (b0 n f s : Nat) (a : Option Addr) (cap : Nat) (ws : List Nat) (hn4 : n ≤ 4096) (hf : f ≤ 4096) (hs : s ≤ 4096) (w : World) (hu : w.ownsRow b0 4 1 (.slice a n cap) n (bitL ws n)) (b : Bool) (hb : freeB ws n f s = b) :
    Calls Tryd.prog 68 #[.slice a n cap, .int .i64 f, .int .i64 s] w fun e w' => e = .returned (.bool b) ∧ Below w.heap.size w w' := by
  by_cases hfs : f + s ≤ n
  · have h1 : ¬ ((n : Int) < (f : Int) + (s : Int)) := by omega
    have HB : Hid ((hits ws true f (f + s)).isEmpty = b) := by unfold Hid; rw [← hb]; unfold freeB; rw [decide_eq_true hfs, Bool.true_and]
    clear hb
    go_enter Tryd.func68, Tryd.ntmps68
    go_wp2_with fail
    go_loop [7] (fun i => ∃ m : Nat, f ≤ m ∧ m ≤ f + s ∧ i = .int .i64 m ∧ Hid (hits ws true f m = [])) (fun i => f + s - (intOf i).toNat)
    case atStart => exact ⟨f, Nat.le_refl _, by omega, rfl, hits_nil _ _ _ _ (Nat.le_refl f)⟩
    case round =>
      obtain ⟨m, hm1, hm2, rfl, HQ⟩ := hrel
      by_cases hlt : m < f + s
      · obtain ⟨g, rfl, hcell⟩ := own_at hu m (by omega) _ (bitL_at ws n m (by omega))
        have hi1 : (m : Int) < (f : Int) + (s : Int) := by omega
        have hi2 : (m : Int) < (n : Int) := by omega
        cases hbm : btW ws m with
        | true =>
          rw [hbm] at hcell
          have hbf : b = false := by
            rw [← HB.out]
            have hmem := (hits_mem ws true f (f + s) m).2 ⟨hm1, hlt, hbm⟩
            cases hh : hits ws true f (f + s) with
            | nil => rw [hh] at hmem; cases hmem
            | cons x l => rfl
          subst hbf
          clear hbm
          go_wp2
          go_ret
          exact ⟨rfl, Below.refl _ _⟩
        | false =>
          rw [hbm] at hcell
          have HN : Hid (hits ws true f (m + 1) = []) := by unfold Hid; rw [hits_snoc' ws true f m hm1, HQ.out, if_neg (by rw [hbm]; simp)]; rfl
          clear hbm
          go_wp2
          refine ⟨⟨m + 1, by omega, by omega, by go_num, HN⟩, by simp [intOf]; omega⟩
      · have hme : m = f + s := by omega
        have hbt : b = true := by rw [← HB.out, ← hme, HQ.out]; rfl
        subst hbt
        clear hme
        have hi1 : ¬ ((m : Int) < (f : Int) + (s : Int)) := by omega
        go_wp2
        go_ret
        exact ⟨rfl, Below.refl _ _⟩
  · have h1 : (n : Int) < (f : Int) + (s : Int) := by omega
    have hbf : b = false := by rw [← hb]; unfold freeB; rw [decide_eq_false hfs, Bool.false_and]
    subst hbf
    clear hb
    go_enter Tryd.func68, Tryd.ntmps68
    go_wp2
    go_ret
    exact ⟨rfl, Below.refl _ _⟩
end Go.Proofs.YtandpjhakcmmhaaDoor
