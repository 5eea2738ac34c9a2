/- What the runs are, and what Fit, Best and Block find among them. -/
import Derived.Test.YtpplleojdcgceaaDoorIs
namespace Go.Proofs.YtpplleojdcgceaaDoor

theorem runsF_all (ws : List Nat) (on : Bool) (n : Nat) : ∀ (f s : Nat), s ≤ n → (s < n → btW ws s = on) → n < s + f →
    (∀ r ∈ runsF ws on n f s, s ≤ r.1 ∧ r.1 < r.2 ∧ r.2 ≤ n ∧ (∀ i, r.1 ≤ i → i < r.2 → btW ws i = on) ∧ (r.2 = n ∨ btW ws r.2 ≠ on)) ∧
    (runsF ws on n f s).Pairwise (fun a b => a.2 < b.1) ∧ (∀ x, s ≤ x → x < n → btW ws x = on → ∃ r ∈ runsF ws on n f s, r.1 ≤ x ∧ x < r.2)
  | 0, s, h1, _, h3 => by omega
  | f + 1, s, h1, h2, h3 => by
    unfold runsF
    by_cases hs : s < n
    · rw [if_pos hs]
      obtain ⟨m1, m2, m3, m4⟩ := nextB_spec ws (!on) s n h1
      obtain ⟨m, hm⟩ : ∃ m, nextB ws (!on) s n = m := ⟨_, rfl⟩
      rw [hm] at m1 m2 m3 m4 ⊢
      obtain ⟨t1, t2, t3, t4⟩ := nextB_spec ws on m n m2
      obtain ⟨t, ht⟩ : ∃ t, nextB ws on m n = t := ⟨_, rfl⟩
      rw [ht] at t1 t2 t3 t4 ⊢
      have hsm : s < m := by
        rcases Nat.lt_or_ge s m with h | h
        · exact h
        · have he : m = s := by omega
          have h5 := m3 (by omega)
          rw [he, h2 hs] at h5
          cases on <;> cases h5
      have hm5 : m = n ∨ btW ws m ≠ on := by
        by_cases h : m < n
        · right; rw [m3 h]; cases on <;> simp
        · left; omega
      have hmt : m < t ∨ m = n := by
        rcases hm5 with h | h
        · exact .inr h
        · by_cases h6 : m = n
          · exact .inr h6
          · rcases Nat.lt_or_ge m t with h7 | h7
            · exact .inl h7
            · have he : t = m := by omega
              have := t3 (by omega)
              rw [he] at this
              exact absurd this h
      obtain ⟨i1, i2, i3⟩ := runsF_all ws on n f t t2 t3 (by omega)
      refine ⟨fun r hr => ?_, List.pairwise_cons.2 ⟨fun r hr => ?_, i2⟩, fun x hx1 hx2 hx3 => ?_⟩
      · rcases List.mem_cons.1 hr with rfl | hr
        · refine ⟨Nat.le_refl _, hsm, m2, fun i h6 h7 => ?_, hm5⟩
          have := m4 i h6 h7
          cases on <;> cases h8 : btW ws i <;> simp_all
        · obtain ⟨j1, j2, j3, j4, j5⟩ := i1 r hr
          exact ⟨by omega, j2, j3, j4, j5⟩
      · obtain ⟨j1, j2, j3, _⟩ := i1 r hr
        show m < r.1
        omega
      · by_cases hxm : x < m
        · exact ⟨_, List.mem_cons_self, hx1, hxm⟩
        · have hxt : t ≤ x := by
            rcases Nat.lt_or_ge x t with h | h
            · exact absurd hx3 (t4 x (by omega) h)
            · exact h
          obtain ⟨r, hr, h6⟩ := i3 x hxt hx2 hx3
          exact ⟨r, List.mem_cons_of_mem _ hr, h6⟩
    · rw [if_neg hs]
      exact ⟨fun r hr => (by cases hr), List.Pairwise.nil, fun x hx1 hx2 _ => by omega⟩
theorem runsL_all (ws : List Nat) (on : Bool) (n : Nat) :
    (∀ r ∈ runsL ws on 0 n, r.1 < r.2 ∧ r.2 ≤ n ∧ (∀ i, r.1 ≤ i → i < r.2 → btW ws i = on) ∧ (r.2 = n ∨ btW ws r.2 ≠ on)) ∧
    (runsL ws on 0 n).Pairwise (fun a b => a.2 < b.1) ∧ (∀ x, x < n → btW ws x = on → ∃ r ∈ runsL ws on 0 n, r.1 ≤ x ∧ x < r.2) := by
  obtain ⟨m1, m2, m3, m4⟩ := nextB_spec ws on 0 n (Nat.zero_le _)
  obtain ⟨i1, i2, i3⟩ := runsF_all ws on n (n + 1) (nextB ws on 0 n) m2 m3 (by omega)
  refine ⟨fun r hr => (i1 r hr).2, i2, fun x hx1 hx2 => ?_⟩
  rcases Nat.lt_or_ge x (nextB ws on 0 n) with h | h
  · exact absurd hx2 (m4 x (Nat.zero_le _) h)
  · exact i3 x h hx1 hx2

/-- s clear bits begin at x. -/
def Clear (ws : List Nat) (n x s : Nat) : Prop := x + s ≤ n ∧ ∀ i, x ≤ i → i < x + s → btW ws i = false
theorem Clear.hits {ws : List Nat} {n x s : Nat} (h : Clear ws n x s) : (hits ws true x (x + s)).length = 0 := by
  rw [List.length_eq_zero_iff, List.eq_nil_iff_forall_not_mem]
  intro i hi
  obtain ⟨h1, h2, h3⟩ := (hits_mem _ _ _ _ _).1 hi
  rw [h.2 i h1 h2] at h3; cases h3
theorem in_run {ws : List Nat} {n x s : Nat} (hs : 1 ≤ s) (h : Clear ws n x s) : ∃ r ∈ runsL ws false 0 n, r.1 ≤ x ∧ x + s ≤ r.2 := by
  obtain ⟨i1, _, i3⟩ := runsL_all ws false n
  obtain ⟨r, hr, h1, h2⟩ := i3 x (by have := h.1; omega) (h.2 x (Nat.le_refl _) (by omega))
  obtain ⟨j1, j2, j3, j4⟩ := i1 r hr
  refine ⟨r, hr, h1, ?_⟩
  rcases Nat.lt_or_ge r.2 (x + s) with h5 | h5
  · rcases j4 with h6 | h6
    · have := h.1; omega
    · exact absurd (h.2 r.2 (by omega) h5) h6
  · exact h5
theorem run_clear {ws : List Nat} {n s : Nat} {r : Nat × Nat} (hr : r ∈ runsL ws false 0 n) (hs : s ≤ r.2 - r.1) : Clear ws n r.1 s := by
  obtain ⟨j1, j2, j3, _⟩ := (runsL_all ws false n).1 r hr
  exact ⟨by omega, fun i h1 h2 => j3 i h1 (by omega)⟩
theorem fit_some {ws : List Nat} {n s j : Nat} (hs : 1 ≤ s) (h : fitL (runsL ws false 0 n) s = some j) : Clear ws n j s ∧ ∀ x, x < j → ¬ Clear ws n x s := by
  unfold fitL at h
  obtain ⟨r, hr, rfl⟩ := Option.map_eq_some_iff.1 h
  obtain ⟨hp, pre, bs, he, ha⟩ := List.find?_eq_some_iff_append.1 hr
  have hm : r ∈ runsL ws false 0 n := by rw [he]; simp
  have hp' : s ≤ r.2 - r.1 := by simpa using hp
  refine ⟨run_clear hm hp', fun x hx hc => ?_⟩
  obtain ⟨r', hr', h1, h2⟩ := in_run hs hc
  have hpw := (runsL_all ws false n).2.1
  rw [he] at hr' hpw
  rcases List.mem_append.1 hr' with h3 | h3
  · have := ha r' h3
    simp at this; omega
  · rcases List.mem_cons.1 h3 with rfl | h3
    · omega
    · have := (List.pairwise_cons.1 (List.pairwise_append.1 hpw).2.1).1 r' h3
      have := (runsL_all ws false n).1 r hm
      omega
theorem fit_none {ws : List Nat} {n s : Nat} (hs : 1 ≤ s) (h : fitL (runsL ws false 0 n) s = none) (x : Nat) : ¬ Clear ws n x s := by
  intro hc
  obtain ⟨r, hr, h1, h2⟩ := in_run hs hc
  unfold fitL at h
  rw [Option.map_eq_none_iff, List.find?_eq_none] at h
  have := h r hr
  simp at this; omega
theorem bfold_is (s : Nat) (hs : s ≥ 1) : ∀ (l : List (Nat × Nat)) (p : Nat × Nat), (∀ r ∈ l, r.2 ≤ 4096) →
    (l.foldl (bstep s) p = p ∧ (p.2 = 4097 → ∀ r ∈ l, r.2 - r.1 < s)) ∨ ∃ r ∈ l, l.foldl (bstep s) p = (r.1, r.2 - r.1) ∧ s ≤ r.2 - r.1
  | [], p, _ => .inl ⟨rfl, fun _ r hr => by cases hr⟩
  | r :: l, p, h => by
    have hr := h r List.mem_cons_self
    have hl : ∀ x ∈ l, x.2 ≤ 4096 := fun x hx => h x (List.mem_cons_of_mem _ hx)
    rw [List.foldl_cons]
    by_cases hb : s ≤ r.2 - r.1 ∧ r.2 - r.1 < p.2
    · have e : bstep s p r = (r.1, r.2 - r.1) := by unfold bstep; rw [if_pos hb]
      rw [e]
      rcases bfold_is s hs l (r.1, r.2 - r.1) hl with ⟨h1, _⟩ | ⟨x, hx, h1⟩
      · exact .inr ⟨r, List.mem_cons_self, h1, hb.1⟩
      · exact .inr ⟨x, List.mem_cons_of_mem _ hx, h1⟩
    · have e : bstep s p r = p := by unfold bstep; rw [if_neg hb]
      rw [e]
      rcases bfold_is s hs l p hl with ⟨h1, h2⟩ | ⟨x, hx, h1⟩
      · refine .inl ⟨h1, fun hp x hx => ?_⟩
        rcases List.mem_cons.1 hx with rfl | hx
        · rw [hp] at hb; omega
        · exact h2 hp x hx
      · exact .inr ⟨x, List.mem_cons_of_mem _ hx, h1⟩
theorem best_some {ws : List Nat} {n s : Nat} (hn : n ≤ 4096) (hs : 1 ≤ s) (h : ¬ 4096 < (bfold s (runsL ws false 0 n)).2) : Clear ws n (bfold s (runsL ws false 0 n)).1 s := by
  have hl : ∀ r ∈ runsL ws false 0 n, r.2 ≤ 4096 := fun r hr => by have := ((runsL_all ws false n).1 r hr).2.1; omega
  unfold bfold at h ⊢
  rcases bfold_is s hs (runsL ws false 0 n) (0, 4097) hl with ⟨h1, _⟩ | ⟨r, hr, h1, h2⟩
  · rw [h1] at h; exact absurd (show 4096 < 4097 by omega) h
  · rw [h1]; exact run_clear (r := r) hr h2
theorem best_none {ws : List Nat} {n s : Nat} (hn : n ≤ 4096) (hs : 1 ≤ s) (h : 4096 < (bfold s (runsL ws false 0 n)).2) : fitL (runsL ws false 0 n) s = none := by
  have hl : ∀ r ∈ runsL ws false 0 n, r.2 ≤ 4096 := fun r hr => by have := ((runsL_all ws false n).1 r hr).2.1; omega
  unfold fitL
  rw [Option.map_eq_none_iff, List.find?_eq_none]
  unfold bfold at h
  rcases bfold_is s hs (runsL ws false 0 n) (0, 4097) hl with ⟨_, h2⟩ | ⟨r, hr, h1, h2⟩
  · intro r hr; have := h2 rfl r hr; simp; omega
  · rw [h1] at h; have := hl r hr; simp only at h; omega
theorem block_some {ws : List Nat} {sz n : Nat} (hz : 1 ≤ sz) : ∀ (f b j : Nat), b % sz = 0 → blkF ws sz n f b = some j → j % sz = 0 ∧ Clear ws n j sz
  | 0, _, _, _, h => by cases h
  | f + 1, b, j, hb, h => by
    unfold blkF at h
    split at h
    · rename_i h1
      split at h
      · rename_i h2
        cases h
        refine ⟨hb, h1, fun i h3 h4 => ?_⟩
        have h5 : hits ws true b (b + sz) = [] := by simpa using h2
        cases h6 : btW ws i with
        | false => rfl
        | true => have := (hits_mem ws true b (b + sz) i).2 ⟨h3, h4, h6⟩; rw [h5] at this; cases this
      · exact block_some hz f _ j (by rw [Nat.add_mod_right]; exact hb) h
    · cases h
theorem next_hit {ws : List Nat} {n x s : Nat} (hc : checkB n ws = 0) (hx : x + s ≤ n) (h : ¬ Clear ws n x s) : ∃ y : Nat, nextX n ws x true = ((y : Int), 0) ∧ y < x + s := by
  have hex : ∃ i, x ≤ i ∧ i < x + s ∧ btW ws i = true := by
    apply Classical.byContradiction
    intro hn
    refine h ⟨hx, fun i h1 h2 => ?_⟩
    cases hb : btW ws i with
    | false => rfl
    | true => exact absurd ⟨i, h1, h2, hb⟩ hn
  obtain ⟨i, h1, h2, h3⟩ := hex
  have hm := (hits_mem ws true x n i).2 ⟨h1, by omega, h3⟩
  cases hh : hits ws true x n with
  | nil => rw [hh] at hm; cases hm
  | cons y l =>
    refine ⟨y, nextX_some hc (by omega) (by rw [hh]; rfl), ?_⟩
    have hp := hits_pairwise ws true x n
    rw [hh] at hm hp
    rcases List.mem_cons.1 hm with rfl | hm
    · exact h2
    · have := (List.pairwise_cons.1 hp).1 i hm; omega
end Go.Proofs.YtpplleojdcgceaaDoor
