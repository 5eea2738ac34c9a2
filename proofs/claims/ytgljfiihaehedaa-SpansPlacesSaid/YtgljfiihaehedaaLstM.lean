/- The plain mathematics of SpansLeast. -/
import Derived.Test.YtgljfiihaehedaaLst
import Derived.Test.YtgljfiihaehedaaAskM
namespace Go.Proofs.Ytgljfiihaehedaa

theorem algn_ge (p al : Nat) (h : 1 ≤ al) : p ≤ algn p al := by
  unfold algn
  have h1 := Nat.div_add_mod (p + al - 1) al
  have h2 := Nat.mod_lt (p + al - 1) (show al > 0 by omega)
  rw [Nat.mul_comm] at h1
  omega
theorem algn_mod (p al : Nat) : algn p al % al = 0 := by unfold algn; exact Nat.mul_mod_left _ _
theorem algn_least (p al q : Nat) (h : 1 ≤ al) (hq : q % al = 0) (hp : p ≤ q) : algn p al ≤ q := by
  unfold algn
  have h1 := Nat.div_add_mod q al
  rw [hq, Nat.add_zero, Nat.mul_comm] at h1
  have h2 : (p + al - 1) / al ≤ q / al := by
    have h3 : p + al - 1 ≤ q / al * al + (al - 1) := by omega
    have h4 : (p + al - 1) / al ≤ (q / al * al + (al - 1)) / al := Nat.div_le_div_right h3
    rw [Nat.add_comm (q / al * al) (al - 1), Nat.add_mul_div_right _ _ (show 0 < al by omega), Nat.div_eq_of_lt (show al - 1 < al by omega), Nat.zero_add] at h4
    exact h4
  calc (p + al - 1) / al * al ≤ q / al * al := Nat.mul_le_mul_right _ h2
    _ = q := h1
theorem filter_first {f : Sp → Bool} : ∀ {L : List Sp} {a : Nat} {x : Sp} {F : List Sp}, SetL a L → L.filter f = x :: F → ∀ y ∈ x :: F, x.1 ≤ y.1
  | [], _, _, _, _, h, _, _ => by simp at h
  | z :: L, a, x, F, hs, h, y, hy => by
    obtain ⟨h1, h2, h3, h4⟩ := hs
    by_cases hz : f z = true
    · rw [List.filter_cons_of_pos hz] at h
      obtain ⟨e1, e2⟩ := List.cons.inj h
      subst e1
      rcases List.mem_cons.1 hy with e3 | hy
      · rw [e3]; exact Nat.le_refl _
      · rw [← e2] at hy
        have := (h4.lo y (List.mem_filter.1 hy).1).1
        omega
    · rw [List.filter_cons_of_neg hz] at h
      exact filter_first h4 h y hy
theorem wit_of {L : List Sp} (hL : SetL 0 L) {y : Sp} (hy : y ∈ L) {p : Nat} (h1 : y.1 ≤ p) (h2 : p < y.1 + y.2) : witF L p = y.2 := by
  unfold witF
  cases hf : L.find? (fun x => decide (x.1 ≤ p) && decide (p < x.1 + x.2)) with
  | none =>
    have := List.find?_eq_none.1 hf y hy
    simp at this; omega
  | some z =>
    have hz := List.find?_some hf
    have hm := List.mem_of_find?_eq_some hf
    simp at hz
    rcases set_sep hL y hy z hm with e | e | e
    · rw [e]
    · omega
    · omega
theorem pl_iff (L : List Sp) (m al p : Nat) (hL : SetL 0 L) : plB L m al p = true ↔ p % al = 0 ∧ ∃ y ∈ L, y.1 ≤ p ∧ p + m ≤ y.1 + y.2 := by
  unfold plB
  simp only [Bool.and_eq_true, decide_eq_true_eq, List.any_eq_true]
  constructor
  · rintro ⟨⟨_, h1⟩, y, hy, h2⟩
    unfold hasOne at h2
    simp at h2
    exact ⟨h1, y, hy, by omega, by omega⟩
  · rintro ⟨h1, y, hy, h2, h3⟩
    have := hL.val y hy
    refine ⟨⟨by omega, h1⟩, y, hy, ?_⟩
    unfold hasOne
    simp
    omega
theorem pl_fit {L : List Sp} (hL : SetL 0 L) {m al : Nat} (hm : 1 ≤ m) (ha : 1 ≤ al) {z : Sp} (hz : z ∈ L.filter (fits m al)) : plB L m al (algn z.1 al) = true ∧ witF L (algn z.1 al) = z.2 := by
  obtain ⟨hzL, hf⟩ := List.mem_filter.1 hz
  unfold fits at hf
  simp at hf
  have hge := algn_ge z.1 al ha
  exact ⟨(pl_iff L m al _ hL).2 ⟨algn_mod _ _, z, hzL, hge, by omega⟩, wit_of hL hzL hge (by omega)⟩
theorem pl_least {L : List Sp} (hL : SetL 0 L) {m al : Nat} (hm : 1 ≤ m) (ha : 1 ≤ al) {x : Sp} {F : List Sp} (hF : L.filter (fits m al) = x :: F) {p : Nat} (hp : plB L m al p = true) : algn x.1 al ≤ p ∧ (F.foldl minS x).2 ≤ witF L p := by
  obtain ⟨h1, y, hy, h2, h3⟩ := (pl_iff L m al p hL).1 hp
  have h4 := algn_least y.1 al p ha h1 h2
  have hyF : y ∈ x :: F := by rw [← hF]; exact List.mem_filter.2 ⟨hy, by unfold fits; simp; omega⟩
  refine ⟨?_, ?_⟩
  · have h5 := filter_first hL hF y hyF
    exact algn_least x.1 al p ha h1 (by omega)
  · rw [wit_of hL hy h2 (by omega)]
    exact minS_le F x y hyF
theorem pl_none {L : List Sp} (hL : SetL 0 L) {m al : Nat} (ha : 1 ≤ al) (hF : L.filter (fits m al) = []) (p : Nat) : plB L m al p = false := by
  cases hp : plB L m al p with
  | false => rfl
  | true =>
    obtain ⟨h1, y, hy, h2, h3⟩ := (pl_iff L m al p hL).1 hp
    have h4 := algn_least y.1 al p ha h1 h2
    have : y ∈ L.filter (fits m al) := List.mem_filter.2 ⟨hy, by unfold fits; simp; omega⟩
    rw [hF] at this; cases this
theorem fitE_ne (l : List SpI) (m a : Int) : fitE l m a ≠ 4 := by
  unfold fitE chkS chkL
  repeat' split
  all_goals first | decide | simp_all
theorem fitE_ok {l : List SpI} {m a : Int} (h : fitE l m a = 0) : ∃ (L : List Sp) (m' al : Nat), l = toI L ∧ SetL 0 L ∧ m = (m' : Int) ∧ a = (al : Int) ∧ 1 ≤ m' ∧ m' ≤ 1024 ∧ 1 ≤ al ∧ al ≤ 1024 ∧ alB (al : Int) = true := by
  unfold fitE at h
  by_cases h1 : chkS l = 0
  · rw [if_neg (by simp [h1])] at h
    obtain ⟨L, rfl, hL⟩ := chkS_ok h1
    by_cases h2 : (decide (m < 1) || decide (1024 < m) || !alB a) = true
    · rw [if_pos h2] at h; cases h
    · simp at h2
      obtain ⟨al, rfl, b1, b2⟩ := alB_nat h2.2
      exact ⟨L, m.toNat, al, rfl, hL, by omega, rfl, by omega, by omega, b1, b2, h2.2⟩
  · rw [if_pos h1] at h; exact absurd h h1
end Go.Proofs.Ytgljfiihaehedaa
