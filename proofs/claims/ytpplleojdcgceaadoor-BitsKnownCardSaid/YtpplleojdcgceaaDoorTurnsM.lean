/- Runs of set and of clear bits, in turn. -/
import Derived.Test.YtpplleojdcgceaaDoorSearchM
import Derived.Test.YtpplleojdcgceaaDoorRuns
namespace Go.Proofs.YtpplleojdcgceaaDoor
open Go.RowKit

theorem runsF_fuel (ws : List Nat) (on : Bool) (n : Nat) : ∀ (f f' s : Nat), s ≤ n → (s < n → btW ws s = on) → n < s + f → n < s + f' → runsF ws on n f s = runsF ws on n f' s
  | 0, _, s, h1, _, h3, _ => by omega
  | _ + 1, 0, s, h1, _, _, h4 => by omega
  | f + 1, f' + 1, s, h1, h2, h3, h4 => by
    unfold runsF
    by_cases hs : s < n
    · rw [if_pos hs, if_pos hs]
      obtain ⟨m1, m2, m3, m4⟩ := nextB_spec ws (!on) s n h1
      obtain ⟨t1, t2, t3, t4⟩ := nextB_spec ws on (nextB ws (!on) s n) n m2
      have hsm : s < nextB ws (!on) s n := by
        rcases Nat.lt_or_ge s (nextB ws (!on) s n) with h | h
        · exact h
        · have he : nextB ws (!on) s n = s := by omega
          have h5 := m3 (by omega)
          rw [he, h2 hs] at h5
          cases on <;> cases h5
      rw [runsF_fuel ws on n f f' _ t2 t3 (by omega) (by omega)]
    · rw [if_neg hs, if_neg hs]
theorem runsL_end (ws : List Nat) (on : Bool) (n : Nat) : runsL ws on n n = [] := by
  unfold runsL
  obtain ⟨m1, m2, _, _⟩ := nextB_spec ws on n n (Nat.le_refl n)
  unfold runsF
  rw [if_neg (by omega)]
/-- One turn. -/
theorem turn_step (ws : List Nat) (n a : Nat) (b : Bool) (ha : a < n) (hb : btW ws a = b) : ∃ e, a < e ∧ e ≤ n ∧ (∀ i, a ≤ i → i < e → btW ws i = b) ∧ (e < n → btW ws e = !b) ∧
    runsL ws b a n = (a, e) :: runsL ws b e n ∧ runsL ws (!b) a n = runsL ws (!b) e n := by
  obtain ⟨m1, m2, m3, m4⟩ := nextB_spec ws (!b) a n (by omega)
  obtain ⟨s1, s2, s3, s4⟩ := nextB_spec ws b a n (by omega)
  obtain ⟨e, he⟩ : ∃ e, nextB ws (!b) a n = e := ⟨_, rfl⟩
  rw [he] at m1 m2 m3 m4
  have hsa : nextB ws b a n = a := by
    rcases Nat.lt_or_ge a (nextB ws b a n) with h | h
    · exact absurd hb (s4 a (Nat.le_refl a) h)
    · omega
  have hae : a < e := by
    rcases Nat.lt_or_ge a e with h | h
    · exact h
    · have h1 : e = a := by omega
      have h5 := m3 (by omega)
      rw [h1, hb] at h5
      cases b <;> cases h5
  obtain ⟨t1, t2, t3, t4⟩ := nextB_spec ws b e n m2
  obtain ⟨q1, q2, q3, q4⟩ := nextB_spec ws (!b) e n m2
  have hq : nextB ws (!b) e n = e := by
    by_cases h : e < n
    · rcases Nat.lt_or_ge e (nextB ws (!b) e n) with h2 | h2
      · exact absurd (m3 h) (q4 e (Nat.le_refl e) h2)
      · omega
    · omega
  refine ⟨e, hae, m2, fun i h1 h2 => ?_, m3, ?_, ?_⟩
  · have := m4 i h1 h2
    cases b <;> cases h8 : btW ws i <;> simp_all
  · unfold runsL
    rw [hsa]
    conv => lhs; unfold runsF
    rw [if_pos ha, he, runsF_fuel ws b n n (n + 1) _ t2 t3 (by omega) (by omega)]
  · unfold runsL
    rw [he, hq]
theorem hits_turn (ws : List Nat) (n a e : Nat) (b : Bool) (h1 : a ≤ e) (h2 : e ≤ n) (h : ∀ i, a ≤ i → i < e → btW ws i = b) : (hits ws true a n).length = (if b then e - a else 0) + (hits ws true e n).length := by
  rw [hits_split ws true a e n h1 h2, List.length_append]
  congr 1
  have hb : hits ws b a e = List.range' a (e - a) := by
    unfold hits
    rw [List.filter_eq_self]
    intro i hi
    rw [List.mem_range'_1] at hi
    simp [h i hi.1 (by omega)]
  cases b with
  | true => rw [hb, List.length_range']; rfl
  | false =>
    have := hits_len ws a e
    rw [hb, List.length_range'] at this
    simp; simpa using (show (hits ws true a e).length = 0 by omega)

/-- Where the walk along both lists stands. -/
structure Turn (ws : List Nat) (n a i k : Nat) : Prop where
  le : a ≤ n
  l : (runsL ws true 0 n).drop i = runsL ws true a n
  m : (runsL ws false 0 n).drop k = runsL ws false a n
  start : a = 0 → i = 0 ∧ k = 0
  lastT : 0 < a → a < n → btW ws a = true → 0 < k ∧ ((runsL ws false 0 n)[k - 1]?).map (·.2) = some a
  lastF : 0 < a → a < n → btW ws a = false → 0 < i ∧ ((runsL ws true 0 n)[i - 1]?).map (·.2) = some a
theorem Turn.zero (ws : List Nat) (n : Nat) : Turn ws n 0 0 0 := ⟨Nat.zero_le _, rfl, rfl, fun _ => ⟨rfl, rfl⟩, fun h => absurd h (by omega), fun h => absurd h (by omega)⟩
theorem drop_head {α : Type} {l : List α} {i : Nat} {x : α} {r : List α} (h : l.drop i = x :: r) : l[i]? = some x ∧ l.drop (i + 1) = r ∧ i < l.length := by
  have h1 : l[i]? = some x := by rw [← List.head?_drop, h]; rfl
  refine ⟨h1, ?_, (List.getElem?_eq_some_iff.1 h1).1⟩
  have : l.drop (i + 1) = (l.drop i).drop 1 := by rw [List.drop_drop]
  rw [this, h]; rfl
theorem drop_nil {α : Type} {l : List α} {i : Nat} (h : l.drop i = []) : l.length ≤ i := List.drop_eq_nil_iff.1 h
theorem Turn.stop {ws : List Nat} {n i k : Nat} (h : Turn ws n n i k) : (runsL ws true 0 n).length ≤ i ∧ (runsL ws false 0 n).length ≤ k :=
  ⟨drop_nil (h.l.trans (runsL_end ws true n)), drop_nil (h.m.trans (runsL_end ws false n))⟩
theorem head_far (ws : List Nat) (on : Bool) (n e : Nat) (he : e ≤ n) (r : Nat × Nat) (h : (runsL ws on e n).head? = some r) : e ≤ r.1 := by
  obtain ⟨m1, m2, m3, m4⟩ := nextB_spec ws on e n he
  have := (runsF_all ws on n (n + 1) (nextB ws on e n) m2 m3 (by omega)).1 r (List.mem_of_mem_head? (by unfold runsL at h; rw [h]; rfl))
  omega
theorem Turn.onT {ws : List Nat} {n a i k : Nat} (h : Turn ws n a i k) (ha : a < n) (hb : btW ws a = true) : ∃ e, a < e ∧ e ≤ n ∧ (runsL ws true 0 n)[i]? = some (a, e) ∧ i < (runsL ws true 0 n).length ∧
    (hits ws true a n).length = e - a + (hits ws true e n).length ∧ ((a = 0 ∧ k = 0) ∨ (0 < a ∧ 0 < k ∧ ((runsL ws false 0 n)[k - 1]?).map (·.2) = some a)) ∧ Turn ws n e (i + 1) k := by
  obtain ⟨e, h1, h2, h3, h4, h5, h6⟩ := turn_step ws n a true ha hb
  obtain ⟨q1, q2, q3⟩ := drop_head (h.l.trans h5)
  refine ⟨e, h1, h2, q1, q3, by have := hits_turn ws n a e true (by omega) h2 h3; simpa using this, ?_, ⟨h2, q2, h.m.trans h6, fun h0 => by omega, fun _ h7 h8 => ?_, fun _ _ _ => ⟨by omega, by rw [Nat.add_sub_cancel, q1]; rfl⟩⟩⟩
  · by_cases h0 : a = 0
    · exact .inl ⟨h0, (h.start h0).2⟩
    · exact .inr ⟨by omega, h.lastT (by omega) ha hb⟩
  · rw [h4 h7] at h8; cases h8
theorem Turn.onF {ws : List Nat} {n a i k : Nat} (h : Turn ws n a i k) (ha : a < n) (hb : btW ws a = false) : ∃ e, a < e ∧ e ≤ n ∧ (runsL ws false 0 n)[k]? = some (a, e) ∧ k < (runsL ws false 0 n).length ∧
    (hits ws true a n).length = (hits ws true e n).length ∧ ((a = 0 ∧ i = 0) ∨ (0 < a ∧ 0 < i ∧ ((runsL ws true 0 n)[i - 1]?).map (·.2) = some a)) ∧ (∀ r, (runsL ws true 0 n)[i]? = some r → a < r.1) ∧ Turn ws n e i (k + 1) := by
  obtain ⟨e, h1, h2, h3, h4, h5, h6⟩ := turn_step ws n a false ha hb
  obtain ⟨q1, q2, q3⟩ := drop_head (h.m.trans h5)
  refine ⟨e, h1, h2, q1, q3, by have := hits_turn ws n a e false (by omega) h2 h3; simpa using this, ?_, fun r hr => ?_, ⟨h2, h.l.trans h6, q2, fun h0 => by omega, fun _ _ _ => ⟨by omega, by rw [Nat.add_sub_cancel, q1]; rfl⟩, fun _ h7 h8 => ?_⟩⟩
  · by_cases h0 : a = 0
    · exact .inl ⟨h0, (h.start h0).1⟩
    · exact .inr ⟨by omega, h.lastF (by omega) ha hb⟩
  · rw [← List.head?_drop, h.l.trans h6] at hr
    have := head_far ws true n e h2 r hr; omega
  · rw [h4 h7] at h8; cases h8
theorem rowR_at (l : List (Nat × Nat)) : ∀ (i : Nat) (r : Nat × Nat), l[i]? = some r → (rowR l)[2 * i]? = some (.int .i64 (r.1 : Int)) ∧ (rowR l)[2 * i + 1]? = some (.int .i64 (r.2 : Int)) := by
  induction l with
  | nil => intro i r h; simp at h
  | cons x l ih =>
    intro i r h
    cases i with
    | zero => simp at h; subst h; exact ⟨rfl, rfl⟩
    | succ i =>
      have := ih i r (by simpa using h)
      rw [show 2 * (i + 1) = 2 * i + 2 by omega]
      exact this
end Go.Proofs.YtpplleojdcgceaaDoor
