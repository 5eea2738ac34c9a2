/- Lists and their best texts: what is read, what is written, and that none is shorter. No program stands in it. -/
import Derived.Test.YtdcgfbebeiheiaaGreatDoorBdI
import Derived.Test.YtdcgfbebeiheiaaGreatDoorList
import Derived.Lib.IndexMore
import Derived.Lib.IndexLaws
namespace Go.Proofs.YtdcgfbebeiheiaaGreatDoor
open Go

/-- A text as a number: texts of one length are compared so. -/
def vl (l : List UInt8) : Nat := l.foldl (fun a c => a * 256 + c.toNat) 0
theorem vl_fold : ∀ (l : List UInt8) (a : Nat), l.foldl (fun a c => a * 256 + c.toNat) a = a * 256 ^ l.length + vl l
  | [], a => by simp [vl]
  | c :: l, a => by
    have h1 := vl_fold l (a * 256 + c.toNat)
    have h2 := vl_fold l (0 * 256 + c.toNat)
    unfold vl at h2 ⊢
    rw [List.foldl_cons, List.foldl_cons, h1, h2, List.length_cons, Nat.pow_succ, Nat.add_mul, Nat.add_mul]
    unfold vl
    rw [show a * 256 * 256 ^ l.length = a * (256 ^ l.length * 256) by rw [Nat.mul_assoc, Nat.mul_comm 256]]
    omega
theorem vl_cons (c : UInt8) (l : List UInt8) : vl (c :: l) = c.toNat * 256 ^ l.length + vl l := by
  have := vl_fold l (0 * 256 + c.toNat)
  unfold vl at this ⊢
  rw [List.foldl_cons, this]; simp
theorem vl_append (p r : List UInt8) : vl (p ++ r) = vl p * 256 ^ r.length + vl r := by
  unfold vl
  rw [List.foldl_append, vl_fold]; rfl
theorem vl_lt : ∀ l : List UInt8, vl l < 256 ^ l.length
  | [] => by simp [vl]
  | c :: l => by
    have h1 := vl_lt l
    have h2 := c.toNat_lt
    rw [vl_cons, List.length_cons, Nat.pow_succ]
    have h3 : (c.toNat + 1) * 256 ^ l.length ≤ 256 * 256 ^ l.length := Nat.mul_le_mul_right _ (by omega)
    rw [Nat.add_mul] at h3
    omega
theorem less_vl : ∀ (a b : List UInt8), a.length = b.length → (Op.bytesLess a b = true ↔ vl a < vl b)
  | [], [], _ => by simp [Op.bytesLess]
  | [], _ :: _, h => by simp at h
  | _ :: _, [], h => by simp at h
  | a :: x, b :: y, h => by
    have hl : x.length = y.length := by simpa using h
    have ih := less_vl x y hl
    have hx := vl_lt x
    have hy := vl_lt y
    rw [hl] at hx
    rw [Op.bytesLess, vl_cons, vl_cons, hl]
    generalize 256 ^ y.length = P at hx hy
    simp only [Bool.or_eq_true, Bool.and_eq_true, decide_eq_true_eq, beq_iff_eq, UInt8.lt_iff_toNat_lt]
    rw [ih]
    rcases Nat.lt_trichotomy a.toNat b.toNat with hab | hab | hab
    · have : (a.toNat + 1) * P ≤ b.toNat * P := Nat.mul_le_mul_right _ hab
      rw [Nat.add_mul] at this
      constructor
      · intro _; omega
      · intro _; exact .inl hab
    · rw [hab]
      have e : a = b := UInt8.toNat_inj.1 hab
      constructor
      · rintro (h1 | ⟨_, h1⟩) <;> omega
      · intro h1; exact .inr ⟨e, by omega⟩
    · have : (b.toNat + 1) * P ≤ a.toNat * P := Nat.mul_le_mul_right _ hab
      rw [Nat.add_mul] at this
      constructor
      · rintro (h1 | ⟨e, _⟩)
        · omega
        · rw [e] at hab; omega
      · intro h1; omega
theorem vl_inj : ∀ (a b : List UInt8), a.length = b.length → vl a = vl b → a = b
  | [], [], _, _ => rfl
  | [], _ :: _, h, _ => by simp at h
  | _ :: _, [], h, _ => by simp at h
  | a :: x, b :: y, h, hv => by
    have hl : x.length = y.length := by simpa using h
    have hx := vl_lt x
    have hy := vl_lt y
    rw [hl] at hx
    rw [vl_cons, vl_cons, hl] at hv
    have key : a.toNat = b.toNat := by
      generalize 256 ^ y.length = P at hx hy hv
      rcases Nat.lt_trichotomy a.toNat b.toNat with hab | hab | hab
      · have : (a.toNat + 1) * P ≤ b.toNat * P := Nat.mul_le_mul_right _ hab
        rw [Nat.add_mul] at this; omega
      · exact hab
      · have : (b.toNat + 1) * P ≤ a.toNat * P := Nat.mul_le_mul_right _ hab
        rw [Nat.add_mul] at this; omega
    rw [key] at hv
    rw [UInt8.toNat_inj.1 key, vl_inj x y hl (by omega)]
/-- Shorter, or as long and first. -/
def bf (a b : List UInt8) : Prop := a.length < b.length ∨ a.length = b.length ∧ vl a < vl b
def le (a b : List UInt8) : Prop := a.length < b.length ∨ a.length = b.length ∧ vl a ≤ vl b
theorem le_not {a b : List UInt8} (h : ¬ bf a b) : le b a := by unfold bf at h; unfold le; omega
theorem le_refl' (a : List UInt8) : le a a := by unfold le; omega
theorem le_tr {a b c : List UInt8} (h : le a b) (k : le b c) : le a c := by unfold le at *; omega
theorem bf_le {a b : List UInt8} (h : bf a b) : le a b := by unfold bf at h; unfold le; omega
theorem beforeB_bf (a b : List UInt8) : beforeB a b = true ↔ bf a b := by
  unfold beforeB bf
  by_cases h : a.length = b.length
  · rw [if_pos h, less_vl a b h]; omega
  · rw [if_neg h, decide_eq_true_eq]; omega
theorem beforeA_bf (a b : BA) : beforeA a b = true ↔ bf a.data.toList b.data.toList := by
  unfold beforeA bf
  have ha := Lib.size_eq a
  have hb := Lib.size_eq b
  rw [Lib.toList_data, Lib.toList_data]
  by_cases h : a.size = b.size
  · rw [if_pos h, less_vl _ _ (by omega)]; omega
  · rw [if_neg h, decide_eq_true_eq]; omega
/-- An item, and behind a comma the rest. -/
def cnd (r t : List UInt8) : List UInt8 := if r = [] then t else t ++ 44 :: r
theorem cnd_mono {r1 r2 t : List UInt8} (h : le r1 r2) (h1 : r1 ≠ []) (h2 : r2 ≠ []) : le (cnd r1 t) (cnd r2 t) := by
  unfold cnd
  rw [if_neg h1, if_neg h2]
  have e : ∀ r : List UInt8, t ++ 44 :: r = (t ++ [44]) ++ r := fun r => by simp
  unfold le at h ⊢
  rw [e r1, e r2, vl_append (t ++ [44]) r1, vl_append (t ++ [44]) r2, List.length_append (bs := r1), List.length_append (bs := r2)]
  rcases h with h | ⟨h, k⟩
  · exact .inl (by omega)
  · rw [h]; exact .inr ⟨rfl, by omega⟩

/-- Cut at a byte. -/
theorem ix_none : ∀ (l : List UInt8) (c : UInt8), c ∉ l → Lib.index l [c] = -1
  | [], _, _ => rfl
  | b :: l, c, h => by
    have h1 : ¬ c = b := fun e => h (by simp [e])
    have h2 := ix_none l c (fun e => h (by simp [e]))
    rw [Lib.index, if_neg (by simp [List.isPrefixOf, h1]), h2]; rfl
theorem ix_some : ∀ (a b : List UInt8) (c : UInt8), c ∉ a → Lib.index (a ++ c :: b) [c] = (a.length : Int)
  | [], b, c, _ => by rw [List.nil_append, Lib.index, if_pos (by simp)]; rfl
  | x :: a, b, c, h => by
    have h1 : ¬ c = x := fun e => h (by simp [e])
    have h2 := ix_some a b c (fun e => h (by simp [e]))
    rw [List.cons_append, Lib.index, if_neg (by simp [List.isPrefixOf, h1]), h2, if_neg (by intro e; have := eq_of_beq e; omega)]
    simp
theorem cut_none {l : List UInt8} {c : UInt8} (h : c ∉ l) : Lib.cut l [c] = (l, [], false) := by
  unfold Lib.cut; rw [ix_none l c h, if_neg (by decide)]
theorem cut_some {a b : List UInt8} {c : UInt8} (h : c ∉ a) : Lib.cut (a ++ c :: b) [c] = (a, b, true) := by
  unfold Lib.cut
  rw [ix_some a b c h, if_pos (by omega), Int.toNat_natCast, List.take_left' rfl]
  have e : (a ++ c :: b).drop (a.length + [c].length) = b := by rw [← List.drop_drop, List.drop_left' rfl]; rfl
  rw [e]
theorem pi_x (a b : List UInt8) (h : 120 ∉ a) : piB (a ++ 120 :: b) = (clampB b, clampB a, 0, natB a && natB b && decide (2 ≤ clampB a)) := by
  unfold piB; rw [cut_some h]; rfl
theorem pi_d (a b : List UInt8) (h : 45 ∉ a) (hx : 120 ∉ a ++ 45 :: b) : piB (a ++ 45 :: b) = (clampB a, clampB b - clampB a + 1, 1, natB a && natB b && beforeB a b) := by
  unfold piB; rw [cut_none hx, cut_some h]; rfl
theorem pi_n (l : List UInt8) (h : 45 ∉ l) (hx : 120 ∉ l) : piB l = (clampB l, 1, 0, natB l) := by
  unfold piB; rw [cut_none hx, cut_none h]; rfl
theorem three (l : List UInt8) : (∃ a b, l = a ++ 120 :: b ∧ 120 ∉ a) ∨ (∃ a b, l = a ++ 45 :: b ∧ 45 ∉ a ∧ 120 ∉ l) ∨ (45 ∉ l ∧ 120 ∉ l) := by
  by_cases hx : 120 ∈ l
  · obtain ⟨a, b, e, h⟩ := List.eq_append_cons_of_mem hx
    exact .inl ⟨a, b, e, h⟩
  · by_cases hd : 45 ∈ l
    · obtain ⟨a, b, e, h⟩ := List.eq_append_cons_of_mem hd
      exact .inr (.inl ⟨a, b, e, h, hx⟩)
    · exact .inr (.inr ⟨hd, hx⟩)

/-- The pieces between the commas. -/
def spB : List UInt8 → List (List UInt8)
  | [] => [[]]
  | c :: l => if c = 44 then [] :: spB l else (match spB l with | h :: t => (c :: h) :: t | [] => [[c]])
theorem spB_ne (l : List UInt8) : spB l ≠ [] := by
  cases l with
  | nil => exact List.cons_ne_nil _ _
  | cons c l =>
    rw [spB]
    split
    · exact List.cons_ne_nil _ _
    · split <;> exact List.cons_ne_nil _ _
theorem spB_none : ∀ l : List UInt8, 44 ∉ l → spB l = [l]
  | [], _ => rfl
  | c :: l, h => by
    have h1 : ¬ c = 44 := fun e => h (by simp [e])
    rw [spB, if_neg h1, spB_none l (fun e => h (by simp [e]))]
theorem spB_cat : ∀ (a b : List UInt8), 44 ∉ a → spB (a ++ 44 :: b) = a :: spB b
  | [], b, _ => by rw [List.nil_append, spB, if_pos rfl]
  | c :: a, b, h => by
    have h1 : ¬ c = 44 := fun e => h (by simp [e])
    rw [List.cons_append, spB, if_neg h1, spB_cat a b (fun e => h (by simp [e]))]
theorem spB_app : ∀ (a b : List UInt8), spB (a ++ 44 :: b) = spB a ++ spB b
  | [], b => by
    show spB (44 :: b) = [] :: spB b
    rw [spB, if_pos rfl]
  | c :: a, b => by
    rw [List.cons_append, spB, spB, spB_app a b]
    split
    · rfl
    · cases h : spB a with
      | nil => exact absurd h (spB_ne a)
      | cons x t => rfl
def jn44 : List (List UInt8) → List UInt8
  | [] => []
  | [p] => p
  | p :: q :: ps => p ++ 44 :: jn44 (q :: ps)
theorem jn44_cons (p : List UInt8) (ps : List (List UInt8)) (h : ps ≠ []) : jn44 (p :: ps) = p ++ 44 :: jn44 ps := by
  cases ps with
  | nil => exact absurd rfl h
  | cons q ps => rfl
theorem jn44_sp : ∀ l : List UInt8, jn44 (spB l) = l
  | [] => rfl
  | c :: l => by
    have ih := jn44_sp l
    rw [spB]
    split
    · rename_i h
      rw [jn44_cons _ _ (spB_ne l), ih, h]; rfl
    · cases h : spB l with
      | nil => exact absurd h (spB_ne l)
      | cons x t =>
        rw [h] at ih
        cases t with
        | nil => simp only [jn44] at ih ⊢; rw [ih]
        | cons y t => simp only [jn44] at ih ⊢; rw [← ih]; rfl
theorem itoa_nat (u : Nat) : Lib.itoa (u : Int) = Lib.decDigits u := by
  unfold Lib.itoa; rw [if_neg (by omega), Int.toNat_natCast]
theorem nat_text (z : Int) (h0 : 0 ≤ z) (h1 : z ≤ 9999) : natB (Lib.itoa z) = true ∧ clampB (Lib.itoa z) = z := by
  obtain ⟨u, rfl⟩ : ∃ u : Nat, z = (u : Int) := ⟨z.toNat, by omega⟩
  obtain ⟨a, b⟩ := natV_digs u u (Nat.le_refl _)
  rw [itoa_nat]
  refine ⟨b, ?_⟩
  rw [clampB_nat _ b, a, if_pos (by omega)]
theorem text_nat {l : List UInt8} (h : natB l = true) (hv : clampB l ≤ 9999) : Lib.itoa (clampB l) = l ∧ 0 ≤ clampB l := by
  have e := clampB_nat l h
  by_cases h9 : natV l ≤ 9999
  · rw [if_pos h9] at e
    rw [e, itoa_nat, digs_natV l.length l (Nat.le_refl _) h]
    exact ⟨rfl, by omega⟩
  · rw [if_neg h9] at e; omega
theorem dig_no {l : List UInt8} (h : natB l = true) : l ≠ [] ∧ 44 ∉ l ∧ 45 ∉ l ∧ 120 ∉ l := by
  obtain ⟨h1, h2⟩ := natB_parts h
  have h3 : ∀ c ∈ l, 48 ≤ c.toNat ∧ c.toNat ≤ 57 := fun c hc => (dgB_iff c).1 (List.all_eq_true.1 h2 c hc)
  refine ⟨h1, fun hc => ?_, fun hc => ?_, fun hc => ?_⟩
  · have := h3 _ hc; have e : (44 : UInt8).toNat = 44 := rfl; omega
  · have := h3 _ hc; have e : (45 : UInt8).toNat = 45 := rfl; omega
  · have := h3 _ hc; have e : (120 : UInt8).toNat = 120 := rfl; omega
/-- Numbers that ascend: the text of the lesser one is before. -/
theorem before_of_lt {a b : List UInt8} (ha : natB a = true) (hb : natB b = true) (h : clampB a < clampB b) : beforeB a b = true := by
  rw [beforeB_bf]
  by_cases h1 : bf a b
  · exact h1
  · exfalso
    by_cases h2 : bf b a
    · have := clampB_mono hb ha ((beforeB_bf b a).2 h2); omega
    · unfold bf at h1 h2
      have e := vl_inj a b (by omega) (by omega)
      rw [e] at h; omega
theorem lt_of_before {a b : List UInt8} (ha : natB a = true) (hb : natB b = true) (hb9 : clampB b ≤ 9999) (h : beforeB a b = true) : clampB a < clampB b := by
  have h1 := clampB_mono ha hb h
  rcases (show clampB a < clampB b ∨ clampB a = clampB b by omega) with h2 | h2
  · exact h2
  · exfalso
    have e1 := (text_nat ha (by omega)).1
    have e2 := (text_nat hb hb9).1
    rw [h2, e2] at e1
    rw [e1, beforeB_bf] at h
    unfold bf at h; omega

theorem upsF_mem (l : List Int) (x : BA × Nat) : ∀ (f k : Nat), x ∈ upsF l k f ↔ ∃ n, k ≤ n ∧ n < k + f ∧ n ≤ l.length ∧ (∀ m, k ≤ m → m ≤ n → l[m - 1]?.getD 0 = l[0]?.getD 0 + m - 1) ∧ x = (upT (l[0]?.getD 0) (l[n - 1]?.getD 0), n)
  | 0, k => by
    constructor
    · intro h; cases h
    · rintro ⟨n, h1, h2, _⟩; omega
  | f + 1, k => by
    rw [upsF]
    by_cases hc : k ≤ l.length ∧ l[k - 1]?.getD 0 = l[0]?.getD 0 + k - 1
    · rw [if_pos hc, List.mem_cons, upsF_mem l x f (k + 1)]
      constructor
      · rintro (rfl | ⟨n, h1, h2, h3, h4, h5⟩)
        · exact ⟨k, Nat.le_refl _, by omega, hc.1, (fun m h1 h2 => (by have e : m = k := (by omega); rw [e]; exact hc.2)), rfl⟩
        · refine ⟨n, by omega, by omega, h3, fun m h6 h7 => ?_, h5⟩
          by_cases hm : m = k
          · rw [hm]; exact hc.2
          · exact h4 m (by omega) h7
      · rintro ⟨n, h1, h2, h3, h4, h5⟩
        by_cases hn : n = k
        · left; rw [h5, hn]
        · right; exact ⟨n, by omega, by omega, h3, fun m h6 h7 => h4 m (by omega) h7, h5⟩
    · rw [if_neg hc]
      constructor
      · intro h; cases h
      · rintro ⟨n, h1, h2, h3, h4, h5⟩
        exact absurd ⟨by omega, h4 k (Nat.le_refl _) h1⟩ hc
theorem repsF_mem (l : List Int) (x : BA × Nat) : ∀ (f k : Nat), x ∈ repsF l k f ↔ ∃ n, k ≤ n ∧ n < k + f ∧ n ≤ l.length ∧ (∀ m, k ≤ m → m ≤ n → l[m - 1]?.getD 0 = l[0]?.getD 0) ∧ x = (repT (l[0]?.getD 0) n, n)
  | 0, k => by
    constructor
    · intro h; cases h
    · rintro ⟨n, h1, h2, _⟩; omega
  | f + 1, k => by
    rw [repsF]
    by_cases hc : k ≤ l.length ∧ l[k - 1]?.getD 0 = l[0]?.getD 0
    · rw [if_pos hc, List.mem_cons, repsF_mem l x f (k + 1)]
      constructor
      · rintro (rfl | ⟨n, h1, h2, h3, h4, h5⟩)
        · exact ⟨k, Nat.le_refl _, by omega, hc.1, (fun m h1 h2 => (by have e : m = k := (by omega); rw [e]; exact hc.2)), rfl⟩
        · refine ⟨n, by omega, by omega, h3, fun m h6 h7 => ?_, h5⟩
          by_cases hm : m = k
          · rw [hm]; exact hc.2
          · exact h4 m (by omega) h7
      · rintro ⟨n, h1, h2, h3, h4, h5⟩
        by_cases hn : n = k
        · left; rw [h5, hn]
        · right; exact ⟨n, by omega, by omega, h3, fun m h6 h7 => h4 m (by omega) h7, h5⟩
    · rw [if_neg hc]
      constructor
      · intro h; cases h
      · rintro ⟨n, h1, h2, h3, h4, h5⟩
        exact absurd ⟨by omega, h4 k (Nat.le_refl _) h1⟩ hc

/-- An item that can start a list, and how many numbers it stands for. -/
def IsIt (L : List Int) (t : List UInt8) (n : Nat) : Prop :=
  (n = 1 ∧ t = Lib.itoa (L[0]?.getD 0)) ∨
  (2 ≤ n ∧ n ≤ L.length ∧ (∀ m, 2 ≤ m → m ≤ n → L[m - 1]?.getD 0 = L[0]?.getD 0 + m - 1) ∧ t = Lib.itoa (L[0]?.getD 0) ++ 45 :: Lib.itoa (L[n - 1]?.getD 0)) ∨
  (2 ≤ n ∧ n ≤ L.length ∧ (∀ m, 2 ≤ m → m ≤ n → L[m - 1]?.getD 0 = L[0]?.getD 0) ∧ t = Lib.itoa (n : Int) ++ 120 :: Lib.itoa (L[0]?.getD 0))
theorem cat3 (a b : List UInt8) (c : UInt8) : ((⟨a.toArray⟩ : BA) ++ ⟨#[c]⟩ ++ ⟨b.toArray⟩).data.toList = a ++ c :: b := by simp
theorem items_iff (L : List Int) (t : List UInt8) (n : Nat) : (∃ it ∈ itemsL L, it.1.data.toList = t ∧ it.2 = n) ↔ IsIt L t n := by
  unfold itemsL IsIt
  constructor
  · rintro ⟨it, hm, rfl, rfl⟩
    rcases List.mem_cons.1 hm with rfl | hm
    · exact .inl ⟨rfl, rfl⟩
    · rcases List.mem_append.1 hm with hm | hm
      · obtain ⟨n, h1, h2, h3, h4, rfl⟩ := (upsF_mem L it _ _).1 hm
        exact .inr (.inl ⟨h1, h3, h4, cat3 _ _ _⟩)
      · obtain ⟨n, h1, h2, h3, h4, rfl⟩ := (repsF_mem L it _ _).1 hm
        exact .inr (.inr ⟨h1, h3, h4, cat3 _ _ _⟩)
  · rintro (⟨rfl, rfl⟩ | ⟨h1, h2, h3, rfl⟩ | ⟨h1, h2, h3, rfl⟩)
    · exact ⟨_, List.mem_cons_self, rfl, rfl⟩
    · exact ⟨(upT (L[0]?.getD 0) (L[n - 1]?.getD 0), n), List.mem_cons_of_mem _ (List.mem_append.2 (.inl ((upsF_mem L _ _ _).2 ⟨n, h1, by omega, h2, h3, rfl⟩))), cat3 _ _ _, rfl⟩
    · exact ⟨(repT (L[0]?.getD 0) n, n), List.mem_cons_of_mem _ (List.mem_append.2 (.inr ((repsF_mem L _ _ _).2 ⟨n, h1, by omega, h2, h3, rfl⟩))), cat3 _ _ _, rfl⟩

def okL (x : List UInt8) : Bool := (piB x).2.2.2
def itL (x : List UInt8) : I3 := ((piB x).1, (piB x).2.1, (piB x).2.2.1)
def Ok0 (L : List Int) : Prop := L.length ≤ 500 ∧ ∀ j : Nat, 0 ≤ L[j]?.getD 0 ∧ L[j]?.getD 0 ≤ 9999
theorem ext_take (L : List Int) (n : Nat) (f : Nat → Int) (hn : n ≤ L.length) (h : ∀ m, m < n → L[m]?.getD 0 = f m) : (List.range n).map f = L.take n := by
  apply List.ext_getElem
  · simp; omega
  · intro m h1 h2
    have hm : m < n := by simpa using h1
    have := h m hm
    rw [List.getElem?_eq_getElem (by omega)] at this
    simp only [Option.getD_some] at this
    simp [this]
/-- What stands in such an item. -/
theorem it_valid {L : List Int} (hL : Ok0 L) (h1 : 1 ≤ L.length) {t : List UInt8} {n : Nat} (h : IsIt L t n) :
    okL t = true ∧ bigI (itL t) = false ∧ expI (itL t) = L.take n ∧ 44 ∉ t ∧ t ≠ [] ∧ 1 ≤ n ∧ n ≤ L.length ∧ (itL t).2.1 = (n : Int) := by
  obtain ⟨hlen, hz⟩ := hL
  rcases h with ⟨rfl, rfl⟩ | ⟨h2, h3, h4, rfl⟩ | ⟨h2, h3, h4, rfl⟩
  · obtain ⟨a, b⟩ := nat_text _ (hz 0).1 (hz 0).2
    obtain ⟨d1, d2, d3, d4⟩ := dig_no a
    have hp := pi_n _ d3 d4
    rw [b, a] at hp
    unfold okL itL
    rw [hp]
    refine ⟨rfl, ?_, ?_, d2, d1, Nat.le_refl _, h1, rfl⟩
    · unfold bigI lastI; simp only; exact decide_eq_false (by have := (hz 0).2; omega)
    · exact ext_take L 1 _ h1 (fun m hm => by obtain rfl : m = 0 := by omega
                                              simp)
  · obtain ⟨a, b⟩ := nat_text _ (hz 0).1 (hz 0).2
    obtain ⟨a', b'⟩ := nat_text _ (hz (n - 1)).1 (hz (n - 1)).2
    obtain ⟨d1, d2, d3, d4⟩ := dig_no a
    obtain ⟨e1, e2, e3, e4⟩ := dig_no a'
    have hlast := h4 n h2 (Nat.le_refl _)
    have hx : 120 ∉ Lib.itoa (L[0]?.getD 0) ++ 45 :: Lib.itoa (L[n - 1]?.getD 0) := by
      intro h; rcases List.mem_append.1 h with h | h
      · exact d4 h
      · rcases List.mem_cons.1 h with h | h
        · exact absurd h (by decide)
        · exact e4 h
    have hp := pi_d _ _ d3 hx
    have hb := before_of_lt a a' (by rw [b, b', hlast]; omega)
    rw [b, b', a, a', hb] at hp
    unfold okL itL
    rw [hp]
    have hc : (L[n - 1]?.getD 0 - L[0]?.getD 0 + 1) = (n : Int) := by omega
    refine ⟨rfl, ?_, ?_, ?_, by simp, by omega, h3, hc⟩
    · unfold bigI lastI; simp only; exact decide_eq_false (by have := (hz (n - 1)).2; omega)
    · unfold expI
      simp only
      rw [hc, Int.toNat_natCast]
      exact ext_take L n _ h3 (fun m hm => by
        by_cases h0 : m = 0
        · subst h0; simp
        · have := h4 (m + 1) (by omega) (by omega)
          rw [Nat.add_sub_cancel] at this
          rw [this]; omega)
    · intro h; rcases List.mem_append.1 h with h | h
      · exact d2 h
      · rcases List.mem_cons.1 h with h | h
        · exact absurd h (by decide)
        · exact e2 h
  · obtain ⟨a, b⟩ := nat_text _ (hz 0).1 (hz 0).2
    obtain ⟨a', b'⟩ := nat_text (n : Int) (by omega) (by omega)
    obtain ⟨d1, d2, d3, d4⟩ := dig_no a
    obtain ⟨e1, e2, e3, e4⟩ := dig_no a'
    have hp := pi_x _ (Lib.itoa (L[0]?.getD 0)) e4
    rw [b, b', a, a', decide_eq_true (show (2 : Int) ≤ (n : Int) by omega)] at hp
    unfold okL itL
    rw [hp]
    refine ⟨rfl, ?_, ?_, ?_, by simp, by omega, h3, rfl⟩
    · unfold bigI lastI; simp only; exact decide_eq_false (by have := (hz 0).2; omega)
    · unfold expI
      simp only
      rw [Int.toNat_natCast]
      exact ext_take L n _ h3 (fun m hm => by
        by_cases h0 : m = 0
        · subst h0; simp
        · have := h4 (m + 1) (by omega) (by omega)
          rw [Nat.add_sub_cancel] at this
          rw [this]; omega)
    · intro h; rcases List.mem_append.1 h with h | h
      · exact e2 h
      · rcases List.mem_cons.1 h with h | h
        · exact absurd h (by decide)
        · exact d2 h
/-- Each item that is read can start the list that it stands for, whatever follows. -/
theorem it_cand {x : List UInt8} (hok : okL x = true) (hbig : bigI (itL x) = false) (R : List Int) (hn : (itL x).2.1 ≤ 500) :
    IsIt (expI (itL x) ++ R) x (itL x).2.1.toNat ∧ (expI (itL x)).length = (itL x).2.1.toNat ∧ 1 ≤ (itL x).2.1 ∧ x ≠ [] ∧ 44 ∉ x := by
  unfold bigI lastI at hbig
  have hb9 := of_decide_eq_false hbig
  have hlen : (expI (itL x)).length = (itL x).2.1.toNat := by unfold expI; simp
  have hget : ∀ m, m < (itL x).2.1.toNat → (expI (itL x) ++ R)[m]?.getD 0 = (itL x).1 + (m : Int) * (itL x).2.2 := by
    intro m hm
    rw [List.getElem?_append_left (by omega), List.getElem?_eq_getElem (by omega)]
    unfold expI; simp
  rcases three x with ⟨a, b, e, h⟩ | ⟨a, b, e, h, hx⟩ | ⟨hd, hx⟩
  · have hp := pi_x a b h
    rw [← e] at hp
    unfold okL at hok
    unfold itL at hb9 hn hget hlen ⊢
    rw [hp] at hok hb9 hn hget hlen ⊢
    simp only [Bool.and_eq_true, decide_eq_true_eq] at hok hb9 hn hget hlen ⊢
    obtain ⟨⟨n1, n2⟩, n3⟩ := hok
    obtain ⟨t1, t2⟩ := text_nat n1 (by omega)
    obtain ⟨u1, u2⟩ := text_nat n2 (by omega)
    have hn2 : 2 ≤ (clampB a).toNat := by omega
    have h0 := hget 0 (by omega)
    have hc : ((clampB a).toNat : Int) = clampB a := by omega
    obtain ⟨d1, d2, d3, d4⟩ := dig_no n1
    obtain ⟨e1, e2, e3, e4⟩ := dig_no n2
    refine ⟨.inr (.inr ⟨hn2, by rw [List.length_append, hlen]; omega, fun m m1 m2 => ?_, ?_⟩), hlen, by omega, by rw [e]; simp, ?_⟩
    · rw [hget (m - 1) (by omega), h0]; omega
    · rw [h0, hc, t1, show clampB b + ((0 : Nat) : Int) * 0 = clampB b by omega, u1]; exact e
    · rw [e]; intro h; rcases List.mem_append.1 h with h | h
      · exact d2 h
      · rcases List.mem_cons.1 h with h | h
        · exact absurd h (by decide)
        · exact e2 h
  · have hp := pi_d a b h (by rw [← e]; exact hx)
    rw [← e] at hp
    unfold okL at hok
    unfold itL at hb9 hn hget hlen ⊢
    rw [hp] at hok hb9 hn hget hlen ⊢
    simp only [Bool.and_eq_true] at hok hb9 hn hget hlen ⊢
    obtain ⟨⟨n1, n2⟩, n3⟩ := hok
    have hb : clampB b ≤ 9999 := by omega
    have hlt := lt_of_before n1 n2 hb n3
    obtain ⟨t1, t2⟩ := text_nat n1 (by omega)
    obtain ⟨u1, u2⟩ := text_nat n2 hb
    obtain ⟨k, hk⟩ : ∃ k : Nat, clampB b - clampB a + 1 = (k : Int) := ⟨(clampB b - clampB a + 1).toNat, by omega⟩
    rw [hk, Int.toNat_natCast] at hget hlen ⊢
    have h0 := hget 0 (by omega)
    have h9 := hget (k - 1) (by omega)
    obtain ⟨d1, d2, d3, d4⟩ := dig_no n1
    obtain ⟨e1, e2, e3, e4⟩ := dig_no n2
    refine ⟨.inr (.inl ⟨by omega, by rw [List.length_append, hlen]; omega, fun m m1 m2 => ?_, ?_⟩), hlen, by omega, by rw [e]; simp, ?_⟩
    · rw [hget (m - 1) (by omega), h0]; omega
    · rw [h0, h9, show clampB a + ((0 : Nat) : Int) * 1 = clampB a by omega, show clampB a + ((k - 1 : Nat) : Int) * 1 = clampB b by omega, t1, u1]; exact e
    · rw [e]; intro h; rcases List.mem_append.1 h with h | h
      · exact d2 h
      · rcases List.mem_cons.1 h with h | h
        · exact absurd h (by decide)
        · exact e2 h
  · have hp := pi_n x hd hx
    unfold okL at hok
    unfold itL at hb9 hn hget hlen ⊢
    rw [hp] at hok hb9 hn hget hlen ⊢
    simp only at hok hb9 hn hget hlen ⊢
    obtain ⟨t1, t2⟩ := text_nat hok (by omega)
    have h0 := hget 0 (by decide)
    obtain ⟨d1, d2, d3, d4⟩ := dig_no hok
    refine ⟨.inl ⟨rfl, ?_⟩, hlen, by omega, d1, d2⟩
    rw [h0, show clampB x + ((0 : Nat) : Int) * 0 = clampB x by omega, t1]
/-- The best text of a list. -/
def canL (L : List Int) : List UInt8 := (canonA L).data.toList
theorem canL_nil : canL [] = [] := rfl
theorem bests_get : ∀ (l : List Int) (k : Nat), k ≤ l.length → (bestsA l).getD k ⟨#[]⟩ = canonA (l.drop k)
  | [], k, h => by
    obtain rfl : k = 0 := by simpa using h
    rfl
  | z :: zs, 0, _ => rfl
  | z :: zs, k + 1, h => by
    have ih := bests_get zs k (by simpa using h)
    rw [List.drop_succ_cons, ← ih]
    rfl
theorem cand_list (r t : BA) : (candA r t).data.toList = cnd r.data.toList t.data.toList := by
  unfold candA cnd
  rw [Lib.toList_data]
  by_cases h : r.data.toList = []
  · rw [if_pos h, h]; rfl
  · rw [if_neg h, if_neg (by simpa using h)]; simp
theorem fold_min (best : Nat → BA) : ∀ (l : List (BA × Nat)) (cur : BA), (∀ it ∈ l, (candA (best it.2) it.1).data.toList ≠ []) →
    (cur.data.toList ≠ [] → (l.foldl (stepA best) cur).data.toList ≠ [] ∧ le (l.foldl (stepA best) cur).data.toList cur.data.toList) ∧
    (∀ it ∈ l, (l.foldl (stepA best) cur).data.toList ≠ [] ∧ le (l.foldl (stepA best) cur).data.toList (candA (best it.2) it.1).data.toList) ∧
    (l.foldl (stepA best) cur = cur ∨ ∃ it ∈ l, l.foldl (stepA best) cur = candA (best it.2) it.1)
  | [], cur, _ => ⟨fun h => ⟨h, le_refl' _⟩, (fun it h => by cases h), .inl rfl⟩
  | it :: l, cur, hne => by
    have h1 := hne it (by simp)
    obtain ⟨c, hc⟩ : ∃ c, candA (best it.2) it.1 = c := ⟨_, rfl⟩
    rw [hc] at h1
    obtain ⟨nx, hnx⟩ : ∃ nx, stepA best cur it = nx := ⟨_, rfl⟩
    have hn : (nx = cur ∨ nx = c) ∧ nx.data.toList ≠ [] ∧ le nx.data.toList c.data.toList ∧ (cur.data.toList ≠ [] → le nx.data.toList cur.data.toList) := by
      rw [← hnx]
      unfold stepA
      rw [hc]
      by_cases hq : (cur.toList.isEmpty || beforeA c cur) = true
      · rw [if_pos hq]
        refine ⟨.inr rfl, h1, le_refl' _, fun hcur => ?_⟩
        rw [Bool.or_eq_true] at hq
        rcases hq with hq | hq
        · rw [Lib.toList_data] at hq; exact absurd (List.isEmpty_iff.1 hq) hcur
        · exact bf_le ((beforeA_bf _ _).1 hq)
      · rw [if_neg hq]
        rw [Bool.or_eq_true, not_or] at hq
        refine ⟨.inl rfl, fun e => hq.1 (by rw [Lib.toList_data, e]; rfl), le_not fun e => hq.2 ((beforeA_bf _ _).2 e), fun _ => le_refl' _⟩
    obtain ⟨a1, a2, a3, a4⟩ := hn
    obtain ⟨b1, b2, b3⟩ := fold_min best l nx (fun x hx => hne x (by simp [hx]))
    rw [List.foldl_cons, hnx]
    refine ⟨fun hcur => ⟨(b1 a2).1, le_tr (b1 a2).2 (a4 hcur)⟩, fun x hx => ?_, ?_⟩
    · rcases List.mem_cons.1 hx with rfl | hx
      · rw [hc]; exact ⟨(b1 a2).1, le_tr (b1 a2).2 a3⟩
      · exact b2 x hx
    · rcases b3 with b3 | ⟨x, hx, b3⟩
      · rcases a1 with a1 | a1
        · left; rw [b3, a1]
        · right; exact ⟨it, by simp, by rw [b3, a1, hc]⟩
      · right; exact ⟨x, by simp [hx], b3⟩
theorem items_bounds {L : List Int} {t : List UInt8} {n : Nat} (h : IsIt L t n) (h1 : 1 ≤ L.length) : 1 ≤ n ∧ n ≤ L.length := by
  rcases h with ⟨rfl, _⟩ | ⟨h2, h3, _⟩ | ⟨h2, h3, _⟩ <;> omega
theorem itoa_ne (z : Int) : Lib.itoa z ≠ [] := by
  unfold Lib.itoa
  split
  · simp
  · have := (natV_digs z.toNat z.toNat (Nat.le_refl _)).2
    exact (natB_parts this).1
theorem isIt_ne {L : List Int} {t : List UInt8} {n : Nat} (h : IsIt L t n) : t ≠ [] := by
  rcases h with ⟨_, rfl⟩ | ⟨_, _, _, rfl⟩ | ⟨_, _, _, rfl⟩
  · exact itoa_ne _
  · simp
  · simp
/-- The best text is an item and the best text of the rest, and none of these is before it. -/
theorem canon_spec (L : List Int) (h1 : 1 ≤ L.length) :
    canL L ≠ [] ∧ (∃ t n, IsIt L t n ∧ canL L = cnd (canL (L.drop n)) t) ∧ ∀ t n, IsIt L t n → le (canL L) (cnd (canL (L.drop n)) t) := by
  cases L with
  | nil => simp at h1
  | cons z zs =>
    have hc : canonA (z :: zs) = (itemsL (z :: zs)).foldl (stepA fun c => (bestsA zs).getD (c - 1) ⟨#[]⟩) ⟨#[]⟩ := rfl
    have hbest : ∀ it ∈ itemsL (z :: zs), (candA ((fun c => (bestsA zs).getD (c - 1) ⟨#[]⟩) it.2) it.1).data.toList = cnd (canL ((z :: zs).drop it.2)) it.1.data.toList := by
      intro it hm
      have hi := (items_iff (z :: zs) it.1.data.toList it.2).1 ⟨it, hm, rfl, rfl⟩
      obtain ⟨n1, n2⟩ := items_bounds hi h1
      rw [cand_list]
      simp only
      rw [bests_get zs (it.2 - 1) (by simp at n2; omega)]
      obtain ⟨k, hk⟩ : ∃ k, it.2 = k + 1 := ⟨it.2 - 1, by omega⟩
      rw [hk, List.drop_succ_cons]; rfl
    have hne : ∀ it ∈ itemsL (z :: zs), (candA ((fun c => (bestsA zs).getD (c - 1) ⟨#[]⟩) it.2) it.1).data.toList ≠ [] := by
      intro it hm
      have hi := (items_iff (z :: zs) it.1.data.toList it.2).1 ⟨it, hm, rfl, rfl⟩
      rw [hbest it hm]
      unfold cnd
      split
      · exact isIt_ne hi
      · simp
    obtain ⟨b1, b2, b3⟩ := fold_min (fun c => (bestsA zs).getD (c - 1) ⟨#[]⟩) (itemsL (z :: zs)) ⟨#[]⟩ hne
    rw [← hc] at b2 b3
    have hfst : ∃ it, it ∈ itemsL (z :: zs) := ⟨_, List.mem_cons_self⟩
    obtain ⟨it0, hit0⟩ := hfst
    have hn0 : canL (z :: zs) ≠ [] := (b2 it0 hit0).1
    refine ⟨hn0, ?_, fun t n hi => ?_⟩
    · rcases b3 with b3 | ⟨it, hm, b3⟩
      · exact absurd (by unfold canL; rw [b3]) hn0
      · refine ⟨it.1.data.toList, it.2, (items_iff _ _ _).1 ⟨it, hm, rfl, rfl⟩, ?_⟩
        rw [← hbest it hm, ← b3]; rfl
    · obtain ⟨it, hm, rfl, rfl⟩ := (items_iff _ _ _).2 hi
      rw [← hbest it hm]
      exact (b2 it hm).2

/-- The items of a text. -/
def its (u : List UInt8) : List (List UInt8) := if u = [] then [] else spB u
theorem spl_list : ∀ (f : Nat) (s : BA), s.size < f → (spl f s).map (fun x => x.data.toList) = spB s.data.toList
  | 0, s, h => absurd h (Nat.not_lt_zero _)
  | f + 1, s, h => by
    rw [spl]
    by_cases h4 : 44 ∈ s.data.toList
    · obtain ⟨a, b, e, hn⟩ := List.eq_append_cons_of_mem h4
      have hi : Lib.indexByte s.data.toList 44 = (a.length : Int) := by
        have hg := Lib.indexByte_ge s.data.toList 44
        rcases (show Lib.indexByte s.data.toList 44 = -1 ∨ 0 ≤ Lib.indexByte s.data.toList 44 by omega) with q | q
        · obtain ⟨k, hk⟩ := List.getElem?_of_mem h4
          exact absurd hk (Lib.indexByte_none q k)
        · obtain ⟨o, ho⟩ : ∃ o : Nat, Lib.indexByte s.data.toList 44 = o := ⟨(Lib.indexByte s.data.toList 44).toNat, by omega⟩
          obtain ⟨g1, g2⟩ := Lib.indexByte_some ho
          rw [ho]
          rcases Nat.lt_trichotomy o a.length with q | q | q
          · rw [e, List.getElem?_append_left q] at g1
            exact absurd (List.mem_of_getElem? g1) hn
          · rw [q]
          · have := g2 a.length q
            rw [e] at this
            exact absurd (by simp) this
      have hsz : s.size = a.length + 1 + b.length := by rw [Lib.size_eq, e, List.length_append, List.length_cons]; omega
      rw [if_neg (by omega), hi, Int.toNat_natCast, List.map_cons, spl_list f _ (by rw [Lib.size_eq, Lib.extract_data, List.length_take, List.length_drop, ← Lib.size_eq]; omega), e, spB_cat a b hn]
      have e1 : (s.extract 0 a.length).data.toList = a := by rw [Lib.extract_data, e]; simp
      have e2 : (s.extract (a.length + 1) s.size).data.toList = b := by
        rw [Lib.extract_data, e]
        have e3 : (a ++ 44 :: b).drop (a.length + 1) = b := by rw [← List.drop_drop, List.drop_left' rfl]; rfl
        rw [e3]
        exact List.take_of_length_le (by omega)
      rw [e1, e2]
    · have hi : Lib.indexByte s.data.toList 44 < 0 := by
        rcases (show Lib.indexByte s.data.toList 44 < 0 ∨ 0 ≤ Lib.indexByte s.data.toList 44 by omega) with q | q
        · exact q
        · obtain ⟨o, ho⟩ : ∃ o : Nat, Lib.indexByte s.data.toList 44 = o := ⟨(Lib.indexByte s.data.toList 44).toNat, by omega⟩
          obtain ⟨g1, g2⟩ := Lib.indexByte_some ho
          exact absurd (List.mem_of_getElem? g1) h4
      rw [if_pos hi, spB_none _ h4]; rfl
/-- What ParseList answers, by the items of the text. -/
def pB (u : List UInt8) : List Int × Int :=
  if 2500 < u.length then ([], 3) else if (its u).all okL = false then ([], 6) else if ((its u).map itL).any bigI then ([], 7) else if 500 < totI ((its u).map itL) then ([], 3) else (expL ((its u).map itL), 0)
theorem parse_eq (s : BA) : parseB s = pB s.data.toList := by
  have hsz := Lib.size_eq s
  unfold parseB pB itemsB its
  rw [hsz, Lib.toList_data]
  by_cases h0 : s.data.toList = []
  · rw [h0]; rfl
  · have he : s.data.toList.isEmpty = false := by
      cases h : s.data.toList with
      | nil => exact absurd h h0
      | cons c r => rfl
    rw [if_neg h0, he]
    have hl := spl_list (s.size + 1) s (Nat.lt_succ_self _)
    have e1 : (splL s).all okI = (spB s.data.toList).all okL := by rw [← hl, List.all_map]; rfl
    have e2 : (splL s).map itemOf = (spB s.data.toList).map itL := by rw [← hl, List.map_map]; rfl
    rw [e1, e2]
    cases ha : (spB s.data.toList).all okL <;> simp
theorem its_cons (t r : List UInt8) (ht : 44 ∉ t) (hr : r ≠ []) : its (t ++ 44 :: r) = t :: its r := by
  unfold its
  rw [if_neg (by simp), if_neg hr, spB_cat t r ht]
theorem its_one (t : List UInt8) (ht : 44 ∉ t) (h : t ≠ []) : its t = [t] := by
  unfold its; rw [if_neg h, spB_none t ht]
theorem totI_cons (i : I3) (l : List I3) : totI (i :: l) = i.2.1 + totI l := rfl
theorem expL_cons (i : I3) (l : List I3) : expL (i :: l) = expI i ++ expL l := by unfold expL; rw [List.flatMap_cons]
theorem Ok0.drop {L : List Int} (h : Ok0 L) (n : Nat) : Ok0 (L.drop n) := ⟨by rw [List.length_drop]; have := h.1; omega, fun j => by rw [List.getElem?_drop]; exact h.2 _⟩
/-- The best text is read, as its list. -/
theorem parse_can : ∀ (k : Nat) (L : List Int), L.length ≤ k → Ok0 L →
    (its (canL L)).all okL = true ∧ ((its (canL L)).map itL).any bigI = false ∧ expL ((its (canL L)).map itL) = L ∧ totI ((its (canL L)).map itL) = (L.length : Int)
  | _, [], _, _ => ⟨rfl, rfl, rfl, rfl⟩
  | 0, _ :: _, h, _ => by simp at h
  | k + 1, z :: zs, hk, hL => by
    obtain ⟨hn0, ⟨t, n, hi, hc⟩, _⟩ := canon_spec (z :: zs) (by simp)
    obtain ⟨v1, v2, v3, v4, v5, v6, v7, v8⟩ := it_valid hL (by simp) hi
    obtain ⟨i1, i2, i3, i4⟩ := parse_can k ((z :: zs).drop n) (by rw [List.length_drop]; simp at hk ⊢; omega) (hL.drop n)
    by_cases hr : (z :: zs).drop n = []
    · have hu : canL (z :: zs) = t := by rw [hc, hr, canL_nil]; unfold cnd; rw [if_pos rfl]
      have hlen : n = (z :: zs).length := by
        have := congrArg List.length hr
        rw [List.length_drop, List.length_nil] at this
        omega
      rw [hu, its_one t v4 v5]
      refine ⟨by simp [v1], by simp [v2], ?_, ?_⟩
      · simp only [List.map_cons, List.map_nil]
        rw [expL_cons, v3, hlen, List.take_length]; simp [expL]
      · simp only [List.map_cons, List.map_nil]
        rw [totI_cons, v8, hlen]; simp [totI]
    · have hrn := (canon_spec ((z :: zs).drop n) (List.length_pos_iff.2 hr)).1
      have hu : canL (z :: zs) = t ++ 44 :: canL ((z :: zs).drop n) := by rw [hc]; unfold cnd; rw [if_neg hrn]
      rw [hu, its_cons t _ v4 hrn]
      refine ⟨by rw [List.all_cons, v1, i1]; rfl, by rw [List.map_cons, List.any_cons, v2, i2]; rfl, ?_, ?_⟩
      · rw [List.map_cons, expL_cons, v3, i3, List.take_append_drop]
      · rw [List.map_cons, totI_cons, v8, i4, List.length_drop]; omega
/-- The best text is before each text that stands for the list. -/
theorem can_least : ∀ (xs : List (List UInt8)), xs ≠ [] → xs.all okL = true → (xs.map itL).any bigI = false → totI (xs.map itL) ≤ 500 →
    (∀ x ∈ xs, 1 ≤ (itL x).2.1) → expL (xs.map itL) ≠ [] ∧ jn44 xs ≠ [] ∧ le (canL (expL (xs.map itL))) (jn44 xs)
  | [], h, _, _, _, _ => absurd rfl h
  | x :: xs, _, hok, hbig, htot, h1 => by
    rw [List.all_cons, Bool.and_eq_true] at hok
    rw [List.map_cons, List.any_cons, Bool.or_eq_false_iff] at hbig
    rw [List.map_cons, totI_cons] at htot
    have hpos : ∀ l : List (List UInt8), (∀ y ∈ l, 1 ≤ (itL y).2.1) → 0 ≤ totI (l.map itL) := by
      intro l
      induction l with
      | nil => intro _; exact Int.le_refl _
      | cons y l ih =>
        intro hl
        have a := ih (fun q hq => hl q (by simp [hq]))
        have b := hl y (by simp)
        rw [List.map_cons, totI_cons]; omega
    have hp := hpos xs (fun y hy => h1 y (by simp [hy]))
    have hx1 := h1 x (by simp)
    obtain ⟨c1, c2, c3, c4, c5⟩ := it_cand hok.1 hbig.1 (expL (xs.map itL)) (by omega)
    have hE : expL ((x :: xs).map itL) = expI (itL x) ++ expL (xs.map itL) := by rw [List.map_cons, expL_cons]
    have hne : expI (itL x) ≠ [] := by
      intro e; rw [e] at c2; simp at c2; omega
    have hlen : 1 ≤ (expI (itL x) ++ expL (xs.map itL)).length := by rw [List.length_append]; omega
    have hmin := (canon_spec _ hlen).2.2 x _ c1
    have hd : (expI (itL x) ++ expL (xs.map itL)).drop (itL x).2.1.toNat = expL (xs.map itL) := by rw [← c2, List.drop_left' rfl]
    rw [hd] at hmin
    rw [hE]
    refine ⟨by simp [hne], ?_, ?_⟩
    · cases xs with
      | nil => exact c4
      | cons y ys => simp [jn44]
    · cases hxs : xs with
      | nil =>
        subst hxs
        have e : expL (([] : List (List UInt8)).map itL) = [] := rfl
        rw [e, canL_nil] at hmin
        rw [e]
        unfold cnd at hmin
        rw [if_pos rfl] at hmin
        exact hmin
      | cons y ys =>
        rw [← hxs]
        have hxn : xs ≠ [] := by rw [hxs]; exact List.cons_ne_nil _ _
        obtain ⟨i1, i2, i3⟩ := can_least xs hxn hok.2 hbig.2 (by omega) (fun q hq => h1 q (by simp [hq]))
        have hcn := (canon_spec _ (List.length_pos_iff.2 i1)).1
        have hm := cnd_mono (t := x) i3 hcn i2
        have e : cnd (jn44 xs) x = jn44 (x :: xs) := by unfold cnd; rw [if_neg i2, jn44_cons _ _ hxn]
        rw [e] at hm
        exact le_tr hmin hm
theorem bdL {x : List UInt8} (h : okL x = true) : 0 ≤ (itL x).1 ∧ (itL x).1 ≤ 10000 ∧ 1 ≤ (itL x).2.1 ∧ (itL x).2.1 ≤ 10001 ∧ 0 ≤ (itL x).2.2 ∧ (itL x).2.2 ≤ 1 := item_bd ⟨x.toArray⟩ h
theorem its_all {u : List UInt8} (h : (its u).all okL = true) : ∀ x ∈ its u, okL x = true := List.all_eq_true.1 h
theorem expL_range : ∀ (xs : List (List UInt8)), (∀ x ∈ xs, okL x = true) → (xs.map itL).any bigI = false → ∀ z ∈ expL (xs.map itL), 0 ≤ z ∧ z ≤ 9999
  | [], _, _, z, hz => by cases hz
  | x :: xs, hok, hbig, z, hz => by
    rw [List.map_cons, List.any_cons, Bool.or_eq_false_iff] at hbig
    rw [List.map_cons, expL_cons] at hz
    rcases List.mem_append.1 hz with hz | hz
    · obtain ⟨b1, b2, b3, b4, b5, b6⟩ := bdL (hok x (by simp))
      unfold bigI lastI at hbig
      have hb := of_decide_eq_false hbig.1
      unfold expI at hz
      obtain ⟨m, hm, rfl⟩ := List.mem_map.1 hz
      have hm2 := List.mem_range.1 hm
      rcases (show (itL x).2.2 = 0 ∨ (itL x).2.2 = 1 by omega) with e | e
      · rw [e] at hb ⊢; omega
      · rw [e] at hb ⊢; omega
    · exact expL_range xs (fun y hy => hok y (by simp [hy])) hbig.2 z hz
theorem totL_pos : ∀ (xs : List (List UInt8)), (∀ x ∈ xs, okL x = true) → 0 ≤ totI (xs.map itL) ∧ ((expL (xs.map itL)).length : Int) = totI (xs.map itL)
  | [], _ => ⟨Int.le_refl _, rfl⟩
  | x :: xs, h => by
    obtain ⟨i1, i2⟩ := totL_pos xs fun y hy => h y (by simp [hy])
    have hb := bdL (h x (by simp))
    rw [List.map_cons, totI_cons, expL_cons, List.length_append]
    have e : ((expI (itL x)).length : Int) = (itL x).2.1 := by unfold expI; simp; omega
    omega
theorem totL_app : ∀ (xs ys : List (List UInt8)), totI ((xs ++ ys).map itL) = totI (xs.map itL) + totI (ys.map itL)
  | [], ys => by simp [totI]
  | x :: xs, ys => by rw [List.cons_append, List.map_cons, totI_cons, totL_app xs ys, List.map_cons, totI_cons]; omega
theorem expL_app (xs ys : List (List UInt8)) : expL ((xs ++ ys).map itL) = expL (xs.map itL) ++ expL (ys.map itL) := by unfold expL; rw [List.map_append, List.flatMap_append]
theorem pB_ok {u : List UInt8} {l : List Int} (h : pB u = (l, 0)) :
    u.length ≤ 2500 ∧ (its u).all okL = true ∧ ((its u).map itL).any bigI = false ∧ totI ((its u).map itL) ≤ 500 ∧ l = expL ((its u).map itL) := by
  unfold pB at h
  split at h
  · exact absurd (congrArg Prod.snd h) (by simp)
  · split at h
    · exact absurd (congrArg Prod.snd h) (by simp)
    · split at h
      · exact absurd (congrArg Prod.snd h) (by simp)
      · split at h
        · exact absurd (congrArg Prod.snd h) (by simp)
        · rename_i h1 h2 h3 h4
          exact ⟨by omega, by simpa using h2, by simpa using h3, by omega, (congrArg Prod.fst h).symm⟩
theorem pB_mk {u : List UInt8} (h1 : u.length ≤ 2500) (h2 : (its u).all okL = true) (h3 : ((its u).map itL).any bigI = false) (h4 : totI ((its u).map itL) ≤ 500) : pB u = (expL ((its u).map itL), 0) := by
  unfold pB
  rw [if_neg (by omega), if_neg (by rw [h2]; decide), if_neg (by rw [h3]; decide), if_neg (by omega)]
theorem pB_err {u : List UInt8} {l : List Int} {e : Int} (h : pB u = (l, e)) (he : e ≠ 0) : l = [] := by
  unfold pB at h
  split at h
  · exact (congrArg Prod.fst h).symm
  · split at h
    · exact (congrArg Prod.fst h).symm
    · split at h
      · exact (congrArg Prod.fst h).symm
      · split at h
        · exact (congrArg Prod.fst h).symm
        · exact absurd (congrArg Prod.snd h).symm he
theorem ok0_of {u : List UInt8} {l : List Int} (h : pB u = (l, 0)) : Ok0 l := by
  obtain ⟨_, h2, h3, h4, rfl⟩ := pB_ok h
  have hok := its_all h2
  obtain ⟨t1, t2⟩ := totL_pos _ hok
  refine ⟨by omega, fun j => ?_⟩
  by_cases hj : j < (expL ((its u).map itL)).length
  · rw [List.getElem?_eq_getElem hj]
    exact expL_range _ hok h3 _ (List.getElem_mem hj)
  · rw [List.getElem?_eq_none (by omega)]; exact ⟨Int.le_refl _, by decide⟩
theorem jn_its {u : List UInt8} (h : u ≠ []) : its u ≠ [] ∧ jn44 (its u) = u := by
  unfold its; rw [if_neg h]; exact ⟨spB_ne u, jn44_sp u⟩
/-- Whatever text is read, the best one is not behind it. -/
theorem least_of {u : List UInt8} {l : List Int} (h : pB u = (l, 0)) : le (canL l) u := by
  obtain ⟨_, h2, h3, h4, rfl⟩ := pB_ok h
  by_cases hu : u = []
  · subst hu; exact le_refl' _
  · obtain ⟨j1, j2⟩ := jn_its hu
    have := (can_least (its u) j1 h2 h3 h4 (fun x hx => (bdL (its_all h2 x hx)).2.2.1)).2.2
    rw [j2] at this
    exact this
theorem parse_can_ok {l : List Int} (h : Ok0 l) (hs : (canL l).length ≤ 2500) : pB (canL l) = (l, 0) := by
  obtain ⟨i1, i2, i3, i4⟩ := parse_can l.length l (Nat.le_refl _) h
  rw [pB_mk hs i1 i2 (by rw [i4]; have := h.1; omega), i3]
theorem dd_len (z : Int) (h0 : 0 ≤ z) (h1 : z ≤ 9999) : (Lib.itoa z).length ≤ 4 := by
  obtain ⟨u, rfl⟩ : ∃ u : Nat, z = (u : Int) := ⟨z.toNat, by omega⟩
  rw [itoa_nat, Lib.decDigits_length]
  exact nDigits_le 3 u (by omega)
theorem can_size : ∀ (k : Nat) (L : List Int), L.length ≤ k → Ok0 L → (canL L).length ≤ 5 * L.length
  | _, [], _, _ => Nat.le_refl _
  | 0, _ :: _, h, _ => by simp at h
  | k + 1, z :: zs, hk, hL => by
    have hm := (canon_spec (z :: zs) (by simp)).2.2 _ 1 (.inl ⟨rfl, rfl⟩)
    have ih := can_size k ((z :: zs).drop 1) (by simp at hk ⊢; omega) (hL.drop 1)
    have hd := dd_len _ (hL.2 0).1 (hL.2 0).2
    have hl : (canL (z :: zs)).length ≤ (cnd (canL ((z :: zs).drop 1)) (Lib.itoa ((z :: zs)[0]?.getD 0))).length := by unfold le at hm; omega
    have hc : (cnd (canL ((z :: zs).drop 1)) (Lib.itoa ((z :: zs)[0]?.getD 0))).length ≤ 5 + (canL ((z :: zs).drop 1)).length := by
      unfold cnd; split
      · omega
      · rw [List.length_append, List.length_cons]; omega
    simp only [List.drop_succ_cons, List.drop_zero, List.length_cons] at ih hc hl ⊢
    omega
/-- Two texts with a comma between them. -/
theorem app_of {u v : List UInt8} {l m : List Int} {e f : Int} (hu : u ≠ []) (hv : v ≠ []) (hs : u.length + v.length < 2500) (h : pB u = (l, e)) (k : pB v = (m, f)) :
    ((e ≠ 0 ∨ f ≠ 0) → ∃ g, g ≠ 0 ∧ pB (u ++ 44 :: v) = ([], g)) ∧
    (e = 0 → f = 0 → 500 < l.length + m.length → pB (u ++ 44 :: v) = ([], 3)) ∧
    (e = 0 → f = 0 → l.length + m.length ≤ 500 → pB (u ++ 44 :: v) = (l ++ m, 0) ∧ (canL (l ++ m)).length ≤ (canL l).length + 1 + (canL m).length) := by
  have hi : its (u ++ 44 :: v) = its u ++ its v := by
    unfold its; rw [if_neg hu, if_neg hv, if_neg (by simp), spB_app]
  have hlen : (u ++ 44 :: v).length ≤ 2500 := by rw [List.length_append, List.length_cons]; omega
  refine ⟨fun hef => ?_, ?_, ?_⟩
  · cases hp : pB (u ++ 44 :: v) with
    | mk q g =>
      by_cases hg : g = 0
      · exfalso
        subst hg
        obtain ⟨_, h2, h3, h4, _⟩ := pB_ok hp
        rw [hi] at h2 h3 h4
        rw [List.all_append, Bool.and_eq_true] at h2
        rw [List.map_append, List.any_append, Bool.or_eq_false_iff] at h3
        rw [totL_app] at h4
        have t1 := (totL_pos _ (its_all h2.1)).1
        have t2 := (totL_pos _ (its_all h2.2)).1
        rcases hef with hef | hef
        · rw [pB_mk (by omega) h2.1 h3.1 (by omega)] at h
          exact hef (congrArg Prod.snd h).symm
        · rw [pB_mk (by omega) h2.2 h3.2 (by omega)] at k
          exact hef (congrArg Prod.snd k).symm
      · exact ⟨g, hg, by rw [pB_err hp hg]⟩
  · rintro rfl rfl h5
    obtain ⟨a1, a2, a3, a4, rfl⟩ := pB_ok h
    obtain ⟨b1, b2, b3, b4, rfl⟩ := pB_ok k
    have t1 := (totL_pos _ (its_all a2)).2
    have t2 := (totL_pos _ (its_all b2)).2
    unfold pB
    rw [hi, totL_app, List.all_append, List.map_append, List.any_append, a2, b2, a3, b3, if_neg (by omega), if_neg (by decide), if_neg (by decide), if_pos (by omega)]
  · rintro rfl rfl h5
    have ol := ok0_of h
    have om := ok0_of k
    obtain ⟨a1, a2, a3, a4, el⟩ := pB_ok h
    obtain ⟨b1, b2, b3, b4, em⟩ := pB_ok k
    have t1 := (totL_pos _ (its_all a2)).2
    have t2 := (totL_pos _ (its_all b2)).2
    rw [← el] at t1
    rw [← em] at t2
    have hpb : pB (u ++ 44 :: v) = (l ++ m, 0) := by
      rw [pB_mk hlen (by rw [hi, List.all_append, a2, b2]; rfl) (by rw [hi, List.map_append, List.any_append, a3, b3]; rfl) (by rw [hi, totL_app]; omega), hi, expL_app, ← el, ← em]
    refine ⟨hpb, ?_⟩
    have ln : l ≠ [] := by
      intro e
      obtain ⟨j1, _⟩ := jn_its hu
      have := (can_least (its u) j1 a2 a3 a4 (fun x hx => (bdL (its_all a2 x hx)).2.2.1)).1
      rw [← el] at this; exact this e
    have mn : m ≠ [] := by
      intro e
      obtain ⟨j1, _⟩ := jn_its hv
      have := (can_least (its v) j1 b2 b3 b4 (fun x hx => (bdL (its_all b2 x hx)).2.2.1)).1
      rw [← em] at this; exact this e
    have cl := (canon_spec l (List.length_pos_iff.2 ln)).1
    have cm := (canon_spec m (List.length_pos_iff.2 mn)).1
    obtain ⟨p1, p2, p3, p4⟩ := parse_can l.length l (Nat.le_refl _) ol
    obtain ⟨q1, q2, q3, q4⟩ := parse_can m.length m (Nat.le_refl _) om
    have hi2 : its (canL l ++ 44 :: canL m) = its (canL l) ++ its (canL m) := by
      unfold its; rw [if_neg cl, if_neg cm, if_neg (by simp), spB_app]
    obtain ⟨j1, j2⟩ := jn_its (u := canL l ++ 44 :: canL m) (by simp)
    have hc := (can_least (its (canL l ++ 44 :: canL m)) j1 (by rw [hi2, List.all_append, p1, q1]; rfl) (by rw [hi2, List.map_append, List.any_append, p2, q2]; rfl) (by rw [hi2, totL_app, p4, q4]; omega) (fun x hx => by
      rw [hi2] at hx
      rcases List.mem_append.1 hx with hx | hx
      · exact (bdL (its_all p1 x hx)).2.2.1
      · exact (bdL (its_all q1 x hx)).2.2.1)).2.2
    rw [j2, hi2, expL_app, p3, q3] at hc
    unfold le at hc
    rw [List.length_append, List.length_cons] at hc
    omega
end Go.Proofs.YtdcgfbebeiheiaaGreatDoor
