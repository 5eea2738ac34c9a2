/- Sets of pages as lists of spans: the plain mathematics. -/
import Derived.Lib.Hide
namespace Go.Proofs.Ytgljfiihaehedaa

abbrev Sp := Nat × Nat
/-- Is a page in one of the spans? -/
def inS (l : List Sp) (p : Nat) : Bool := l.any fun x => decide (x.1 ≤ p) && decide (p < x.1 + x.2)
/-- A list of spans in order, none touching the next, from lo on. -/
def SetL : Nat → List Sp → Prop
  | _, [] => True
  | lo, x :: r => lo ≤ x.1 ∧ 1 ≤ x.2 ∧ x.1 + x.2 ≤ 1024 ∧ SetL (x.1 + x.2 + 1) r
/-- All spans are of the address space. -/
def ValL (l : List Sp) : Prop := ∀ x ∈ l, 1 ≤ x.2 ∧ x.1 + x.2 ≤ 1024

theorem inS_nil (p : Nat) : inS [] p = false := rfl
theorem inS_cons (x : Sp) (l : List Sp) (p : Nat) : inS (x :: l) p = ((decide (x.1 ≤ p) && decide (p < x.1 + x.2)) || inS l p) := rfl
theorem inS_append (a b : List Sp) (p : Nat) : inS (a ++ b) p = (inS a p || inS b p) := by unfold inS; rw [List.any_append]
theorem inS_iff (l : List Sp) (p : Nat) : inS l p = true ↔ ∃ x ∈ l, x.1 ≤ p ∧ p < x.1 + x.2 := by
  unfold inS; rw [List.any_eq_true]; simp
theorem inS_one (x : Sp) (p : Nat) : inS [x] p = (decide (x.1 ≤ p) && decide (p < x.1 + x.2)) := by unfold inS; simp
theorem inS_perm {a b : List Sp} (h : a.Perm b) (p : Nat) : inS a p = inS b p := by
  rw [Bool.eq_iff_iff, inS_iff, inS_iff]
  exact ⟨fun ⟨x, hx, h1⟩ => ⟨x, h.mem_iff.1 hx, h1⟩, fun ⟨x, hx, h1⟩ => ⟨x, h.mem_iff.2 hx, h1⟩⟩

theorem SetL.mono : ∀ {l : List Sp} {a b : Nat}, SetL a l → b ≤ a → SetL b l
  | [], _, _, _, _ => trivial
  | _ :: _, _, _, h, hb => ⟨Nat.le_trans hb h.1, h.2⟩
theorem SetL.up : ∀ {l : List Sp} {a b : Nat}, SetL a l → (∀ x, l.head? = some x → b ≤ x.1) → SetL b l
  | [], _, _, _, _ => trivial
  | x :: _, _, _, h, hb => ⟨hb x rfl, h.2⟩
theorem SetL.lo : ∀ {l : List Sp} {a : Nat}, SetL a l → ∀ x ∈ l, a ≤ x.1 ∧ 1 ≤ x.2 ∧ x.1 + x.2 ≤ 1024
  | [], _, _, _, h => by cases h
  | y :: l, a, h, x, hx => by
    rcases List.mem_cons.1 hx with rfl | hx
    · exact ⟨h.1, h.2.1, h.2.2.1⟩
    · have := SetL.lo h.2.2.2 x hx; exact ⟨by have := h.1; omega, this.2⟩
theorem SetL.val {l : List Sp} {a : Nat} (h : SetL a l) : ValL l := fun x hx => (h.lo x hx).2
theorem SetL.out {l : List Sp} {a p : Nat} (h : SetL a l) (hp : p < a) : inS l p = false := by
  cases hb : inS l p with
  | false => rfl
  | true => obtain ⟨x, hx, h1, _⟩ := (inS_iff l p).1 hb; have := (h.lo x hx).1; omega
theorem val_out {l : List Sp} {p : Nat} (h : ValL l) (hp : 1024 ≤ p) : inS l p = false := by
  cases hb : inS l p with
  | false => rfl
  | true => obtain ⟨x, hx, h1, h2⟩ := (inS_iff l p).1 hb; have := (h x hx).2; omega
theorem SetL.len : ∀ {l : List Sp} {a : Nat}, SetL a l → a ≤ 1025 → 2 * l.length + a ≤ 1025
  | [], a, _, h => by simpa using h
  | x :: l, a, h, _ => by
    obtain ⟨h1, h2, h3, h4⟩ := h
    have := SetL.len h4 (by omega)
    rw [List.length_cons]; omega

/-- Two sets with the same pages are equal lists. -/
theorem set_ext : ∀ (a b : List Sp) (lo : Nat), SetL lo a → SetL lo b → (∀ p, lo ≤ p → p < 1024 → inS a p = inS b p) → a = b
  | [], [], _, _, _, _ => rfl
  | [], y :: b, lo, _, hb, h => by
    obtain ⟨h1, h2, h3, _⟩ := hb
    have := h y.1 h1 (by omega)
    rw [inS_nil, inS_cons] at this
    simp at this; omega
  | x :: a, [], lo, ha, _, h => by
    obtain ⟨h1, h2, h3, _⟩ := ha
    have := h x.1 h1 (by omega)
    rw [inS_nil, inS_cons] at this
    simp at this; omega
  | x :: a, y :: b, lo, ha, hb, h => by
    obtain ⟨x1, x2⟩ := x
    obtain ⟨y1, y2⟩ := y
    obtain ⟨a1, a2, a3, a4⟩ := ha
    obtain ⟨b1, b2, b3, b4⟩ := hb
    simp only at a1 a2 a3 a4 b1 b2 b3 b4
    have e1 : x1 = y1 := by
      rcases Nat.lt_trichotomy x1 y1 with hlt | he | hgt
      · have := h x1 a1 (by omega)
        rw [inS_cons, inS_cons, SetL.out b4 (by omega)] at this
        simp [show ¬ y1 ≤ x1 by omega, show 0 < x2 by omega] at this
      · exact he
      · have := h y1 b1 (by omega)
        rw [inS_cons, inS_cons, SetL.out a4 (by omega)] at this
        simp [show ¬ x1 ≤ y1 by omega, show 0 < y2 by omega] at this
    subst e1
    have e2 : x2 = y2 := by
      rcases Nat.lt_trichotomy x2 y2 with hlt | he | hgt
      · have := h (x1 + x2) (by omega) (by omega)
        rw [inS_cons, inS_cons, SetL.out a4 (by omega)] at this
        simp at this; omega
      · exact he
      · have := h (x1 + y2) (by omega) (by omega)
        rw [inS_cons, inS_cons, SetL.out b4 (by omega)] at this
        simp at this; omega
    subst e2
    congr 1
    refine set_ext a b (x1 + x2 + 1) a4 b4 fun p hp hp2 => ?_
    have := h p (by omega) hp2
    rw [inS_cons, inS_cons] at this
    simpa [show ¬ p < x1 + x2 by omega] using this

/-- Adding a span behind all. -/
theorem SetL.snoc : ∀ {l : List Sp} {a : Nat} {x : Sp}, SetL a l → (∀ y, l.getLast? = some y → y.1 + y.2 < x.1) → a ≤ x.1 → 1 ≤ x.2 → x.1 + x.2 ≤ 1024 → SetL a (l ++ [x])
  | [], _, _, _, _, h1, h2, h3 => ⟨h1, h2, h3, trivial⟩
  | [y], _, _, h, hl, h1, h2, h3 => ⟨h.1, h.2.1, h.2.2.1, by have := hl y rfl; omega, h2, h3, trivial⟩
  | y :: z :: l, a, x, h, hl, h1, h2, h3 => by
    refine ⟨h.1, h.2.1, h.2.2.1, SetL.snoc h.2.2.2 (fun w hw => hl w (by simpa [List.getLast?_cons_cons] using hw)) ?_ h2 h3⟩
    have hz := h.2.2.2
    have hx : ∃ w, (z :: l).getLast? = some w := by cases hq : (z :: l).getLast? with | none => simp at hq | some w => exact ⟨w, rfl⟩
    obtain ⟨w, hw⟩ := hx
    have h4 := hl w (by simpa [List.getLast?_cons_cons] using hw)
    have h5 := (SetL.lo hz w (List.mem_of_getLast? hw)).1
    omega
theorem SetL.init : ∀ {l : List Sp} {a : Nat} {x : Sp}, SetL a (l ++ [x]) → SetL a l ∧ (∀ y, l.getLast? = some y → y.1 + y.2 < x.1) ∧ a ≤ x.1 ∧ 1 ≤ x.2 ∧ x.1 + x.2 ≤ 1024
  | [], _, _, h => ⟨trivial, fun y hy => by simp at hy, h.1, h.2.1, h.2.2.1⟩
  | [y], _, x, h => by
    obtain ⟨h1, h2, h3, h4, h5, h6, _⟩ := h
    exact ⟨⟨h1, h2, h3, trivial⟩, fun z hz => by simp at hz; subst hz; omega, by omega, h5, h6⟩
  | y :: z :: l, a, x, h => by
    obtain ⟨h1, h2, h3, h4⟩ := h
    obtain ⟨k1, k2, k3, k4, k5⟩ := SetL.init (l := z :: l) h4
    refine ⟨⟨h1, h2, h3, k1⟩, fun w hw => k2 w ?_, by omega, k4, k5⟩
    simpa [List.getLast?_cons_cons] using hw

/-- One step of joining spans that come in order. -/
def joinStep (acc : List Sp) (x : Sp) : List Sp :=
  match acc.getLast? with
  | none => [x]
  | some y => if y.1 + y.2 < x.1 then acc ++ [x] else acc.dropLast ++ [(y.1, max y.2 (x.1 + x.2 - y.1))]
/-- What has been joined: a set, with just these pages, whose last span begins no later than what is to come. -/
structure JInv (done acc : List Sp) : Prop where
  set : SetL 0 acc
  pages : ∀ p, inS acc p = inS done p
  len : acc.length ≤ done.length
theorem JInv.start : JInv [] [] := ⟨trivial, fun _ => rfl, Nat.le_refl _⟩
theorem JInv.step {done acc : List Sp} {x : Sp} (h : JInv done acc) (hx : 1 ≤ x.2 ∧ x.1 + x.2 ≤ 1024) (hs : ∀ y, acc.getLast? = some y → y.1 ≤ x.1) :
    JInv (done ++ [x]) (joinStep acc x) ∧ ∀ y, (joinStep acc x).getLast? = some y → y.1 ≤ x.1 := by
  unfold joinStep
  cases hl : acc.getLast? with
  | none =>
    have he : acc = [] := List.getLast?_eq_none_iff.1 hl
    subst he
    refine ⟨⟨⟨Nat.zero_le _, hx.1, hx.2, trivial⟩, fun p => ?_, by simp⟩, fun y hy => ?_⟩
    · have := h.pages p
      rw [inS_append, ← this, inS_nil, Bool.false_or]
    · simp at hy; subst hy; exact Nat.le_refl _
  | some y =>
    simp only
    by_cases hlt : y.1 + y.2 < x.1
    · rw [if_pos hlt]
      refine ⟨⟨h.set.snoc (fun z hz => by rw [hl] at hz; cases hz; exact hlt) (Nat.zero_le _) hx.1 hx.2, fun p => ?_, ?_⟩, fun z hz => ?_⟩
      · rw [inS_append, inS_append, h.pages p]
      · have := h.len; simp; exact this
      · rw [List.getLast?_concat] at hz; cases hz; exact Nat.le_refl _
    · rw [if_neg hlt]
      obtain ⟨pre, rfl⟩ := List.getLast?_eq_some_iff.1 hl
      rw [List.dropLast_concat]
      obtain ⟨k1, k2, _, k4, k5⟩ := h.set.init
      have hyx := hs y hl
      refine ⟨⟨k1.snoc k2 (Nat.zero_le _) ?_ ?_, fun p => ?_, ?_⟩, fun z hz => ?_⟩
      · show 1 ≤ max y.2 (x.1 + x.2 - y.1); omega
      · show y.1 + max y.2 (x.1 + x.2 - y.1) ≤ 1024; omega
      · have hp := h.pages p
        rw [inS_append, inS_one] at hp ⊢
        rw [inS_append, ← hp, inS_one]
        rw [Bool.eq_iff_iff]
        simp only [Bool.or_eq_true, Bool.and_eq_true, decide_eq_true_eq]
        constructor
        · rintro (h1 | h1)
          · exact .inl (.inl h1)
          · by_cases h2 : p < y.1 + y.2
            · exact .inl (.inr ⟨h1.1, h2⟩)
            · exact .inr ⟨by omega, by omega⟩
        · rintro ((h1 | h1) | h1)
          · exact .inl h1
          · exact .inr ⟨h1.1, by omega⟩
          · exact .inr ⟨by omega, by omega⟩
      · have := h.len; simp at this ⊢; omega
      · rw [List.getLast?_concat] at hz; cases hz; exact hyx

theorem set_take : ∀ (L : List Sp) (lo k : Nat) (x : Sp), SetL lo L → L[k]? = some x → ∀ p, x.1 ≤ p → inS (L.take k) p = false
  | [], _, k, x, _, h, _, _ => by simp at h
  | y :: L, lo, 0, x, hs, h, p, hp => rfl
  | y :: L, lo, k + 1, x, hs, h, p, hp => by
    have hk : L[k]? = some x := by simpa using h
    have h1 := set_take L _ k x hs.2.2.2 hk p hp
    have h2 := (SetL.lo hs.2.2.2 x (List.mem_of_getElem? hk)).1
    rw [List.take_succ_cons, inS_cons, h1]
    simp; omega
/-- What lies between the spans of a set: a step. -/
def gapAdd (acc : List Sp) (at_ to : Nat) : List Sp := if at_ < to then acc ++ [(at_, to - at_)] else acc
structure GInv (lo e : Nat) (done acc : List Sp) (q : Nat) : Prop where
  set : SetL 0 acc
  pages : ∀ p, inS acc p = (decide (lo ≤ p) && decide (p < e) && decide (p < q) && !inS done p)
  last : ∀ y, acc.getLast? = some y → y.1 + y.2 < q
  lw : lo ≤ q
  ends : ∀ p, q ≤ p → inS done p = false
  top : q = lo ∨ (1 ≤ q ∧ inS done (q - 1) = true)
theorem GInv.start (lo e : Nat) : GInv lo e [] [] lo := ⟨trivial, fun p => by rw [inS_nil]; simp; omega, fun y hy => by simp at hy, Nat.le_refl _, fun _ _ => rfl, .inl rfl⟩
theorem GInv.step {lo e : Nat} {done acc : List Sp} {q : Nat} {x : Sp} (h : GInv lo e done acc q) (he : e ≤ 1024) (hx : 1 ≤ x.2 ∧ x.1 + x.2 ≤ 1024) (hs : ∀ p, x.1 ≤ p → inS done p = false) :
    GInv lo e (done ++ [x]) (gapAdd acc q (min x.1 e)) (max q (x.1 + x.2)) := by
  have htop : q ≤ lo ∨ q ≤ x.1 := by
    rcases h.top with h1 | ⟨h1, h2⟩
    · exact .inl (by omega)
    · right
      rcases Nat.lt_or_ge x.1 q with h3 | h3
      · rw [hs (q - 1) (by omega)] at h2; cases h2
      · exact h3
  have hpg : ∀ p, inS (gapAdd acc q (min x.1 e)) p = (decide (lo ≤ p) && decide (p < e) && decide (p < max q (x.1 + x.2)) && !inS (done ++ [x]) p) := fun p => by
    rw [inS_append, inS_one]
    have hp := h.pages p
    have hl := h.lw
    have h2 := h.ends p
    have h3 := hs p
    unfold gapAdd
    cases hd : inS done p
    · rw [hd] at hp
      by_cases hlt : q < min x.1 e
      · rw [if_pos hlt, inS_append, inS_one, hp, Bool.eq_iff_iff]
        simp only [Bool.or_eq_true, Bool.and_eq_true, decide_eq_true_eq, Bool.not_eq_true', Bool.or_eq_false_iff, Bool.and_eq_false_iff, decide_eq_false_iff_not]
        constructor
        · rintro (⟨⟨⟨a, b⟩, c⟩, _⟩ | ⟨a, b⟩)
          · exact ⟨⟨⟨a, b⟩, by omega⟩, trivial, .inl (by omega)⟩
          · exact ⟨⟨⟨by omega, by omega⟩, by omega⟩, trivial, .inl (by omega)⟩
        · rintro ⟨⟨⟨a, b⟩, c⟩, _, d⟩
          by_cases hpq : p < q
          · exact .inl ⟨⟨⟨a, b⟩, hpq⟩, trivial⟩
          · exact .inr ⟨by omega, by omega⟩
      · rw [if_neg hlt, hp, Bool.eq_iff_iff]
        simp only [Bool.and_eq_true, decide_eq_true_eq, Bool.not_eq_true', Bool.or_eq_false_iff, Bool.and_eq_false_iff, decide_eq_false_iff_not]
        constructor
        · rintro ⟨⟨⟨a, b⟩, c⟩, _⟩
          exact ⟨⟨⟨a, b⟩, by omega⟩, trivial, .inl (by omega)⟩
        · rintro ⟨⟨⟨a, b⟩, c⟩, _, d⟩
          exact ⟨⟨⟨a, b⟩, by omega⟩, trivial⟩
    · rw [hd] at hp h2 h3
      have q1 : p < q := by
        rcases Nat.lt_or_ge p q with h4 | h4
        · exact h4
        · have := h2 h4; cases this
      rw [show (!(true || _)) = false from rfl, Bool.and_false]
      rw [show (!true) = false from rfl, Bool.and_false] at hp
      split
      · rw [inS_append, hp, inS_one]; simp; omega
      · exact hp
  refine ⟨?_, hpg, ?_, by have := h.lw; omega, fun p hp => ?_, ?_⟩
  · unfold gapAdd
    split
    · exact h.set.snoc (fun y hy => h.last y hy) (Nat.zero_le _) (by show 1 ≤ min x.1 e - q; omega) (by show q + (min x.1 e - q) ≤ 1024; omega)
    · exact h.set
  · intro y hy
    unfold gapAdd at hy
    split at hy
    · rw [List.getLast?_concat] at hy; cases hy; show q + (min x.1 e - q) < _; omega
    · have := h.last y hy; omega
  · rw [inS_append, inS_one, h.ends p (by omega)]; simp; omega
  · rcases Nat.lt_or_ge q (x.1 + x.2) with h1 | h1
    · right
      refine ⟨by omega, ?_⟩
      rw [inS_append, inS_one]; simp; right; omega
    · rcases h.top with h2 | ⟨h2, h3⟩
      · exact .inl (by omega)
      · right
        rw [show max q (x.1 + x.2) = q by omega, inS_append, h3]; exact ⟨h2, rfl⟩
theorem GInv.done {lo e : Nat} {done acc : List Sp} {q : Nat} (h : GInv lo e done acc q) (he : e ≤ 1024) :
    SetL 0 (gapAdd acc q e) ∧ ∀ p, inS (gapAdd acc q e) p = (decide (lo ≤ p) && decide (p < e) && !inS done p) := by
  unfold gapAdd
  have hl := h.lw
  split
  · rename_i hlt
    refine ⟨h.set.snoc (fun y hy => h.last y hy) (Nat.zero_le _) (by show 1 ≤ e - q; omega) (by show q + (e - q) ≤ 1024; omega), fun p => ?_⟩
    rw [inS_append, inS_one, h.pages p]
    have h2 := h.ends p
    by_cases hpq : p < q
    · simp [hpq]; intro h3; omega
    · rw [h2 (by omega), Bool.eq_iff_iff]; simp; omega
  · rename_i hlt
    refine ⟨h.set, fun p => ?_⟩
    rw [h.pages p, Bool.eq_iff_iff]
    simp only [Bool.and_eq_true, decide_eq_true_eq]
    constructor
    · rintro ⟨⟨⟨a, b⟩, c⟩, d⟩; exact ⟨⟨a, b⟩, d⟩
    · rintro ⟨⟨a, b⟩, d⟩; exact ⟨⟨⟨a, b⟩, by omega⟩, d⟩
end Go.Proofs.Ytgljfiihaehedaa
