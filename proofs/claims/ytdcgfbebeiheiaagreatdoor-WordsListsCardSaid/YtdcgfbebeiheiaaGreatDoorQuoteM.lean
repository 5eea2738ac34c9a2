/- Quoting and unquoting, said of lists of bytes: each undoes the other, and the two ways to say them agree. -/
import Derived.Test.YtdcgfbebeiheiaaGreatDoorField
import Derived.Lib.CountLaws
namespace Go.Proofs.YtdcgfbebeiheiaaGreatDoor
open Go.RowKit

theorem ra_nil (o new : List UInt8) (ho : o ≠ []) (hn : o ≠ new) : Lib.replaceAll [] o new = [] := by
  have h : Lib.index [] o = -1 := by cases o with | nil => exact absurd rfl ho | cons a b => rfl
  unfold Lib.replaceAll Lib.replace
  rw [if_neg (by simpa using hn)]
  unfold Lib.replaceNum
  rw [if_pos (Or.inl (by decide)), Lib.count_miss h]
  rfl

theorem ra_def (s o new : List UInt8) (hn : o ≠ new) : Lib.replaceAll s o new = Lib.replaceK o new (Lib.count s o) s := by
  unfold Lib.replaceAll Lib.replace
  rw [if_neg (by simpa using hn)]
  unfold Lib.replaceNum
  rw [if_pos (Or.inl (by decide))]

theorem ra_hit (c : UInt8) (l o new : List UInt8) (ho : o ≠ []) (hn : o ≠ new) (hp : o.isPrefixOf (c :: l) = true) :
    Lib.replaceAll (c :: l) o new = new ++ Lib.replaceAll ((c :: l).drop o.length) o new := by
  have hi : Lib.index (c :: l) o = ((0 : Nat) : Int) := by rw [Lib.index, if_pos hp]; rfl
  rw [ra_def _ _ _ hn, ra_def _ _ _ hn, Lib.count_hit ho hi, Nat.add_comm 1, Lib.replaceK_hit _ _ _ _ _ hi]
  simp

theorem ra_miss (c : UInt8) (l o new : List UInt8) (ho : o ≠ []) (hn : o ≠ new) (hp : o.isPrefixOf (c :: l) = false) :
    Lib.replaceAll (c :: l) o new = c :: Lib.replaceAll l o new := by
  have h0 : Lib.index (c :: l) o = if Lib.index l o == -1 then -1 else Lib.index l o + 1 := by rw [Lib.index, if_neg (by simp [hp])]
  rw [ra_def _ _ _ hn, ra_def _ _ _ hn]
  rcases Lib.index_spec l o with ⟨h1, _⟩ | ⟨i, h1, _, _, _⟩
  · have h2 : Lib.index (c :: l) o = -1 := by rw [h0, h1]; rfl
    rw [Lib.count_miss h1, Lib.count_miss h2]
    rfl
  · have h2 : Lib.index (c :: l) o = ((i + 1 : Nat) : Int) := by
      rw [h0, h1, if_neg (by intro e; have := eq_of_beq e; omega)]; rfl
    rw [Lib.count_hit ho h1, Lib.count_hit ho h2, Nat.add_comm 1, Nat.add_comm 1, Lib.replaceK_hit _ _ _ _ _ h1, Lib.replaceK_hit _ _ _ _ _ h2]
    have e : (c :: l).drop (i + 1 + o.length) = l.drop (i + o.length) := by rw [show i + 1 + o.length = (i + o.length) + 1 by omega]; rfl
    rw [e]
    simp

/-- Each double quote written twice. -/
def dblQ : List UInt8 → List UInt8
  | [] => []
  | c :: l => if c = 34 then 34 :: 34 :: dblQ l else c :: dblQ l

theorem ra_dbl : ∀ l : List UInt8, Lib.replaceAll l [34] [34, 34] = dblQ l
  | [] => ra_nil _ _ (by decide) (by decide)
  | c :: l => by
    by_cases h : c = 34
    · rw [ra_hit _ _ _ _ (by decide) (by decide) (by simp [h]), dblQ, if_pos h]
      simp [ra_dbl l]
    · rw [ra_miss _ _ _ _ (by decide) (by decide) (by simp [List.isPrefixOf]; exact fun e => h e.symm), dblQ, if_neg h, ra_dbl l]

theorem ra_undbl : ∀ l : List UInt8, Lib.replaceAll (dblQ l) [34, 34] [34] = l
  | [] => ra_nil _ _ (by decide) (by decide)
  | c :: l => by
    by_cases h : c = 34
    · rw [dblQ, if_pos h, ra_hit _ _ _ _ (by decide) (by decide) (by simp)]
      simp [ra_undbl l, h]
    · rw [dblQ, if_neg h, ra_miss _ _ _ _ (by decide) (by decide) (by simp [List.isPrefixOf]; exact fun e => absurd e.symm h), ra_undbl l]

/-- What stands between the quotes, read; none where a double quote stands alone. -/
def unDbl : List UInt8 → Option (List UInt8)
  | [] => some []
  | [c] => if c = 34 then none else some [c]
  | c :: d :: l => if c = 34 then (if d = 34 then (unDbl l).map (34 :: ·) else none) else (unDbl (d :: l)).map (c :: ·)

theorem unDbl_dbl : ∀ t : List UInt8, unDbl (dblQ t) = some t
  | [] => rfl
  | c :: t => by
    by_cases h : c = 34
    · rw [dblQ, if_pos h, unDbl, if_pos rfl, if_pos rfl, unDbl_dbl t, h]; rfl
    · rw [dblQ, if_neg h]
      have ih := unDbl_dbl t
      cases hd : dblQ t with
      | nil => rw [hd] at ih; rw [unDbl, if_neg h]; rw [unDbl] at ih; have := Option.some.inj ih; rw [← this]
      | cons a b => rw [hd] at ih; rw [unDbl, if_neg h, ih]; rfl

theorem dbl_unDbl : ∀ (n : Nat) (m t : List UInt8), m.length ≤ n → unDbl m = some t → m = dblQ t
  | 0, [], t, _, h => by rw [unDbl] at h; cases h; rfl
  | n + 1, [], t, _, h => by rw [unDbl] at h; cases h; rfl
  | n + 1, [c], t, _, h => by
    rw [unDbl] at h
    by_cases hc : c = 34
    · rw [if_pos hc] at h; cases h
    · rw [if_neg hc] at h; cases h; rw [dblQ, if_neg hc]; rfl
  | n + 1, c :: d :: l, t, hl, h => by
    rw [unDbl] at h
    simp only [List.length_cons] at hl
    by_cases hc : c = 34
    · rw [if_pos hc] at h
      by_cases hd : d = 34
      · rw [if_pos hd] at h
        cases hu : unDbl l with
        | none => rw [hu] at h; cases h
        | some u =>
          rw [hu] at h
          have e := Option.some.inj h
          subst e
          rw [dblQ, if_pos rfl, ← dbl_unDbl n l u (by omega) hu, hc, hd]
      · rw [if_neg hd] at h; cases h
    · rw [if_neg hc] at h
      cases hu : unDbl (d :: l) with
      | none => rw [hu] at h; cases h
      | some u =>
        rw [hu] at h
        have e := Option.some.inj h
        subst e
        rw [dblQ, if_neg hc, ← dbl_unDbl n (d :: l) u (by simp; omega) hu]

/-- Unquote, said by what stands between the quotes. -/
theorem unqB_eq (l : List UInt8) : unqB l =
    if decide (2 ≤ l.length) && decide (((l[0]?.getD 0).toNat : Int) = 34) && decide (((l[l.length - 1]?.getD 0).toNat : Int) = 34) then
      (match unDbl (innerB l) with
      | some t => (if textB t then (t, 0) else ([], 6) : List UInt8 × Int)
      | none => (([], 6) : List UInt8 × Int))
    else ([], 6) := by
  unfold unqB
  split
  · rw [ra_dbl]
    cases hu : unDbl (innerB l) with
    | some t =>
      have e := dbl_unDbl _ _ _ (Nat.le_refl _) hu
      have e2 : unqT l = t := by unfold unqT; rw [e, ra_undbl]
      rw [e2, e]
      simp
    | none =>
      have : (dblQ (unqT l) == innerB l) = false := by
        cases hb : (dblQ (unqT l) == innerB l) with
        | false => rfl
        | true =>
          have e := eq_of_beq hb
          rw [← e, unDbl_dbl] at hu
          cases hu
      rw [this, Bool.and_false]
      rfl
  · rfl

theorem quoteB_eq (l : List UInt8) : quoteB l = if textB l then (34 :: (dblQ l ++ [34]), 0) else ([], 2) := by
  unfold quoteB; rw [ra_dbl]

theorem inner_quote (l : List UInt8) : innerB (34 :: (dblQ l ++ [34])) = dblQ l := by
  unfold innerB
  simp

theorem unq_quote (l : List UInt8) (h : (quoteB l).2 = 0) : unqB (quoteB l).1 = (l, 0) := by
  rw [quoteB_eq] at h ⊢
  by_cases ht : textB l = true
  · rw [if_pos ht, unqB_eq, inner_quote, unDbl_dbl]
    rw [if_pos (by simp)]
    simp only []
    rw [if_pos ht]
  · rw [if_neg ht] at h; exact absurd h (by decide)

theorem quote_unq (l : List UInt8) (h : (unqB l).2 = 0) : quoteB (unqB l).1 = (l, 0) := by
  rw [unqB_eq] at h ⊢
  by_cases hc : (decide (2 ≤ l.length) && decide (((l[0]?.getD 0).toNat : Int) = 34) && decide (((l[l.length - 1]?.getD 0).toNat : Int) = 34)) = true
  · rw [if_pos hc] at h ⊢
    cases hu : unDbl (innerB l) with
    | none => rw [hu] at h; exact absurd h (by decide)
    | some t =>
      rw [hu] at h
      simp only at h ⊢
      by_cases ht : textB t = true
      · rw [if_pos ht, quoteB_eq, if_pos ht, ← dbl_unDbl _ _ _ (Nat.le_refl _) hu]
        simp only [Bool.and_eq_true, decide_eq_true_eq] at hc
        obtain ⟨⟨h2, h0⟩, h1⟩ := hc
        have e : 34 :: (innerB l ++ [34]) = l := by
          unfold innerB
          match l, h2 with
          | a :: b :: r, _ =>
            simp only [List.length_cons, List.getElem?_cons_zero, Option.getD_some] at h0 h1 ⊢
            have ha : a = 34 := UInt8.toNat_inj.1 (by have : ((34 : UInt8).toNat : Int) = 34 := rfl; omega)
            have hlen : (b :: r).length = r.length + 1 := rfl
            have hlast : (a :: b :: r)[r.length + 1 + 1 - 1]? = (b :: r)[r.length]? := by simp
            rw [hlast] at h1
            have hl2 : (b :: r)[r.length]? = some 34 := by
              rw [List.getElem?_eq_getElem (by simp)] at h1 ⊢
              simp only [Option.getD_some] at h1
              exact congrArg some (UInt8.toNat_inj.1 (by have : ((34 : UInt8).toNat : Int) = 34 := rfl; omega))
            have e3 : (a :: b :: r).drop 1 = b :: r := rfl
            rw [e3, show r.length + 1 + 1 - 1 - 1 = r.length by omega, ha]
            have : (b :: r).take r.length ++ [34] = b :: r := by
              have := List.take_append_getElem (l := b :: r) (i := r.length) (by simp)
              rw [List.getElem?_eq_getElem (by simp)] at hl2
              rw [Option.some.inj hl2] at this
              rw [this]
              exact List.take_of_length_le (by simp)
            rw [this]
        rw [e]
      · rw [if_neg ht] at h; exact absurd h (by decide)
  · rw [if_neg hc] at h; exact absurd h (by decide)
end Go.Proofs.YtdcgfbebeiheiaaGreatDoor
