/- Split and Join, as lists. -/
import Derived.Test.YtdcgfbebeiheiaaGreatDoorLaw
import Derived.Test.YtdcgfbebeiheiaaGreatDoorQuoteM
import Derived.Test.YtdcgfbebeiheiaaGreatDoorSplE
namespace Go.Proofs.YtdcgfbebeiheiaaGreatDoor
open Go.RowKit

/-- How a field is written. -/
def wrB (f : Fd) : List UInt8 := if f.1 then 34 :: (dblQ f.2 ++ [34]) else f.2
/-- Is that a field? -/
def rightB (f : Fd) : Bool := if f.1 then textB f.2 else bareB f.2
def fldB (p : List UInt8) : Fd := ((rfB p).1, (rfB p).2.1)
def okB (p : List UInt8) : Bool := (rfB p).2.2

theorem bare_no {l : List UInt8} (h : bareB l = true) : l ≠ [] ∧ l.length ≤ 200 ∧ (∀ c ∈ l, 33 ≤ (c.toNat : Int) ∧ (c.toNat : Int) ≤ 126) ∧ ∀ c ∈ l, c ≠ 34 := by
  unfold bareB at h
  simp only [Bool.and_eq_true, Bool.not_eq_true', decide_eq_true_eq, decide_eq_false_iff_not] at h
  obtain ⟨⟨⟨h1, h2⟩, h3⟩, h4⟩ := h
  refine ⟨(by intro e; subst e; exact absurd h1 (by decide)), h2, fun c hc => ?_, fun c hc e => ?_⟩
  · unfold withinB at h3
    have := List.all_eq_true.1 h3 c hc
    unfold inB at this
    simpa using this
  · subst e
    have hg := Lib.indexByte_ge l 34
    have hn := Lib.indexByte_none (show Lib.indexByte l 34 = -1 by omega)
    obtain ⟨k, hk⟩ := List.getElem?_of_mem hc
    exact hn k hk
theorem okB_wr {p : List UInt8} (h : okB p = true) : rightB (fldB p) = true ∧ wrB (fldB p) = p := by
  unfold okB rfB at h
  unfold rightB wrB fldB rfB
  cases hp : Lib.hasPrefix p [34]
  · rw [hp] at h
    exact ⟨h, rfl⟩
  · rw [hp] at h
    have hq := quote_unq p (of_decide_eq_true h)
    rw [quoteB_eq] at hq
    by_cases ht : textB (unqB p).1 = true
    · rw [if_pos ht] at hq
      exact ⟨ht, congrArg Prod.fst hq⟩
    · rw [if_neg ht] at hq
      have h2 := congrArg Prod.snd hq
      exact absurd h2 (by simp)
theorem wr_ok {f : Fd} (h : rightB f = true) : okB (wrB f) = true ∧ fldB (wrB f) = f := by
  obtain ⟨q, t⟩ := f
  cases q
  · have hb : bareB t = true := h
    have hp : Lib.hasPrefix t [34] = false := by
      obtain ⟨_, _, _, h4⟩ := bare_no hb
      cases t with
      | nil => rfl
      | cons c r =>
        have := h4 c (by simp)
        simp [Lib.hasPrefix, List.isPrefixOf]
        exact fun e => this e.symm
    show (rfB t).2.2 = true ∧ ((rfB t).1, (rfB t).2.1) = (false, t)
    unfold rfB
    rw [hp]
    exact ⟨hb, rfl⟩
  · have ht : textB t = true := h
    have hq : quoteB t = (34 :: (dblQ t ++ [34]), 0) := by rw [quoteB_eq, if_pos ht]
    have hu := unq_quote t (by rw [hq])
    rw [hq] at hu
    show (rfB (34 :: (dblQ t ++ [34]))).2.2 = true ∧ ((rfB (34 :: (dblQ t ++ [34]))).1, (rfB (34 :: (dblQ t ++ [34]))).2.1) = (true, t)
    have hp : Lib.hasPrefix (34 :: (dblQ t ++ [34])) [34] = true := by simp [Lib.hasPrefix]
    unfold rfB
    rw [hp]
    simp only [hu]
    exact ⟨rfl, rfl⟩

/-- The end, or a blank. -/
def Ends (r : List UInt8) : Prop := r = [] ∨ ∃ r2, r = 32 :: r2
theorem ends_fe {r : List UInt8} (h : Ends r) : feB false r = 0 := by
  rcases h with rfl | ⟨r2, rfl⟩
  · rfl
  · rw [feB, if_pos ⟨rfl, rfl⟩]
theorem n32 {c : UInt8} (h : c = 32) : (c.toNat : Int) = 32 := by rw [h]; rfl
theorem n34 {c : UInt8} (h : c = 34) : (c.toNat : Int) = 34 := by rw [h]; rfl
theorem of32 {c : UInt8} (h : (c.toNat : Int) = 32) : c = 32 := UInt8.toNat_inj.1 (by have : ((32 : UInt8).toNat : Int) = 32 := rfl; omega)
theorem of34 {c : UInt8} (h : (c.toNat : Int) = 34) : c = 34 := UInt8.toNat_inj.1 (by have : ((34 : UInt8).toNat : Int) = 34 := rfl; omega)
theorem fe_dbl : ∀ (t x : List UInt8), feB true (dblQ t ++ x) = (dblQ t).length + feB true x
  | [], x => by simp [dblQ]
  | c :: t, x => by
    by_cases hc : c = 34
    · have e : dblQ (c :: t) = 34 :: 34 :: dblQ t := by rw [dblQ, if_pos hc]
      rw [e, List.cons_append, List.cons_append, feB, if_neg (by decide), if_pos (by decide), feB, if_neg (by decide), if_pos (by decide), Bool.not_true, Bool.not_false, fe_dbl t x]
      simp only [List.length_cons]; omega
    · have e : dblQ (c :: t) = c :: dblQ t := by rw [dblQ, if_neg hc]
      have h3 : ¬ (c.toNat : Int) = 34 := fun h => hc (of34 h)
      rw [e, List.cons_append, feB, if_neg (by simp), if_neg h3, fe_dbl t x]
      simp only [List.length_cons]; omega
theorem fe_bare : ∀ (t x : List UInt8), (∀ c ∈ t, 33 ≤ (c.toNat : Int) ∧ (c.toNat : Int) ≤ 126) → (∀ c ∈ t, c ≠ 34) → feB false (t ++ x) = t.length + feB false x
  | [], x, _, _ => by simp
  | c :: t, x, h1, h2 => by
    have a := h1 c (by simp)
    have b := h2 c (by simp)
    have h3 : ¬ (c.toNat : Int) = 34 := fun h => b (of34 h)
    rw [List.cons_append, feB, if_neg (by omega), if_neg h3, fe_bare t x (fun y hy => h1 y (by simp [hy])) (fun y hy => h2 y (by simp [hy]))]
    simp only [List.length_cons]; omega
theorem fe_wr {f : Fd} (h : rightB f = true) {x : List UInt8} (hx : Ends x) : feB false (wrB f ++ x) = (wrB f).length := by
  obtain ⟨q, t⟩ := f
  cases q
  · obtain ⟨_, _, h3, h4⟩ := bare_no (l := t) h
    show feB false (t ++ x) = t.length
    rw [fe_bare t x h3 h4, ends_fe hx]; rfl
  · have e : wrB (true, t) ++ x = 34 :: (dblQ t ++ (34 :: x)) := by show (34 :: (dblQ t ++ [34])) ++ x = _; simp
    have e2 : (wrB (true, t)).length = (dblQ t).length + 2 := by show (34 :: (dblQ t ++ [34])).length = _; simp
    rw [e, e2, feB, if_neg (by decide), if_pos (by decide), Bool.not_false, fe_dbl, feB, if_neg (by decide), if_pos (by decide), Bool.not_true, ends_fe hx]
    omega
theorem fe_at : ∀ (r : List UInt8) (q : Bool), feB q r < r.length → r[feB q r]? = some 32
  | [], q, h => absurd h (Nat.not_lt_zero _)
  | c :: r, q, h => by
    rw [feB] at h ⊢
    by_cases h1 : (c.toNat : Int) = 32 ∧ q = false
    · rw [if_pos h1]
      show some c = _
      rw [of32 h1.1]
    · rw [if_neg h1] at h ⊢
      rw [Nat.add_comm 1, List.getElem?_cons_succ]
      exact fe_at r _ (by simp only [List.length_cons] at h; omega)
theorem fe_ends (r : List UInt8) : Ends (r.drop (feB false r)) := by
  by_cases h : feB false r < r.length
  · have := fe_at r false h
    rw [List.drop_eq_getElem_cons h]
    rw [List.getElem?_eq_getElem h] at this
    exact .inr ⟨_, by rw [Option.some.inj this]⟩
  · exact .inl (List.drop_eq_nil_of_le (by omega))

theorem qE_plain (c : UInt8) (h : ¬ c = 34) (x : List UInt8) : qE (c :: x) = 1 + qE x := by
  cases x with
  | nil => rfl
  | cons d l => rw [qE, if_neg h]
theorem qE_dbl : ∀ (t x : List UInt8), Ends x → qE (dblQ t ++ 34 :: x) = (dblQ t).length + 1
  | [], x, h => by
    rcases h with rfl | ⟨r2, rfl⟩
    · rfl
    · show qE (34 :: 32 :: r2) = _
      rw [qE, if_pos rfl, if_neg (by decide)]; rfl
  | c :: t, x, h => by
    by_cases hc : c = 34
    · have e : dblQ (c :: t) = 34 :: 34 :: dblQ t := by rw [dblQ, if_pos hc]
      rw [e, List.cons_append, List.cons_append, qE, if_pos rfl, if_pos rfl, qE_dbl t x h]
      simp only [List.length_cons]; omega
    · have e : dblQ (c :: t) = c :: dblQ t := by rw [dblQ, if_neg hc]
      rw [e, List.cons_append, qE_plain c hc, qE_dbl t x h]
      simp only [List.length_cons]; omega
theorem uE_bare : ∀ (t x : List UInt8), (∀ c ∈ t, 33 ≤ (c.toNat : Int) ∧ (c.toNat : Int) ≤ 126) → Ends x → uE (t ++ x) = t.length
  | [], x, _, h => by
    rcases h with rfl | ⟨r2, rfl⟩
    · rfl
    · show uE (32 :: r2) = 0
      rw [uE, if_pos (n32 rfl)]
  | c :: t, x, h1, h => by
    have a := h1 c (by simp)
    rw [List.cons_append, uE, if_neg (by omega), uE_bare t x (fun y hy => h1 y (by simp [hy])) h]
    simp only [List.length_cons]; omega
theorem re_wr {f : Fd} (h : rightB f = true) {x : List UInt8} (hx : Ends x) : reB (wrB f ++ x) = (wrB f).length := by
  obtain ⟨q, t⟩ := f
  cases q
  · obtain ⟨h1, _, h3, h4⟩ := bare_no (l := t) h
    show reB (t ++ x) = t.length
    cases t with
    | nil => exact absurd rfl h1
    | cons c t =>
      have := h4 c (by simp)
      rw [List.cons_append, reB, if_neg this, ← List.cons_append, uE_bare _ x h3 hx]
  · have e : wrB (true, t) ++ x = 34 :: (dblQ t ++ (34 :: x)) := by show (34 :: (dblQ t ++ [34])) ++ x = _; simp
    have e2 : (wrB (true, t)).length = (dblQ t).length + 2 := by show (34 :: (dblQ t ++ [34])).length = _; simp
    rw [e, e2, reB, if_pos rfl, qE_dbl t x hx]
    omega
theorem wr_ne {f : Fd} (h : rightB f = true) : 0 < (wrB f).length := by
  obtain ⟨q, t⟩ := f
  cases q
  · obtain ⟨h1, _⟩ := bare_no (l := t) h
    exact List.length_pos_iff.2 h1
  · show 0 < (34 :: (dblQ t ++ [34])).length
    simp

def pcsB : Nat → List UInt8 → List (List UInt8)
  | 0, _ => []
  | f + 1, r => if feB false r = r.length then [r.take (feB false r)] else r.take (feB false r) :: pcsB f (r.drop (feB false r + 1))
/-- What the other way reads; none: it is refused. -/
def rsB : Nat → List UInt8 → Option (List Fd)
  | 0, _ => some []
  | f + 1, r => if r = [] then some [] else
    if okB (r.take (reB r)) = true ∧ ¬ (reB r < r.length ∧ (¬ r[reB r]?.getD 0 = 32 ∨ reB r + 1 = r.length)) then (rsB f (r.drop (reB r + 1))).map (fldB (r.take (reB r)) :: ·) else none

theorem okB_nil : okB [] = false := by
  unfold okB rfB
  rw [show Lib.hasPrefix [] [34] = false from rfl]
  rfl
theorem feB_le2 : ∀ (l : List UInt8) (q : Bool), feB q l ≤ l.length
  | [], _ => Nat.le_refl _
  | c :: r, q => by
    rw [feB]
    split
    · exact Nat.zero_le _
    · have := feB_le2 r (if (c.toNat : Int) = 34 then !q else q)
      simp only [List.length_cons]; omega
theorem rs_pcs : ∀ (f : Nat) (r : List UInt8), r ≠ [] → r.length < f → rsB f r = if (pcsB f r).all okB then some ((pcsB f r).map fldB) else none
  | 0, r, _, h => absurd h (Nat.not_lt_zero _)
  | f + 1, r, hr, hf => by
    have hle := feB_le2 r false
    have hends := fe_ends r
    have hcat := List.take_append_drop (feB false r) r
    rw [rsB, if_neg hr, pcsB]
    by_cases hok : okB (r.take (feB false r)) = true
    · obtain ⟨w1, w2⟩ := okB_wr hok
      have hre : reB r = feB false r := by
        have h1 := re_wr w1 hends
        rw [w2, hcat, List.length_take, Nat.min_eq_left hle] at h1
        exact h1
      have hpos : 0 < feB false r := by
        have := wr_ne w1
        rw [w2, List.length_take] at this
        omega
      rw [hre]
      by_cases he : feB false r = r.length
      · rw [if_pos ⟨hok, by omega⟩, if_pos he]
        have h0 : r.drop (feB false r + 1) = [] := List.drop_eq_nil_of_le (by omega)
        rw [h0]
        have : rsB f [] = some [] := by cases f <;> simp [rsB]
        rw [this]
        simp [hok]
      · have hlt : feB false r < r.length := by omega
        have hat := fe_at r false hlt
        rw [if_neg he, hat]
        by_cases h1 : feB false r + 1 = r.length
        · rw [if_neg (by intro h; exact h.2 ⟨hlt, .inr h1⟩)]
          have h0 : r.drop (feB false r + 1) = [] := List.drop_eq_nil_of_le (by omega)
          rw [h0]
          cases f with
          | zero => omega
          | succ f =>
            have e : pcsB (f + 1) [] = [[]] := rfl
            rw [e, if_neg]
            simp [okB_nil]
        · have hne : r.drop (feB false r + 1) ≠ [] := by
            intro h
            have := congrArg List.length h
            rw [List.length_drop, List.length_nil] at this
            omega
          have ih := rs_pcs f (r.drop (feB false r + 1)) hne (by rw [List.length_drop]; omega)
          rw [if_pos ⟨hok, by simp; omega⟩, ih]
          simp only [List.all_cons, hok, Bool.true_and, List.map_cons]
          split <;> rfl
    · have hf0 : okB (r.take (feB false r)) = false := by simpa using hok
      have hall : (if feB false r = r.length then [r.take (feB false r)] else r.take (feB false r) :: pcsB f (r.drop (feB false r + 1))).all okB = false := by
        split <;> simp [hf0]
      rw [hall, if_neg]
      · rfl
      · rintro ⟨h1, h2⟩
        apply hok
        obtain ⟨w1, w2⟩ := okB_wr h1
        have hE : Ends (r.drop (reB r)) := by
          by_cases hl : reB r < r.length
          · rw [List.drop_eq_getElem_cons hl]
            refine .inr ⟨r.drop (reB r + 1), ?_⟩
            congr 1
            by_cases h3 : r[reB r]?.getD 0 = 32
            · rw [List.getElem?_eq_getElem hl] at h3
              exact h3
            · exact absurd ⟨hl, .inl h3⟩ h2
          · exact .inl (List.drop_eq_nil_of_le (by omega))
        have h4 := fe_wr w1 hE
        rw [w2, List.take_append_drop] at h4
        rw [List.length_take] at h4
        have h5 : r.take (feB false r) = r.take (reB r) := by
          by_cases hl : reB r ≤ r.length
          · rw [h4, Nat.min_eq_left hl]
          · rw [h4, List.take_of_length_le (i := reB r) (by omega), List.take_of_length_le (by omega)]
        rw [h5]
        exact h1

/-- Pieces with blanks between them. -/
def jn : List (List UInt8) → List UInt8
  | [] => []
  | [p] => p
  | p :: q :: ps => p ++ 32 :: jn (q :: ps)
theorem jn_cons (p : List UInt8) (ps : List (List UInt8)) (h : ps ≠ []) : jn (p :: ps) = p ++ 32 :: jn ps := by
  cases ps with
  | nil => exact absurd rfl h
  | cons q ps => rfl
theorem pcsB_ne (f : Nat) (r : List UInt8) (h : r.length < f) : pcsB f r ≠ [] := by
  cases f with
  | zero => omega
  | succ f => rw [pcsB]; split <;> exact List.cons_ne_nil _ _
theorem jn_pcs : ∀ (f : Nat) (r : List UInt8), r.length < f → jn (pcsB f r) = r
  | 0, r, h => absurd h (Nat.not_lt_zero _)
  | f + 1, r, h => by
    have hle := feB_le2 r false
    rw [pcsB]
    by_cases he : feB false r = r.length
    · rw [if_pos he, he, List.take_length]; rfl
    · have hlt : feB false r < r.length := by omega
      have hat := fe_at r false hlt
      rw [if_neg he, jn_cons _ _ (pcsB_ne _ _ (by rw [List.length_drop]; omega)), jn_pcs f _ (by rw [List.length_drop]; omega)]
      have e : r.drop (feB false r) = 32 :: r.drop (feB false r + 1) := by
        rw [List.drop_eq_getElem_cons hlt]
        rw [List.getElem?_eq_getElem hlt] at hat
        rw [Option.some.inj hat]
      rw [← e, List.take_append_drop]
theorem jn_snoc : ∀ (ps : List (List UInt8)) (p : List UInt8), ps ≠ [] → jn (ps ++ [p]) = jn ps ++ 32 :: p
  | [], p, h => absurd rfl h
  | [q], p, _ => rfl
  | q :: r :: ps, p, _ => by
    show q ++ 32 :: jn (r :: ps ++ [p]) = (q ++ 32 :: jn (r :: ps)) ++ 32 :: p
    rw [jn_snoc (r :: ps) p (List.cons_ne_nil _ _)]
    simp
theorem pcs_jn : ∀ (L : List Fd) (f : Nat), L ≠ [] → (∀ x ∈ L, rightB x = true) → (jn (L.map wrB)).length < f → pcsB f (jn (L.map wrB)) = L.map wrB
  | [], f, h, _, _ => absurd rfl h
  | [x], 0, _, _, hf => absurd hf (Nat.not_lt_zero _)
  | [x], f + 1, _, hr, hf => by
    have h1 := fe_wr (hr x (by simp)) (x := []) (.inl rfl)
    rw [List.append_nil] at h1
    show pcsB (f + 1) (wrB x) = [wrB x]
    rw [pcsB, if_pos h1, h1, List.take_length]
  | x :: y :: L, 0, _, _, hf => absurd hf (Nat.not_lt_zero _)
  | x :: y :: L, f + 1, _, hr, hf => by
    have e : jn ((x :: y :: L).map wrB) = wrB x ++ 32 :: jn ((y :: L).map wrB) := rfl
    rw [e] at hf ⊢
    have h1 := fe_wr (hr x (by simp)) (x := 32 :: jn ((y :: L).map wrB)) (.inr ⟨_, rfl⟩)
    rw [List.length_append, List.length_cons] at hf
    rw [pcsB, h1, if_neg (by rw [List.length_append, List.length_cons]; omega), List.take_left' rfl]
    have e2 : (wrB x ++ 32 :: jn ((y :: L).map wrB)).drop ((wrB x).length + 1) = jn ((y :: L).map wrB) := by
      rw [← List.drop_drop, List.drop_left' rfl]; rfl
    rw [e2, pcs_jn (y :: L) f (List.cons_ne_nil _ _) (fun z hz => hr z (by simp at hz ⊢; right; exact hz)) (by omega)]
    rfl

/-- What Join answers. -/
def joinB (L : List Fd) : List UInt8 × Int :=
  if 64 < L.length then ([], 3) else if L.all rightB then (if 4096 < (jn (L.map wrB)).length then ([], 3) else (jn (L.map wrB), 0)) else ([], 2)
end Go.Proofs.YtdcgfbebeiheiaaGreatDoor
