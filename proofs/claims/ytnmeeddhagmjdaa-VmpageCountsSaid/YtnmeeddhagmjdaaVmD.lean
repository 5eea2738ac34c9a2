/- Whether a call is possible for some pages; what it makes of them. -/
import Derived.Test.YtnmeeddhagmjdaaVmF
namespace Go.Proofs.Ytnmeeddhagmjdaa
open Go.RowKit Go.Shelf
attribute [local go_sem] Oper.semAt_some

/-- The first error of the pages. -/
def posE (chk : Pg → Int) (f : Pages) : List Nat → Int
  | [] => 0
  | j :: l => if chk (f j) ≠ 0 then chk (f j) else posE chk f l
theorem posE_append (chk : Pg → Int) (f : Pages) : ∀ (l r : List Nat), posE chk f (l ++ r) = if posE chk f l ≠ 0 then posE chk f l else posE chk f r
  | [], _ => rfl
  | j :: l, r => by
    show (if chk (f j) ≠ 0 then chk (f j) else posE chk f (l ++ r)) = _
    rw [posE_append chk f l r]
    show _ = if (if chk (f j) ≠ 0 then chk (f j) else posE chk f l) ≠ 0 then (if chk (f j) ≠ 0 then chk (f j) else posE chk f l) else posE chk f r
    by_cases h : chk (f j) ≠ 0
    · simp only [if_pos h]
    · simp only [if_neg h]
/-- The pages of a list are changed. -/
def chgF (chg : Pg → Pg) (f : Pages) : List Nat → Pages
  | [] => f
  | j :: l => chgF chg (updP f j (chg (f j))) l
theorem chgF_append (chg : Pg → Pg) : ∀ (l r : List Nat) (f : Pages), chgF chg f (l ++ r) = chgF chg (chgF chg f l) r
  | [], _, _ => rfl
  | _ :: l, r, _ => chgF_append chg l r _
theorem chgF_at (chg : Pg → Pg) : ∀ (l : List Nat) (f : Pages) (i : Nat), l.Nodup → chgF chg f l i = if i ∈ l then chg (f i) else f i
  | [], f, i, _ => by simp [chgF]
  | j :: l, f, i, h => by
    have h2 := List.nodup_cons.1 h
    rw [chgF, chgF_at chg l _ i h2.2]
    unfold updP
    by_cases e : i = j
    · subst e; simp [h2.1]
    · simp [e]
def CBox (W : World) (b : Nat) (k : Int) (fc fg : Value) : Prop := W.heap[b]? = some (.cells #[.int .i64 k, fc, fg] 120 (0, 0))
theorem CBox.lt {W : World} {b : Nat} {k : Int} {fc fg : Value} (s : CBox W b k fc fg) : b < W.heap.size := (Array.getElem?_eq_some_iff.1 s).1
theorem CBox.later {W V : World} {b : Nat} {k : Int} {fc fg : Value} (s : CBox W b k fc fg) (hb : Below W.heap.size W V) : CBox V b k fc fg := (hb.block b s.lt).trans s
theorem CBox.c0 {W : World} {b : Nat} {k : Int} {fc fg : Value} (s : CBox W b k fc fg) : W.cell? ⟨b, 0, none⟩ = some (.int .i64 k) := by unfold CBox at s; simp [World.cell?, s]
theorem CBox.c1 {W : World} {b : Nat} {k : Int} {fc fg : Value} (s : CBox W b k fc fg) : W.cell? ⟨b, 1, none⟩ = some fc := by unfold CBox at s; simp [World.cell?, s]
theorem CBox.c2 {W : World} {b : Nat} {k : Int} {fc fg : Value} (s : CBox W b k fc fg) : W.cell? ⟨b, 2, none⟩ = some fg := by unfold CBox at s; simp [World.cell?, s]
theorem own_CBox {β : Type} (B b : Nat) (k : Int) (fc fg : Value) : OwnFrom B (fun (_ : β) W => CBox W b k fc fg) := own_cells B b _ rfl
theorem keepsFrom_below {B : Nat} {W V : World} (h : Below W.heap.size W V) : KeepsFrom B W V := ⟨h.size, fun k _ _ h1 _ => (h.block k (Array.getElem?_eq_some_iff.1 h1).1).trans h1⟩

set_option maxRecDepth 100000 in
set_option maxHeartbeats 4000000 in
theorem possible_is (cf : Nat) (clb : Array Value) (eg : ∀ args w, (callFunc cf args).run Try.prog w = .ok (.enter cf args) w) (chk : Pg → Int) (fg : Value) (kd : Int) (S P a n : Nat) (han : a + n ≤ 1024) (f : Pages) (v : Value) (c h : Nat → Int) (w : World)
    (hS : SyBox w S P v c h) (hC : ∀ V, Below w.heap.size w V → ∀ j, j < 1024 → Calls Try.prog cf (#[.pointer (some ⟨P, j * 66, none⟩)] ++ clb) V fun e V' => e = .returned (.int .i64 (chk (f j))) ∧ Below V.heap.size V V') :
    Calls Try.prog 86 #[.pointer (some ⟨S, 0, none⟩), .agg #[.int .i64 kd, .func (.func cf) #[] clb, fg], .int .i64 (a : Int), .int .i64 (n : Int)] w fun e w' => e = .returned (.int .i64 (posE chk f (List.range' a n))) ∧ Below w.heap.size w w' := by
  refine (callsIn_wide (n := 5)).1 ?_
  refine callsIn_of_wp_marks Try.func86 rfl trivial ?_ rfl
  simp only [Try.ntmps86, List.size_toArray, List.length_cons, List.length_nil, Nat.reduceAdd, Nat.reduceSub, Array.replicate_succ, Array.replicate_zero, List.push_toArray, List.append_toArray, List.nil_append, List.cons_append]
  have hf1 := wide_fn 55
  have hf2 := wide_fn cf
  obtain ⟨W1, hW1⟩ : ∃ x, (w.alloc (.cells #[.int .i64 kd, .func (.func cf) #[] clb, fg] 120)).alloc (.cells #[.int .i64 0] 29) = x := ⟨_, rfl⟩
  have hb1 : Below w.heap.size w W1 := by rw [← hW1]; exact ((Below.refl _ _).alloc (Nat.le_refl _) _).alloc (by simp) _
  have hz1 : W1.heap.size = w.heap.size + 2 := by rw [← hW1]; simp
  have bC : CBox W1 w.heap.size kd (.func (.func cf) #[] clb) fg := by rw [← hW1]; exact (Below.heap_alloc _ _ _ (by simp)).trans (World.alloc_heap_new w _)
  have bR : Boxed W1 (w.heap.size + 1) 29 (.int .i64 0) := by
    have := Boxed.new (w.alloc (.cells #[.int .i64 kd, .func (.func cf) #[] clb, fg] 120)) 29 (.int .i64 0)
    rw [World.size_alloc] at this
    rw [← hW1]; exact this
  gi_wp2_with fail
  try rw [hW1]
  clear hW1
  refine (from_any _ _ _ _ _).mono ?_
  rintro e w' ⟨rfl, hw'⟩
  obtain ⟨W2, hW2, hb2, hz2, f0, f1, f2⟩ := from_world W1 (.pointer (some ⟨S, 0, none⟩)) a n
  rw [hW2] at hw'
  subst hw'
  clear hW2
  have bC2 := bC.later hb2
  have bR2 : Boxed W2 (w.heap.size + 1) 29 (.int .i64 0) := bR.kept (grown_of_below hb2) (by simp)
  have hB2 := hb1.trans (hb2.mono hb1.size)
  have hSl := hS.lt
  rw [hz1] at f0 f1 f2
  gi_wp2_with fail
  try rw [hz1]
  refine range_g rfl (by decide) (gf := 83) (lb := #[.pointer (some ⟨w.heap.size + 2 + 1, 0, none⟩), .pointer (some ⟨w.heap.size + 2 + 2, 0, none⟩), .pointer (some ⟨w.heap.size + 2, 0, none⟩)]) rfl (wide_fn _) (enters_of Try.func83 (by kernel_rfl) rfl)
    (from_g 4 (by decide) S P (w.heap.size + 2 + 1) (w.heap.size + 2 + 2) (w.heap.size + 2) a n han (fun q => q = S ∨ (w.heap.size + 2 ≤ q ∧ q ≤ w.heap.size + 4)) (.inr (by omega)) (.inr (by omega)) (.inr (by omega)) (.inl rfl) W2 v c h f1 f2 f0 (hS.later hB2)) (fun h k => KC.trans h k) (fun _ V k o o' hk hc _ => KC.putObj V k o o' hk hc) (fun _ => rfl)
    (fun pre V => posE chk f (pre.map Subtype.val) = 0 ∧ (Boxed V (w.heap.size + 1) 29 (.int .i64 0) ∧ CBox V w.heap.size kd (.func (.func cf) #[] clb) fg) ∧ Below w.heap.size w V)
    (fun c pre V => ∃ r : Int, (c = .ret ∧ posE chk f (pre.map Subtype.val) = r ∧ r ≠ 0) ∧ Boxed V (w.heap.size + 1) 29 (.int .i64 r) ∧ Below w.heap.size w V)
    ?own ?ownx ?start ?a1 ?assign ?body ?done ?stop
  case assign =>
    intro l x Y K hK
    simp only [encP]
    gi_wp2
    exact hK
  case own => exact OwnFrom.and (ownFrom_pure _ (fun pre : List Vn => posE chk f (pre.map Subtype.val) = 0)) (OwnFrom.and (OwnFrom.and (Own.from (boxed_own _ _ (fun _ => .int .i64 0)) _) (own_CBox _ _ _ _ _)) (ownFrom_below (Nat.le_refl _) hB2.size))
  case ownx =>
    rintro c0 pre A C row ⟨r, h1, h2, h3⟩ hg hr
    exact ⟨r, h1, Own.from (boxed_own (β := Unit) _ _ (fun _ => .int .i64 r)) _ () A C row h2 hg hr, ownFrom_below (β := Unit) (Nat.le_refl _) hB2.size () A C row h3 hg hr⟩
  case start => exact ⟨rfl, ⟨bR2, bC2⟩, hB2⟩
  case body =>
    rintro l pre x V ⟨hp, ⟨h1, h2⟩, hB⟩ hlen
    obtain ⟨x, hx⟩ := x
    have c1 := h2.c1
    have q1 := h1.cell
    have q2 := h1.frozen
    obtain ⟨r, hr⟩ : ∃ r, chk (f x) = r := ⟨_, rfl⟩
    have hE : posE chk f ((pre ++ [(⟨x, hx⟩ : Vn)]).map Subtype.val) = r := by
      rw [List.map_append, posE_append, hp, ← hr]
      show (if chk (f x) ≠ 0 then chk (f x) else 0) = _
      by_cases h0 : chk (f x) = 0
      · rw [if_neg (by simp [h0]), h0]
      · rw [if_pos h0]
    have hC1 := hC V hB x hx
    rw [hr] at hC1
    have HE := Lib.hid hE
    have hf3 : (Fence.wide.inRound l).fn cf := hf2
    by_cases h0 : r = 0
    · subst h0
      clear hE hr hp
      gi_wp2_with fail
      refine (CallsIn.inRound l (callsIn_wide.2 hC1)).mono ?_
      rintro e V' ⟨rfl, B'⟩
      have k1 : Boxed V' (w.heap.size + 1) 29 (.int .i64 0) := h1.kept (grown_of_below B') (by simp)
      have k2 := h2.later B'
      gi_wp2_with fail
      exact ⟨keepsFrom_below B', KC.of_below B', HE.out, ⟨k1, k2⟩, hB.trans (B'.mono hB.size)⟩
    · have hq : (r != 0) = true := by simpa using h0
      have H0 := Lib.hid h0
      clear hE hr hp h0
      gi_wp2_with fail
      refine (CallsIn.inRound l (callsIn_wide.2 hC1)).mono ?_
      rintro e V' ⟨rfl, B'⟩
      have k1 : Boxed V' (w.heap.size + 1) 29 (.int .i64 0) := h1.kept (grown_of_below B') (by simp)
      have q1 := k1.cell
      have q2 := k1.frozen
      gi_wp2_with fail
      exact ⟨(keepsFrom_below B').trans ((KeepsOthers.setCell _ _ _).from _), r, ⟨rfl, HE.out, H0.out⟩, k1.set _, (hB.trans (B'.mono hB.size)).setCell (by dsimp only; omega) _⟩
  case done =>
    rintro D ys V hD hys ⟨hp, ⟨h1, h2⟩, hB⟩ hK
    rw [hys] at hp
    have HP := Lib.hid hp
    have q1 := h1.cell
    have q2 := h1.frozen
    clear hp hys
    gi_wp2_with fail
    have cK : (V.setCell ⟨w.heap.size + 1, 0, none⟩ (.int .i64 0)).heap[D]? = some (.deferred (some [])) := by
      rw [Below.heap_setCell _ _ _ _ (by simp; omega)]; exact hK
    have k1 := ((h1.set (.int .i64 0)).kept (grownBy_putObj' _ D (.deferred none)) (by simp; omega)).cell
    refine ⟨by simp, .inl ⟨D, _, rfl, run_takeDeferred cK, ?_⟩⟩
    exact ⟨.int .i64 0, by simp [results, Try.results86, go_sem, k1], by rw [HP.out], (hB.setCell (by dsimp only; omega) _).trans (belowK_b (w := w) (Nat.le_refl _) _ D _ _ (by omega) cK rfl rfl)⟩
  case stop =>
    rintro D c0 pre V hD hSp ⟨r, ⟨rfl, hp, h0⟩, h1, hB⟩ hK
    have HP : Hid (posE chk f (List.range' a n) = r) := by
      obtain ⟨r2, hr2⟩ := hSp
      unfold Hid
      rw [← hr2, posE_append, hp, if_pos h0]
    clear hp hSp h0
    gi_wp2_with fail
    have k1 := (h1.kept (grownBy_putObj' V D (.deferred none)) (by simp; omega)).cell
    refine ⟨by simp, .inl ⟨D, _, rfl, run_takeDeferred hK, ?_⟩⟩
    exact ⟨.int .i64 r, by simp [results, Try.results86, go_sem, k1], by rw [HP.out], hB.trans (belowK_b (w := w) (Nat.le_refl _) V D _ _ (by omega) hK rfl rfl)⟩
end Go.Proofs.Ytnmeeddhagmjdaa
