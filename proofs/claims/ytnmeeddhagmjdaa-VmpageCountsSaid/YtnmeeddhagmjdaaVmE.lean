/- Pages are changed. -/
import Derived.Test.YtnmeeddhagmjdaaVmD
namespace Go.Proofs.Ytnmeeddhagmjdaa
open Go.RowKit Go.Shelf
attribute [local go_sem] Oper.semAt_some

theorem own_PgAt {β : Type} (B P : Nat) (f : β → Pages) : OwnFrom B (fun (s : β) W => PgAt W P (f s)) := fun s A C row ⟨cs, h1, h2⟩ hg hr => by
  have := own_cells (β := Unit) B P _ rfl () A C row h1 hg hr
  exact ⟨cs, this, h2⟩
theorem own_Keep {β : Type} {B : Nat} {q : Nat → Prop} {w : World} (hB : w.heap.size ≤ B) : OwnFrom B (fun (_ : β) W => Keep q w W) := fun _ A C row h hg hr =>
  ⟨hg.os.trans h.os, hg.tape.trans h.tape, hg.output.trans h.output, Nat.le_trans h.size hg.size, fun k hk hq => (hg.block k (Nat.lt_of_lt_of_le hk h.size) (fun e => by have := (hr k e.symm).1; omega)).trans (h.block k hk hq)⟩
theorem Keep.putObj {q : Nat → Prop} {w V : World} (h : Keep q w V) (D : Nat) (o : Obj) (hD : w.heap.size ≤ D) : Keep q w (V.putObj D o) :=
  have g := grownBy_putObj' V D o
  ⟨g.os.trans h.os, g.tape.trans h.tape, g.output.trans h.output, Nat.le_trans h.size g.size, fun k hk hq => (World.putObj_heap_other (by omega)).trans (h.block k hk hq)⟩
theorem KC.of_keep {p q : Nat → Prop} {A C : World} (h : Keep q A C) (hq : ∀ k, p k → ¬ q k) : KC p A C := fun k _ hp h1 _ => (h.block k (Array.getElem?_eq_some_iff.1 h1).1 (hq k hp)).trans h1

set_option maxRecDepth 100000 in
set_option maxHeartbeats 4000000 in
theorem change_is (gf : Nat) (glb : Array Value) (eg : ∀ args w, (callFunc gf args).run Try.prog w = .ok (.enter gf args) w) (chg : Pg → Pg) (fc : Value) (kd : Int) (S P a n : Nat) (hSP : S ≠ P) (han : a + n ≤ 1024) (f : Pages) (v : Value) (c h : Nat → Int) (w : World)
    (hS : SyBox w S P v c h) (hP : PgAt w P f) (hG : ∀ V f', PgAt V P f' → Keep (· = P) w V → ∀ j, j < 1024 → Calls Try.prog gf (#[.pointer (some ⟨P, j * 66, none⟩)] ++ glb) V fun e V' => e = .returned (.tuple #[]) ∧ Chg V P (updP f' j (chg (f' j))) V') :
    Calls Try.prog 87 #[.pointer (some ⟨S, 0, none⟩), .agg #[.int .i64 kd, fc, .func (.func gf) #[] glb], .int .i64 (a : Int), .int .i64 (n : Int)] w fun e w' => e = .returned (.tuple #[]) ∧ PgAt w' P (chgF chg f (List.range' a n)) ∧ Keep (· = P) w w' := by
  refine (callsIn_wide (n := 5)).1 ?_
  refine callsIn_of_wp_marks Try.func87 rfl trivial ?_ rfl
  simp only [Try.ntmps87, List.size_toArray, List.length_cons, List.length_nil, Nat.reduceAdd, Nat.reduceSub, Array.replicate_succ, Array.replicate_zero, List.push_toArray, List.append_toArray, List.nil_append, List.cons_append]
  have hf1 := wide_fn 55
  have hf2 := wide_fn gf
  obtain ⟨W1, hW1⟩ : ∃ x, w.alloc (.cells #[.int .i64 kd, fc, .func (.func gf) #[] glb] 120) = x := ⟨_, rfl⟩
  have hb1 : Below w.heap.size w W1 := by rw [← hW1]; exact (Below.refl _ _).alloc (Nat.le_refl _) _
  have hz1 : W1.heap.size = w.heap.size + 1 := by rw [← hW1]; simp
  have bC : CBox W1 w.heap.size kd fc (.func (.func gf) #[] glb) := by rw [← hW1]; exact World.alloc_heap_new w _
  gi_wp2_with fail
  try rw [hW1]
  clear hW1
  refine (from_any _ _ _ _ _).mono ?_
  rintro e w' ⟨rfl, hw'⟩
  obtain ⟨W2, hW2, hb2, hz2, f0, f1, f2⟩ := from_world W1 (.pointer (some ⟨S, 0, none⟩)) a n
  rw [hW2] at hw'
  subst hw'
  clear hW2
  have bC2 := bC.later hb2
  have hB2 := hb1.trans (hb2.mono hb1.size)
  have hSl := hS.lt
  have hPl := hP.lt
  rw [hz1] at f0 f1 f2
  gi_wp2_with fail
  try rw [hz1]
  refine range_g rfl (by decide) (gf := 83) (lb := #[.pointer (some ⟨w.heap.size + 1 + 1, 0, none⟩), .pointer (some ⟨w.heap.size + 1 + 2, 0, none⟩), .pointer (some ⟨w.heap.size + 1, 0, none⟩)]) rfl (wide_fn _) (enters_of Try.func83 (by kernel_rfl) rfl)
    (from_g 4 (by decide) S P (w.heap.size + 1 + 1) (w.heap.size + 1 + 2) (w.heap.size + 1) a n han (fun q => q = S ∨ (w.heap.size + 1 ≤ q ∧ q ≤ w.heap.size + 3)) (.inr (by omega)) (.inr (by omega)) (.inr (by omega)) (.inl rfl) W2 v c h f1 f2 f0 (hS.later hB2)) (fun h k => KC.trans h k) (fun _ V k o o' hk hc _ => KC.putObj V k o o' hk hc) (fun _ => rfl)
    (fun pre V => PgAt V P (chgF chg f (pre.map Subtype.val)) ∧ CBox V w.heap.size kd fc (.func (.func gf) #[] glb) ∧ Keep (· = P) w V)
    (fun _ _ _ => False)
    ?own (fun _ _ _ _ _ h _ _ => h) ?start ?a1 ?assign ?body ?done ?stop
  case assign =>
    intro l x Y K hK
    simp only [encP]
    gi_wp2
    exact hK
  case own => exact OwnFrom.and (own_PgAt _ P fun pre : List Vn => chgF chg f (pre.map Subtype.val)) (OwnFrom.and (own_CBox _ _ _ _ _) (own_Keep hB2.size))
  case start => exact ⟨hP.later hB2, bC2, Keep.of_below hB2⟩
  case body =>
    rintro l pre x V ⟨hp, h2, hB⟩ hlen
    obtain ⟨x, hx⟩ := x
    have c1 := h2.c2
    have hG1 := hG V _ hp hB x hx
    have HE : Hid (updP (chgF chg f (List.map Subtype.val pre)) x (chg (chgF chg f (List.map Subtype.val pre) x)) = chgF chg f ((pre ++ [(⟨x, hx⟩ : Vn)]).map Subtype.val)) := by
      unfold Hid
      rw [List.map_append, chgF_append]; rfl
    have hf3 : (Fence.wide.inRound l).fn gf := hf2
    have h2l := h2.lt
    gi_wp2_with fail
    refine (CallsIn.inRound l (callsIn_wide.2 hG1)).mono ?_
    rintro e V' ⟨rfl, hp', hk', ho'⟩
    rw [HE.out] at hp'
    have k2 : CBox V' w.heap.size kd fc (.func (.func gf) #[] glb) := (hk'.block _ h2l (by omega)).trans h2
    gi_wp2_with fail
    exact ⟨ho'.from _, KC.of_keep hk' (by rintro k (rfl | hk) e <;> omega), hp', k2, hB.trans hk'⟩
  case stop => exact fun _ _ _ _ _ _ h _ => h.elim
  case done =>
    rintro D ys V hD hys ⟨hp, h2, hB⟩ hK
    rw [hys] at hp
    have HP := Lib.hid hp
    clear hp hys
    gi_wp2_with fail
    refine ⟨by simp, .inl ⟨D, _, rfl, run_takeDeferred hK, ?_⟩⟩
    exact ⟨.tuple #[], by simp [results, Try.results87, go_sem], rfl, HP.out.of_heap (World.putObj_heap_other (by omega)), hB.putObj D _ (by omega)⟩
end Go.Proofs.Ytnmeeddhagmjdaa
