/- RefusalsCounts: a valid plan. -/
import Derived.Test.YtldebakeebajkaaDoorRfFar
namespace Go.Proofs.YtldebakeebajkaaDoor
open Go.RowKit Go.Shelf
attribute [local go_sem] Oper.semAt_some

def ci (f : Nat → Nat) : Nat → Int := fun k => (f k : Int)
def updN (f : Nat → Nat) (k x : Nat) : Nat → Nat := fun j => if j = k then x else f j
def hf (L : List Ru) (f : Nat → Nat) : Nat → Nat := fun k => hitN L k (f k)
/-- No call behind l up to m is refused. -/
def LS (L : List Ru) (k l m : Nat) : Prop := l ≤ m ∧ ∀ j, l < j → j ≤ m → refP L k j = false
theorem updN_same (f : Nat → Nat) (k x : Nat) : updN f k x k = x := by unfold updN; rw [if_pos rfl]
theorem ci_upd (f : Nat → Nat) (k x : Nat) : upd (ci f) k (x : Nat) = ci (updN f k x) := by
  funext j; unfold upd ci updN; split <;> rfl
theorem nxH_hf (L : List Ru) (f : Nat → Nat) (k : Nat) : nxH L (ci (hf L f)) k (f k) = ci (hf L (updN f k (f k + 1))) := by
  funext j
  unfold nxH
  by_cases hj : j = k
  · subst hj
    have e : ci (hf L (updN f j (f j + 1))) j = ((hitN L j (f j) + if refP L j (f j + 1) then 1 else 0 : Nat) : Int) := by
      unfold ci hf; rw [updN_same, hitN_succ]
    rw [e]
    cases hr : refP L j (f j + 1)
    · simp [ci, hf]
    · simp [upd, ci, hf]
  · have e : ci (hf L (updN f k (f k + 1))) j = ci (hf L f) j := by unfold ci hf updN; rw [if_neg hj]
    rw [e]
    split
    · unfold upd; rw [if_neg hj]
    · rfl
theorem csF_hf (L : List Ru) (f : Nat → Nat) (h : ∀ k, k < 7 → f k ≤ 1000000) : csF L (ci f) (ci (hf L f)) = 0 := csF_all fun k hk => by
  have := h k hk
  unfold okS ci hf
  simp; omega
theorem LS_step {L : List Ru} {k l m : Nat} (h : LS L k l m) (hr : refP L k (m + 1) = false) : LS L k l (m + 1) :=
  ⟨by have := h.1; omega, fun j h1 h2 => by
    rcases Nat.lt_or_ge m j with h3 | h3
    · obtain rfl : j = m + 1 := by omega
      exact hr
    · exact h.2 j h1 h3⟩
theorem LS_self (L : List Ru) (k m : Nat) : LS L k m m := ⟨Nat.le_refl _, fun j h1 h2 => by omega⟩
theorem LS_aft {L : List Ru} (hL : OkL L) {k l m : Nat} (h : LS L k l m) (hr : refP L k (m + 1) = true) : aft L k l = some (m + 1) := by
  have hi := aft_inv k l L hL.2
  cases ha : aft L k l with
  | none => rw [ha] at hi; rw [hi (m + 1) (by have := h.1; omega)] at hr; cases hr
  | some x =>
    rw [ha] at hi
    obtain ⟨h1, h2, h3⟩ := hi
    rcases Nat.lt_or_ge x (m + 1) with h4 | h4
    · rw [h.2 x h1 (by omega)] at h2; cases h2
    · rcases Nat.lt_or_ge (m + 1) x with h5 | h5
      · rw [h3 (m + 1) (by have := h.1; omega) h5] at hr; cases hr
      · congr 1; omega
/-- A block that holds an array of seven numbers. -/
def MBox (W : World) (b : Nat) (c : Nat → Int) : Prop := W.heap[b]? = some (.cells (arr c) 38 (0, 0))
theorem arr_at (c : Nat → Int) (k : Nat) (hk : k < 7) : (arr c)[k]? = some (.int .i64 (c k)) := by
  rcases k7 hk with rfl | rfl | rfl | rfl | rfl | rfl | rfl <;> rfl
theorem arr_set (c : Nat → Int) (k : Nat) (hk : k < 7) (x : Int) : (arr c).setIfInBounds k (.int .i64 x) = arr (upd c k x) := by
  rcases k7 hk with rfl | rfl | rfl | rfl | rfl | rfl | rfl <;> rfl
theorem MBox.lt {W : World} {b : Nat} {c : Nat → Int} (s : MBox W b c) : b < W.heap.size := (Array.getElem?_eq_some_iff.1 s).1
theorem MBox.later {W V : World} {b : Nat} {c : Nat → Int} (s : MBox W b c) (hb : Below W.heap.size W V) : MBox V b c := (hb.block b s.lt).trans s
theorem MBox.cell {W : World} {b : Nat} {c : Nat → Int} (s : MBox W b c) (k : Nat) (hk : k < 7) : W.cell? ⟨b, k, none⟩ = some (.int .i64 (c k)) := by
  unfold MBox at s; simp only [World.cell?, s]; exact arr_at c k hk
theorem MBox.frozen {W : World} {b : Nat} {c : Nat → Int} (s : MBox W b c) (j : Nat) : W.frozen? ⟨b, j, none⟩ = false := by unfold MBox at s; simp [World.frozen?, s]
theorem MBox.set {W : World} {b : Nat} {c : Nat → Int} (s : MBox W b c) (k : Nat) (hk : k < 7) (x : Int) : MBox (W.setCell ⟨b, k, none⟩ (.int .i64 x)) b (upd c k x) := by
  unfold MBox; rw [← arr_set c k hk]; exact heap_setCell_same W b _ _ _ _ s
theorem MBox.other {W : World} {b : Nat} {c : Nat → Int} (s : MBox W b c) {a : Addr} (ha : b ≠ a.block) (u : Value) : MBox (W.setCell a u) b c := (Below.heap_setCell _ _ _ _ ha).trans s
theorem MBox.row {W : World} {b : Nat} {c : Nat → Int} (s : MBox W b c) {g : Nat} (hg : b ≠ g) (cs : Array Value) : MBox (W.setRow g cs) b c := (setRow_other W g b cs hg).trans s
theorem SBox.rowOther {W : World} {b : Nat} {v : Value} {c h : Nat → Int} (s : SBox W b v c h) {g : Nat} (hg : b ≠ g) (cs : Array Value) : SBox (W.setRow g cs) b v c h := (setRow_other W g b cs hg).trans s
theorem MBox.new (W : World) (c : Nat → Int) : MBox (W.alloc (.cells (arr c) 38)) W.heap.size c := World.alloc_heap_new W _
theorem MBox.alloc {W : World} {b : Nat} {c : Nat → Int} (s : MBox W b c) (o : Obj) : MBox (W.alloc o) b c := (Below.heap_alloc W o b s.lt).trans s
theorem ar_i (c : Nat → Int) : (Tryd.prog.info? 38).map (·.size) = some (arr c).size := by kernel_rfl
theorem RAt.set {W : World} {a : Addr} {u : Value} {l : List RlI} (r : RAt W u l) (q : Value) (hn : u.ownBlock ≠ some a.block) : RAt (W.setCell a q) u l := by
  rcases r with h | ⟨g, off, cap, rfl, h1, h2, hc⟩
  · exact .inl h
  · have hg : g ≠ a.block := fun e => hn (by simp [Value.ownBlock, e])
    refine .inr ⟨g, off, cap, rfl, h1, h2, fun j x hx => ?_⟩
    have := hc j x hx
    have e : ∀ o, (W.setCell a q).cell? ⟨g, o, none⟩ = W.cell? ⟨g, o, none⟩ := fun o => World.cell?_of_block (w := W) (Below.heap_setCell _ _ _ _ hg)
    rw [e, e, e, e]; exact this
theorem boxed_set {W : World} {b : Nat} {t : TypeId} {v : Value} (s : Boxed W b t v) {a : Addr} (ha : b ≠ a.block) (u : Value) : Boxed (W.setCell a u) b t v := (Below.heap_setCell _ _ _ _ ha).trans s
theorem boxed_row {W : World} {b : Nat} {t : TypeId} {v : Value} (s : Boxed W b t v) {g : Nat} (hg : b ≠ g) (cs : Array Value) : Boxed (W.setRow g cs) b t v := (setRow_other W g b cs hg).trans s

/-- What the law keeps between two rounds. -/
structure CtI (L : List Ru) (v : Value) (b0 b5 i : Nat) (md ls : Nat → Nat) (u : Value) (W : World) : Prop where
  p : Boxed W b0 24 v
  s : SBox W b5 u (ci md) (ci (hf L md))
  r : RAt W u (toI L)
  f : ∀ b, u.ownBlock = some b → b < b5 ∨ b5 + 3 < b
  m : MBox W (b5 + 1) (ci md)
  h : MBox W (b5 + 2) (ci (hf L md))
  l : MBox W (b5 + 3) (ci ls)
  hmd : ∀ k, k < 7 → md k ≤ i
  hls : ∀ k, k < 7 → LS L k (ls k) (md k)
/-- What it keeps within a round, behind the call and made[kind]++. -/
structure CtJ (L : List Ru) (v : Value) (b0 B T : Nat) (md2 : Nat → Nat) (hh ll : Nat → Int) (u u2 : Value) (c0 h0 : Nat → Int) (W : World) : Prop where
  p : Boxed W b0 24 v
  s : SBox W B u c0 h0
  t : SBox W T u2 (ci md2) (ci (hf L md2))
  r : RAt W u2 (toI L)
  f : ∀ b, u2.ownBlock = some b → B + 3 < b ∧ b < T
  m : MBox W (B + 1) (ci md2)
  h : MBox W (B + 2) hh
  l : MBox W (B + 3) ll
  lt : b0 < B ∧ B + 3 < T
theorem CtJ.later {L : List Ru} {v : Value} {b0 B T : Nat} {md2 : Nat → Nat} {hh ll : Nat → Int} {u u2 : Value} {c0 h0 : Nat → Int} {W V : World} (J : CtJ L v b0 B T md2 hh ll u u2 c0 h0 W) (hb : Below W.heap.size W V) : CtJ L v b0 B T md2 hh ll u u2 c0 h0 V :=
  { p := J.p.kept (grown_of_below hb) (by simp), s := J.s.later hb, t := J.t.later hb, r := J.r.later hb, f := J.f, m := J.m.later hb, h := J.h.later hb, l := J.l.later hb, lt := J.lt }
theorem CtJ.seth {L : List Ru} {v : Value} {b0 B T : Nat} {md2 : Nat → Nat} {hh ll : Nat → Int} {u u2 : Value} {c0 h0 : Nat → Int} {W : World} (J : CtJ L v b0 B T md2 hh ll u u2 c0 h0 W) (k : Nat) (hk : k < 7) (x : Int) : CtJ L v b0 B T md2 (upd hh k x) ll u u2 c0 h0 (W.setCell ⟨B + 2, k, none⟩ (.int .i64 x)) :=
  have h1 := J.lt
  { p := boxed_set J.p (by show b0 ≠ B + 2; omega) _, s := J.s.other (by show B ≠ B + 2; omega) _, t := J.t.other (by show T ≠ B + 2; omega) _, r := J.r.set _ (fun e => by have := J.f _ e; simp only at this; omega), f := J.f,
    m := J.m.other (by show B + 1 ≠ B + 2; omega) _, h := J.h.set k hk x, l := J.l.other (by show B + 3 ≠ B + 2; omega) _, lt := J.lt }
theorem CtJ.setl {L : List Ru} {v : Value} {b0 B T : Nat} {md2 : Nat → Nat} {hh ll : Nat → Int} {u u2 : Value} {c0 h0 : Nat → Int} {W : World} (J : CtJ L v b0 B T md2 hh ll u u2 c0 h0 W) (k : Nat) (hk : k < 7) (x : Int) : CtJ L v b0 B T md2 hh (upd ll k x) u u2 c0 h0 (W.setCell ⟨B + 3, k, none⟩ (.int .i64 x)) :=
  have h1 := J.lt
  { p := boxed_set J.p (by show b0 ≠ B + 3; omega) _, s := J.s.other (by show B ≠ B + 3; omega) _, t := J.t.other (by show T ≠ B + 3; omega) _, r := J.r.set _ (fun e => by have := J.f _ e; simp only at this; omega), f := J.f,
    m := J.m.other (by show B + 1 ≠ B + 3; omega) _, h := J.h.other (by show B + 2 ≠ B + 3; omega) _, l := J.l.set k hk x, lt := J.lt }
theorem CtJ.shut {L : List Ru} {v : Value} {b0 B T j : Nat} {md2 ls2 : Nat → Nat} {u u2 : Value} {c0 h0 : Nat → Int} {W : World} (J : CtJ L v b0 B T md2 (ci (hf L md2)) (ci ls2) u u2 c0 h0 W) (h1 : ∀ k, k < 7 → md2 k ≤ j) (h2 : ∀ k, k < 7 → LS L k (ls2 k) (md2 k)) :
    CtI L v b0 B j md2 ls2 u2 (W.setRow B (stA u2 (ci md2) (ci (hf L md2)))) :=
  have hlt := J.lt
  { p := boxed_row J.p (by omega) _, s := J.s.row _ _ _, r := J.r.row _ (fun e => by have := J.f _ e; omega), f := fun b e => .inr (J.f b e).1,
    m := J.m.row (by omega) _, h := J.h.row (by omega) _, l := J.l.row (by omega) _, hmd := h1, hls := h2 }
theorem CtI.open {L : List Ru} {v : Value} {b0 B j : Nat} {md ls : Nat → Nat} {u : Value} {W w6 : World} (I : CtI L v b0 B j md ls u W) (hb0 : b0 < B) (hb : Below W.heap.size W w6) (md2 : Nat → Nat) (u2 : Value) (h6 : RAt w6 u2 (toI L)) (f6 : ∀ b, u2.ownBlock = some b → W.heap.size ≤ b ∧ b < w6.heap.size) (W7 : World) (hb7 : Below w6.heap.size w6 W7) (s7 : SBox W7 w6.heap.size (.slice none 0 0) zer zer)
    (k : Nat) (hk : k < 7) (x : Int) (hx : upd (ci md) k x = ci md2) :
    CtJ L v b0 B w6.heap.size md2 (ci (hf L md)) (ci ls) u u2 (ci md) (ci (hf L md)) ((W7.setRow w6.heap.size (stA u2 (ci md2) (ci (hf L md2)))).setCell ⟨B + 1, k, none⟩ (.int .i64 x)) := by
  have l1 := I.l.lt
  have l2 := hb.size
  have hb67 : Below W.heap.size W W7 := hb.trans (hb7.mono hb.size)
  exact
  { p := boxed_set (boxed_row (I.p.kept (grown_of_below hb67) (by simp)) (by omega) _) (by show b0 ≠ B + 1; omega) _
    s := ((I.s.later hb67).rowOther (by omega) _).other (by show B ≠ B + 1; omega) _
    t := (s7.row _ _ _).other (by show w6.heap.size ≠ B + 1; omega) _
    r := ((h6.later hb7).row _ (fun e => by have := f6 _ e; omega)).set _ (fun e => by have := f6 _ e; simp only at this; omega)
    f := fun b e => by have := f6 b e; omega
    m := by rw [← hx]; exact ((I.m.later hb67).row (by omega) _).set k hk x
    h := ((I.h.later hb67).row (by omega) _).other (by show B + 2 ≠ B + 1; omega) _
    l := ((I.l.later hb67).row (by omega) _).other (by show B + 3 ≠ B + 1; omega) _
    lt := ⟨hb0, by omega⟩ }
end Go.Proofs.YtldebakeebajkaaDoor
