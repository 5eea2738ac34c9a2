/- Pages and systems in memory. -/
import Derived.Test.YtnmeeddhagmjdaaRfKC
import Derived.Test.YtnmeeddhagmjdaaRfS2
import Derived.Test.YtnmeeddhagmjdaaBeh
import Derived.Deep.MidRow
import Derived.Laws.MakeOwn
namespace Go.Proofs.Ytnmeeddhagmjdaa
open Go.RowKit Go.Shelf
attribute [local go_sem] Oper.semAt_some

/-- A page: its kind, whether it is of a huge page, its bytes. -/
structure Pg where
  kd : Int
  hu : Bool
  by' : Nat → Int
abbrev Pages := Nat → Pg
def freeP : Pg := ⟨0, false, fun _ => 0⟩
def updP (f : Pages) (j : Nat) (p : Pg) : Pages := fun i => if i = j then p else f i
/-- Several cells of an array are written. -/
def splice : Array Value → Nat → List Value → Array Value
  | cs, _, [] => cs
  | cs, o, v :: r => splice (cs.setIfInBounds o v) (o + 1) r
theorem splice_size : ∀ (vs : List Value) (cs : Array Value) (o : Nat), (splice cs o vs).size = cs.size
  | [], _, _ => rfl
  | v :: r, cs, o => by rw [splice, splice_size r, Array.size_setIfInBounds]
theorem splice_out : ∀ (vs : List Value) (cs : Array Value) (o i : Nat), (i < o ∨ o + vs.length ≤ i) → (splice cs o vs)[i]? = cs[i]?
  | [], _, _, _, _ => rfl
  | v :: r, cs, o, i, h => by
    rw [List.length_cons] at h
    rw [splice, splice_out r _ _ _ (by omega), Array.getElem?_setIfInBounds, if_neg (by omega)]
theorem splice_in : ∀ (vs : List Value) (cs : Array Value) (o k : Nat), k < vs.length → o + vs.length ≤ cs.size → (splice cs o vs)[o + k]? = vs[k]?
  | [], _, _, _, h, _ => by simp at h
  | v :: r, cs, o, 0, _, hs => by
    rw [List.length_cons] at hs
    rw [splice, splice_out r _ _ _ (by omega), Array.getElem?_setIfInBounds, if_pos (by omega), if_pos (by omega)]; rfl
  | v :: r, cs, o, k + 1, h, hs => by
    rw [List.length_cons] at hs h
    rw [splice, show o + (k + 1) = o + 1 + k by omega, splice_in r _ _ k (by omega) (by rw [Array.size_setIfInBounds]; omega)]; rfl
theorem heap_setCells : ∀ (vs : List Value) (W : World) (b o : Nat) (cs : Array Value) (t : TypeId), W.heap[b]? = some (.cells cs t (0, 0)) → (W.setCells b o vs).heap[b]? = some (.cells (splice cs o vs) t (0, 0))
  | [], _, _, _, _, _, h => h
  | v :: r, W, b, o, cs, t, h => by rw [World.setCells, splice]; exact heap_setCells r _ b (o + 1) _ t (heap_setCell_same W b o cs t v h)
theorem heap_setCells_other : ∀ (vs : List Value) (W : World) (b o k : Nat), k ≠ b → (W.setCells b o vs).heap[k]? = W.heap[k]?
  | [], _, _, _, _, _ => rfl
  | v :: r, W, b, o, k, h => by rw [World.setCells, heap_setCells_other r _ b (o + 1) k h]; exact Below.heap_setCell _ _ _ _ h
theorem others_setCells : ∀ (vs : List Value) (W : World) (b o : Nat), KeepsOthers W (W.setCells b o vs)
  | [], W, _, _ => KeepsOthers.refl W
  | v :: r, W, b, o => by rw [World.setCells]; exact (KeepsOthers.setCell W _ v).trans (others_setCells r _ b (o + 1))

/-- What lay in w lies in W as it lay, but for the blocks that q names. -/
structure Keep (q : Nat → Prop) (w W : World) : Prop where
  os : W.os = w.os
  tape : W.tape = w.tape
  output : W.output = w.output
  size : w.heap.size ≤ W.heap.size
  block : ∀ k, k < w.heap.size → ¬ q k → W.heap[k]? = w.heap[k]?
theorem Keep.refl (q : Nat → Prop) (w : World) : Keep q w w := ⟨rfl, rfl, rfl, Nat.le_refl _, fun _ _ _ => rfl⟩
theorem Keep.trans {q : Nat → Prop} {a b c : World} (h : Keep q a b) (k : Keep q b c) : Keep q a c :=
  ⟨k.os.trans h.os, k.tape.trans h.tape, k.output.trans h.output, Nat.le_trans h.size k.size, fun i hi hq => (k.block i (Nat.lt_of_lt_of_le hi h.size) hq).trans (h.block i hi hq)⟩
theorem Keep.of_below {q : Nat → Prop} {a b : World} (h : Below a.heap.size a b) : Keep q a b := ⟨h.os, h.tape, h.output, h.size, fun k hk _ => h.block k hk⟩
theorem Keep.mono {q r : Nat → Prop} {a b : World} (h : Keep q a b) (hq : ∀ k, k < a.heap.size → q k → r k) : Keep r a b := ⟨h.os, h.tape, h.output, h.size, fun k hk hr => h.block k hk (fun hqk => hr (hq k hk hqk))⟩
theorem Keep.below {q : Nat → Prop} {a b : World} (h : Keep q a b) (B : Nat) (hB : B ≤ a.heap.size) (hq : ∀ k, q k → B ≤ k) : Below B a b :=
  ⟨h.os, h.tape, h.output, h.size, fun k hk => h.block k (by omega) (fun hqk => by have := hq k hqk; omega)⟩
theorem Keep.all {q : Nat → Prop} {a b : World} (h : Keep q a b) (hq : ∀ k, k < a.heap.size → ¬ q k) : Below a.heap.size a b := ⟨h.os, h.tape, h.output, h.size, fun k hk => h.block k hk (hq k hk)⟩
theorem Keep.setCell {q : Nat → Prop} {a b : World} (h : Keep q a b) (x : Addr) (u : Value) (hx : q x.block ∨ a.heap.size ≤ x.block) : Keep q a (b.setCell x u) :=
  ⟨h.os, h.tape, h.output, Nat.le_trans h.size (KeepsWalks.setCell b x u).size, fun k hk hq => (Below.heap_setCell _ _ _ _ (by rintro rfl; rcases hx with hx | hx; exact hq hx; omega)).trans (h.block k hk hq)⟩
theorem Keep.setCells {q : Nat → Prop} {a : World} (g : Nat) (hg : q g ∨ a.heap.size ≤ g) : ∀ (vs : List Value) (o : Nat) (b : World), Keep q a b → Keep q a (b.setCells g o vs)
  | [], _, _, h => h
  | v :: r, o, b, h => by rw [World.setCells]; exact Keep.setCells g hg r (o + 1) _ (h.setCell _ _ hg)

/-- The cells of the pages f. -/
def PgRow (cs : Array Value) (f : Pages) : Prop := cs.size = 67584 ∧ ∀ j, j < 1024 → cs[66 * j]? = some (.int .i64 (f j).kd) ∧ cs[66 * j + 1]? = some (.bool (f j).hu) ∧ ∀ k, k < 64 → cs[66 * j + 2 + k]? = some (.int .u8 ((f j).by' k))
def PgAt (W : World) (P : Nat) (f : Pages) : Prop := ∃ cs, W.heap[P]? = some (.cells cs 104 (0, 0)) ∧ PgRow cs f
theorem PgAt.lt {W : World} {P : Nat} {f : Pages} (h : PgAt W P f) : P < W.heap.size := by obtain ⟨_, h, _⟩ := h; exact (Array.getElem?_eq_some_iff.1 h).1
theorem PgAt.of_heap {W V : World} {P : Nat} {f : Pages} (h : PgAt W P f) (e : V.heap[P]? = W.heap[P]?) : PgAt V P f := by obtain ⟨cs, h1, h2⟩ := h; exact ⟨cs, e.trans h1, h2⟩
theorem PgAt.later {W V : World} {P : Nat} {f : Pages} (h : PgAt W P f) (hb : Below W.heap.size W V) : PgAt V P f := h.of_heap (hb.block P h.lt)
theorem PgAt.keep {W V : World} {P : Nat} {f : Pages} {q : Nat → Prop} (h : PgAt W P f) (hb : Keep q W V) (hq : ¬ q P) : PgAt V P f := h.of_heap (hb.block P h.lt hq)
theorem PgAt.congr {W : World} {P : Nat} {f g : Pages} (h : PgAt W P f) (e : ∀ j, j < 1024 → f j = g j) : PgAt W P g := by
  obtain ⟨cs, h1, h2, h3⟩ := h
  exact ⟨cs, h1, h2, fun j hj => by rw [← e j hj]; exact h3 j hj⟩
theorem PgAt.kd {W : World} {P : Nat} {f : Pages} (h : PgAt W P f) (j : Nat) (hj : j < 1024) : W.cell? ⟨P, j * 66, none⟩ = some (.int .i64 (f j).kd) := by
  obtain ⟨cs, h1, h2, h3⟩ := h
  rw [Nat.mul_comm]; simp only [World.cell?, h1]; exact (h3 j hj).1
theorem PgAt.hu {W : World} {P : Nat} {f : Pages} (h : PgAt W P f) (j : Nat) (hj : j < 1024) : W.cell? ⟨P, j * 66 + 1, none⟩ = some (.bool (f j).hu) := by
  obtain ⟨cs, h1, h2, h3⟩ := h
  rw [Nat.mul_comm]; simp only [World.cell?, h1]; exact (h3 j hj).2.1
theorem PgAt.byt {W : World} {P : Nat} {f : Pages} (h : PgAt W P f) (j : Nat) (hj : j < 1024) (k : Nat) (hk : k < 64) : W.cell? ⟨P, j * 66 + 2 + k, none⟩ = some (.int .u8 ((f j).by' k)) := by
  obtain ⟨cs, h1, h2, h3⟩ := h
  rw [Nat.mul_comm]; simp only [World.cell?, h1]; exact (h3 j hj).2.2 k hk
theorem PgAt.frozen {W : World} {P : Nat} {f : Pages} (h : PgAt W P f) (o : Nat) : W.frozen? ⟨P, o, none⟩ = false := by
  obtain ⟨cs, h1, _⟩ := h
  simp [World.frozen?, h1]
theorem PgAt.there {W : World} {P : Nat} {f : Pages} (h : PgAt W P f) (j : Nat) (hj : j < 1024) : W.there P (j * 66) 66 := by
  intro i hi
  refine ⟨?_, h.frozen _⟩
  obtain ⟨cs, h1, h2, h3⟩ := h
  simp only [World.cell?, h1]
  rw [Option.isSome_iff_exists]
  exact ⟨_, Array.getElem?_eq_getElem (show j * 66 + i < cs.size by omega)⟩
/-- The cells of one page. -/
def pgL (p : Pg) : List Value := .int .i64 p.kd :: .bool p.hu :: (List.range 64).map fun k => .int .u8 (p.by' k)
theorem pgL_len (p : Pg) : (pgL p).length = 66 := by unfold pgL; simp
theorem pgL_by (p : Pg) (k : Nat) (hk : k < 64) : (pgL p)[2 + k]? = some (.int .u8 (p.by' k)) := by
  unfold pgL
  rw [show 2 + k = k + 1 + 1 by omega, List.getElem?_cons_succ, List.getElem?_cons_succ, List.getElem?_map, List.getElem?_range hk]; rfl
theorem pgL_one (p : Pg) : ∀ v ∈ pgL p, v.oneCell' = true := by
  intro v hv
  unfold pgL at hv
  simp at hv
  rcases hv with rfl | rfl | ⟨k, _, rfl⟩ <;> rfl
theorem PgAt.range {W : World} {P : Nat} {f : Pages} (h : PgAt W P f) (j : Nat) (hj : j < 1024) : W.rangeAt P (j * 66) (pgL (f j)) := by
  intro i v hv
  have hi : i < 66 := by have := (List.getElem?_eq_some_iff.1 hv).1; rwa [pgL_len] at this
  by_cases h0 : i = 0
  · subst h0; rw [← hv]; exact (h.kd j hj).trans (by unfold pgL; rfl)
  · by_cases h1 : i = 1
    · subst h1; rw [← hv]; exact (h.hu j hj).trans (by unfold pgL; rfl)
    · obtain ⟨k, rfl⟩ : ∃ k, i = 2 + k := ⟨i - 2, by omega⟩
      rw [pgL_by _ k (by omega)] at hv
      rw [← hv, ← Nat.add_assoc]; exact h.byt j hj k (by omega)
theorem PgRow.upd {cs cs' : Array Value} {f : Pages} (h : PgRow cs f) (j : Nat) (hj : j < 1024) (p : Pg) (hs : cs'.size = cs.size) (ho : ∀ i, (i < 66 * j ∨ 66 * j + 66 ≤ i) → cs'[i]? = cs[i]?)
    (h0 : cs'[66 * j]? = some (.int .i64 p.kd)) (h1 : cs'[66 * j + 1]? = some (.bool p.hu)) (h2 : ∀ k, k < 64 → cs'[66 * j + 2 + k]? = some (.int .u8 (p.by' k))) : PgRow cs' (updP f j p) := by
  refine ⟨hs.trans h.1, fun i hi => ?_⟩
  unfold updP
  by_cases e : i = j
  · subst e; simp only [if_true]; exact ⟨h0, h1, h2⟩
  · simp only [if_neg e]
    obtain ⟨a, b, c⟩ := h.2 i hi
    exact ⟨by rw [ho _ (by omega)]; exact a, by rw [ho _ (by omega)]; exact b, fun k hk => by rw [ho _ (by omega)]; exact c k hk⟩
theorem PgAt.setPg {W : World} {P : Nat} {f : Pages} (h : PgAt W P f) (j : Nat) (hj : j < 1024) (p : Pg) : PgAt (W.setCells P (j * 66) (pgL p)) P (updP f j p) := by
  obtain ⟨cs, h1, h2⟩ := h
  refine ⟨_, heap_setCells (pgL p) W P _ cs _ h1, ?_⟩
  have hs := h2.1
  rw [Nat.mul_comm]
  refine h2.upd j hj p (splice_size _ _ _) (fun i hi => splice_out _ _ _ _ (by rw [pgL_len]; exact hi)) ?_ ?_ (fun k hk => ?_)
  · have := splice_in (pgL p) cs (66 * j) 0 (by rw [pgL_len]; omega) (by rw [pgL_len]; omega)
    rw [Nat.add_zero] at this
    rw [this]; unfold pgL; rfl
  · rw [splice_in (pgL p) cs (66 * j) 1 (by rw [pgL_len]; omega) (by rw [pgL_len]; omega)]; unfold pgL; rfl
  · rw [Nat.add_assoc, splice_in (pgL p) cs (66 * j) (2 + k) (by rw [pgL_len]; omega) (by rw [pgL_len]; omega)]; exact pgL_by p k hk
theorem PgAt.setHu {W : World} {P : Nat} {f : Pages} (h : PgAt W P f) (j : Nat) (hj : j < 1024) (b : Bool) : PgAt (W.setCell ⟨P, j * 66 + 1, none⟩ (.bool b)) P (updP f j { f j with hu := b }) := by
  obtain ⟨cs, h1, h2⟩ := h
  refine ⟨_, heap_setCell_same W P _ cs _ _ h1, ?_⟩
  have hs := h2.1
  obtain ⟨a, c, d⟩ := h2.2 j hj
  rw [Nat.mul_comm]
  refine h2.upd j hj _ (Array.size_setIfInBounds ..) (fun i hi => ?_) ?_ ?_ (fun k hk => ?_)
  · rw [Array.getElem?_setIfInBounds, if_neg (by omega)]
  · rw [Array.getElem?_setIfInBounds, if_neg (by omega)]; exact a
  · rw [Array.getElem?_setIfInBounds, if_pos rfl, if_pos (by omega)]
  · rw [Array.getElem?_setIfInBounds, if_neg (by omega)]; exact d k hk
theorem PgAt.setKd {W : World} {P : Nat} {f : Pages} (h : PgAt W P f) (j : Nat) (hj : j < 1024) (x : Int) : PgAt (W.setCell ⟨P, j * 66, none⟩ (.int .i64 x)) P (updP f j { f j with kd := x }) := by
  obtain ⟨cs, h1, h2⟩ := h
  refine ⟨_, heap_setCell_same W P _ cs _ _ h1, ?_⟩
  have hs := h2.1
  obtain ⟨a, c, d⟩ := h2.2 j hj
  rw [Nat.mul_comm]
  refine h2.upd j hj _ (Array.size_setIfInBounds ..) (fun i hi => ?_) ?_ ?_ (fun k hk => ?_)
  · rw [Array.getElem?_setIfInBounds, if_neg (by omega)]
  · rw [Array.getElem?_setIfInBounds, if_pos rfl, if_pos (by omega)]
  · rw [Array.getElem?_setIfInBounds, if_neg (by omega)]; exact c
  · rw [Array.getElem?_setIfInBounds, if_neg (by omega)]; exact d k hk
theorem PgAt.setBy {W : World} {P : Nat} {f : Pages} (h : PgAt W P f) (j : Nat) (hj : j < 1024) (i : Nat) (hi : i < 64) (x : Int) : PgAt (W.setCell ⟨P, j * 66 + 2 + i, none⟩ (.int .u8 x)) P (updP f j { f j with by' := fun k => if k = i then x else (f j).by' k }) := by
  obtain ⟨cs, h1, h2⟩ := h
  refine ⟨_, heap_setCell_same W P _ cs _ _ h1, ?_⟩
  have hs := h2.1
  obtain ⟨a, c, d⟩ := h2.2 j hj
  rw [Nat.mul_comm]
  refine h2.upd j hj _ (Array.size_setIfInBounds ..) (fun i' hi' => ?_) ?_ ?_ (fun k hk => ?_)
  · rw [Array.getElem?_setIfInBounds, if_neg (by omega)]
  · rw [Array.getElem?_setIfInBounds, if_neg (by omega)]; exact a
  · rw [Array.getElem?_setIfInBounds, if_neg (by omega)]; exact c
  · rw [Array.getElem?_setIfInBounds]
    by_cases e : k = i
    · subst e; rw [if_pos (by omega), if_pos (by omega)]; simp
    · rw [if_neg (by omega)]; simp only [if_neg e]; exact d k hk

/-- The cells of a system: its pages, its refusals. -/
def syA (P : Nat) (v : Value) (c h : Nat → Int) : Array Value := #[.slice (some ⟨P, 0, none⟩) 1024 1024, v, .int .i64 (c 0), .int .i64 (c 1), .int .i64 (c 2), .int .i64 (c 3), .int .i64 (c 4), .int .i64 (c 5), .int .i64 (c 6), .int .i64 (h 0), .int .i64 (h 1), .int .i64 (h 2), .int .i64 (h 3), .int .i64 (h 4), .int .i64 (h 5), .int .i64 (h 6)]
def SyBox (W : World) (S P : Nat) (v : Value) (c h : Nat → Int) : Prop := W.heap[S]? = some (.cells (syA P v c h) 79 (0, 0))
theorem SyBox.lt {W : World} {S P : Nat} {v : Value} {c h : Nat → Int} (s : SyBox W S P v c h) : S < W.heap.size := (Array.getElem?_eq_some_iff.1 s).1
theorem SyBox.later {W V : World} {S P : Nat} {v : Value} {c h : Nat → Int} (s : SyBox W S P v c h) (hb : Below W.heap.size W V) : SyBox V S P v c h := (hb.block S s.lt).trans s
theorem SyBox.keep {W V : World} {S P : Nat} {v : Value} {c h : Nat → Int} {q : Nat → Prop} (s : SyBox W S P v c h) (hb : Keep q W V) (hq : ¬ q S) : SyBox V S P v c h := (hb.block S s.lt hq).trans s
theorem SyBox.pages {W : World} {S P : Nat} {v : Value} {c h : Nat → Int} (s : SyBox W S P v c h) : W.cell? ⟨S, 0, none⟩ = some (.slice (some ⟨P, 0, none⟩) 1024 1024) := by unfold SyBox at s; simp only [World.cell?, s]; rfl
theorem SyBox.range {W : World} {S P : Nat} {v : Value} {c h : Nat → Int} (s : SyBox W S P v c h) : W.rangeAt S 1 (stA v c h).toList := fun j u hu => by
  unfold SyBox at s
  simp only [World.cell?, s]
  rw [← hu, Array.getElem?_toList]
  show (#[_] ++ stA v c h)[1 + j]? = _
  rw [Array.getElem?_append_right (by simp)]; simp
theorem SyBox.there {W : World} {S P : Nat} {v : Value} {c h : Nat → Int} (s : SyBox W S P v c h) : W.there S 1 15 := fun j hj => by
  unfold SyBox at s
  refine ⟨?_, by simp [World.frozen?, s]⟩
  simp only [World.cell?, s]
  rw [Option.isSome_iff_exists]
  exact ⟨_, Array.getElem?_eq_getElem (show 1 + j < (syA P v c h).size by show 1 + j < 16; omega)⟩
theorem SyBox.put {W : World} {S P : Nat} {v : Value} {c h : Nat → Int} (s : SyBox W S P v c h) (u : Value) (d g : Nat → Int) : SyBox (W.setCells S 1 (stA u d g).toList) S P u d g :=
  by
  have e : splice (syA P v c h) 1 (stA u d g).toList = syA P u d g := by kernel_rfl
  unfold SyBox
  rw [← e]
  exact heap_setCells (stA u d g).toList W S 1 _ _ s
end Go.Proofs.Ytnmeeddhagmjdaa
