/- Pages in memory, and the calls on them. -/
import Derived.Deep.MidRow
import Derived.Laws.MakeOwn
import Derived.Test.YtjplihljmohpjaaKa
import Derived.Test.YtjplihljmohpjaaKc
/- Pages and systems in memory. -/
namespace Go.Proofs.Ytjplihljmohpjaa
open Go.RowKit Go.Shelf
attribute [local go_sem] Oper.semAt_some

/-- A page: its kind, whether it is of a huge page, its bytes. -/
structure Pg where
  kd : Int
  hu : Bool
  by' : Nat → Int
abbrev Pages := Nat → Pg
def freeP : Pg := ⟨0, false, fun _ => 0⟩
def updP (f : Pages) (j : Nat) (p : Pg) : Pages := fun i => if i = j then p else f i
/-- Several cells of an array are written. -/
def splice : Array Value → Nat → List Value → Array Value
  | cs, _, [] => cs
  | cs, o, v :: r => splice (cs.setIfInBounds o v) (o + 1) r
theorem splice_size : ∀ (vs : List Value) (cs : Array Value) (o : Nat), (splice cs o vs).size = cs.size
  | [], _, _ => rfl
  | v :: r, cs, o => by rw [splice, splice_size r, Array.size_setIfInBounds]
theorem splice_out : ∀ (vs : List Value) (cs : Array Value) (o i : Nat), (i < o ∨ o + vs.length ≤ i) → (splice cs o vs)[i]? = cs[i]?
  | [], _, _, _, _ => rfl
  | v :: r, cs, o, i, h => by
    rw [List.length_cons] at h
    rw [splice, splice_out r _ _ _ (by omega), Array.getElem?_setIfInBounds, if_neg (by omega)]
theorem splice_in : ∀ (vs : List Value) (cs : Array Value) (o k : Nat), k < vs.length → o + vs.length ≤ cs.size → (splice cs o vs)[o + k]? = vs[k]?
  | [], _, _, _, h, _ => by simp at h
  | v :: r, cs, o, 0, _, hs => by
    rw [List.length_cons] at hs
    rw [splice, splice_out r _ _ _ (by omega), Array.getElem?_setIfInBounds, if_pos (by omega), if_pos (by omega)]; rfl
  | v :: r, cs, o, k + 1, h, hs => by
    rw [List.length_cons] at hs h
    rw [splice, show o + (k + 1) = o + 1 + k by omega, splice_in r _ _ k (by omega) (by rw [Array.size_setIfInBounds]; omega)]; rfl
theorem heap_setCells : ∀ (vs : List Value) (W : World) (b o : Nat) (cs : Array Value) (t : TypeId), W.heap[b]? = some (.cells cs t (0, 0)) → (W.setCells b o vs).heap[b]? = some (.cells (splice cs o vs) t (0, 0))
  | [], _, _, _, _, _, h => h
  | v :: r, W, b, o, cs, t, h => by rw [World.setCells, splice]; exact heap_setCells r _ b (o + 1) _ t (heap_setCell_same W b o cs t v h)
theorem heap_setCells_other : ∀ (vs : List Value) (W : World) (b o k : Nat), k ≠ b → (W.setCells b o vs).heap[k]? = W.heap[k]?
  | [], _, _, _, _, _ => rfl
  | v :: r, W, b, o, k, h => by rw [World.setCells, heap_setCells_other r _ b (o + 1) k h]; exact Below.heap_setCell _ _ _ _ h
theorem others_setCells : ∀ (vs : List Value) (W : World) (b o : Nat), KeepsOthers W (W.setCells b o vs)
  | [], W, _, _ => KeepsOthers.refl W
  | v :: r, W, b, o => by rw [World.setCells]; exact (KeepsOthers.setCell W _ v).trans (others_setCells r _ b (o + 1))

/-- What lay in w lies in W as it lay, but for the blocks that q names. -/
structure Keep (q : Nat → Prop) (w W : World) : Prop where
  os : W.os = w.os
  tape : W.tape = w.tape
  output : W.output = w.output
  size : w.heap.size ≤ W.heap.size
  block : ∀ k, k < w.heap.size → ¬ q k → W.heap[k]? = w.heap[k]?
theorem Keep.refl (q : Nat → Prop) (w : World) : Keep q w w := ⟨rfl, rfl, rfl, Nat.le_refl _, fun _ _ _ => rfl⟩
theorem Keep.trans {q : Nat → Prop} {a b c : World} (h : Keep q a b) (k : Keep q b c) : Keep q a c :=
  ⟨k.os.trans h.os, k.tape.trans h.tape, k.output.trans h.output, Nat.le_trans h.size k.size, fun i hi hq => (k.block i (Nat.lt_of_lt_of_le hi h.size) hq).trans (h.block i hi hq)⟩
theorem Keep.of_below {q : Nat → Prop} {a b : World} (h : Below a.heap.size a b) : Keep q a b := ⟨h.os, h.tape, h.output, h.size, fun k hk _ => h.block k hk⟩
theorem Keep.mono {q r : Nat → Prop} {a b : World} (h : Keep q a b) (hq : ∀ k, k < a.heap.size → q k → r k) : Keep r a b := ⟨h.os, h.tape, h.output, h.size, fun k hk hr => h.block k hk (fun hqk => hr (hq k hk hqk))⟩
theorem Keep.below {q : Nat → Prop} {a b : World} (h : Keep q a b) (B : Nat) (hB : B ≤ a.heap.size) (hq : ∀ k, q k → B ≤ k) : Below B a b :=
  ⟨h.os, h.tape, h.output, h.size, fun k hk => h.block k (by omega) (fun hqk => by have := hq k hqk; omega)⟩
theorem Keep.all {q : Nat → Prop} {a b : World} (h : Keep q a b) (hq : ∀ k, k < a.heap.size → ¬ q k) : Below a.heap.size a b := ⟨h.os, h.tape, h.output, h.size, fun k hk => h.block k hk (hq k hk)⟩
theorem Keep.setCell {q : Nat → Prop} {a b : World} (h : Keep q a b) (x : Addr) (u : Value) (hx : q x.block ∨ a.heap.size ≤ x.block) : Keep q a (b.setCell x u) :=
  ⟨h.os, h.tape, h.output, Nat.le_trans h.size (KeepsWalks.setCell b x u).size, fun k hk hq => (Below.heap_setCell _ _ _ _ (by rintro rfl; rcases hx with hx | hx; exact hq hx; omega)).trans (h.block k hk hq)⟩
theorem Keep.setCells {q : Nat → Prop} {a : World} (g : Nat) (hg : q g ∨ a.heap.size ≤ g) : ∀ (vs : List Value) (o : Nat) (b : World), Keep q a b → Keep q a (b.setCells g o vs)
  | [], _, _, h => h
  | v :: r, o, b, h => by rw [World.setCells]; exact Keep.setCells g hg r (o + 1) _ (h.setCell _ _ hg)

/-- The cells of the pages f. -/
def PgRow (cs : Array Value) (f : Pages) : Prop := cs.size = 67584 ∧ ∀ j, j < 1024 → cs[66 * j]? = some (.int .i64 (f j).kd) ∧ cs[66 * j + 1]? = some (.bool (f j).hu) ∧ ∀ k, k < 64 → cs[66 * j + 2 + k]? = some (.int .u8 ((f j).by' k))
def PgAt (W : World) (P : Nat) (f : Pages) : Prop := ∃ cs, W.heap[P]? = some (.cells cs 104 (0, 0)) ∧ PgRow cs f
theorem PgAt.lt {W : World} {P : Nat} {f : Pages} (h : PgAt W P f) : P < W.heap.size := by obtain ⟨_, h, _⟩ := h; exact (Array.getElem?_eq_some_iff.1 h).1
theorem PgAt.of_heap {W V : World} {P : Nat} {f : Pages} (h : PgAt W P f) (e : V.heap[P]? = W.heap[P]?) : PgAt V P f := by obtain ⟨cs, h1, h2⟩ := h; exact ⟨cs, e.trans h1, h2⟩
theorem PgAt.later {W V : World} {P : Nat} {f : Pages} (h : PgAt W P f) (hb : Below W.heap.size W V) : PgAt V P f := h.of_heap (hb.block P h.lt)
theorem PgAt.keep {W V : World} {P : Nat} {f : Pages} {q : Nat → Prop} (h : PgAt W P f) (hb : Keep q W V) (hq : ¬ q P) : PgAt V P f := h.of_heap (hb.block P h.lt hq)
theorem PgAt.congr {W : World} {P : Nat} {f g : Pages} (h : PgAt W P f) (e : ∀ j, j < 1024 → f j = g j) : PgAt W P g := by
  obtain ⟨cs, h1, h2, h3⟩ := h
  exact ⟨cs, h1, h2, fun j hj => by rw [← e j hj]; exact h3 j hj⟩
theorem PgAt.kd {W : World} {P : Nat} {f : Pages} (h : PgAt W P f) (j : Nat) (hj : j < 1024) : W.cell? ⟨P, j * 66, none⟩ = some (.int .i64 (f j).kd) := by
  obtain ⟨cs, h1, h2, h3⟩ := h
  rw [Nat.mul_comm]; simp only [World.cell?, h1]; exact (h3 j hj).1
theorem PgAt.hu {W : World} {P : Nat} {f : Pages} (h : PgAt W P f) (j : Nat) (hj : j < 1024) : W.cell? ⟨P, j * 66 + 1, none⟩ = some (.bool (f j).hu) := by
  obtain ⟨cs, h1, h2, h3⟩ := h
  rw [Nat.mul_comm]; simp only [World.cell?, h1]; exact (h3 j hj).2.1
theorem PgAt.byt {W : World} {P : Nat} {f : Pages} (h : PgAt W P f) (j : Nat) (hj : j < 1024) (k : Nat) (hk : k < 64) : W.cell? ⟨P, j * 66 + 2 + k, none⟩ = some (.int .u8 ((f j).by' k)) := by
  obtain ⟨cs, h1, h2, h3⟩ := h
  rw [Nat.mul_comm]; simp only [World.cell?, h1]; exact (h3 j hj).2.2 k hk
theorem PgAt.frozen {W : World} {P : Nat} {f : Pages} (h : PgAt W P f) (o : Nat) : W.frozen? ⟨P, o, none⟩ = false := by
  obtain ⟨cs, h1, _⟩ := h
  simp [World.frozen?, h1]
theorem PgAt.there {W : World} {P : Nat} {f : Pages} (h : PgAt W P f) (j : Nat) (hj : j < 1024) : W.there P (j * 66) 66 := by
  intro i hi
  refine ⟨?_, h.frozen _⟩
  obtain ⟨cs, h1, h2, h3⟩ := h
  simp only [World.cell?, h1]
  rw [Option.isSome_iff_exists]
  exact ⟨_, Array.getElem?_eq_getElem (show j * 66 + i < cs.size by omega)⟩
/-- The cells of one page. -/
def pgL (p : Pg) : List Value := .int .i64 p.kd :: .bool p.hu :: (List.range 64).map fun k => .int .u8 (p.by' k)
theorem pgL_len (p : Pg) : (pgL p).length = 66 := by unfold pgL; simp
theorem pgL_by (p : Pg) (k : Nat) (hk : k < 64) : (pgL p)[2 + k]? = some (.int .u8 (p.by' k)) := by
  unfold pgL
  rw [show 2 + k = k + 1 + 1 by omega, List.getElem?_cons_succ, List.getElem?_cons_succ, List.getElem?_map, List.getElem?_range hk]; rfl
theorem pgL_one (p : Pg) : ∀ v ∈ pgL p, v.oneCell' = true := by
  intro v hv
  unfold pgL at hv
  simp at hv
  rcases hv with rfl | rfl | ⟨k, _, rfl⟩ <;> rfl
theorem PgAt.range {W : World} {P : Nat} {f : Pages} (h : PgAt W P f) (j : Nat) (hj : j < 1024) : W.rangeAt P (j * 66) (pgL (f j)) := by
  intro i v hv
  have hi : i < 66 := by have := (List.getElem?_eq_some_iff.1 hv).1; rwa [pgL_len] at this
  by_cases h0 : i = 0
  · subst h0; rw [← hv]; exact (h.kd j hj).trans (by unfold pgL; rfl)
  · by_cases h1 : i = 1
    · subst h1; rw [← hv]; exact (h.hu j hj).trans (by unfold pgL; rfl)
    · obtain ⟨k, rfl⟩ : ∃ k, i = 2 + k := ⟨i - 2, by omega⟩
      rw [pgL_by _ k (by omega)] at hv
      rw [← hv, ← Nat.add_assoc]; exact h.byt j hj k (by omega)
theorem PgRow.upd {cs cs' : Array Value} {f : Pages} (h : PgRow cs f) (j : Nat) (hj : j < 1024) (p : Pg) (hs : cs'.size = cs.size) (ho : ∀ i, (i < 66 * j ∨ 66 * j + 66 ≤ i) → cs'[i]? = cs[i]?)
    (h0 : cs'[66 * j]? = some (.int .i64 p.kd)) (h1 : cs'[66 * j + 1]? = some (.bool p.hu)) (h2 : ∀ k, k < 64 → cs'[66 * j + 2 + k]? = some (.int .u8 (p.by' k))) : PgRow cs' (updP f j p) := by
  refine ⟨hs.trans h.1, fun i hi => ?_⟩
  unfold updP
  by_cases e : i = j
  · subst e; simp only [if_true]; exact ⟨h0, h1, h2⟩
  · simp only [if_neg e]
    obtain ⟨a, b, c⟩ := h.2 i hi
    exact ⟨by rw [ho _ (by omega)]; exact a, by rw [ho _ (by omega)]; exact b, fun k hk => by rw [ho _ (by omega)]; exact c k hk⟩
theorem PgAt.setPg {W : World} {P : Nat} {f : Pages} (h : PgAt W P f) (j : Nat) (hj : j < 1024) (p : Pg) : PgAt (W.setCells P (j * 66) (pgL p)) P (updP f j p) := by
  obtain ⟨cs, h1, h2⟩ := h
  refine ⟨_, heap_setCells (pgL p) W P _ cs _ h1, ?_⟩
  have hs := h2.1
  rw [Nat.mul_comm]
  refine h2.upd j hj p (splice_size _ _ _) (fun i hi => splice_out _ _ _ _ (by rw [pgL_len]; exact hi)) ?_ ?_ (fun k hk => ?_)
  · have := splice_in (pgL p) cs (66 * j) 0 (by rw [pgL_len]; omega) (by rw [pgL_len]; omega)
    rw [Nat.add_zero] at this
    rw [this]; unfold pgL; rfl
  · rw [splice_in (pgL p) cs (66 * j) 1 (by rw [pgL_len]; omega) (by rw [pgL_len]; omega)]; unfold pgL; rfl
  · rw [Nat.add_assoc, splice_in (pgL p) cs (66 * j) (2 + k) (by rw [pgL_len]; omega) (by rw [pgL_len]; omega)]; exact pgL_by p k hk
theorem PgAt.setHu {W : World} {P : Nat} {f : Pages} (h : PgAt W P f) (j : Nat) (hj : j < 1024) (b : Bool) : PgAt (W.setCell ⟨P, j * 66 + 1, none⟩ (.bool b)) P (updP f j { f j with hu := b }) := by
  obtain ⟨cs, h1, h2⟩ := h
  refine ⟨_, heap_setCell_same W P _ cs _ _ h1, ?_⟩
  have hs := h2.1
  obtain ⟨a, c, d⟩ := h2.2 j hj
  rw [Nat.mul_comm]
  refine h2.upd j hj _ (Array.size_setIfInBounds ..) (fun i hi => ?_) ?_ ?_ (fun k hk => ?_)
  · rw [Array.getElem?_setIfInBounds, if_neg (by omega)]
  · rw [Array.getElem?_setIfInBounds, if_neg (by omega)]; exact a
  · rw [Array.getElem?_setIfInBounds, if_pos rfl, if_pos (by omega)]
  · rw [Array.getElem?_setIfInBounds, if_neg (by omega)]; exact d k hk
theorem PgAt.setKd {W : World} {P : Nat} {f : Pages} (h : PgAt W P f) (j : Nat) (hj : j < 1024) (x : Int) : PgAt (W.setCell ⟨P, j * 66, none⟩ (.int .i64 x)) P (updP f j { f j with kd := x }) := by
  obtain ⟨cs, h1, h2⟩ := h
  refine ⟨_, heap_setCell_same W P _ cs _ _ h1, ?_⟩
  have hs := h2.1
  obtain ⟨a, c, d⟩ := h2.2 j hj
  rw [Nat.mul_comm]
  refine h2.upd j hj _ (Array.size_setIfInBounds ..) (fun i hi => ?_) ?_ ?_ (fun k hk => ?_)
  · rw [Array.getElem?_setIfInBounds, if_neg (by omega)]
  · rw [Array.getElem?_setIfInBounds, if_pos rfl, if_pos (by omega)]
  · rw [Array.getElem?_setIfInBounds, if_neg (by omega)]; exact c
  · rw [Array.getElem?_setIfInBounds, if_neg (by omega)]; exact d k hk
theorem PgAt.setBy {W : World} {P : Nat} {f : Pages} (h : PgAt W P f) (j : Nat) (hj : j < 1024) (i : Nat) (hi : i < 64) (x : Int) : PgAt (W.setCell ⟨P, j * 66 + 2 + i, none⟩ (.int .u8 x)) P (updP f j { f j with by' := fun k => if k = i then x else (f j).by' k }) := by
  obtain ⟨cs, h1, h2⟩ := h
  refine ⟨_, heap_setCell_same W P _ cs _ _ h1, ?_⟩
  have hs := h2.1
  obtain ⟨a, c, d⟩ := h2.2 j hj
  rw [Nat.mul_comm]
  refine h2.upd j hj _ (Array.size_setIfInBounds ..) (fun i' hi' => ?_) ?_ ?_ (fun k hk => ?_)
  · rw [Array.getElem?_setIfInBounds, if_neg (by omega)]
  · rw [Array.getElem?_setIfInBounds, if_neg (by omega)]; exact a
  · rw [Array.getElem?_setIfInBounds, if_neg (by omega)]; exact c
  · rw [Array.getElem?_setIfInBounds]
    by_cases e : k = i
    · subst e; rw [if_pos (by omega), if_pos (by omega)]; simp
    · rw [if_neg (by omega)]; simp only [if_neg e]; exact d k hk

/-- The cells of a system: its pages, its refusals. -/
def syA (P : Nat) (v : Value) (c h : Nat → Int) : Array Value := #[.slice (some ⟨P, 0, none⟩) 1024 1024, v, .int .i64 (c 0), .int .i64 (c 1), .int .i64 (c 2), .int .i64 (c 3), .int .i64 (c 4), .int .i64 (c 5), .int .i64 (c 6), .int .i64 (h 0), .int .i64 (h 1), .int .i64 (h 2), .int .i64 (h 3), .int .i64 (h 4), .int .i64 (h 5), .int .i64 (h 6)]
def SyBox (W : World) (S P : Nat) (v : Value) (c h : Nat → Int) : Prop := W.heap[S]? = some (.cells (syA P v c h) 79 (0, 0))
theorem SyBox.lt {W : World} {S P : Nat} {v : Value} {c h : Nat → Int} (s : SyBox W S P v c h) : S < W.heap.size := (Array.getElem?_eq_some_iff.1 s).1
theorem SyBox.later {W V : World} {S P : Nat} {v : Value} {c h : Nat → Int} (s : SyBox W S P v c h) (hb : Below W.heap.size W V) : SyBox V S P v c h := (hb.block S s.lt).trans s
theorem SyBox.keep {W V : World} {S P : Nat} {v : Value} {c h : Nat → Int} {q : Nat → Prop} (s : SyBox W S P v c h) (hb : Keep q W V) (hq : ¬ q S) : SyBox V S P v c h := (hb.block S s.lt hq).trans s
theorem SyBox.pages {W : World} {S P : Nat} {v : Value} {c h : Nat → Int} (s : SyBox W S P v c h) : W.cell? ⟨S, 0, none⟩ = some (.slice (some ⟨P, 0, none⟩) 1024 1024) := by unfold SyBox at s; simp only [World.cell?, s]; rfl
theorem SyBox.range {W : World} {S P : Nat} {v : Value} {c h : Nat → Int} (s : SyBox W S P v c h) : W.rangeAt S 1 (stA v c h).toList := fun j u hu => by
  unfold SyBox at s
  simp only [World.cell?, s]
  rw [← hu, Array.getElem?_toList]
  show (#[_] ++ stA v c h)[1 + j]? = _
  rw [Array.getElem?_append_right (by simp)]; simp
theorem SyBox.there {W : World} {S P : Nat} {v : Value} {c h : Nat → Int} (s : SyBox W S P v c h) : W.there S 1 15 := fun j hj => by
  unfold SyBox at s
  refine ⟨?_, by simp [World.frozen?, s]⟩
  simp only [World.cell?, s]
  rw [Option.isSome_iff_exists]
  exact ⟨_, Array.getElem?_eq_getElem (show 1 + j < (syA P v c h).size by show 1 + j < 16; omega)⟩
theorem SyBox.put {W : World} {S P : Nat} {v : Value} {c h : Nat → Int} (s : SyBox W S P v c h) (u : Value) (d g : Nat → Int) : SyBox (W.setCells S 1 (stA u d g).toList) S P u d g :=
  by
  have e : splice (syA P v c h) 1 (stA u d g).toList = syA P u d g := by kernel_rfl
  unfold SyBox
  rw [← e]
  exact heap_setCells (stA u d g).toList W S 1 _ _ s
end Go.Proofs.Ytjplihljmohpjaa

/- Small functions of vmpage; what calls do to pages. -/
namespace Go.Proofs.Ytjplihljmohpjaa
open Go.RowKit Go.Shelf
attribute [local go_sem] Oper.semAt_some

def areB (a n : Int) : Bool := decide (0 ≤ a) && decide (1 ≤ n) && decide (n ≤ 1024 - a)
def grpB (a : Int) : Bool := areB a 1 && decide (a.tmod 16 = 0)
theorem areB_nat {a n : Int} (h : areB a n = true) : ∃ x y : Nat, a = (x : Int) ∧ n = (y : Int) ∧ 1 ≤ y ∧ x + y ≤ 1024 := by
  unfold areB at h
  simp at h
  exact ⟨a.toNat, n.toNat, by omega, by omega, by omega, by omega⟩
theorem areB_of {x y : Nat} (h1 : 1 ≤ y) (h2 : x + y ≤ 1024) : areB x y = true := by unfold areB; simp; omega
set_option maxRecDepth 100000 in
theorem arePages_is (a n : Int) (ha : I64 a) (b : Bool) (hb : areB a n = b) (w : World) :
    Calls Try.prog 67 #[.int .i64 a, .int .i64 n] w fun e w' => e = .returned (.bool b) ∧ w = w' := by
  have HB := Lib.hid hb
  have h1 := ha.1
  have h2 := ha.2
  by_cases h0 : 0 ≤ a
  · by_cases h3 : 1 ≤ n
    · by_cases h4 : n ≤ 1024 - a
      · obtain rfl : b = true := by rw [← hb]; unfold areB; simp; omega
        clear hb
        go_enter Try.func67, Try.ntmps67
        go_wp2
        go_ret
        exact ⟨rfl, rfl⟩
      · obtain rfl : b = false := by rw [← hb]; unfold areB; simp; omega
        clear hb
        go_enter Try.func67, Try.ntmps67
        go_wp2
        go_ret
        exact ⟨rfl, rfl⟩
    · obtain rfl : b = false := by rw [← hb]; unfold areB; simp; omega
      clear hb
      go_enter Try.func67, Try.ntmps67
      go_wp2
      go_ret
      exact ⟨rfl, rfl⟩
  · obtain rfl : b = false := by rw [← hb]; unfold areB; simp; omega
    clear hb
    go_enter Try.func67, Try.ntmps67
    go_wp2
    go_ret
    exact ⟨rfl, rfl⟩
set_option maxRecDepth 100000 in
theorem isGroup_is (a : Int) (ha : I64 a) (b : Bool) (hb : grpB a = b) (w : World) :
    Calls Try.prog 57 #[.int .i64 a] w fun e w' => e = .returned (.bool b) ∧ w = w' := by
  have h1 := ha.1
  have h2 := ha.2
  unfold grpB at hb
  obtain ⟨c, hc⟩ : ∃ c, areB a 1 = c := ⟨_, rfl⟩
  have HC := Lib.hid (arePages_is a 1 ha c hc)
  rw [hc] at hb
  cases c
  · obtain rfl : b = false := by rw [← hb]; rfl
    clear hb hc
    go_enter Try.func57, Try.ntmps57
    go_wp2_with fail
    refine (HC.out _).mono ?_
    rintro e w' ⟨rfl, rfl⟩
    go_wp2
    go_ret
    exact ⟨rfl, rfl⟩
  · obtain ⟨q, hq⟩ : ∃ q, a.tmod 16 = q := ⟨_, rfl⟩
    rw [hq, Bool.true_and] at hb
    have ha0 : 0 ≤ a := by obtain ⟨x, _, hx, _⟩ := areB_nat hc; omega
    have hq2 := hq
    rw [Int.tmod_eq_emod_of_nonneg ha0] at hq2
    have hw : IntKind.i64.wrap q = q := by rw [IntKind.wrap_i64]; omega
    clear hq2
    by_cases h0 : q = 0
    · have hqb : (q == 0) = true := by simpa using h0
      obtain rfl : b = true := by rw [← hb]; simpa using h0
      clear hb hc
      go_enter Try.func57, Try.ntmps57
      go_wp2_with fail
      refine (HC.out _).mono ?_
      rintro e w' ⟨rfl, rfl⟩
      go_wp2
      go_ret
      exact ⟨rfl, rfl⟩
    · have hqb : (q == 0) = false := by simpa using h0
      obtain rfl : b = false := by rw [← hb]; simpa using h0
      clear hb hc
      go_enter Try.func57, Try.ntmps57
      go_wp2_with fail
      refine (HC.out _).mono ?_
      rintro e w' ⟨rfl, rfl⟩
      go_wp2
      go_ret
      exact ⟨rfl, rfl⟩
/-- A system that was not made. -/
def Unmade (W : World) (s : Value) : Prop := s = .pointer none ∨ ∃ b, s = .pointer (some ⟨b, 0, none⟩) ∧ W.cell? ⟨b, 0, none⟩ = some (.slice none 0 0)
theorem Unmade.later {W V : World} {s : Value} (h : Unmade W s) (hb : Below W.heap.size W V) : Unmade V s := by
  rcases h with h | ⟨b, h, hc⟩
  · exact .inl h
  · exact .inr ⟨b, h, cell_later hb hc⟩
set_option maxRecDepth 100000 in
theorem made_no (s : Value) (w : World) (h : Unmade w s) : Calls Try.prog 53 #[s] w fun e w' => e = .returned (.bool false) ∧ w = w' := by
  rcases h with rfl | ⟨b, rfl, hc⟩
  · go_enter Try.func53, Try.ntmps53
    go_wp2
    go_ret
    exact ⟨rfl, rfl⟩
  · go_enter Try.func53, Try.ntmps53
    go_wp2
    go_ret
    exact ⟨rfl, rfl⟩
set_option maxRecDepth 100000 in
theorem made_yes (S P : Nat) (v : Value) (c h : Nat → Int) (w : World) (hs : SyBox w S P v c h) : Calls Try.prog 53 #[.pointer (some ⟨S, 0, none⟩)] w fun e w' => e = .returned (.bool true) ∧ w = w' := by
  have hc := hs.pages
  go_enter Try.func53, Try.ntmps53
  go_wp2
  go_ret
  exact ⟨rfl, rfl⟩

/-- A call of a kind that makes pages of one kind another one. -/
abbrev turnV (k : Int) (b1 b2 : Nat) : Value := .agg #[.int .i64 k, .func (.func 90) #[] #[.pointer (some ⟨b1, 0, none⟩)], .func (.func 91) #[] #[.pointer (some ⟨b2, 0, none⟩)]]
abbrev joinV : Value := .agg #[.int .i64 5, .func (.func 98) #[] #[], .func (.func 99) #[] #[]]
abbrev splitV : Value := .agg #[.int .i64 6, .func (.func 93) #[] #[], .func (.func 94) #[] #[]]
theorem call_i (cs : Array Value) (h : cs.size = 3) : (Try.prog.info? 120).map (·.size) = some cs.size := by rw [h]; kernel_rfl
set_option maxRecDepth 100000 in
theorem turn_is (k x y : Int) (w : World) : Calls Try.prog 69 #[.int .i64 k, .int .i64 x, .int .i64 y] w fun e w' => e = .returned (turnV k w.heap.size (w.heap.size + 1)) ∧ Boxed w' w.heap.size 3 (.int .i64 x) ∧ Boxed w' (w.heap.size + 1) 3 (.int .i64 y) ∧ Below w.heap.size w w' := by
  obtain ⟨WL, hWL⟩ : ∃ W, ((w.alloc (.cells #[.int .i64 x] 3)).alloc (.cells #[.int .i64 y] 3)).alloc (.cells #[.int .i64 k, .nilFunc, .nilFunc] 120) = W := ⟨_, rfl⟩
  obtain ⟨WM, hWM⟩ : ∃ W, ((w.alloc (.cells #[.int .i64 x] 3)).alloc (.cells #[.int .i64 y] 3)).alloc (.cells #[.int .i64 0, .nilFunc, .nilFunc] 120) = W := ⟨_, rfl⟩
  have hbM : Below w.heap.size w WM := by rw [← hWM]; exact (((Below.refl _ _).alloc (Nat.le_refl _) _).alloc (by simp) _).alloc (by simp; omega) _
  have m0 : Boxed WM w.heap.size 3 (.int .i64 x) := by rw [← hWM]; exact ((Boxed.new w _ _).alloc _).alloc _
  have m1 : Boxed WM (w.heap.size + 1) 3 (.int .i64 y) := by
    rw [← hWM]
    have := (Boxed.new (w.alloc (.cells #[.int .i64 x] 3)) 3 (.int .i64 y)).alloc (.cells #[.int .i64 0, .nilFunc, .nilFunc] 120)
    rw [World.size_alloc] at this
    exact this
  have m2 : WM.heap[w.heap.size + 2]? = some (.cells #[.int .i64 0, .nilFunc, .nilFunc] 120 (0, 0)) := by
    rw [← hWM]
    have := World.alloc_heap_new ((w.alloc (.cells #[.int .i64 x] 3)).alloc (.cells #[.int .i64 y] 3)) (.cells #[.int .i64 0, .nilFunc, .nilFunc] 120)
    rw [World.size_alloc, World.size_alloc] at this
    exact this
  clear hWL
  have hone : (turnV k w.heap.size (w.heap.size + 1)).cells.all (·.oneCell') = true := by kernel_rfl
  go_enter Try.func69, Try.ntmps69
  go_wp2_with (first | rw [hWM] | refine wpList_store_row rfl 120 _ _ rfl (w.heap.size + 2) (turnV k w.heap.size (w.heap.size + 1)).cells rfl rfl 120 _ m2 (call_i _ rfl) rfl hone ?_)
  have m3 := setRow_heap WM (w.heap.size + 2) _ (turnV k w.heap.size (w.heap.size + 1)).cells _ _ m2
  have hld : (loadVar 120 ⟨w.heap.size + 2, 0, none⟩).run Try.prog _ = _ := run_loadVar_row _ _ 120 120 _ _ _ m3 Try.underlying120 rfl (call_i _ rfl)
  refine bodyPost_ret (v := turnV k w.heap.size (w.heap.size + 1)) (by simp [results, Try.results69, asAddr, Act.put, hld]; rfl) rfl ⟨rfl, ?_, ?_, below_row hbM _ (by omega) _⟩
  · exact (setRow_other WM _ _ _ (by omega)).trans m0
  · exact (setRow_other WM _ _ _ (by omega)).trans m1
set_option maxRecDepth 100000 in
theorem join_is (w : World) : Calls Try.prog 79 #[] w fun e w' => e = .returned joinV ∧ Below w.heap.size w w' := by
  obtain ⟨WM, hWM⟩ : ∃ W, w.alloc (.cells #[.int .i64 0, .nilFunc, .nilFunc] 120) = W := ⟨_, rfl⟩
  have hbM : Below w.heap.size w WM := by rw [← hWM]; exact (Below.refl _ _).alloc (Nat.le_refl _) _
  have m2 : WM.heap[w.heap.size]? = some (.cells #[.int .i64 0, .nilFunc, .nilFunc] 120 (0, 0)) := by rw [← hWM]; exact World.alloc_heap_new w _
  have hone : (joinV).cells.all (·.oneCell') = true := by kernel_rfl
  go_enter Try.func79, Try.ntmps79
  go_wp2_with (first | rw [hWM] | refine wpList_store_row rfl 120 _ _ rfl w.heap.size joinV.cells rfl rfl 120 _ m2 (call_i _ rfl) rfl hone ?_)
  have m3 := setRow_heap WM w.heap.size _ joinV.cells _ _ m2
  have hld : (loadVar 120 ⟨w.heap.size, 0, none⟩).run Try.prog _ = _ := run_loadVar_row _ _ 120 120 _ _ _ m3 Try.underlying120 rfl (call_i _ rfl)
  exact bodyPost_ret (v := joinV) (by simp [results, Try.results79, asAddr, Act.put, hld]; rfl) rfl ⟨rfl, below_row hbM _ (by omega) _⟩
set_option maxRecDepth 100000 in
theorem split_is (w : World) : Calls Try.prog 74 #[] w fun e w' => e = .returned splitV ∧ Below w.heap.size w w' := by
  obtain ⟨WM, hWM⟩ : ∃ W, w.alloc (.cells #[.int .i64 0, .nilFunc, .nilFunc] 120) = W := ⟨_, rfl⟩
  have hbM : Below w.heap.size w WM := by rw [← hWM]; exact (Below.refl _ _).alloc (Nat.le_refl _) _
  have m2 : WM.heap[w.heap.size]? = some (.cells #[.int .i64 0, .nilFunc, .nilFunc] 120 (0, 0)) := by rw [← hWM]; exact World.alloc_heap_new w _
  have hone : (splitV).cells.all (·.oneCell') = true := by kernel_rfl
  go_enter Try.func74, Try.ntmps74
  go_wp2_with (first | rw [hWM] | refine wpList_store_row rfl 120 _ _ rfl w.heap.size splitV.cells rfl rfl 120 _ m2 (call_i _ rfl) rfl hone ?_)
  have m3 := setRow_heap WM w.heap.size _ splitV.cells _ _ m2
  have hld : (loadVar 120 ⟨w.heap.size, 0, none⟩).run Try.prog _ = _ := run_loadVar_row _ _ 120 120 _ _ _ m3 Try.underlying120 rfl (call_i _ rfl)
  exact bodyPost_ret (v := splitV) (by simp [results, Try.results74, asAddr, Act.put, hld]; rfl) rfl ⟨rfl, below_row hbM _ (by omega) _⟩

/-! What calls say of a page, and what they make of it. -/
def chkT (x : Int) (p : Pg) : Int := if p.kd = x ∧ p.hu = false then 0 else 9
def chkJ (p : Pg) : Int := if p.kd ≠ 2 then 9 else if p.hu then 8 else 0
def chkS (p : Pg) : Int := if p.hu then 0 else 9
def chgT (y : Int) (_ : Pg) : Pg := ⟨y, false, fun _ => 0⟩
def chgJ (p : Pg) : Pg := { p with hu := true }
def chgS (p : Pg) : Pg := { p with hu := false }
set_option maxRecDepth 100000 in
theorem turn1_is (x : Int) (b1 P : Nat) (f : Pages) (j : Nat) (hj : j < 1024) (w : World) (hb : Boxed w b1 3 (.int .i64 x)) (hp : PgAt w P f) (r : Int) (hr : chkT x (f j) = r) :
    Calls Try.prog 90 #[.pointer (some ⟨P, j * 66, none⟩), .pointer (some ⟨b1, 0, none⟩)] w fun e w' => e = .returned (.int .i64 r) ∧ Below w.heap.size w w' := by
  have h0 := hp.kd j hj
  have h1 := hp.hu j hj
  have hc := hb.cell
  unfold chkT at hr
  generalize f j = p at hr h0 h1
  obtain ⟨kd, hu, bs⟩ := p
  simp only at hr h0 h1
  by_cases hk : kd = x
  · subst hk
    have hq : (kd != kd) = false := by simp
    cases hu
    · obtain rfl : r = 0 := by rw [← hr]; simp
      go_enter Try.func90, Try.ntmps90
      go_wp2_with fail
      go_quiet (fail)
      go_wp2_with fail
      go_ret
      exact ⟨rfl, below_drewN (Below.refl _ _) _⟩
    · obtain rfl : r = 9 := by rw [← hr]; simp
      go_enter Try.func90, Try.ntmps90
      go_wp2_with fail
      go_quiet (fail)
      go_wp2_with fail
      go_ret
      exact ⟨rfl, below_drewN (Below.refl _ _) _⟩
  · obtain rfl : r = 9 := by rw [← hr, if_neg (by intro h; exact hk h.1)]
    have hq : (kd != x) = true := by simpa using hk
    go_enter Try.func90, Try.ntmps90
    go_wp2_with fail
    go_quiet (fail)
    go_wp2_with fail
    go_ret
    exact ⟨rfl, below_drewN (Below.refl _ _) _⟩
set_option maxRecDepth 100000 in
theorem join1_is (P : Nat) (f : Pages) (j : Nat) (hj : j < 1024) (w : World) (hp : PgAt w P f) (r : Int) (hr : chkJ (f j) = r) :
    Calls Try.prog 98 #[.pointer (some ⟨P, j * 66, none⟩)] w fun e w' => e = .returned (.int .i64 r) ∧ Below w.heap.size w w' := by
  have h0 := hp.kd j hj
  have h1 := hp.hu j hj
  unfold chkJ at hr
  generalize f j = p at hr h0 h1
  obtain ⟨kd, hu, bs⟩ := p
  simp only at hr h0 h1
  by_cases hk : kd = 2
  · subst hk
    rw [if_neg (by simp)] at hr
    cases hu
    · obtain rfl : r = 0 := by rw [← hr]; simp
      go_enter Try.func98, Try.ntmps98
      go_wp2
      go_ret
      exact ⟨rfl, Below.refl _ _⟩
    · obtain rfl : r = 8 := by rw [← hr]; simp
      go_enter Try.func98, Try.ntmps98
      go_wp2
      go_ret
      exact ⟨rfl, Below.refl _ _⟩
  · obtain rfl : r = 9 := by rw [← hr, if_pos hk]
    have hq : (kd != 2) = true := by simpa using hk
    go_enter Try.func98, Try.ntmps98
    go_wp2
    go_ret
    exact ⟨rfl, Below.refl _ _⟩
set_option maxRecDepth 100000 in
theorem split1_is (P : Nat) (f : Pages) (j : Nat) (hj : j < 1024) (w : World) (hp : PgAt w P f) (r : Int) (hr : chkS (f j) = r) :
    Calls Try.prog 93 #[.pointer (some ⟨P, j * 66, none⟩)] w fun e w' => e = .returned (.int .i64 r) ∧ Below w.heap.size w w' := by
  have h1 := hp.hu j hj
  unfold chkS at hr
  generalize f j = p at hr h1
  obtain ⟨kd, hu, bs⟩ := p
  simp only at hr h1
  cases hu
  · obtain rfl : r = 9 := by rw [← hr]; simp
    go_enter Try.func93, Try.ntmps93
    go_wp2
    go_ret
    exact ⟨rfl, Below.refl _ _⟩
  · obtain rfl : r = 0 := by rw [← hr]; simp
    go_enter Try.func93, Try.ntmps93
    go_wp2
    go_ret
    exact ⟨rfl, Below.refl _ _⟩
/-- What a change of page j leaves: the pages with the new one, all else as it was. -/
def Chg (w : World) (P : Nat) (f : Pages) (w' : World) : Prop := PgAt w' P f ∧ Keep (· = P) w w' ∧ KeepsOthers w w'
set_option maxRecDepth 100000 in
theorem join2_is (P : Nat) (f : Pages) (j : Nat) (hj : j < 1024) (w : World) (hp : PgAt w P f) :
    Calls Try.prog 99 #[.pointer (some ⟨P, j * 66, none⟩)] w fun e w' => e = .returned (.tuple #[]) ∧ Chg w P (updP f j (chgJ (f j))) w' := by
  have h1 := hp.hu j hj
  have h2 := hp.frozen (j * 66 + 1)
  go_enter Try.func99, Try.ntmps99
  go_wp2
  go_end0
  exact ⟨rfl, hp.setHu j hj true, (Keep.refl _ _).setCell _ _ (.inl rfl), KeepsOthers.setCell _ _ _⟩
set_option maxRecDepth 100000 in
theorem split2_is (P : Nat) (f : Pages) (j : Nat) (hj : j < 1024) (w : World) (hp : PgAt w P f) :
    Calls Try.prog 94 #[.pointer (some ⟨P, j * 66, none⟩)] w fun e w' => e = .returned (.tuple #[]) ∧ Chg w P (updP f j (chgS (f j))) w' := by
  have h1 := hp.hu j hj
  have h2 := hp.frozen (j * 66 + 1)
  go_enter Try.func94, Try.ntmps94
  go_wp2
  go_end0
  exact ⟨rfl, hp.setHu j hj false, (Keep.refl _ _).setCell _ _ (.inl rfl), KeepsOthers.setCell _ _ _⟩
theorem page_i (p : Pg) : (Try.prog.info? 104).map (·.size) = some (pgL p).toArray.size := by rw [List.size_toArray, pgL_len]; kernel_rfl
set_option maxRecDepth 100000 in
theorem turn2_is (y : Int) (b2 P : Nat) (f : Pages) (j : Nat) (hj : j < 1024) (w : World) (hb : Boxed w b2 3 (.int .i64 y)) (hp : PgAt w P f) :
    Calls Try.prog 91 #[.pointer (some ⟨P, j * 66, none⟩), .pointer (some ⟨b2, 0, none⟩)] w fun e w' => e = .returned (.tuple #[]) ∧ Chg w P (updP f j (chgT y (f j))) w' := by
  have hc := hb.cell
  have ht := hp.there j hj
  have hone := all_oneCell_toArray (pgL_one (chgT y (f j)))
  go_enter Try.func91, Try.ntmps91
  go_wp2_with (first | refine wpList_store_mid rfl 104 _ _ rfl P (j * 66) (pgL (chgT y (f j))).toArray rfl (by kernel_rfl) (by rw [List.size_toArray, pgL_len]; exact ht) (page_i _) hone ?_)
  go_end0
  exact ⟨rfl, hp.setPg j hj _, Keep.setCells (q := (· = P)) P (.inl rfl) _ _ _ (Keep.refl _ _), others_setCells _ _ _ _⟩
end Go.Proofs.Ytjplihljmohpjaa

/- The iterator over pages. -/
namespace Go.Proofs.Ytjplihljmohpjaa
open Go.RowKit Go.Shelf
attribute [local go_sem] Oper.semAt_some

abbrev Vn := { p : Nat // p < 1024 }
def encP (P : Nat) (x : Vn) : Array Value := #[.int .i64 (x.1 : Nat), .pointer (some ⟨P, x.1 * 66, none⟩)]
theorem range_split {a k : Nat} (pre : List Vn) (x : Vn) (hx : x.1 = a + k) (hp : pre.map Subtype.val = List.range' a k) : (pre ++ [x]).map Subtype.val = List.range' a (k + 1) := by
  rw [List.map_append, hp, List.map_singleton, hx, List.range'_concat]; simp
theorem range_prefix {a k n : Nat} (h : k ≤ n) : List.range' a k <+: List.range' a n := by
  refine ⟨List.range' (a + k) (n - k), ?_⟩
  rw [List.range'_append_1]; congr 1; omega
set_option maxRecDepth 100000 in
set_option maxHeartbeats 4000000 in
theorem from1_in (n0 : Nat) (hn : 1 ≤ n0) (l S P B1 B2 B3 a n : Nat) (han : a + n ≤ 1024) (p : Nat → Prop) (hp1 : p B1) (hp2 : p B2) (hp3 : p B3) (hp4 : p S) (J Jx : List Vn → World → Prop) (W0 : World) (v : Value) (c h : Nat → Int)
    (hY : ∀ (pre : List Vn) x W, J pre W → pre.length < 2000 → YieldAt Fence.wide (n0 - 1) Try.prog l (encP P x) W fun e W' =>
      (e = .returned (.bool true) ∧ J (pre ++ [x]) W' ∧ KC p W W' ∧ KeepsFrom W0.heap.size W W') ∨ (e = .returned (.bool false) ∧ Jx (pre ++ [x]) W' ∧ KeepsFrom W0.heap.size W W'))
    (hb1 : Boxed W0 B1 3 (.int .i64 a)) (hb2 : Boxed W0 B2 3 (.int .i64 n)) (hb3 : Boxed W0 B3 28 (.pointer (some ⟨S, 0, none⟩))) (hS : SyBox W0 S P v c h) (h0 : J [] W0) :
    CallsIn Fence.wide n0 Try.prog 83 #[.func (.yield l) #[] #[], .pointer (some ⟨B1, 0, none⟩), .pointer (some ⟨B2, 0, none⟩), .pointer (some ⟨B3, 0, none⟩)] W0 fun e W' => (∃ v, e = .returned v) ∧
      ((∃ ys : List Vn, ys.map Subtype.val = List.range' a n ∧ J ys W') ∨ (∃ pre : List Vn, pre.map Subtype.val <+: List.range' a n ∧ Jx pre W')) := by
  have e1 := hb1.cell
  refine callsIn_of_wp Try.func83 rfl trivial ?_ rfl
  simp only [Try.ntmps83, List.size_toArray, List.length_cons, List.length_nil, Nat.reduceAdd, Nat.reduceSub, Array.replicate_succ, Array.replicate_zero, List.push_toArray, List.append_toArray, List.nil_append, List.cons_append]
  gi_wp2_with fail
  clear e1
  gi_loopw [5] (fun v' wr => ∃ (k : Nat) (pre : List Vn), v' = .int .i64 ((a + k : Nat) : Int) ∧ k ≤ n ∧ pre.length = k ∧ J pre wr ∧ Boxed wr B1 3 (.int .i64 a) ∧ Boxed wr B2 3 (.int .i64 n) ∧ Boxed wr B3 28 (.pointer (some ⟨S, 0, none⟩)) ∧ SyBox wr S P v c h ∧ Hid (pre.map Subtype.val = List.range' a k)) (fun v' _ => a + n - (intOf v').toNat)
  case atStart => exact ⟨0, [], rfl, by omega, rfl, h0, hb1, hb2, hb3, hS, rfl⟩
  case round =>
    obtain ⟨k, pre, rfl, hkn, hpl, hJs, hb1, hb2, hb3, hS, HP⟩ := hrel
    have c1 := hb1.cell
    have c2 := hb2.cell
    have c3 := hb3.cell
    have c4 := hS.pages
    obtain ⟨q, hq⟩ : ∃ q, a + k = q := ⟨_, rfl⟩
    rw [hq]
    by_cases h1 : k < n
    · have hq1 : (q : Int) < (a : Int) + (n : Int) := by omega
      have hqlt : q < 1024 := by omega
      obtain ⟨x, hxx⟩ : ∃ x : Vn, (⟨q, hqlt⟩ : Vn) = x := ⟨_, rfl⟩
      have hxv : x.1 = q := by rw [← hxx]
      have HS : Hid ((pre ++ [x]).map Subtype.val = List.range' a (k + 1)) := range_split pre x (by omega) HP.out
      obtain ⟨fn, tmps, assign, body, hy, hR⟩ := hY pre x wr hJs (by omega)
      dsimp only [encP] at hy
      rw [hxv] at hy
      have hq3 : (q : Int) < 1024 := by omega
      have HQ := Lib.hid hq
      clear hxx hxv hq HP
      gi_wp2_with fail
      refine hR.mono ?_
      rintro e2 W2 (⟨rfl, hJ2, hk2, _⟩ | ⟨rfl, hJx2, _⟩)
      · have y1 : Boxed W2 B1 3 (.int .i64 a) := hk2 B1 _ hp1 hb1 rfl
        have y2 : Boxed W2 B2 3 (.int .i64 n) := hk2 B2 _ hp2 hb2 rfl
        have y3 : Boxed W2 B3 28 (.pointer (some ⟨S, 0, none⟩)) := hk2 B3 _ hp3 hb3 rfl
        have y4 : SyBox W2 S P v c h := hk2 S _ hp4 hS rfl
        gi_wp2
        go_roundw
        case rel => exact ⟨k + 1, pre ++ [x], by rw [← Nat.add_assoc, HQ.out]; go_num, by omega, by rw [List.length_append, List.length_singleton]; omega, hJ2, y1, y2, y3, y4, HS⟩
        case measure => simp [intOf]; omega
      · gi_wp2
        refine bodyPost_ret (results_none rfl _ _ _) rfl ?_
        exact ⟨⟨_, rfl⟩, .inr ⟨pre ++ [x], by rw [HS.out]; exact range_prefix (by omega), hJx2⟩⟩
    · have hq1 : ¬ (q : Int) < (a : Int) + (n : Int) := by omega
      obtain rfl : k = n := by omega
      clear hq
      gi_wp2
      go_end0
      exact ⟨⟨_, rfl⟩, .inl ⟨pre, HP.out, hJs⟩⟩
theorem from_g (n0 : Nat) (hn : 1 ≤ n0) (S P B1 B2 B3 a n : Nat) (han : a + n ≤ 1024) (p : Nat → Prop) (hp1 : p B1) (hp2 : p B2) (hp3 : p B3) (hp4 : p S) (w : World) (v : Value) (c h : Nat → Int)
    (hb1 : Boxed w B1 3 (.int .i64 a)) (hb2 : Boxed w B2 3 (.int .i64 n)) (hb3 : Boxed w B3 28 (.pointer (some ⟨S, 0, none⟩))) (hS : SyBox w S P v c h) :
    SeqG Fence.wide n0 Try.prog 83 #[.pointer (some ⟨B1, 0, none⟩), .pointer (some ⟨B2, 0, none⟩), .pointer (some ⟨B3, 0, none⟩)] (encP P) (fun _ => KC p) (fun ys => ys.map Subtype.val = List.range' a n) (fun pre => pre.map Subtype.val <+: List.range' a n) 2000 w := by
  intro l J Jx W hW _ _ hY h0
  exact from1_in n0 hn l S P B1 B2 B3 a n han p hp1 hp2 hp3 hp4 J Jx W v c h hY (hb1.kept (grown_of_below hW) (by simp)) (hb2.kept (grown_of_below hW) (by simp)) (hb3.kept (grown_of_below hW) (by simp)) (hS.later hW) h0
abbrev fromV (b : Nat) : Value := .func (.func 83) #[] #[.pointer (some ⟨b + 1, 0, none⟩), .pointer (some ⟨b + 2, 0, none⟩), .pointer (some ⟨b, 0, none⟩)]
theorem from_any (n0 : Nat) (sa : Option Addr) (a n : Int) (w : World) :
    CallsIn Fence.wide n0 Try.prog 55 #[.pointer sa, .int .i64 a, .int .i64 n] w fun e w' => e = .returned (fromV w.heap.size) ∧
      ((w.alloc (.cells #[.pointer sa] 28)).alloc (.cells #[.int .i64 a] 3)).alloc (.cells #[.int .i64 n] 3) = w' := by
  refine callsIn_of_wp Try.func55 rfl trivial ?_ rfl
  simp only [Try.ntmps55, List.size_toArray, List.length_cons, List.length_nil, Nat.reduceAdd, Nat.reduceSub, Array.replicate_succ, Array.replicate_zero, List.push_toArray, List.append_toArray, List.nil_append, List.cons_append]
  gi_wp2
  go_ret
  exact ⟨rfl, rfl⟩
/-- The boxes of the iterator. -/
theorem from_world (w : World) (s : Value) (a n : Int) : ∃ W, ((w.alloc (.cells #[s] 28)).alloc (.cells #[.int .i64 a] 3)).alloc (.cells #[.int .i64 n] 3) = W ∧ Below w.heap.size w W ∧ W.heap.size = w.heap.size + 3 ∧
    Boxed W w.heap.size 28 s ∧ Boxed W (w.heap.size + 1) 3 (.int .i64 a) ∧ Boxed W (w.heap.size + 2) 3 (.int .i64 n) := by
  refine ⟨_, rfl, (((Below.refl _ _).alloc (Nat.le_refl _) _).alloc (by simp) _).alloc (by simp; omega) _, by simp, ((Boxed.new w _ _).alloc _).alloc _, ?_, ?_⟩
  · have := (Boxed.new (w.alloc (.cells #[s] 28)) 3 (.int .i64 a)).alloc (.cells #[.int .i64 n] 3)
    rw [World.size_alloc] at this
    exact this
  · have := Boxed.new ((w.alloc (.cells #[s] 28)).alloc (.cells #[.int .i64 a] 3)) 3 (.int .i64 n)
    rw [World.size_alloc, World.size_alloc] at this
    exact this
end Go.Proofs.Ytjplihljmohpjaa

/- Whether a call is possible for some pages; what it makes of them. -/
namespace Go.Proofs.Ytjplihljmohpjaa
open Go.RowKit Go.Shelf
attribute [local go_sem] Oper.semAt_some

/-- The first error of the pages. -/
def posE (chk : Pg → Int) (f : Pages) : List Nat → Int
  | [] => 0
  | j :: l => if chk (f j) ≠ 0 then chk (f j) else posE chk f l
theorem posE_append (chk : Pg → Int) (f : Pages) : ∀ (l r : List Nat), posE chk f (l ++ r) = if posE chk f l ≠ 0 then posE chk f l else posE chk f r
  | [], _ => rfl
  | j :: l, r => by
    show (if chk (f j) ≠ 0 then chk (f j) else posE chk f (l ++ r)) = _
    rw [posE_append chk f l r]
    show _ = if (if chk (f j) ≠ 0 then chk (f j) else posE chk f l) ≠ 0 then (if chk (f j) ≠ 0 then chk (f j) else posE chk f l) else posE chk f r
    by_cases h : chk (f j) ≠ 0
    · simp only [if_pos h]
    · simp only [if_neg h]
/-- The pages of a list are changed. -/
def chgF (chg : Pg → Pg) (f : Pages) : List Nat → Pages
  | [] => f
  | j :: l => chgF chg (updP f j (chg (f j))) l
theorem chgF_append (chg : Pg → Pg) : ∀ (l r : List Nat) (f : Pages), chgF chg f (l ++ r) = chgF chg (chgF chg f l) r
  | [], _, _ => rfl
  | _ :: l, r, _ => chgF_append chg l r _
theorem chgF_at (chg : Pg → Pg) : ∀ (l : List Nat) (f : Pages) (i : Nat), l.Nodup → chgF chg f l i = if i ∈ l then chg (f i) else f i
  | [], f, i, _ => by simp [chgF]
  | j :: l, f, i, h => by
    have h2 := List.nodup_cons.1 h
    rw [chgF, chgF_at chg l _ i h2.2]
    unfold updP
    by_cases e : i = j
    · subst e; simp [h2.1]
    · simp [e]
def CBox (W : World) (b : Nat) (k : Int) (fc fg : Value) : Prop := W.heap[b]? = some (.cells #[.int .i64 k, fc, fg] 120 (0, 0))
theorem CBox.lt {W : World} {b : Nat} {k : Int} {fc fg : Value} (s : CBox W b k fc fg) : b < W.heap.size := (Array.getElem?_eq_some_iff.1 s).1
theorem CBox.later {W V : World} {b : Nat} {k : Int} {fc fg : Value} (s : CBox W b k fc fg) (hb : Below W.heap.size W V) : CBox V b k fc fg := (hb.block b s.lt).trans s
theorem CBox.c0 {W : World} {b : Nat} {k : Int} {fc fg : Value} (s : CBox W b k fc fg) : W.cell? ⟨b, 0, none⟩ = some (.int .i64 k) := by unfold CBox at s; simp [World.cell?, s]
theorem CBox.c1 {W : World} {b : Nat} {k : Int} {fc fg : Value} (s : CBox W b k fc fg) : W.cell? ⟨b, 1, none⟩ = some fc := by unfold CBox at s; simp [World.cell?, s]
theorem CBox.c2 {W : World} {b : Nat} {k : Int} {fc fg : Value} (s : CBox W b k fc fg) : W.cell? ⟨b, 2, none⟩ = some fg := by unfold CBox at s; simp [World.cell?, s]
theorem own_CBox {β : Type} (B b : Nat) (k : Int) (fc fg : Value) : OwnFrom B (fun (_ : β) W => CBox W b k fc fg) := own_cells B b _ rfl
theorem keepsFrom_below {B : Nat} {W V : World} (h : Below W.heap.size W V) : KeepsFrom B W V := ⟨h.size, fun k _ _ h1 _ => (h.block k (Array.getElem?_eq_some_iff.1 h1).1).trans h1⟩

set_option maxRecDepth 100000 in
set_option maxHeartbeats 4000000 in
theorem possible_is (cf : Nat) (clb : Array Value) (eg : ∀ args w, (callFunc cf args).run Try.prog w = .ok (.enter cf args) w) (chk : Pg → Int) (fg : Value) (kd : Int) (S P a n : Nat) (han : a + n ≤ 1024) (f : Pages) (v : Value) (c h : Nat → Int) (w : World)
    (hS : SyBox w S P v c h) (hC : ∀ V, Below w.heap.size w V → ∀ j, j < 1024 → Calls Try.prog cf (#[.pointer (some ⟨P, j * 66, none⟩)] ++ clb) V fun e V' => e = .returned (.int .i64 (chk (f j))) ∧ Below V.heap.size V V') :
    Calls Try.prog 86 #[.pointer (some ⟨S, 0, none⟩), .agg #[.int .i64 kd, .func (.func cf) #[] clb, fg], .int .i64 (a : Int), .int .i64 (n : Int)] w fun e w' => e = .returned (.int .i64 (posE chk f (List.range' a n))) ∧ Below w.heap.size w w' := by
  refine (callsIn_wide (n := 5)).1 ?_
  refine callsIn_of_wp_marks Try.func86 rfl trivial ?_ rfl
  simp only [Try.ntmps86, List.size_toArray, List.length_cons, List.length_nil, Nat.reduceAdd, Nat.reduceSub, Array.replicate_succ, Array.replicate_zero, List.push_toArray, List.append_toArray, List.nil_append, List.cons_append]
  have hf1 := wide_fn 55
  have hf2 := wide_fn cf
  obtain ⟨W1, hW1⟩ : ∃ x, (w.alloc (.cells #[.int .i64 kd, .func (.func cf) #[] clb, fg] 120)).alloc (.cells #[.int .i64 0] 29) = x := ⟨_, rfl⟩
  have hb1 : Below w.heap.size w W1 := by rw [← hW1]; exact ((Below.refl _ _).alloc (Nat.le_refl _) _).alloc (by simp) _
  have hz1 : W1.heap.size = w.heap.size + 2 := by rw [← hW1]; simp
  have bC : CBox W1 w.heap.size kd (.func (.func cf) #[] clb) fg := by rw [← hW1]; exact (Below.heap_alloc _ _ _ (by simp)).trans (World.alloc_heap_new w _)
  have bR : Boxed W1 (w.heap.size + 1) 29 (.int .i64 0) := by
    have := Boxed.new (w.alloc (.cells #[.int .i64 kd, .func (.func cf) #[] clb, fg] 120)) 29 (.int .i64 0)
    rw [World.size_alloc] at this
    rw [← hW1]; exact this
  gi_wp2_with fail
  try rw [hW1]
  clear hW1
  refine (from_any _ _ _ _ _).mono ?_
  rintro e w' ⟨rfl, hw'⟩
  obtain ⟨W2, hW2, hb2, hz2, f0, f1, f2⟩ := from_world W1 (.pointer (some ⟨S, 0, none⟩)) a n
  rw [hW2] at hw'
  subst hw'
  clear hW2
  have bC2 := bC.later hb2
  have bR2 : Boxed W2 (w.heap.size + 1) 29 (.int .i64 0) := bR.kept (grown_of_below hb2) (by simp)
  have hB2 := hb1.trans (hb2.mono hb1.size)
  have hSl := hS.lt
  rw [hz1] at f0 f1 f2
  gi_wp2_with fail
  try rw [hz1]
  refine range_g rfl (by decide) (gf := 83) (lb := #[.pointer (some ⟨w.heap.size + 2 + 1, 0, none⟩), .pointer (some ⟨w.heap.size + 2 + 2, 0, none⟩), .pointer (some ⟨w.heap.size + 2, 0, none⟩)]) rfl (wide_fn _) (enters_of Try.func83 (by kernel_rfl) rfl)
    (from_g 4 (by decide) S P (w.heap.size + 2 + 1) (w.heap.size + 2 + 2) (w.heap.size + 2) a n han (fun q => q = S ∨ (w.heap.size + 2 ≤ q ∧ q ≤ w.heap.size + 4)) (.inr (by omega)) (.inr (by omega)) (.inr (by omega)) (.inl rfl) W2 v c h f1 f2 f0 (hS.later hB2)) (fun h k => KC.trans h k) (fun _ V k o o' hk hc _ => KC.putObj V k o o' hk hc) (fun _ => rfl)
    (fun pre V => posE chk f (pre.map Subtype.val) = 0 ∧ (Boxed V (w.heap.size + 1) 29 (.int .i64 0) ∧ CBox V w.heap.size kd (.func (.func cf) #[] clb) fg) ∧ Below w.heap.size w V)
    (fun c pre V => ∃ r : Int, (c = .ret ∧ posE chk f (pre.map Subtype.val) = r ∧ r ≠ 0) ∧ Boxed V (w.heap.size + 1) 29 (.int .i64 r) ∧ Below w.heap.size w V)
    ?own ?ownx ?start ?a1 ?assign ?body ?done ?stop
  case assign =>
    intro l x Y K hK
    simp only [encP]
    gi_wp2
    exact hK
  case own => exact OwnFrom.and (ownFrom_pure _ (fun pre : List Vn => posE chk f (pre.map Subtype.val) = 0)) (OwnFrom.and (OwnFrom.and (Own.from (boxed_own _ _ (fun _ => .int .i64 0)) _) (own_CBox _ _ _ _ _)) (ownFrom_below (Nat.le_refl _) hB2.size))
  case ownx =>
    rintro c0 pre A C row ⟨r, h1, h2, h3⟩ hg hr
    exact ⟨r, h1, Own.from (boxed_own (β := Unit) _ _ (fun _ => .int .i64 r)) _ () A C row h2 hg hr, ownFrom_below (β := Unit) (Nat.le_refl _) hB2.size () A C row h3 hg hr⟩
  case start => exact ⟨rfl, ⟨bR2, bC2⟩, hB2⟩
  case body =>
    rintro l pre x V ⟨hp, ⟨h1, h2⟩, hB⟩ hlen
    obtain ⟨x, hx⟩ := x
    have c1 := h2.c1
    have q1 := h1.cell
    have q2 := h1.frozen
    obtain ⟨r, hr⟩ : ∃ r, chk (f x) = r := ⟨_, rfl⟩
    have hE : posE chk f ((pre ++ [(⟨x, hx⟩ : Vn)]).map Subtype.val) = r := by
      rw [List.map_append, posE_append, hp, ← hr]
      show (if chk (f x) ≠ 0 then chk (f x) else 0) = _
      by_cases h0 : chk (f x) = 0
      · rw [if_neg (by simp [h0]), h0]
      · rw [if_pos h0]
    have hC1 := hC V hB x hx
    rw [hr] at hC1
    have HE := Lib.hid hE
    have hf3 : (Fence.wide.inRound l).fn cf := hf2
    by_cases h0 : r = 0
    · subst h0
      clear hE hr hp
      gi_wp2_with fail
      refine (CallsIn.inRound l (callsIn_wide.2 hC1)).mono ?_
      rintro e V' ⟨rfl, B'⟩
      have k1 : Boxed V' (w.heap.size + 1) 29 (.int .i64 0) := h1.kept (grown_of_below B') (by simp)
      have k2 := h2.later B'
      gi_wp2_with fail
      exact ⟨keepsFrom_below B', KC.of_below B', HE.out, ⟨k1, k2⟩, hB.trans (B'.mono hB.size)⟩
    · have hq : (r != 0) = true := by simpa using h0
      have H0 := Lib.hid h0
      clear hE hr hp h0
      gi_wp2_with fail
      refine (CallsIn.inRound l (callsIn_wide.2 hC1)).mono ?_
      rintro e V' ⟨rfl, B'⟩
      have k1 : Boxed V' (w.heap.size + 1) 29 (.int .i64 0) := h1.kept (grown_of_below B') (by simp)
      have q1 := k1.cell
      have q2 := k1.frozen
      gi_wp2_with fail
      exact ⟨(keepsFrom_below B').trans ((KeepsOthers.setCell _ _ _).from _), r, ⟨rfl, HE.out, H0.out⟩, k1.set _, (hB.trans (B'.mono hB.size)).setCell (by dsimp only; omega) _⟩
  case done =>
    rintro D ys V hD hys ⟨hp, ⟨h1, h2⟩, hB⟩ hK
    rw [hys] at hp
    have HP := Lib.hid hp
    have q1 := h1.cell
    have q2 := h1.frozen
    clear hp hys
    gi_wp2_with fail
    have cK : (V.setCell ⟨w.heap.size + 1, 0, none⟩ (.int .i64 0)).heap[D]? = some (.deferred (some [])) := by
      rw [Below.heap_setCell _ _ _ _ (by simp; omega)]; exact hK
    have k1 := ((h1.set (.int .i64 0)).kept (grownBy_putObj' _ D (.deferred none)) (by simp; omega)).cell
    refine ⟨by simp, .inl ⟨D, _, rfl, run_takeDeferred cK, ?_⟩⟩
    exact ⟨.int .i64 0, by simp [results, Try.results86, go_sem, k1], by rw [HP.out], (hB.setCell (by dsimp only; omega) _).trans (belowK_b (w := w) (Nat.le_refl _) _ D _ _ (by omega) cK rfl rfl)⟩
  case stop =>
    rintro D c0 pre V hD hSp ⟨r, ⟨rfl, hp, h0⟩, h1, hB⟩ hK
    have HP : Hid (posE chk f (List.range' a n) = r) := by
      obtain ⟨r2, hr2⟩ := hSp
      unfold Hid
      rw [← hr2, posE_append, hp, if_pos h0]
    clear hp hSp h0
    gi_wp2_with fail
    have k1 := (h1.kept (grownBy_putObj' V D (.deferred none)) (by simp; omega)).cell
    refine ⟨by simp, .inl ⟨D, _, rfl, run_takeDeferred hK, ?_⟩⟩
    exact ⟨.int .i64 r, by simp [results, Try.results86, go_sem, k1], by rw [HP.out], hB.trans (belowK_b (w := w) (Nat.le_refl _) V D _ _ (by omega) hK rfl rfl)⟩
end Go.Proofs.Ytjplihljmohpjaa

/- Pages are changed. -/
namespace Go.Proofs.Ytjplihljmohpjaa
open Go.RowKit Go.Shelf
attribute [local go_sem] Oper.semAt_some

theorem own_PgAt {β : Type} (B P : Nat) (f : β → Pages) : OwnFrom B (fun (s : β) W => PgAt W P (f s)) := fun s A C row ⟨cs, h1, h2⟩ hg hr => by
  have := own_cells (β := Unit) B P _ rfl () A C row h1 hg hr
  exact ⟨cs, this, h2⟩
theorem own_Keep {β : Type} {B : Nat} {q : Nat → Prop} {w : World} (hB : w.heap.size ≤ B) : OwnFrom B (fun (_ : β) W => Keep q w W) := fun _ A C row h hg hr =>
  ⟨hg.os.trans h.os, hg.tape.trans h.tape, hg.output.trans h.output, Nat.le_trans h.size hg.size, fun k hk hq => (hg.block k (Nat.lt_of_lt_of_le hk h.size) (fun e => by have := (hr k e.symm).1; omega)).trans (h.block k hk hq)⟩
theorem Keep.putObj {q : Nat → Prop} {w V : World} (h : Keep q w V) (D : Nat) (o : Obj) (hD : w.heap.size ≤ D) : Keep q w (V.putObj D o) :=
  have g := grownBy_putObj' V D o
  ⟨g.os.trans h.os, g.tape.trans h.tape, g.output.trans h.output, Nat.le_trans h.size g.size, fun k hk hq => (World.putObj_heap_other (by omega)).trans (h.block k hk hq)⟩
theorem KC.of_keep {p q : Nat → Prop} {A C : World} (h : Keep q A C) (hq : ∀ k, p k → ¬ q k) : KC p A C := fun k _ hp h1 _ => (h.block k (Array.getElem?_eq_some_iff.1 h1).1 (hq k hp)).trans h1

set_option maxRecDepth 100000 in
set_option maxHeartbeats 4000000 in
theorem change_is (gf : Nat) (glb : Array Value) (eg : ∀ args w, (callFunc gf args).run Try.prog w = .ok (.enter gf args) w) (chg : Pg → Pg) (fc : Value) (kd : Int) (S P a n : Nat) (hSP : S ≠ P) (han : a + n ≤ 1024) (f : Pages) (v : Value) (c h : Nat → Int) (w : World)
    (hS : SyBox w S P v c h) (hP : PgAt w P f) (hG : ∀ V f', PgAt V P f' → Keep (· = P) w V → ∀ j, j < 1024 → Calls Try.prog gf (#[.pointer (some ⟨P, j * 66, none⟩)] ++ glb) V fun e V' => e = .returned (.tuple #[]) ∧ Chg V P (updP f' j (chg (f' j))) V') :
    Calls Try.prog 87 #[.pointer (some ⟨S, 0, none⟩), .agg #[.int .i64 kd, fc, .func (.func gf) #[] glb], .int .i64 (a : Int), .int .i64 (n : Int)] w fun e w' => e = .returned (.tuple #[]) ∧ PgAt w' P (chgF chg f (List.range' a n)) ∧ Keep (· = P) w w' := by
  refine (callsIn_wide (n := 5)).1 ?_
  refine callsIn_of_wp_marks Try.func87 rfl trivial ?_ rfl
  simp only [Try.ntmps87, List.size_toArray, List.length_cons, List.length_nil, Nat.reduceAdd, Nat.reduceSub, Array.replicate_succ, Array.replicate_zero, List.push_toArray, List.append_toArray, List.nil_append, List.cons_append]
  have hf1 := wide_fn 55
  have hf2 := wide_fn gf
  obtain ⟨W1, hW1⟩ : ∃ x, w.alloc (.cells #[.int .i64 kd, fc, .func (.func gf) #[] glb] 120) = x := ⟨_, rfl⟩
  have hb1 : Below w.heap.size w W1 := by rw [← hW1]; exact (Below.refl _ _).alloc (Nat.le_refl _) _
  have hz1 : W1.heap.size = w.heap.size + 1 := by rw [← hW1]; simp
  have bC : CBox W1 w.heap.size kd fc (.func (.func gf) #[] glb) := by rw [← hW1]; exact World.alloc_heap_new w _
  gi_wp2_with fail
  try rw [hW1]
  clear hW1
  refine (from_any _ _ _ _ _).mono ?_
  rintro e w' ⟨rfl, hw'⟩
  obtain ⟨W2, hW2, hb2, hz2, f0, f1, f2⟩ := from_world W1 (.pointer (some ⟨S, 0, none⟩)) a n
  rw [hW2] at hw'
  subst hw'
  clear hW2
  have bC2 := bC.later hb2
  have hB2 := hb1.trans (hb2.mono hb1.size)
  have hSl := hS.lt
  have hPl := hP.lt
  rw [hz1] at f0 f1 f2
  gi_wp2_with fail
  try rw [hz1]
  refine range_g rfl (by decide) (gf := 83) (lb := #[.pointer (some ⟨w.heap.size + 1 + 1, 0, none⟩), .pointer (some ⟨w.heap.size + 1 + 2, 0, none⟩), .pointer (some ⟨w.heap.size + 1, 0, none⟩)]) rfl (wide_fn _) (enters_of Try.func83 (by kernel_rfl) rfl)
    (from_g 4 (by decide) S P (w.heap.size + 1 + 1) (w.heap.size + 1 + 2) (w.heap.size + 1) a n han (fun q => q = S ∨ (w.heap.size + 1 ≤ q ∧ q ≤ w.heap.size + 3)) (.inr (by omega)) (.inr (by omega)) (.inr (by omega)) (.inl rfl) W2 v c h f1 f2 f0 (hS.later hB2)) (fun h k => KC.trans h k) (fun _ V k o o' hk hc _ => KC.putObj V k o o' hk hc) (fun _ => rfl)
    (fun pre V => PgAt V P (chgF chg f (pre.map Subtype.val)) ∧ CBox V w.heap.size kd fc (.func (.func gf) #[] glb) ∧ Keep (· = P) w V)
    (fun _ _ _ => False)
    ?own (fun _ _ _ _ _ h _ _ => h) ?start ?a1 ?assign ?body ?done ?stop
  case assign =>
    intro l x Y K hK
    simp only [encP]
    gi_wp2
    exact hK
  case own => exact OwnFrom.and (own_PgAt _ P fun pre : List Vn => chgF chg f (pre.map Subtype.val)) (OwnFrom.and (own_CBox _ _ _ _ _) (own_Keep hB2.size))
  case start => exact ⟨hP.later hB2, bC2, Keep.of_below hB2⟩
  case body =>
    rintro l pre x V ⟨hp, h2, hB⟩ hlen
    obtain ⟨x, hx⟩ := x
    have c1 := h2.c2
    have hG1 := hG V _ hp hB x hx
    have HE : Hid (updP (chgF chg f (List.map Subtype.val pre)) x (chg (chgF chg f (List.map Subtype.val pre) x)) = chgF chg f ((pre ++ [(⟨x, hx⟩ : Vn)]).map Subtype.val)) := by
      unfold Hid
      rw [List.map_append, chgF_append]; rfl
    have hf3 : (Fence.wide.inRound l).fn gf := hf2
    have h2l := h2.lt
    gi_wp2_with fail
    refine (CallsIn.inRound l (callsIn_wide.2 hG1)).mono ?_
    rintro e V' ⟨rfl, hp', hk', ho'⟩
    rw [HE.out] at hp'
    have k2 : CBox V' w.heap.size kd fc (.func (.func gf) #[] glb) := (hk'.block _ h2l (by omega)).trans h2
    gi_wp2_with fail
    exact ⟨ho'.from _, KC.of_keep hk' (by rintro k (rfl | hk) e <;> omega), hp', k2, hB.trans hk'⟩
  case stop => exact fun _ _ _ _ _ _ h _ => h.elim
  case done =>
    rintro D ys V hD hys ⟨hp, h2, hB⟩ hK
    rw [hys] at hp
    have HP := Lib.hid hp
    clear hp hys
    gi_wp2_with fail
    refine ⟨by simp, .inl ⟨D, _, rfl, run_takeDeferred hK, ?_⟩⟩
    exact ⟨.tuple #[], by simp [results, Try.results87, go_sem], rfl, HP.out.of_heap (World.putObj_heap_other (by omega)), hB.putObj D _ (by omega)⟩
end Go.Proofs.Ytjplihljmohpjaa
