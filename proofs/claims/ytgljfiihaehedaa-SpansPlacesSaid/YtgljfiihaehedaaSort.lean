/- Sorting spans by their pages. -/
import Derived.Test.YtgljfiihaehedaaGap1
import Derived.Test.YtgljfiihaehedaaShelf
import Derived.Shelf.SlSortCmp.NoneTotal
namespace Go.Proofs.Ytgljfiihaehedaa
open Go.Shelf Go.RowKit Go.Lib Go.Sort
attribute [local go_sem] Oper.semAt_some

def encSp (x : SpI) : List Value := [.int .i64 x.1, .int .i64 x.2]
theorem ltLo (x y : SpI) : ltOf (fun x y : SpI => Lib.compareInt x.1 y.1) x y = decide (x.1 < y.1) := by
  unfold ltOf Lib.compareInt
  by_cases h1 : x.1 < y.1
  · simp [h1]
  · by_cases h2 : y.1 < x.1 <;> simp [h1, h2]
theorem swoLo : SWO (ltOf fun x y : SpI => Lib.compareInt x.1 y.1) where
  irrefl x := by rw [ltLo]; simp
  trans x y z h1 h2 := by rw [ltLo] at *; simp at *; omega
  ntrans x y z h1 h2 := by rw [ltLo] at *; simp at *; omega

set_option maxHeartbeats 1000000 in
theorem closure_cmp (x y : SpI) (W : World) : Calls Try.prog 76 #[.agg #[.int .i64 x.1, .int .i64 x.2], .agg #[.int .i64 y.1, .int .i64 y.2]] W fun e w' => e = .returned (.int .i64 (Lib.compareInt x.1 y.1)) ∧ ∃ q os', w' = Sort.grow (W.drewN q) os' := by
  have hcon := fun W' => AnyG.cmp_Compare_int Try.cmpInt x.1 y.1 W'
  change ∀ W', Calls Try.prog 68 _ _ _ at hcon
  generalize Lib.compareInt x.1 y.1 = r at hcon ⊢
  go_enter Try.func76, Try.ntmps76
  go_wp2_with (go_at_call 68; refine (hcon _).mono ?_; rintro e w' ⟨rfl, rfl⟩)
  go_ret
  exact ⟨rfl, 0, _, by rw [alloc_eq_grow, alloc_eq_grow, grow_grow]; rfl⟩
theorem cmpLays (blk off size : Nat) (w : World) : CmpLays Try.prog 76 #[] encSp 2 (fun x y => Lib.compareInt x.1 y.1) blk off size w :=
  fun _ _ _ _ x y => closure_cmp x y _

theorem holds_of_own {w : World} {B g cap : Nat} {l : List SpI} (h : SOwn w B (.slice (some ⟨g, 0, none⟩) l.length cap) l) : HoldsK encSp 2 w g 0 l.toArray ∧ g < w.heap.size ∧ B ≤ g := by
  have hlt := World.ownsRow.lt h g rfl
  obtain ⟨hl, ⟨hv, _⟩ | ⟨g', cap', cur, hv, hb, hg, h1, h2, h3, ht⟩⟩ := h
  · cases hv
  · cases hv
    refine ⟨fun j hj => ?_, hlt.2, hb⟩
    have hj2 : j < l.length * 2 := by simpa using hj
    rw [show (flatK encSp 2 l.toArray)[j]! = (encSp l.toArray[j / 2]!)[j % 2]! from get_flatK encSp 2 l.toArray j (by simpa using hj2)]
    have hx : l[j / 2]? = some (l.toArray[j / 2]!) := by
      have : j / 2 < l.length := by omega
      simp [this]
    obtain ⟨r1, r2⟩ := rowS_at l (j / 2) _ hx
    rw [← ht, List.getElem?_take, if_pos (by omega)] at r1 r2
    refine ⟨?_, by simp [World.frozen?, hg]⟩
    simp only [World.cell?, hg, Nat.zero_add, id]
    rcases Nat.mod_two_eq_zero_or_one j with h0 | h0
    · rw [h0, show j = 2 * (j / 2) by omega, show 2 * (j / 2) / 2 = j / 2 by omega]
      simpa [encSp] using r1
    · rw [h0, show j = 2 * (j / 2) + 1 by omega, show (2 * (j / 2) + 1) / 2 = j / 2 by omega]
      simpa [encSp] using r2
theorem below_sorted {w : World} {g n B : Nat} {d : Array SpI} {os : Array Obj} (hg : g < w.heap.size) (hB : B ≤ g) : Go.RowKit.Below B w (sortWorldK encSp 2 w g 0 n d os) := by
  refine ⟨rfl, rfl, rfl, ?_, fun k hk => ?_⟩
  · unfold sortWorldK; rw [size_grow, size_putRowK]; simp
  · unfold sortWorldK Sort.grow putRowK putRow mapBlock
    simp only [Sort.heap_ahead]
    rw [Array.getElem?_append_left (by simp; omega), Array.getElem?_modify]
    rw [if_neg (by omega)]
theorem at_sorted {w : World} {g n cap : Nat} {l : List SpI} {d : Array SpI} {os : Array Obj} (hH : HoldsK encSp 2 w g 0 l.toArray) (hg : g < w.heap.size) (hs : d.size = l.length) (h1 : l.length ≤ cap) (h2 : cap ≤ maxLen) :
    SAt (sortWorldK encSp 2 w g 0 n d os) (.slice (some ⟨g, 0, none⟩) l.length cap) d.toList := by
  have hK := holdsK_sortWorldK_c encSp 2 w g 0 l.toArray d n os hH hg (by simpa using hs)
  refine .inr ⟨g, 0, cap, by simp [hs], by simp [hs]; exact h1, h2, fun j x hx => ?_⟩
  have hj : j < d.size := by
    have := (List.getElem?_eq_some_iff.1 hx).1
    simpa using this
  have hxd : d[j]! = x := by
    rw [getElem!_pos d j hj]
    have := (List.getElem?_eq_some_iff.1 hx).2
    simpa using this
  have c0 := (hK.cell (c := 0) hj (by decide)).1
  have c1 := (hK.cell (c := 1) hj (by decide)).1
  rw [hxd] at c0 c1
  exact ⟨by simpa [encSp] using c0, by simpa [encSp, Nat.add_assoc] using c1⟩

/-- slices.SortFunc, on a list of the call's own. -/
theorem sort_is (B : Nat) (v : Value) (l : List SpI) (hl : l.length ≤ 4000000) (w : World) (ho : SOwn w B v l) :
    Calls Try.prog 75 #[v, .func (.func 76) #[] #[]] w fun e w' => e = .returned (.tuple #[]) ∧ ∃ l' : List SpI, SAt w' v l' ∧ l.Perm l' ∧ (∀ (i j : Nat) (x y : SpI), i < j → l'[i]? = some x → l'[j]? = some y → x.1 ≤ y.1) ∧ Go.RowKit.Below B w w' := by
  rcases ho.2 with ⟨rfl, h0⟩ | ⟨g, cap, cur, rfl, hb, hg, h1, h2, h3, ht⟩
  · have : l = [] := List.eq_nil_of_length_eq_zero h0
    subst this
    have hcon := AnyF.slices_SortFunc_none { Try.sortSp with } none 0 (.func (.func 76) #[] #[]) w
    change Calls Try.prog 75 _ _ _ at hcon
    refine hcon.mono ?_
    rintro e w' ⟨rfl, rfl⟩
    exact ⟨rfl, [], .inl ⟨rfl, rfl⟩, List.Perm.refl _, fun i j x y _ hx => by simp at hx, Go.RowKit.Below.refl _ _⟩
  · obtain ⟨hH, hlt, hBg⟩ := holds_of_own ho
    have hcon := AnyQ.slices_SortFunc Try.sortSp 2 Try.isAgg31 Try.sizeOf31 encSp (fun _ => rfl) (fun x v hv => by simp [encSp] at hv; rcases hv with rfl | rfl <;> rfl) (fun x y => Lib.compareInt x.1 y.1) swoLo 76 #[] g 0 cap l.toArray w (enters_of Try.func76 (by kernel_rfl) rfl) (cmpLays g 0 _ w) hH hlt (by simp; omega)
    change Calls Try.prog 75 _ _ _ at hcon
    refine hcon.mono ?_
    rintro e w' ⟨rfl, d', n, os, hp, hs, rfl⟩
    obtain ⟨p1, _, p3⟩ := hp
    have p1' : d'.size = l.length := by simpa using p1
    refine ⟨rfl, d'.toList, at_sorted hH hlt p1' h1 h2, ?_, fun i j x y hij hx hy => ?_, below_sorted hlt hBg⟩
    · have e1 : (d'.extract 0 l.toArray.size).toList = d'.toList := by rw [show l.toArray.size = d'.size by simp [p1']]; simp
      have e2 : (l.toArray.extract 0 l.toArray.size).toList = l := by simp
      rw [e1, e2] at p3
      exact p3.symm
    · have hj := (List.getElem?_eq_some_iff.1 hy).1
      have hi := (List.getElem?_eq_some_iff.1 hx).1
      have := hs i j (Nat.zero_le _) hij (by simp; simp at hj; omega)
      rw [ltLo] at this
      have ex : d'[i]! = x := by rw [getElem!_pos d' i (by simpa using hi)]; have := (List.getElem?_eq_some_iff.1 hx).2; simpa using this
      have ey : d'[j]! = y := by rw [getElem!_pos d' j (by simpa using hj)]; have := (List.getElem?_eq_some_iff.1 hy).2; simpa using this
      rw [ex, ey] at this
      simpa using this
end Go.Proofs.Ytgljfiihaehedaa
