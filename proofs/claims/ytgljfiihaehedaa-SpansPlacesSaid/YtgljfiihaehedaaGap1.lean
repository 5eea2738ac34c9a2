/- checkWith, checkBoth; the closure of gaps. -/
import Derived.Test.YtgljfiihaehedaaCheck2
import Derived.OwnWalkIn
namespace Go.Proofs.Ytgljfiihaehedaa
open Go.RowKit
attribute [local go_sem] Oper.semAt_some

/-- The error of a set and a span, and that of two sets. -/
def withB (l : List SpI) (x : SpI) : Int := if chkS l ≠ 0 then chkS l else if vld x = true then 0 else 7
def bothB (l m : List SpI) : Int := if chkS l ≠ 0 then chkS l else chkS m
theorem len64 {W : World} {v : Value} {l : List SpI} (h : SAt W v l) : l.length ≤ 9223372036854775807 := by
  rcases h with ⟨_, rfl⟩ | ⟨_, _, cap, _, h1, h2, _⟩
  · simp
  · unfold maxLen at h2; omega

set_option maxRecDepth 100000 in
set_option maxHeartbeats 400000 in
theorem checkBoth_is (u v : Value) (l m : List SpI) (fl : Fit l) (fm : Fit m) (c : Int) (hc : bothB l m = c) (w : World) (h : SAt w u l) (h2 : SAt w v m) :
    Calls Try.prog 53 #[u, v] w fun e w' => e = .returned (.int .i64 c) ∧ Below w.heap.size w w' := by
  obtain ⟨r, hr⟩ : ∃ r, chkS l = r := ⟨_, rfl⟩
  have HR := Lib.hid hr
  unfold bothB at hc
  rw [hr] at hc
  have q1 := len64 h
  have q2 := len64 h2
  by_cases h0 : r = 0
  · rw [if_neg (by simp [h0])] at hc
    subst h0
    have HC := Lib.hid hc
    clear hc hr
    go_enter Try.func53, Try.ntmps53
    go_wp2_with fail
    refine (Check_is u l fl q1 0 HR.out _ h).mono ?_
    rintro e w1 ⟨rfl, B1⟩
    go_wp2_with fail
    refine (Check_is v m fm q2 c HC.out _ (h2.later B1)).mono ?_
    rintro e w2 ⟨rfl, B2⟩
    go_wp2
    go_ret
    exact ⟨rfl, B1.trans (B2.mono B1.size)⟩
  · rw [if_pos h0] at hc
    subst hc
    have hq : (r != 0) = true := by simp [h0]
    clear hr h0
    go_enter Try.func53, Try.ntmps53
    go_wp2_with fail
    refine (Check_is u l fl q1 r HR.out _ h).mono ?_
    rintro e w1 ⟨rfl, B1⟩
    go_wp2
    go_ret
    exact ⟨rfl, B1⟩

set_option maxRecDepth 100000 in
set_option maxHeartbeats 400000 in
theorem checkWith_is (u : Value) (l : List SpI) (p q : Int) (fl : Fit l) (fp : I64 p) (c : Int) (hc : withB l (p, q) = c) (w : World) (h : SAt w u l) :
    Calls Try.prog 56 #[u, .agg #[.int .i64 p, .int .i64 q]] w fun e w' => e = .returned (.int .i64 c) ∧ Below w.heap.size w w' := by
  obtain ⟨wA, hwA⟩ : ∃ x, w.alloc (.cells #[.int .i64 p, .int .i64 q] 31) = x := ⟨_, rfl⟩
  have hAB : Below w.heap.size w wA := by rw [← hwA]; exact (Below.refl _ _).alloc (Nat.le_refl _) _
  have bA : XBox wA w.heap.size (p, q) := by rw [← hwA]; exact XBox.new w (p, q)
  have HW := Lib.hid hwA
  obtain ⟨r, hr⟩ : ∃ r, chkS l = r := ⟨_, rfl⟩
  have HR := Lib.hid hr
  unfold withB at hc
  rw [hr] at hc
  have q1 := len64 h
  have hA := h.later hAB
  clear hwA
  by_cases h0 : r = 0
  · rw [if_neg (by simp [h0])] at hc
    subst h0
    obtain ⟨b, hb⟩ : ∃ b, vld (p, q) = b := ⟨_, rfl⟩
    have HB := Lib.hid hb
    rw [hb] at hc
    clear hr hb
    cases b
    · have hc2 : (7 : Int) = c := by simpa using hc
      subst hc2
      clear hc
      go_enter Try.func56, Try.ntmps56
      go_wp2_with fail
      rw [HW.out]
      refine (Check_is u l fl q1 0 HR.out _ hA).mono ?_
      rintro e w1 ⟨rfl, B1⟩
      have x0 := (bA.later B1).c0
      have x1 := (bA.later B1).c1
      simp only at x0 x1
      go_wp2_with fail
      refine (valid_is p q fp false HB.out _).mono ?_
      rintro e w2 ⟨rfl, B2⟩
      go_wp2
      go_ret
      exact ⟨rfl, hAB.trans ((B1.trans (B2.mono B1.size)).mono hAB.size)⟩
    · have hc2 : (0 : Int) = c := by simpa using hc
      subst hc2
      clear hc
      go_enter Try.func56, Try.ntmps56
      go_wp2_with fail
      rw [HW.out]
      refine (Check_is u l fl q1 0 HR.out _ hA).mono ?_
      rintro e w1 ⟨rfl, B1⟩
      have x0 := (bA.later B1).c0
      have x1 := (bA.later B1).c1
      simp only at x0 x1
      go_wp2_with fail
      refine (valid_is p q fp true HB.out _).mono ?_
      rintro e w2 ⟨rfl, B2⟩
      go_wp2
      go_ret
      exact ⟨rfl, hAB.trans ((B1.trans (B2.mono B1.size)).mono hAB.size)⟩
  · rw [if_pos h0] at hc
    subst hc
    have hq : (r != 0) = true := by simp [h0]
    clear hr h0
    go_enter Try.func56, Try.ntmps56
    go_wp2_with fail
    rw [HW.out]
    refine (Check_is u l fl q1 r HR.out _ hA).mono ?_
    rintro e w1 ⟨rfl, B1⟩
    go_wp2
    go_ret
    exact ⟨rfl, hAB.trans (B1.mono hAB.size)⟩

theorem Try.infoSp : (Try.prog.info? 31).map (fun i => (i.zero, i.size, i.bytes)) = some (some (.agg #[.int .i64 0, .int .i64 0]), 2, 16) := by kernel_rfl
theorem own_form2 {W : World} {base : Nat} {e : TypeId} {sz : Nat} {v : Value} {n : Nat} {xs : List Value} (h : W.ownsRow base e sz v n xs) : ∃ a cap, v = .slice a n cap := by
  obtain ⟨_, ⟨rfl, rfl⟩ | ⟨g, cap, _, rfl, _⟩⟩ := h
  · exact ⟨_, _, rfl⟩
  · exact ⟨_, _, rfl⟩
theorem cell_two_new (w : World) (x y : Value) (t : TypeId) : ∀ j u, [x, y][j]? = some u → (w.alloc (.cells #[x, y] t)).cell? ((⟨w.heap.size, 0, none⟩ : Addr).add j) = some u := by
  intro j u hj
  match j with
  | 0 => simp at hj; subst hj; simp [Addr.add]
  | 1 => simp at hj; subst hj; simp [Addr.add]
  | j + 2 => simp at hj

set_option maxRecDepth 100000 in
set_option maxHeartbeats 1000000 in
theorem gap1_is (B Ba Bf q to : Nat) (hq : q ≤ 1024) (ht : to ≤ 1024) (v : Value) (acc : List Sp) (hl : acc.length ≤ 2000) (w : World) (ha : Boxed w Ba 3 (.int .i64 q)) (hf : Boxed w Bf 22 v) (ho : SOwn w B v (toI acc)) (hab : Ba < B) (hfb : Bf < B) (hne : Ba ≠ Bf) (hB : B ≤ w.heap.size) (B0 : Nat) (h0 : B0 ≤ Bf) :
    Calls Try.prog 77 #[.int .i64 to, .pointer (some ⟨Ba, 0, none⟩), .pointer (some ⟨Bf, 0, none⟩)] w fun e w' => e = .returned (.tuple #[]) ∧ Boxed w' Ba 3 (.int .i64 q) ∧ (∃ u, Boxed w' Bf 22 u ∧ SOwn w' B u (toI (gapAdd acc q to))) ∧ Below B0 w w' ∧ (∀ k, k < w.heap.size → k ≠ Bf → some k ≠ v.ownBlock → w'.heap[k]? = w.heap[k]?) ∧ w.heap.size ≤ w'.heap.size := by
  obtain ⟨va, vc, rfl⟩ := ho.form
  have a0 := ha.cell
  have f0 := hf.cell
  have z0 := hf.frozen
  by_cases hlt : q < to
  · have hlt1 : (q : Int) < (to : Int) := by omega
    obtain ⟨i0, hi, hz0, hz1, hz2⟩ := info_parts Try.infoSp
    have Hhi := Lib.hid hi
    have Hz0 := Lib.hid hz0
    have Hz1 := Lib.hid hz1
    have Hz2 := Lib.hid hz2
    obtain ⟨n, hn⟩ : ∃ n, (toI acc).length = n := ⟨_, rfl⟩
    have hn2 : n ≤ 2000 := by rw [← hn, toI_len]; exact hl
    have HN := Lib.hid hn
    have hr2 : (w.alloc (.cells #[.int .i64 (q : Int), .int .i64 ((to : Int) - (q : Int))] 31)).ownsRow B 31 2 (.slice va n vc) n (rowS (toI acc)) := by rw [← hn]; exact ho.alloc _
    have HR2 := Lib.hid hr2
    rw [hn] at f0 hf
    clear hi hz0 hz1 hz2 hn hr2 ho
    go_enter Try.func77, Try.ntmps77
    go_wp2_with (at_builtin; refine wpList_append_own _ rfl _ _ 22 rfl B 31 i0 (.agg #[.int .i64 0, .int .i64 0]) 2 16 Try.underlying22 Hhi.out Hz0.out Hz1.out Hz2.out rfl (by decide) _ _ _ rfl HR2.out ⟨w.heap.size, 0, none⟩ 1 1 [.int .i64 (q : Int), .int .i64 ((to : Int) - (q : Int))] rfl rfl ?c1 ?c2 ?c3 ?c4 ?c5 ?_)
    case c1 => exact cell_two_new w _ _ _
    case c2 => intro u hu; simp at hu; rcases hu with rfl | rfl <;> rfl
    case c3 => unfold maxLen; omega
    case c4 => omega
    case c5 => simp; omega
    intro v' w1 hown hgrow _
    obtain ⟨va', vc', rfl⟩ := own_form2 hown
    have hge : ∀ j, (Value.slice va n vc).ownBlock = some j → B ≤ j := fun j e => (HR2.out.lt j e).1
    have hfb1 : some Bf ≠ (Value.slice va n vc).ownBlock := fun e => by have := hge _ e.symm; omega
    have hab1 : some Ba ≠ (Value.slice va n vc).ownBlock := fun e => by have := hge _ e.symm; omega
    have f1 := (hf.alloc (.cells #[.int .i64 (q : Int), .int .i64 ((to : Int) - (q : Int))] 31)).kept hgrow hfb1
    have a1 := (ha.alloc (.cells #[.int .i64 (q : Int), .int .i64 ((to : Int) - (q : Int))] 31)).kept hgrow hab1
    have f1c := f1.cell
    have f1z := f1.frozen
    have hsz := hgrow.size
    rw [World.size_alloc] at hsz
    have HO := Lib.hid hown
    have HG := Lib.hid hgrow
    clear hown hgrow f0 z0 a0
    go_wp2
    go_end0
    refine ⟨rfl, a1.kept (grownBy_setCell' w1 Bf _) (by simpa using hne), ⟨_, f1.set _, ?_⟩, ?_, fun k hk hkf hko => ?_, by simp; omega⟩
    · have h1 := HO.out.kept (grownBy_setCell' w1 Bf (.slice va' (n + 1) vc')) (.inr fun e => by have := (HO.out.lt _ e).1; omega)
      unfold gapAdd
      rw [if_pos hlt]
      unfold SOwn
      have e1 : toI (acc ++ [(q, to - q)]) = toI acc ++ [((q : Int), (to : Int) - (q : Int))] := by
        unfold toI; rw [List.map_append, List.map_singleton]
        simp only
        rw [show ((to - q : Nat) : Int) = (to : Int) - (q : Int) by omega]
      rw [e1, List.length_append, HN.out, rowS_snoc]
      exact h1
    · have hb1 : Below B0 w (w.alloc (.cells #[.int .i64 (q : Int), .int .i64 ((to : Int) - (q : Int))] 31)) := (Below.refl _ _).alloc (by omega) _
      exact (hb1.grown HG.out (by simp; omega) (fun k e => by have := hge k e; omega)).setCell h0 _
    · have h1 : (w1.setCell ⟨Bf, 0, none⟩ (.slice va' (n + 1) vc')).heap[k]? = w1.heap[k]? := Below.heap_setCell _ _ _ _ (by simpa using hkf)
      rw [HN.out] at hko
      rw [h1, HG.out.block k (by simp; omega) hko]
      exact Below.heap_alloc w _ k (by omega)
  · have hlt1 : ¬ ((q : Int) < (to : Int)) := by omega
    go_enter Try.func77, Try.ntmps77
    go_wp2
    go_end0
    exact ⟨rfl, ha, ⟨_, hf, by unfold gapAdd; rw [if_neg hlt]; exact ho⟩, Below.refl _ _, fun _ _ _ _ => rfl, Nat.le_refl _⟩
end Go.Proofs.Ytgljfiihaehedaa
