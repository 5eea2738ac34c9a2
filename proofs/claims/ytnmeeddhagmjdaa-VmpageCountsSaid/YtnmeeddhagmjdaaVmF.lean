/- The iterator over pages. -/
import Derived.Test.YtnmeeddhagmjdaaVmC
namespace Go.Proofs.Ytnmeeddhagmjdaa
open Go.RowKit Go.Shelf
attribute [local go_sem] Oper.semAt_some

abbrev Vn := { p : Nat // p < 1024 }
def encP (P : Nat) (x : Vn) : Array Value := #[.int .i64 (x.1 : Nat), .pointer (some ⟨P, x.1 * 66, none⟩)]
theorem range_split {a k : Nat} (pre : List Vn) (x : Vn) (hx : x.1 = a + k) (hp : pre.map Subtype.val = List.range' a k) : (pre ++ [x]).map Subtype.val = List.range' a (k + 1) := by
  rw [List.map_append, hp, List.map_singleton, hx, List.range'_concat]; simp
theorem range_prefix {a k n : Nat} (h : k ≤ n) : List.range' a k <+: List.range' a n := by
  refine ⟨List.range' (a + k) (n - k), ?_⟩
  rw [List.range'_append_1]; congr 1; omega
set_option maxRecDepth 100000 in
set_option maxHeartbeats 4000000 in
theorem from1_in (n0 : Nat) (hn : 1 ≤ n0) (l S P B1 B2 B3 a n : Nat) (han : a + n ≤ 1024) (p : Nat → Prop) (hp1 : p B1) (hp2 : p B2) (hp3 : p B3) (hp4 : p S) (J Jx : List Vn → World → Prop) (W0 : World) (v : Value) (c h : Nat → Int)
    (hY : ∀ (pre : List Vn) x W, J pre W → pre.length < 2000 → YieldAt Fence.wide (n0 - 1) Try.prog l (encP P x) W fun e W' =>
      (e = .returned (.bool true) ∧ J (pre ++ [x]) W' ∧ KC p W W' ∧ KeepsFrom W0.heap.size W W') ∨ (e = .returned (.bool false) ∧ Jx (pre ++ [x]) W' ∧ KeepsFrom W0.heap.size W W'))
    (hb1 : Boxed W0 B1 3 (.int .i64 a)) (hb2 : Boxed W0 B2 3 (.int .i64 n)) (hb3 : Boxed W0 B3 28 (.pointer (some ⟨S, 0, none⟩))) (hS : SyBox W0 S P v c h) (h0 : J [] W0) :
    CallsIn Fence.wide n0 Try.prog 83 #[.func (.yield l) #[] #[], .pointer (some ⟨B1, 0, none⟩), .pointer (some ⟨B2, 0, none⟩), .pointer (some ⟨B3, 0, none⟩)] W0 fun e W' => (∃ v, e = .returned v) ∧
      ((∃ ys : List Vn, ys.map Subtype.val = List.range' a n ∧ J ys W') ∨ (∃ pre : List Vn, pre.map Subtype.val <+: List.range' a n ∧ Jx pre W')) := by
  have e1 := hb1.cell
  refine callsIn_of_wp Try.func83 rfl trivial ?_ rfl
  simp only [Try.ntmps83, List.size_toArray, List.length_cons, List.length_nil, Nat.reduceAdd, Nat.reduceSub, Array.replicate_succ, Array.replicate_zero, List.push_toArray, List.append_toArray, List.nil_append, List.cons_append]
  gi_wp2_with fail
  clear e1
  gi_loopw [5] (fun v' wr => ∃ (k : Nat) (pre : List Vn), v' = .int .i64 ((a + k : Nat) : Int) ∧ k ≤ n ∧ pre.length = k ∧ J pre wr ∧ Boxed wr B1 3 (.int .i64 a) ∧ Boxed wr B2 3 (.int .i64 n) ∧ Boxed wr B3 28 (.pointer (some ⟨S, 0, none⟩)) ∧ SyBox wr S P v c h ∧ Hid (pre.map Subtype.val = List.range' a k)) (fun v' _ => a + n - (intOf v').toNat)
  case atStart => exact ⟨0, [], rfl, by omega, rfl, h0, hb1, hb2, hb3, hS, rfl⟩
  case round =>
    obtain ⟨k, pre, rfl, hkn, hpl, hJs, hb1, hb2, hb3, hS, HP⟩ := hrel
    have c1 := hb1.cell
    have c2 := hb2.cell
    have c3 := hb3.cell
    have c4 := hS.pages
    obtain ⟨q, hq⟩ : ∃ q, a + k = q := ⟨_, rfl⟩
    rw [hq]
    by_cases h1 : k < n
    · have hq1 : (q : Int) < (a : Int) + (n : Int) := by omega
      have hqlt : q < 1024 := by omega
      obtain ⟨x, hxx⟩ : ∃ x : Vn, (⟨q, hqlt⟩ : Vn) = x := ⟨_, rfl⟩
      have hxv : x.1 = q := by rw [← hxx]
      have HS : Hid ((pre ++ [x]).map Subtype.val = List.range' a (k + 1)) := range_split pre x (by omega) HP.out
      obtain ⟨fn, tmps, assign, body, hy, hR⟩ := hY pre x wr hJs (by omega)
      dsimp only [encP] at hy
      rw [hxv] at hy
      have hq3 : (q : Int) < 1024 := by omega
      have HQ := Lib.hid hq
      clear hxx hxv hq HP
      gi_wp2_with fail
      refine hR.mono ?_
      rintro e2 W2 (⟨rfl, hJ2, hk2, _⟩ | ⟨rfl, hJx2, _⟩)
      · have y1 : Boxed W2 B1 3 (.int .i64 a) := hk2 B1 _ hp1 hb1 rfl
        have y2 : Boxed W2 B2 3 (.int .i64 n) := hk2 B2 _ hp2 hb2 rfl
        have y3 : Boxed W2 B3 28 (.pointer (some ⟨S, 0, none⟩)) := hk2 B3 _ hp3 hb3 rfl
        have y4 : SyBox W2 S P v c h := hk2 S _ hp4 hS rfl
        gi_wp2
        go_roundw
        case rel => exact ⟨k + 1, pre ++ [x], by rw [← Nat.add_assoc, HQ.out]; go_num, by omega, by rw [List.length_append, List.length_singleton]; omega, hJ2, y1, y2, y3, y4, HS⟩
        case measure => simp [intOf]; omega
      · gi_wp2
        refine bodyPost_ret (results_none rfl _ _ _) rfl ?_
        exact ⟨⟨_, rfl⟩, .inr ⟨pre ++ [x], by rw [HS.out]; exact range_prefix (by omega), hJx2⟩⟩
    · have hq1 : ¬ (q : Int) < (a : Int) + (n : Int) := by omega
      obtain rfl : k = n := by omega
      clear hq
      gi_wp2
      go_end0
      exact ⟨⟨_, rfl⟩, .inl ⟨pre, HP.out, hJs⟩⟩
theorem from_g (n0 : Nat) (hn : 1 ≤ n0) (S P B1 B2 B3 a n : Nat) (han : a + n ≤ 1024) (p : Nat → Prop) (hp1 : p B1) (hp2 : p B2) (hp3 : p B3) (hp4 : p S) (w : World) (v : Value) (c h : Nat → Int)
    (hb1 : Boxed w B1 3 (.int .i64 a)) (hb2 : Boxed w B2 3 (.int .i64 n)) (hb3 : Boxed w B3 28 (.pointer (some ⟨S, 0, none⟩))) (hS : SyBox w S P v c h) :
    SeqG Fence.wide n0 Try.prog 83 #[.pointer (some ⟨B1, 0, none⟩), .pointer (some ⟨B2, 0, none⟩), .pointer (some ⟨B3, 0, none⟩)] (encP P) (fun _ => KC p) (fun ys => ys.map Subtype.val = List.range' a n) (fun pre => pre.map Subtype.val <+: List.range' a n) 2000 w := by
  intro l J Jx W hW _ _ hY h0
  exact from1_in n0 hn l S P B1 B2 B3 a n han p hp1 hp2 hp3 hp4 J Jx W v c h hY (hb1.kept (grown_of_below hW) (by simp)) (hb2.kept (grown_of_below hW) (by simp)) (hb3.kept (grown_of_below hW) (by simp)) (hS.later hW) h0
abbrev fromV (b : Nat) : Value := .func (.func 83) #[] #[.pointer (some ⟨b + 1, 0, none⟩), .pointer (some ⟨b + 2, 0, none⟩), .pointer (some ⟨b, 0, none⟩)]
theorem from_any (n0 : Nat) (sa : Option Addr) (a n : Int) (w : World) :
    CallsIn Fence.wide n0 Try.prog 55 #[.pointer sa, .int .i64 a, .int .i64 n] w fun e w' => e = .returned (fromV w.heap.size) ∧
      ((w.alloc (.cells #[.pointer sa] 28)).alloc (.cells #[.int .i64 a] 3)).alloc (.cells #[.int .i64 n] 3) = w' := by
  refine callsIn_of_wp Try.func55 rfl trivial ?_ rfl
  simp only [Try.ntmps55, List.size_toArray, List.length_cons, List.length_nil, Nat.reduceAdd, Nat.reduceSub, Array.replicate_succ, Array.replicate_zero, List.push_toArray, List.append_toArray, List.nil_append, List.cons_append]
  gi_wp2
  go_ret
  exact ⟨rfl, rfl⟩
/-- The boxes of the iterator. -/
theorem from_world (w : World) (s : Value) (a n : Int) : ∃ W, ((w.alloc (.cells #[s] 28)).alloc (.cells #[.int .i64 a] 3)).alloc (.cells #[.int .i64 n] 3) = W ∧ Below w.heap.size w W ∧ W.heap.size = w.heap.size + 3 ∧
    Boxed W w.heap.size 28 s ∧ Boxed W (w.heap.size + 1) 3 (.int .i64 a) ∧ Boxed W (w.heap.size + 2) 3 (.int .i64 n) := by
  refine ⟨_, rfl, (((Below.refl _ _).alloc (Nat.le_refl _) _).alloc (by simp) _).alloc (by simp; omega) _, by simp, ((Boxed.new w _ _).alloc _).alloc _, ?_, ?_⟩
  · have := (Boxed.new (w.alloc (.cells #[s] 28)) 3 (.int .i64 a)).alloc (.cells #[.int .i64 n] 3)
    rw [World.size_alloc] at this
    exact this
  · have := Boxed.new ((w.alloc (.cells #[s] 28)).alloc (.cells #[.int .i64 a] 3)) 3 (.int .i64 n)
    rw [World.size_alloc, World.size_alloc] at this
    exact this
end Go.Proofs.Ytnmeeddhagmjdaa
