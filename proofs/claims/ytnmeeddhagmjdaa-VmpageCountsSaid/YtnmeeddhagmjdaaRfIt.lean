/- The iterator over a rule's calls. -/
import Derived.Test.YtnmeeddhagmjdaaRfKC
import Derived.Test.YtnmeeddhagmjdaaRfAf
namespace Go.Proofs.Ytnmeeddhagmjdaa
open Go.RowKit Go.Shelf
attribute [local go_sem] Oper.semAt_some

abbrev Pn (most : Nat) := { p : Nat // p ≤ most }
def encN {most : Nat} (x : Pn most) : Array Value := #[.int .i64 (x.1 : Nat)]
theorem clF_stop {r : Ru} {most i : Nat} (h : (r.t ≠ 0 ∧ r.t ≤ i) ∨ most < r.f + i * r.e) : ∀ fuel, clF r most fuel i = []
  | 0 => rfl
  | fuel + 1 => by
    rw [clF]
    split
    · rfl
    · rcases h with h | h
      · contradiction
      · rw [if_pos h]
theorem clF_go {r : Ru} (hr : r.ok) {most i fuel : Nat} (hf : i + fuel = most + 2) (h1 : ¬ (r.t ≠ 0 ∧ r.t ≤ i)) (h2 : ¬ most < r.f + i * r.e) : ∃ g, fuel = g + 1 ∧ clF r most fuel i = (r.f + i * r.e) :: clF r most g (i + 1) := by
  have h0 : fuel ≠ 0 := by
    rintro rfl
    have hf1 := hr.f1
    rcases Nat.eq_zero_or_pos r.e with he | he
    · have := hr.et he; omega
    · have : i * 1 ≤ i * r.e := Nat.mul_le_mul_left _ he
      omega
  obtain ⟨g, rfl⟩ : ∃ g, fuel = g + 1 := ⟨fuel - 1, by omega⟩
  exact ⟨g, rfl, by rw [clF, if_neg h1, if_neg h2]⟩

set_option maxRecDepth 100000 in
set_option maxHeartbeats 4000000 in
theorem calls1_in (n : Nat) (hn : 1 ≤ n) (l BR BM most : Nat) (hmost : most ≤ 100000) (r : Ru) (hr : r.ok) (p : Nat → Prop) (hp1 : p BR) (hp2 : p BM) (J Jx : List (Pn most) → World → Prop) (W0 : World)
    (hY : ∀ (pre : List (Pn most)) x W, J pre W → pre.length < 200000 → YieldAt Fence.wide (n - 1) Try.prog l (encN x) W fun e W' =>
      (e = .returned (.bool true) ∧ J (pre ++ [x]) W' ∧ KC p W W' ∧ KeepsFrom W0.heap.size W W') ∨ (e = .returned (.bool false) ∧ Jx (pre ++ [x]) W' ∧ KeepsFrom W0.heap.size W W'))
    (hbR : RBox W0 BR r.toI) (hbM : Boxed W0 BM 3 (.int .i64 most)) (h0 : J [] W0) :
    CallsIn Fence.wide n Try.prog 105 #[.func (.yield l) #[] #[], .pointer (some ⟨BR, 0, none⟩), .pointer (some ⟨BM, 0, none⟩)] W0 fun e W' => (∃ v, e = .returned v) ∧
      ((∃ ys, ys.map Subtype.val = clL r most ∧ J ys W') ∨ (∃ pre : List (Pn most), pre.map Subtype.val <+: clL r most ∧ Jx pre W')) := by
  refine callsIn_of_wp Try.func105 rfl trivial ?_ rfl
  simp only [Try.ntmps105, List.size_toArray, List.length_cons, List.length_nil, Nat.reduceAdd, Nat.reduceSub, Array.replicate_succ, Array.replicate_zero, List.push_toArray, List.append_toArray, List.nil_append, List.cons_append]
  have HR := Lib.hid hr
  have hk := hr.k; have hf1 := hr.f1; have hf2 := hr.f2; have he2 := hr.e2; have ht2 := hr.t2; have het := hr.et
  gi_wp2_with fail
  gi_loopw [4] (fun v wr => ∃ (i fuel : Nat) (pre : List (Pn most)), v = .int .i64 i ∧ i + fuel = most + 2 ∧ pre.length ≤ i ∧ J pre wr ∧ RBox wr BR r.toI ∧ Boxed wr BM 3 (.int .i64 most) ∧ Hid (pre.map Subtype.val ++ clF r most fuel i = clL r most)) (fun v _ => most + 2 - (intOf v).toNat)
  case atStart => exact ⟨0, most + 2, [], rfl, by omega, by simp, h0, hbR, hbM, rfl⟩
  case round =>
    obtain ⟨i, fuel, pre, rfl, hif, hpl, hJs, hbR, hbM, HP⟩ := hrel
    have c1 := hbR.c1
    have c2 := hbR.c2
    have c3 := hbR.c3
    have cM := hbM.cell
    simp only [Ru.toI] at c1 c2 c3
    obtain ⟨q, hq⟩ : ∃ q, i * r.e = q := ⟨_, rfl⟩
    have hq1 : (i : Int) * (r.e : Int) = (q : Int) := by rw [← hq]; simp
    have hql : q ≤ 100002 * 12 := by rw [← hq]; exact Nat.mul_le_mul (by omega) he2
    by_cases h1 : r.t ≠ 0 ∧ r.t ≤ i
    · have hs := clF_stop (most := most) (.inl h1) fuel
      have h2 := HP.out
      rw [hs, List.append_nil] at h2
      have HP2 := Lib.hid h2
      have ht0 : ((r.t : Int) == 0) = false := by simp; omega
      have ht1 : ¬ (i : Int) < (r.t : Int) := by omega
      have ht3 : (r.t : Int) ≠ 0 := by omega
      clear h1 hs h2 HP hq
      gi_wp2
      go_end0
      exact ⟨⟨_, rfl⟩, .inl ⟨pre, HP2.out, hJs⟩⟩
    · by_cases h3 : most < r.f + i * r.e
      · have hs := clF_stop (r := r) (i := i) (most := most) (.inr h3) fuel
        have h2 := HP.out
        rw [hs, List.append_nil] at h2
        have HP2 := Lib.hid h2
        rw [hq] at h3
        have h3' : (most : Int) < (r.f : Int) + (q : Int) := by omega
        clear hs h2 HP hq
        by_cases ht : r.t = 0
        · have ht0 : ((r.t : Int) == 0) = true := by simp; omega
          have ht3 : (r.t : Int) = 0 := by omega
          rw [ht3] at c3 ht0
          clear ht3
          gi_wp2_with fail
          refine ⟨fun f hf => (by cases hf), ?_⟩
          rename_i K5 hK5 x5 h5 w5 heq5
          apply hK5
          gi_wp2_with fail
          refine bodyPost_ret (results_none rfl _ _ _) rfl ?_
          exact ⟨⟨_, rfl⟩, .inl ⟨pre, HP2.out, hJs⟩⟩
        · have ht0 : ((r.t : Int) == 0) = false := by simp; omega
          have ht1 : (i : Int) < (r.t : Int) := by omega
          have ht3 : (r.t : Int) ≠ 0 := by omega
          clear h1
          gi_wp2_with fail
          refine ⟨fun f hf => (by cases hf), ?_⟩
          rename_i K5 hK5 x5 h5 w5 heq5
          apply hK5
          gi_wp2_with fail
          refine bodyPost_ret (results_none rfl _ _ _) rfl ?_
          exact ⟨⟨_, rfl⟩, .inl ⟨pre, HP2.out, hJs⟩⟩
      · obtain ⟨g, rfl, hs⟩ := clF_go HR.out hif h1 h3
        rw [hq] at h3 hs
        have hx : r.f + q ≤ most := by omega
        have h3' : ¬ (most : Int) < (r.f : Int) + (q : Int) := by omega
        obtain ⟨x, hxx⟩ : ∃ x : Pn most, (⟨r.f + q, hx⟩ : Pn most) = x := ⟨_, rfl⟩
        have HS : Hid ((pre ++ [x]).map Subtype.val ++ clF r most g (i + 1) = clL r most) := by
          unfold Hid
          rw [List.map_append, List.map_singleton, List.append_assoc, ← HP.out, hs, ← hxx]; rfl
        obtain ⟨fn, tmps, assign, body, hy, hR⟩ := hY pre x wr hJs (by omega)
        dsimp only [encN] at hy
        have hxv : ((x.1 : Nat) : Int) = (r.f : Int) + (q : Int) := by rw [← hxx]; simp
        rw [hxv] at hy
        clear hs HP hq hxx hxv
        by_cases ht : r.t = 0
        · have ht0 : ((r.t : Int) == 0) = true := by simp; omega
          have ht3 : (r.t : Int) = 0 := by omega
          rw [ht3] at c3 ht0
          clear ht3
          gi_wp2_with fail
          refine hR.mono ?_
          rintro e2 W2 (⟨rfl, hJ2, hk2, _⟩ | ⟨rfl, hJx2, _⟩)
          · have yR : RBox W2 BR r.toI := hk2 BR _ hp1 hbR rfl
            have yM : Boxed W2 BM 3 (.int .i64 most) := hk2 BM _ hp2 hbM rfl
            gi_wp2
            go_roundw
            case rel => exact ⟨i + 1, g, pre ++ [x], by go_num, by omega, by rw [List.length_append, List.length_singleton]; omega, hJ2, yR, yM, HS⟩
            case measure => simp [intOf]; omega
          · gi_wp2
            refine bodyPost_ret (results_none rfl _ _ _) rfl ?_
            exact ⟨⟨_, rfl⟩, .inr ⟨pre ++ [x], ⟨_, HS.out⟩, hJx2⟩⟩
        · have ht0 : ((r.t : Int) == 0) = false := by simp; omega
          have ht1 : (i : Int) < (r.t : Int) := by omega
          have ht3 : (r.t : Int) ≠ 0 := by omega
          clear h1
          gi_wp2_with fail
          refine hR.mono ?_
          rintro e2 W2 (⟨rfl, hJ2, hk2, _⟩ | ⟨rfl, hJx2, _⟩)
          · have yR : RBox W2 BR r.toI := hk2 BR _ hp1 hbR rfl
            have yM : Boxed W2 BM 3 (.int .i64 most) := hk2 BM _ hp2 hbM rfl
            gi_wp2
            go_roundw
            case rel => exact ⟨i + 1, g, pre ++ [x], by go_num, by omega, by rw [List.length_append, List.length_singleton]; omega, hJ2, yR, yM, HS⟩
            case measure => simp [intOf]; omega
          · gi_wp2
            refine bodyPost_ret (results_none rfl _ _ _) rfl ?_
            exact ⟨⟨_, rfl⟩, .inr ⟨pre ++ [x], ⟨_, HS.out⟩, hJx2⟩⟩

theorem calls_g (n : Nat) (hn : 1 ≤ n) (BR BM most : Nat) (hmost : most ≤ 100000) (r : Ru) (hr : r.ok) (p : Nat → Prop) (hp1 : p BR) (hp2 : p BM) (w : World) (hbR : RBox w BR r.toI) (hbM : Boxed w BM 3 (.int .i64 most)) :
    SeqG Fence.wide n Try.prog 105 #[.pointer (some ⟨BR, 0, none⟩), .pointer (some ⟨BM, 0, none⟩)] (encN (most := most)) (fun _ => KC p) (fun ys => ys.map Subtype.val = clL r most) (fun pre => pre.map Subtype.val <+: clL r most) 200000 w := by
  intro l J Jx W hW _ _ hY h0
  exact calls1_in n hn l BR BM most hmost r hr p hp1 hp2 J Jx W hY (hbR.later hW) (hbM.kept (grown_of_below hW) (by simp)) h0

theorem calls_any (n : Nat) (x : RlI) (t : Int) (w : World) :
    CallsIn Fence.wide n Try.prog 103 #[rv x, .int .i64 t] w fun e w' => e = .returned (.func (.func 105) #[] #[.pointer (some ⟨w.heap.size, 0, none⟩), .pointer (some ⟨w.heap.size + 1, 0, none⟩)]) ∧ (w.alloc (.cells #[.int .i64 x.k, .int .i64 x.f, .int .i64 x.e, .int .i64 x.t] 134)).alloc (.cells #[.int .i64 t] 3) = w' := by
  refine callsIn_of_wp Try.func103 rfl trivial ?_ rfl
  simp only [Try.ntmps103, List.size_toArray, List.length_cons, List.length_nil, Nat.reduceAdd, Nat.reduceSub, Array.replicate_succ, Array.replicate_zero, List.push_toArray, List.append_toArray, List.nil_append, List.cons_append]
  gi_wp2
  go_ret
  exact ⟨rfl, rfl⟩
end Go.Proofs.Ytnmeeddhagmjdaa
