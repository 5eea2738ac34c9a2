/- The range function that yields the words that have bits of a range, each with their mask. -/
import Derived.Test.YtpplleojdcgceaaDoorRangeG
import Derived.Test.YtpplleojdcgceaaDoorCheck
import Derived.RangeFuncCalls
import Derived.Shelf.RegionOpen
import Derived.Sort.LoopGhostIn
import Derived.Shelf.Abstract
import Derived.OwnWalkIn
import Derived.TacticsInMore
import Derived.LoopNIn
import Derived.Outline
namespace Go.Proofs.YtpplleojdcgceaaDoor
open Go.RowKit Go.Shelf
attribute [local go_sem] Oper.semAt_some

theorem wide_fn (f : FuncId) : Fence.wide.fn f := by simp [Fence.wide]
theorem grown_of_below {w w' : World} (h : Below w.heap.size w w') : w.grownBy w' none := ⟨h.os, h.tape, h.output, h.size, fun k hk _ => h.block k hk⟩
abbrev Pw (L : Nat) := { x : Nat × Nat // x.1 < L ∧ x.2 < 18446744073709551616 }
def encW {L : Nat} (x : Pw L) : Array Value := #[.int .i64 (x.1.1 : Nat), .int .u64 (x.1.2 : Nat)]
def sg (s : Nat × Nat × Nat) : Nat × Nat := (s.1, mk s.2.1 s.2.2)
def pcL (a t : Nat) : List (Nat × Nat) := (segs 66 a t).map sg

set_option maxRecDepth 100000 in
set_option maxHeartbeats 4000000 in
theorem pieces1_in (n : Nat) (hn : 1 ≤ n) (l B0 B1 L a t : Nat) (ht : t ≤ 64 * L) (hL : L ≤ 64) (p : Nat → Prop) (hp1 : p B1) (J Jx : List (Pw L) → World → Prop) (W0 : World)
    (hY : ∀ (pre : List (Pw L)) x W, J pre W → pre.length < 200 → YieldAt Fence.wide (n - 1) Tryd.prog l (encW x) W fun e W' =>
      (e = .returned (.bool true) ∧ J (pre ++ [x]) W' ∧ KC p W W' ∧ KeepsFrom W0.heap.size W W') ∨ (e = .returned (.bool false) ∧ Jx (pre ++ [x]) W' ∧ KeepsFrom W0.heap.size W W'))
    (hc0 : W0.cell? ⟨B0, 0, none⟩ = some (.int .i64 a)) (hc1 : Boxed W0 B1 3 (.int .i64 t)) (h0 : J [] W0) :
    CallsIn Fence.wide n Tryd.prog 79 #[.func (.yield l) #[] #[], .pointer (some ⟨B0, 0, none⟩), .pointer (some ⟨B1, 0, none⟩)] W0 fun e W' => (∃ v, e = .returned v) ∧
      ((∃ ys, ys.map Subtype.val = pcL a t ∧ J ys W') ∨ (∃ pre : List (Pw L), pre.map Subtype.val <+: pcL a t ∧ Jx pre W')) := by
  refine callsIn_of_wp Tryd.func79 rfl trivial ?_ rfl
  simp only [Tryd.ntmps79, List.size_toArray, List.length_cons, List.length_nil, Nat.reduceAdd, Nat.reduceSub, Array.replicate_succ, Array.replicate_zero, List.push_toArray, List.append_toArray, List.nil_append, List.cons_append]
  have hf1 := wide_fn 54
  gi_wp2_with fail
  go_outline
  gi_loopw [4] (fun v wr => ∃ (q f : Nat) (pre : List (Pw L)), v = .int .i64 q ∧ (t ≤ q ∨ t ≤ 64 * (q / 64 + f)) ∧ J pre wr ∧ Boxed wr B1 3 (.int .i64 t) ∧ Hid (pre.map Subtype.val ++ (segs f q t).map sg = pcL a t) ∧ pre.length + f ≤ 66) (fun v _ => t - (intOf v).toNat)
  case atStart => exact ⟨a, 66, [], rfl, by omega, h0, hc1, rfl, by simp⟩
  case round =>
    obtain ⟨q, f, pre, rfl, hf, hJs, hb1, HP, hpl⟩ := hrel
    have hq1 := hb1.cell
    by_cases hlt : q < t
    · obtain ⟨f, rfl⟩ : ∃ g, f = g + 1 := ⟨f - 1, by omega⟩
      obtain ⟨e, he⟩ : ∃ x, min t ((q / 64 + 1) * 64) = x := ⟨_, rfl⟩
      have HE := Lib.hid he
      have he1 : q < e := by omega
      have he2 : e ≤ t := by omega
      have he3 : e ≤ 64 * (q / 64) + 64 := by omega
      have hlt1 : (q : Int) < (t : Int) := by omega
      have ht1 : (t : Int) ≤ 4096 := by omega
      obtain ⟨m, hm⟩ : ∃ x, 2 ^ (e - q) - 1 = x := ⟨_, rfl⟩
      have HM := Lib.hid hm
      clear he
      have hml := mk_lt (q % 64) (e - 64 * (q / 64)) (by omega) (by omega)
      have hx : (q / 64, mk (q % 64) (e - 64 * (q / 64))).1 < L ∧ (q / 64, mk (q % 64) (e - 64 * (q / 64))).2 < 18446744073709551616 := ⟨by show q / 64 < L; omega, hml⟩
      have ew : ((q / 64 : Nat) : Int) = (q : Int) / 64 := by omega
      have em : ((mk (q % 64) (e - 64 * (q / 64)) : Nat) : Int) = IntKind.u64.wrap ((m : Int) * 2 ^ (q % 64)) := by
        have e1 : mk (q % 64) (e - 64 * (q / 64)) = m * 2 ^ (q % 64) := by unfold mk; rw [show e - 64 * (q / 64) - q % 64 = e - q by omega, hm]
        rw [IntKind.wrap_u64]
        rw [e1] at hml ⊢
        have e2 : ((m * 2 ^ (q % 64) : Nat) : Int) = (m : Int) * 2 ^ (q % 64) := by rw [Int.natCast_mul, Int.natCast_pow]; rfl
        rw [← e2]
        omega
      have HS : Hid ((pre ++ [(⟨_, hx⟩ : Pw L)]).map Subtype.val ++ (segs f e t).map sg = pcL a t) := by
        have h1 := HP.out
        rw [segs, if_pos hlt, List.map_cons, HE.out] at h1
        unfold Hid
        rw [List.map_append, List.map_singleton, List.append_assoc]
        exact h1
      obtain ⟨x, hxx⟩ : ∃ x : Pw L, (⟨_, hx⟩ : Pw L) = x := ⟨_, rfl⟩
      obtain ⟨fn, tmps, assign, body, hy, hR⟩ := hY pre ⟨_, hx⟩ wr hJs (by omega)
      dsimp only [encW] at hy
      rw [ew, em] at hy
      rw [hxx] at hR HS
      clear ew em hm hml hxx hx
      gi_wp2_with fail
      all_goals
        refine (callsIn_wide.2 (ones_is _ (e - q) m (by have := HE.out; omega) (by omega) HM.out _)).mono ?_
        rintro e' w' ⟨rfl, rfl⟩
        gi_wp2_with fail
        refine hR.mono ?_
        rintro e2 W2 (⟨rfl, hJ2, hk2, _⟩ | ⟨rfl, hJx2, _⟩)
        · have hb2 : Boxed W2 B1 3 (.int .i64 t) := hk2 B1 _ hp1 hb1 rfl
          gi_wp2
          go_roundw
          case rel => exact ⟨e, f, pre ++ [x], congrArg (Value.int .i64) (by have := HE.out; omega), by have := HE.out; omega, hJ2, hb2, HS, by rw [List.length_append, List.length_singleton]; omega⟩
          case measure => have := HE.out; simp [intOf]; omega
        · gi_wp2
          refine bodyPost_ret (results_none rfl _ _ _) rfl ?_
          exact ⟨⟨_, rfl⟩, .inr ⟨pre ++ [x], ⟨_, HS.out⟩, hJx2⟩⟩
    · have h1 := HP.out
      have h2 : segs f q t = [] := by cases f with | zero => rfl | succ f => rw [segs, if_neg hlt]
      rw [h2, List.map_nil, List.append_nil] at h1
      have HP2 := Lib.hid h1
      clear h1 h2
      gi_wp2
      go_end0
      exact ⟨⟨_, rfl⟩, .inl ⟨pre, HP2.out, hJs⟩⟩

theorem pieces_g (n : Nat) (hn : 1 ≤ n) (B0 B1 L a t : Nat) (ht : t ≤ 64 * L) (hL : L ≤ 64) (p : Nat → Nat → Prop) (hp1 : ∀ b, p b B1) (w : World) (hc0 : Boxed w B0 3 (.int .i64 a)) (hc1 : Boxed w B1 3 (.int .i64 t)) :
    SeqG Fence.wide n Tryd.prog 79 #[.pointer (some ⟨B0, 0, none⟩), .pointer (some ⟨B1, 0, none⟩)] (encW (L := L)) (fun b => KC (p b)) (fun ys => ys.map Subtype.val = pcL a t) (fun pre => pre.map Subtype.val <+: pcL a t) 200 w := by
  intro l J Jx W hW _ _ hY h0
  exact pieces1_in n hn l B0 B1 L a t ht hL (p W.heap.size) (hp1 _) J Jx W hY (cell_later hW hc0.cell) (hc1.kept (grown_of_below hW) (by simp)) h0

theorem pieces_any (n : Nat) (a t : Int) (w : World) :
    CallsIn Fence.wide n Tryd.prog 69 #[.int .i64 a, .int .i64 t] w fun e w' => e = .returned (.func (.func 79) #[] #[.pointer (some ⟨w.heap.size, 0, none⟩), .pointer (some ⟨w.heap.size + 1, 0, none⟩)]) ∧ (w.alloc (.cells #[.int .i64 a] 3)).alloc (.cells #[.int .i64 t] 3) = w' := by
  refine callsIn_of_wp Tryd.func69 rfl trivial ?_ rfl
  simp only [Tryd.ntmps69, List.size_toArray, List.length_cons, List.length_nil, Nat.reduceAdd, Nat.reduceSub, Array.replicate_succ, Array.replicate_zero, List.push_toArray, List.append_toArray, List.nil_append, List.cons_append]
  gi_wp2
  go_ret
  exact ⟨rfl, rfl⟩
end Go.Proofs.YtpplleojdcgceaaDoor
