/- Any call of both; lists of calls. -/
import Derived.Test.YtnmeeddhagmjdaaVmAb
import Derived.Test.YtnmeeddhagmjdaaVmAc
import Derived.Test.YtnmeeddhagmjdaaVmAd
import Derived.Test.YtnmeeddhagmjdaaVmAe
namespace Go.Proofs.Ytnmeeddhagmjdaa
open Go.RowKit Go.Shelf
attribute [local go_sem] Oper.semAt_some
variable {W V : World} {B0 S P R : Nat} {f : Pages} {L : List Ru} {m : Nat → Nat}

/-- No kind was called more often than i times. -/
def MLe (i : Nat) (m : Nat → Nat) : Prop := ∀ k, k < 7 → m k ≤ i
theorem MLe.sm {i : Nat} (h : MLe i m) (hi : i < 49708) : Sm m := fun k hk => by have := h k hk; omega
theorem MLe.up {i : Nat} (h : MLe i m) : MLe (i + 1) m := fun k hk => by have := h k hk; omega
theorem MLe.upd {i : Nat} (h : MLe i m) (c : Nat) : MLe (i + 1) (updN m c (m c + 1)) := fun k hk => by
  unfold updN
  have := h k hk
  split
  · rename_i e; subst e; omega
  · omega
theorem MLe.doA {i : Nat} (h : MLe i m) (C : Cl) (a n : Nat) : MLe (i + 1) (doA C f L m a n).2.2 := by
  unfold Go.Proofs.Ytnmeeddhagmjdaa.doA
  split
  · exact h.up
  · split
    · exact h.upd _
    · exact h.upd _
theorem MLe.opP {i : Nat} (h : MLe i m) (C : Cl) (a n : Int) : MLe (i + 1) (opP C f L m a n).2.2 := by
  unfold Go.Proofs.Ytnmeeddhagmjdaa.opP
  split
  · exact h.doA _ _ _
  · exact h.up
theorem MLe.opG {i : Nat} (h : MLe i m) (C : Cl) (a : Int) : MLe (i + 1) (opG C f L m a).2.2 := by
  unfold Go.Proofs.Ytnmeeddhagmjdaa.opG
  split
  · exact h.doA _ _ _
  · exact h.up
/-- A call as data, its plan's rules. -/
structure Ac where
  q : Int
  a : Int
  n : Int
  t : Int
  b : Int
  r : Value
  l : List RlI
/-- What is asked of a call: its numbers are of their kinds; its plan lies below B0. -/
structure AcOk (W : World) (B0 : Nat) (x : Ac) : Prop where
  q0 : 0 ≤ x.q
  q1 : x.q < 256
  a : I64 x.a
  ru : RAt W x.r x.l
  own : ∀ b, obk x.r = some b → b < B0
theorem AcOk.keep {x : Ac} (h : AcOk W B0 x) {q : Nat → Prop} (hk : Keep q W V) (hq : ∀ k, q k → B0 ≤ k) : AcOk V B0 x :=
  ⟨h.q0, h.q1, h.a, h.ru.keep hk (fun b hb hqb => by have := h.own b hb; have := hq b hqb; omega), h.own⟩
theorem step_any (x : Ac) (i : Nat) (hi : i < 49707) (hm : MLe i m) (w : World) (hx : AcOk w B0 x) (h17 : x.q.tmod 19 ≠ 17) (hb : Both w B0 S P R f L m) :
    ∃ f' L' m', MLe (i + 1) m' ∧ Calls Try.prog 15 #[.pointer (some ⟨S, 0, none⟩), .pointer (some ⟨R, 0, none⟩), .agg (acA x.q x.a x.n x.t x.b x.r)] w (Stepd w B0 S P R f' L' m') := by
  obtain ⟨q, a, n, t, b, r, l⟩ := x
  obtain ⟨q0, q1, ha, hr, hro⟩ := hx
  simp only at q0 q1 ha hr hro h17 ⊢
  have hs := hm.sm (by omega)
  obtain ⟨k, hk, hq⟩ := what_cases q0 q1
  have hk2 : k = 0 ∨ k = 1 ∨ k = 2 ∨ k = 3 ∨ k = 4 ∨ k = 5 ∨ k = 6 ∨ k = 7 ∨ k = 8 ∨ k = 9 ∨ k = 10 ∨ k = 11 ∨ k = 12 ∨ k = 13 ∨ k = 14 ∨ k = 15 ∨ k = 16 ∨ k = 17 ∨ k = 18 := by omega
  rcases hk2 with rfl | rfl | rfl | rfl | rfl | rfl | rfl | rfl | rfl | rfl | rfl | rfl | rfl | rfl | rfl | rfl | rfl | rfl | rfl
  · exact ⟨_, _, _, hm.opP _ a n, step_0 a n t b ha q hq r hs w hb⟩
  · exact ⟨_, _, _, hm.opP _ a n, step_1 a n t b ha q hq r hs w hb⟩
  · exact ⟨_, _, _, hm.opP _ a n, step_2 a n t b ha q hq r hs w hb⟩
  · exact ⟨_, _, _, hm.opP _ a n, step_3 a n t b ha q hq r hs w hb⟩
  · exact ⟨_, _, _, hm.opP _ a n, step_4 a n t b ha q hq r hs w hb⟩
  · exact ⟨_, _, _, hm.opP _ a n, step_5 a n t b ha q hq r hs w hb⟩
  · exact ⟨_, _, _, hm.opP _ a n, step_6 a n t b ha q hq r hs w hb⟩
  · exact ⟨_, _, _, hm.opP _ a n, step_7 a n t b ha q hq r hs w hb⟩
  · cases hpb : (n.tmod 2 == 0)
    · exact ⟨_, _, _, hm.opP _ a n, step_8f a n t b ha q hq hpb r hs w hb⟩
    · exact ⟨_, _, _, hm.opP _ a n, step_8t a n t b ha q hq hpb r hs w hb⟩
  · exact ⟨_, _, _, hm.opP _ a n, step_9 a n t b ha q hq r hs w hb⟩
  · exact ⟨_, _, _, hm.opG _ a, step_10 a n t b ha q hq r hs w hb⟩
  · exact ⟨_, _, _, hm.opG _ a, step_11 a n t b ha q hq r hs w hb⟩
  · exact ⟨_, _, _, hm.opG _ a, step_12 a n t b ha q hq r hs w hb⟩
  · exact ⟨_, _, _, hm.up, step_13 a n t b q hq r w hb⟩
  · exact ⟨_, _, _, hm.up, step_14 a n t b q hq r w hb⟩
  · exact ⟨_, _, _, hm.up, step_15 a n t b q hq r w hb⟩
  · exact ⟨_, _, _, hm.up, step_16 a n t b ha q hq r w hb⟩
  · exact absurd hq h17
  · obtain ⟨j, c, hc⟩ : ∃ j c, chkP l = (j, c) := ⟨_, _, rfl⟩
    by_cases h0 : c = 0
    · obtain ⟨L', rfl, hL'⟩ := chkP_ok (l := l) (by rw [hc]; exact h0)
      exact ⟨_, _, _, fun k _ => Nat.zero_le _, step_18k a n t b q hq r L' hL' w hr hro hb⟩
    · exact ⟨_, _, _, hm.up, step_18b a n t b q hq r l j c hc h0 w hr hro hb⟩
/-- A slice value that reads as a list of calls. -/
def AcAt (W : World) (v : Value) (al : List Ac) : Prop :=
  (v = .slice none 0 0 ∧ al = []) ∨ ∃ b off cap, v = .slice (some ⟨b, off, none⟩) al.length cap ∧ al.length ≤ cap ∧ cap ≤ maxLen ∧ ∀ (j : Nat) (x : Ac), al[j]? = some x →
    W.cell? ⟨b, off + j * 6, none⟩ = some (.int .u8 x.q) ∧ W.cell? ⟨b, off + j * 6 + 1, none⟩ = some (.int .i64 x.a) ∧ W.cell? ⟨b, off + j * 6 + 2, none⟩ = some (.int .i64 x.n) ∧ W.cell? ⟨b, off + j * 6 + 3, none⟩ = some (.int .i64 x.t) ∧ W.cell? ⟨b, off + j * 6 + 4, none⟩ = some (.int .u8 x.b) ∧ W.cell? ⟨b, off + j * 6 + 5, none⟩ = some x.r
theorem AcAt.form {v : Value} {al : List Ac} (h : AcAt W v al) : ∃ a cap, v = .slice a al.length cap := by
  rcases h with ⟨rfl, rfl⟩ | ⟨b, off, cap, rfl, _⟩
  · exact ⟨_, _, rfl⟩
  · exact ⟨_, _, rfl⟩
theorem AcAt.len {v : Value} {al : List Ac} (h : AcAt W v al) : al.length ≤ 9223372036854775807 := by
  rcases h with ⟨_, rfl⟩ | ⟨b, off, cap, _, h1, h2, _⟩
  · simp
  · unfold maxLen at h2; omega
theorem AcAt.at {a : Option Addr} {n cap : Nat} {al : List Ac} (h : AcAt W (.slice a n cap) al) (j : Nat) (x : Ac) (hx : al[j]? = some x) : ∃ b off, a = some ⟨b, off, none⟩ ∧ b < W.heap.size ∧
    W.cell? ⟨b, off + j * 6, none⟩ = some (.int .u8 x.q) ∧ W.cell? ⟨b, off + j * 6 + 1, none⟩ = some (.int .i64 x.a) ∧ W.cell? ⟨b, off + j * 6 + 2, none⟩ = some (.int .i64 x.n) ∧ W.cell? ⟨b, off + j * 6 + 3, none⟩ = some (.int .i64 x.t) ∧ W.cell? ⟨b, off + j * 6 + 4, none⟩ = some (.int .u8 x.b) ∧ W.cell? ⟨b, off + j * 6 + 5, none⟩ = some x.r := by
  rcases h with ⟨_, rfl⟩ | ⟨b, off, cap', hv, _, _, hc⟩
  · simp at hx
  · cases hv; exact ⟨b, off, rfl, World.block_lt_of_cell? _ _ (hc j x hx).1, hc j x hx⟩
/-- Behind what writes from B0 on alone, the list of calls lies as it lay. -/
theorem AcAt.keep {v : Value} {al : List Ac} (h : AcAt W v al) (B : Nat) (hB : ∀ b, v.ownBlock = some b → al = [] ∨ b < B) (hk : Below B W V) : AcAt V v al := by
  rcases h with h | ⟨b, off, cap, rfl, h1, h2, hc⟩
  · exact .inl h
  · refine .inr ⟨b, off, cap, rfl, h1, h2, fun j x hx => ?_⟩
    have hb : b < B := by
      rcases hB b rfl with h | h
      · subst h; simp at hx
      · exact h
    have e : ∀ o, V.cell? ⟨b, o, none⟩ = W.cell? ⟨b, o, none⟩ := fun o => World.cell?_of_block (w := W) (hk.block b hb)
    rw [e, e, e, e, e, e]; exact hc j x hx
theorem AcAt.own {v : Value} {al : List Ac} (h : AcAt W v al) : ∀ b, v.ownBlock = some b → al = [] ∨ b < W.heap.size := by
  rcases h with ⟨rfl, rfl⟩ | ⟨g, off, cap, rfl, h1, h2, hc⟩
  · intro b hb; exact .inl rfl
  · intro b hb
    cases al with
    | nil => exact .inl rfl
    | cons x al =>
      right
      obtain rfl : g = b := by simpa [Value.ownBlock] using hb
      exact World.block_lt_of_cell? _ _ (hc 0 x rfl).1
/-- Is a plan too long, the first one or one of the calls'? -/
def lgB (p : List RlI) (al : List Ac) : Bool := decide (60 < p.length) || al.any fun x => decide (60 < x.l.length)
set_option maxRecDepth 100000 in
set_option maxHeartbeats 2000000 in
theorem long_is (v : Value) (p : List RlI) (u : Value) (al : List Ac) (r : Bool) (hr : lgB p al = r) (w : World) (hv : RAt w v p) (hu : AcAt w u al) (hal : ∀ x ∈ al, RAt w x.r x.l) :
    Calls Try.prog 11 #[.agg #[v], u] w fun e w' => e = .returned (.bool r) ∧ Below w.heap.size w w' := by
  obtain ⟨va, vc, rfl⟩ := hv.form
  obtain ⟨ua, uc, rfl⟩ := hu.form
  have hv64 := hv.len
  have hu64 := hu.len
  obtain ⟨W1, hW1⟩ : ∃ x, w.alloc (.cells #[.slice va p.length vc] 24) = x := ⟨_, rfl⟩
  have hb1 : Below w.heap.size w W1 := by rw [← hW1]; exact (Below.refl _ _).alloc (Nat.le_refl _) _
  have bP : Boxed W1 w.heap.size 24 (.slice va p.length vc) := by rw [← hW1]; exact Boxed.new w _ _
  have q1 := bP.cell
  have HU := Lib.hid hu
  have HAL := Lib.hid hal
  have HR := Lib.hid hr
  obtain ⟨N, hN⟩ : ∃ N, al.length = N := ⟨_, rfl⟩
  have HN := Lib.hid hN
  by_cases h60 : 60 < p.length
  · obtain rfl : r = true := by rw [← hr]; unfold lgB; simp [h60]
    have h60' : (60 : Int) < (p.length : Int) := by omega
    clear hN
    go_enter Try.func11, Try.ntmps11
    go_wp2_with fail
    try rw [hW1]
    go_wp2_with fail
    go_ret
    exact ⟨rfl, hb1⟩
  · have h60' : ¬ (60 : Int) < (p.length : Int) := by omega
    have HR2 : Hid ((al.any fun x => decide (60 < x.l.length)) = r) := by
      unfold Hid; rw [← hr]; unfold lgB; simp [h60]
    rw [hN] at HU hu64 ⊢
    clear hN hr hu hal HR
    go_enter Try.func11, Try.ntmps11
    go_wp2_with fail
    try rw [hW1]
    go_loopw [5] (fun i wr => ∃ k : Nat, k ≤ N ∧ i = .int .i64 k ∧ Hid (((al.take k).any fun x => decide (60 < x.l.length)) = false) ∧ W1 = wr) (fun i _ => N - (intOf i).toNat)
    case atStart => exact ⟨0, Nat.zero_le _, rfl, rfl, rfl⟩
    case round =>
      obtain ⟨k, hk, rfl, HT, rfl⟩ := hrel
      by_cases hlt : k < N
      · obtain ⟨x, hx⟩ : ∃ x, al[k]? = some x := ⟨_, List.getElem?_eq_getElem (by rw [HN.out]; exact hlt)⟩
        obtain ⟨b, off, rfl, _, k0, k1, k2, k3, k4, k5⟩ := HU.out.at k _ hx
        obtain ⟨ra, rc, hrx⟩ := (HAL.out x (List.mem_of_getElem? hx)).form
        rw [hrx] at k5
        replace k5 := cell_later hb1 k5
        have hrl := (HAL.out x (List.mem_of_getElem? hx)).len
        have hi1 : (k : Int) < (N : Int) := by omega
        obtain ⟨xl, hxl⟩ : ∃ n, x.l.length = n := ⟨_, rfl⟩
        rw [hxl] at k5 hrl
        have htk : al.take (k + 1) = al.take k ++ [x] := by rw [List.take_add_one, hx]; rfl
        by_cases hl : 60 < xl
        · have hl1 : (60 : Int) < (xl : Int) := by omega
          obtain rfl : r = true := by
            rw [← HR2.out, List.any_eq_true]
            exact ⟨x, List.mem_of_getElem? hx, by rw [hxl]; simpa using hl⟩
          clear hx hxl htk k0 k1 k2 k3 k4
          go_wp2_with fail
          go_ret
          exact ⟨rfl, hb1⟩
        · have hl1 : ¬ (60 : Int) < (xl : Int) := by omega
          have HT2 : Hid (((al.take (k + 1)).any fun x => decide (60 < x.l.length)) = false) := by
            unfold Hid; rw [htk, List.any_append, HT.out]; simp [hxl]; omega
          clear hx hxl htk k0 k1 k2 k3 k4 HT
          go_wp2_with fail
          go_roundw
          case rel => exact ⟨k + 1, by omega, by go_num, HT2, by trivial⟩
          case measure => simp [intOf]; omega
      · have hi1 : ¬ ((k : Int) < (N : Int)) := by omega
        obtain rfl : r = false := by
          rw [← HR2.out, ← HT.out, List.take_of_length_le (by rw [HN.out]; omega)]
        go_wp2_with fail
        go_ret
        exact ⟨rfl, hb1⟩
end Go.Proofs.Ytnmeeddhagmjdaa
