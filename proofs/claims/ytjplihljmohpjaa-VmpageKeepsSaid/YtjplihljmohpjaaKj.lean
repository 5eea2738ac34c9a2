/- Lists of calls. -/
import Derived.Test.YtjplihljmohpjaaMVmAb
import Derived.Test.YtjplihljmohpjaaMVmAc
import Derived.Test.YtjplihljmohpjaaKi
/- Any call of both; lists of calls. -/
namespace Go.Proofs.Ytjplihljmohpjaa
open Go.RowKit Go.Shelf
attribute [local go_sem] Oper.semAt_some
variable {W V : World} {B0 S P R : Nat} {f : Pages} {L : List Ru} {m : Nat → Nat}

/-- No kind was called more often than i times. -/
def MLe (i : Nat) (m : Nat → Nat) : Prop := ∀ k, k < 7 → m k ≤ i
theorem MLe.sm {i : Nat} (h : MLe i m) (hi : i < 49708) : Sm m := fun k hk => by have := h k hk; omega
theorem MLe.up {i : Nat} (h : MLe i m) : MLe (i + 1) m := fun k hk => by have := h k hk; omega
theorem MLe.upd {i : Nat} (h : MLe i m) (c : Nat) : MLe (i + 1) (updN m c (m c + 1)) := fun k hk => by
  unfold updN
  have := h k hk
  split
  · rename_i e; subst e; omega
  · omega
theorem MLe.doA {i : Nat} (h : MLe i m) (C : Cl) (a n : Nat) : MLe (i + 1) (doA C f L m a n).2.2 := by
  unfold Go.Proofs.Ytjplihljmohpjaa.doA
  split
  · exact h.up
  · split
    · exact h.upd _
    · exact h.upd _
theorem MLe.opP {i : Nat} (h : MLe i m) (C : Cl) (a n : Int) : MLe (i + 1) (opP C f L m a n).2.2 := by
  unfold Go.Proofs.Ytjplihljmohpjaa.opP
  split
  · exact h.doA _ _ _
  · exact h.up
theorem MLe.opG {i : Nat} (h : MLe i m) (C : Cl) (a : Int) : MLe (i + 1) (opG C f L m a).2.2 := by
  unfold Go.Proofs.Ytjplihljmohpjaa.opG
  split
  · exact h.doA _ _ _
  · exact h.up
/-- A call as data, its plan's rules. -/
structure Ac where
  q : Int
  a : Int
  n : Int
  t : Int
  b : Int
  r : Value
  l : List RlI
/-- What is asked of a call: its numbers are of their kinds; its plan lies below B0. -/
structure AcOk (W : World) (B0 : Nat) (x : Ac) : Prop where
  q0 : 0 ≤ x.q
  q1 : x.q < 256
  a : I64 x.a
  ru : RAt W x.r x.l
  own : ∀ b, obk x.r = some b → b < B0
theorem AcOk.keep {x : Ac} (h : AcOk W B0 x) {q : Nat → Prop} (hk : Keep q W V) (hq : ∀ k, q k → B0 ≤ k) : AcOk V B0 x :=
  ⟨h.q0, h.q1, h.a, h.ru.keep hk (fun b hb hqb => by have := h.own b hb; have := hq b hqb; omega), h.own⟩
theorem step_any (x : Ac) (i : Nat) (hi : i < 49707) (hm : MLe i m) (w : World) (hx : AcOk w B0 x) (h17 : x.q.tmod 19 ≠ 17) (hb : Both w B0 S P R f L m) :
    ∃ f' L' m', MLe (i + 1) m' ∧ Calls Try.prog 15 #[.pointer (some ⟨S, 0, none⟩), .pointer (some ⟨R, 0, none⟩), .agg (acA x.q x.a x.n x.t x.b x.r)] w (Stepd w B0 S P R f' L' m') := by
  obtain ⟨q, a, n, t, b, r, l⟩ := x
  obtain ⟨q0, q1, ha, hr, hro⟩ := hx
  simp only at q0 q1 ha hr hro h17 ⊢
  have hs := hm.sm (by omega)
  obtain ⟨k, hk, hq⟩ := what_cases q0 q1
  have hk2 : k = 0 ∨ k = 1 ∨ k = 2 ∨ k = 3 ∨ k = 4 ∨ k = 5 ∨ k = 6 ∨ k = 7 ∨ k = 8 ∨ k = 9 ∨ k = 10 ∨ k = 11 ∨ k = 12 ∨ k = 13 ∨ k = 14 ∨ k = 15 ∨ k = 16 ∨ k = 17 ∨ k = 18 := by omega
  rcases hk2 with rfl | rfl | rfl | rfl | rfl | rfl | rfl | rfl | rfl | rfl | rfl | rfl | rfl | rfl | rfl | rfl | rfl | rfl | rfl
  · exact ⟨_, _, _, hm.opP _ a n, step_0 a n t b ha q hq r hs w hb⟩
  · exact ⟨_, _, _, hm.opP _ a n, step_1 a n t b ha q hq r hs w hb⟩
  · exact ⟨_, _, _, hm.opP _ a n, step_2 a n t b ha q hq r hs w hb⟩
  · exact ⟨_, _, _, hm.opP _ a n, step_3 a n t b ha q hq r hs w hb⟩
  · exact ⟨_, _, _, hm.opP _ a n, step_4 a n t b ha q hq r hs w hb⟩
  · exact ⟨_, _, _, hm.opP _ a n, step_5 a n t b ha q hq r hs w hb⟩
  · exact ⟨_, _, _, hm.opP _ a n, step_6 a n t b ha q hq r hs w hb⟩
  · exact ⟨_, _, _, hm.opP _ a n, step_7 a n t b ha q hq r hs w hb⟩
  · cases hpb : (n.tmod 2 == 0)
    · exact ⟨_, _, _, hm.opP _ a n, step_8f a n t b ha q hq hpb r hs w hb⟩
    · exact ⟨_, _, _, hm.opP _ a n, step_8t a n t b ha q hq hpb r hs w hb⟩
  · exact ⟨_, _, _, hm.opP _ a n, step_9 a n t b ha q hq r hs w hb⟩
  · exact ⟨_, _, _, hm.opG _ a, step_10 a n t b ha q hq r hs w hb⟩
  · exact ⟨_, _, _, hm.opG _ a, step_11 a n t b ha q hq r hs w hb⟩
  · exact ⟨_, _, _, hm.opG _ a, step_12 a n t b ha q hq r hs w hb⟩
  · exact ⟨_, _, _, hm.up, step_13 a n t b q hq r w hb⟩
  · exact ⟨_, _, _, hm.up, step_14 a n t b q hq r w hb⟩
  · exact ⟨_, _, _, hm.up, step_15 a n t b q hq r w hb⟩
  · exact ⟨_, _, _, hm.up, step_16 a n t b ha q hq r w hb⟩
  · exact absurd hq h17
  · obtain ⟨j, c, hc⟩ : ∃ j c, chkP l = (j, c) := ⟨_, _, rfl⟩
    by_cases h0 : c = 0
    · obtain ⟨L', rfl, hL'⟩ := chkP_ok (l := l) (by rw [hc]; exact h0)
      exact ⟨_, _, _, fun k _ => Nat.zero_le _, step_18k a n t b q hq r L' hL' w hr hro hb⟩
    · exact ⟨_, _, _, hm.up, step_18b a n t b q hq r l j c hc h0 w hr hro hb⟩
/-- A slice value that reads as a list of calls. -/
def AcAt (W : World) (v : Value) (al : List Ac) : Prop :=
  (v = .slice none 0 0 ∧ al = []) ∨ ∃ b off cap, v = .slice (some ⟨b, off, none⟩) al.length cap ∧ al.length ≤ cap ∧ cap ≤ maxLen ∧ ∀ (j : Nat) (x : Ac), al[j]? = some x →
    W.cell? ⟨b, off + j * 6, none⟩ = some (.int .u8 x.q) ∧ W.cell? ⟨b, off + j * 6 + 1, none⟩ = some (.int .i64 x.a) ∧ W.cell? ⟨b, off + j * 6 + 2, none⟩ = some (.int .i64 x.n) ∧ W.cell? ⟨b, off + j * 6 + 3, none⟩ = some (.int .i64 x.t) ∧ W.cell? ⟨b, off + j * 6 + 4, none⟩ = some (.int .u8 x.b) ∧ W.cell? ⟨b, off + j * 6 + 5, none⟩ = some x.r
theorem AcAt.form {v : Value} {al : List Ac} (h : AcAt W v al) : ∃ a cap, v = .slice a al.length cap := by
  rcases h with ⟨rfl, rfl⟩ | ⟨b, off, cap, rfl, _⟩
  · exact ⟨_, _, rfl⟩
  · exact ⟨_, _, rfl⟩
theorem AcAt.len {v : Value} {al : List Ac} (h : AcAt W v al) : al.length ≤ 9223372036854775807 := by
  rcases h with ⟨_, rfl⟩ | ⟨b, off, cap, _, h1, h2, _⟩
  · simp
  · unfold maxLen at h2; omega
theorem AcAt.at {a : Option Addr} {n cap : Nat} {al : List Ac} (h : AcAt W (.slice a n cap) al) (j : Nat) (x : Ac) (hx : al[j]? = some x) : ∃ b off, a = some ⟨b, off, none⟩ ∧ b < W.heap.size ∧
    W.cell? ⟨b, off + j * 6, none⟩ = some (.int .u8 x.q) ∧ W.cell? ⟨b, off + j * 6 + 1, none⟩ = some (.int .i64 x.a) ∧ W.cell? ⟨b, off + j * 6 + 2, none⟩ = some (.int .i64 x.n) ∧ W.cell? ⟨b, off + j * 6 + 3, none⟩ = some (.int .i64 x.t) ∧ W.cell? ⟨b, off + j * 6 + 4, none⟩ = some (.int .u8 x.b) ∧ W.cell? ⟨b, off + j * 6 + 5, none⟩ = some x.r := by
  rcases h with ⟨_, rfl⟩ | ⟨b, off, cap', hv, _, _, hc⟩
  · simp at hx
  · cases hv; exact ⟨b, off, rfl, World.block_lt_of_cell? _ _ (hc j x hx).1, hc j x hx⟩
/-- Behind what writes from B0 on alone, the list of calls lies as it lay. -/
theorem AcAt.keep {v : Value} {al : List Ac} (h : AcAt W v al) (B : Nat) (hB : ∀ b, v.ownBlock = some b → al = [] ∨ b < B) (hk : Below B W V) : AcAt V v al := by
  rcases h with h | ⟨b, off, cap, rfl, h1, h2, hc⟩
  · exact .inl h
  · refine .inr ⟨b, off, cap, rfl, h1, h2, fun j x hx => ?_⟩
    have hb : b < B := by
      rcases hB b rfl with h | h
      · subst h; simp at hx
      · exact h
    have e : ∀ o, V.cell? ⟨b, o, none⟩ = W.cell? ⟨b, o, none⟩ := fun o => World.cell?_of_block (w := W) (hk.block b hb)
    rw [e, e, e, e, e, e]; exact hc j x hx
theorem AcAt.own {v : Value} {al : List Ac} (h : AcAt W v al) : ∀ b, v.ownBlock = some b → al = [] ∨ b < W.heap.size := by
  rcases h with ⟨rfl, rfl⟩ | ⟨g, off, cap, rfl, h1, h2, hc⟩
  · intro b hb; exact .inl rfl
  · intro b hb
    cases al with
    | nil => exact .inl rfl
    | cons x al =>
      right
      obtain rfl : g = b := by simpa [Value.ownBlock] using hb
      exact World.block_lt_of_cell? _ _ (hc 0 x rfl).1
/-- Is a plan too long, the first one or one of the calls'? -/
def lgB (p : List RlI) (al : List Ac) : Bool := decide (60 < p.length) || al.any fun x => decide (60 < x.l.length)
set_option maxRecDepth 100000 in
set_option maxHeartbeats 2000000 in
theorem long_is (v : Value) (p : List RlI) (u : Value) (al : List Ac) (r : Bool) (hr : lgB p al = r) (w : World) (hv : RAt w v p) (hu : AcAt w u al) (hal : ∀ x ∈ al, RAt w x.r x.l) :
    Calls Try.prog 11 #[.agg #[v], u] w fun e w' => e = .returned (.bool r) ∧ Below w.heap.size w w' := by
  obtain ⟨va, vc, rfl⟩ := hv.form
  obtain ⟨ua, uc, rfl⟩ := hu.form
  have hv64 := hv.len
  have hu64 := hu.len
  obtain ⟨W1, hW1⟩ : ∃ x, w.alloc (.cells #[.slice va p.length vc] 24) = x := ⟨_, rfl⟩
  have hb1 : Below w.heap.size w W1 := by rw [← hW1]; exact (Below.refl _ _).alloc (Nat.le_refl _) _
  have bP : Boxed W1 w.heap.size 24 (.slice va p.length vc) := by rw [← hW1]; exact Boxed.new w _ _
  have q1 := bP.cell
  have HU := Lib.hid hu
  have HAL := Lib.hid hal
  have HR := Lib.hid hr
  obtain ⟨N, hN⟩ : ∃ N, al.length = N := ⟨_, rfl⟩
  have HN := Lib.hid hN
  by_cases h60 : 60 < p.length
  · obtain rfl : r = true := by rw [← hr]; unfold lgB; simp [h60]
    have h60' : (60 : Int) < (p.length : Int) := by omega
    clear hN
    go_enter Try.func11, Try.ntmps11
    go_wp2_with fail
    try rw [hW1]
    go_wp2_with fail
    go_ret
    exact ⟨rfl, hb1⟩
  · have h60' : ¬ (60 : Int) < (p.length : Int) := by omega
    have HR2 : Hid ((al.any fun x => decide (60 < x.l.length)) = r) := by
      unfold Hid; rw [← hr]; unfold lgB; simp [h60]
    rw [hN] at HU hu64 ⊢
    clear hN hr hu hal HR
    go_enter Try.func11, Try.ntmps11
    go_wp2_with fail
    try rw [hW1]
    go_loopw [5] (fun i wr => ∃ k : Nat, k ≤ N ∧ i = .int .i64 k ∧ Hid (((al.take k).any fun x => decide (60 < x.l.length)) = false) ∧ W1 = wr) (fun i _ => N - (intOf i).toNat)
    case atStart => exact ⟨0, Nat.zero_le _, rfl, rfl, rfl⟩
    case round =>
      obtain ⟨k, hk, rfl, HT, rfl⟩ := hrel
      by_cases hlt : k < N
      · obtain ⟨x, hx⟩ : ∃ x, al[k]? = some x := ⟨_, List.getElem?_eq_getElem (by rw [HN.out]; exact hlt)⟩
        obtain ⟨b, off, rfl, _, k0, k1, k2, k3, k4, k5⟩ := HU.out.at k _ hx
        obtain ⟨ra, rc, hrx⟩ := (HAL.out x (List.mem_of_getElem? hx)).form
        rw [hrx] at k5
        replace k5 := cell_later hb1 k5
        have hrl := (HAL.out x (List.mem_of_getElem? hx)).len
        have hi1 : (k : Int) < (N : Int) := by omega
        obtain ⟨xl, hxl⟩ : ∃ n, x.l.length = n := ⟨_, rfl⟩
        rw [hxl] at k5 hrl
        have htk : al.take (k + 1) = al.take k ++ [x] := by rw [List.take_add_one, hx]; rfl
        by_cases hl : 60 < xl
        · have hl1 : (60 : Int) < (xl : Int) := by omega
          obtain rfl : r = true := by
            rw [← HR2.out, List.any_eq_true]
            exact ⟨x, List.mem_of_getElem? hx, by rw [hxl]; simpa using hl⟩
          clear hx hxl htk k0 k1 k2 k3 k4
          go_wp2_with fail
          go_ret
          exact ⟨rfl, hb1⟩
        · have hl1 : ¬ (60 : Int) < (xl : Int) := by omega
          have HT2 : Hid (((al.take (k + 1)).any fun x => decide (60 < x.l.length)) = false) := by
            unfold Hid; rw [htk, List.any_append, HT.out]; simp [hxl]; omega
          clear hx hxl htk k0 k1 k2 k3 k4 HT
          go_wp2_with fail
          go_roundw
          case rel => exact ⟨k + 1, by omega, by go_num, HT2, by trivial⟩
          case measure => simp [intOf]; omega
      · have hi1 : ¬ ((k : Int) < (N : Int)) := by omega
        obtain rfl : r = false := by
          rw [← HR2.out, ← HT.out, List.take_of_length_le (by rw [HN.out]; omega)]
        go_wp2_with fail
        go_ret
        exact ⟨rfl, hb1⟩
end Go.Proofs.Ytjplihljmohpjaa

/- Systems after some calls: both of New; the list's calls. -/
namespace Go.Proofs.Ytjplihljmohpjaa
open Go.RowKit Go.Shelf
attribute [local go_sem] Oper.semAt_some

set_option maxRecDepth 100000 in
set_option maxHeartbeats 2000000 in
theorem New_ok2 (v : Value) (L : List Ru) (hL : OkL L) (w : World) (h : RAt w v (toI L)) :
    Calls Try.prog 13 #[.agg #[v]] w fun e w' => ∃ S P, e = .returned (.tuple #[.pointer (some ⟨S, 0, none⟩), .int .i64 0]) ∧ w.heap.size ≤ S ∧ w.heap.size ≤ P ∧ (∃ u, SysV w' S P (fun _ => False) freeF L (fun _ => 0) u ∧ ∀ b, u.ownBlock = some b → b < w'.heap.size) ∧ Below w.heap.size w w' := by
  obtain ⟨W1, hW1⟩ : ∃ x, w.alloc (.cells #[v] 24) = x := ⟨_, rfl⟩
  have hb1 : Below w.heap.size w W1 := by rw [← hW1]; exact (Below.refl _ _).alloc (Nat.le_refl _) _
  have bP : Boxed W1 w.heap.size 24 v := by rw [← hW1]; exact Boxed.new w _ _
  have HS := Lib.hid (Start_ok v L hL W1 (h.later hb1))
  have q1 := bP.cell
  go_enter Try.func13, Try.ntmps13
  go_wp2_with fail
  try rw [hW1]
  refine HS.out.mono ?_
  rintro e w1 ⟨u, rfl, hru, hfr, B1⟩
  obtain ⟨W2, hW2⟩ : ∃ x, w1.alloc (.cells #[.slice none 0 0, .int .i64 0, .int .i64 0, .int .i64 0, .int .i64 0, .int .i64 0, .int .i64 0, .int .i64 0, .int .i64 0, .int .i64 0, .int .i64 0, .int .i64 0, .int .i64 0, .int .i64 0, .int .i64 0] 45) = x := ⟨_, rfl⟩
  have hB1 := hb1.trans (B1.mono hb1.size)
  have hb2 : Below w1.heap.size w1 W2 := by rw [← hW2]; exact (Below.refl _ _).alloc (Nat.le_refl _) _
  have sN : SBox W2 w1.heap.size (.slice none 0 0) zer zer := by rw [← hW2]; exact SBox.new w1 (.slice none 0 0) zer zer
  have hB2 := hB1.trans (hb2.mono hB1.size)
  have hu1 := hru.one
  have hr2 := hru.later hb2
  have sM := sN.row u zer zer
  have hlt1 := sN.lt
  clear hW1
  go_wp2_with (first | rw [hW2] | refine wpList_store_row rfl 45 _ _ rfl w1.heap.size (stA u zer zer) rfl rfl 45 _ sN (st_i _ _ _) rfl (stA_one _ hu1 _ _) ?_ | refine wpList_load_row rfl 45 _ rfl w1.heap.size rfl 45 _ (0, 0) _ sM Try.underlying45 rfl (st_i _ _ _) ?_)
  refine (unused_is u zer zer _).mono ?_
  rintro e w3 ⟨rfl, g1, g2, B3⟩
  go_wp2_with fail
  go_ret2
  simp only [setRow_size] at g1 g2 B3 ⊢
  have hB3 : Below w.heap.size w w3 := (below_row hB2 _ hB1.size _).trans (B3.mono hB2.size)
  have hsz := hb2.size
  have hsz2 := hB2.size
  have hru3 : RAt w3 u (toI L) := (hr2.row (b := w1.heap.size) _ (fun e => by have := hfr _ e; omega)).later (by rw [setRow_size]; exact B3)
  refine ⟨_, _, rfl, by omega, by omega, ⟨u, ⟨by rw [ci0, hf0 L hL]; exact g1, g2, hru3, by omega, fun b hb => ?_, fun b hb => hb.elim⟩, fun b hb => ?_⟩, hB3⟩
  · have := hfr b hb
    exact ⟨by omega, by omega, fun hx => hx⟩
  · have h8 := hfr b hb
    have h9 := B3.size
    rw [setRow_size] at h9
    omega

theorem SysV.addR {W : World} {S P R : Nat} {f : Pages} {L : List Ru} {m : Nat → Nat} {u : Value} (s : SysV W S P (fun _ => False) f L m u) (hu : ∀ b, u.ownBlock = some b → b < R) (hS : S < R) (hP : P < R) (hR : R < W.heap.size) : SysV W S P (· = R) f L m u :=
  ⟨s.box, s.pg, s.ru, s.ne, fun b hb => ⟨(s.own b hb).1, (s.own b hb).2.1, fun (e : b = R) => by have := hu b hb; omega⟩, fun b (hb : b = R) => ⟨by omega, by omega, by omega⟩⟩
/-- Behind both New of a plan: both systems. -/
theorem both_new {W : World} {B0 S P R : Nat} {L : List Ru} {u v : Value} (hL : OkL L) (s : SysV W S P (fun _ => False) freeF L (fun _ => 0) u) (hu : ∀ b, u.ownBlock = some b → b < R) (hS : B0 ≤ S) (hP : B0 ≤ P) (hSR : S < R) (hPR : P < R) (r : RAtS W R (kdF freeF) (hgF freeF) (btF freeF) (stA v zer zer)) (hv : RAt W v (toI L)) (hvo : ∀ b, obk v = some b → b < B0) : Both W B0 S P R freeF L (fun _ => 0) :=
  ⟨⟨u, s.addR hu hSR hPR r.lt⟩, ⟨v, ⟨by rw [ci0, hf0 L hL]; exact r, hv, fun b hb => by
    have := hvo b hb
    exact ⟨by omega, fun h => by rcases h with h | h <;> omega⟩, fun b h => by rcases h with h | h <;> omega⟩, hvo⟩, good_free, hL, hS, hP, by omega⟩

/-- What made leaves of a plan that is as it should be. -/
def Madeq (w : World) (e : Ending) (w' : World) : Prop := ∃ S P R f L m, e = .returned (.tuple #[.pointer (some ⟨S, 0, none⟩), .bool true]) ∧ Both w' w.heap.size S P R f L m ∧ MLe 1000 m ∧ Below w.heap.size w w'
set_option maxRecDepth 100000 in
set_option maxHeartbeats 2000000 in
theorem made_bad (v : Value) (l : List RlI) (u : Value) (i : Nat) (c : Int) (hc : chkP l = (i, c)) (h0 : c ≠ 0) (w : World) (hv : RAt w v l) :
    Calls Try.prog 21 #[.agg #[v], u] w fun e w' => e = .returned (.tuple #[.pointer none, .bool false]) ∧ Below w.heap.size w w' := by
  obtain ⟨W1, hW1⟩ : ∃ x, w.alloc (.cells #[v] 24) = x := ⟨_, rfl⟩
  have hb1 : Below w.heap.size w W1 := by rw [← hW1]; exact (Below.refl _ _).alloc (Nat.le_refl _) _
  have bP : Boxed W1 w.heap.size 24 v := by rw [← hW1]; exact Boxed.new w _ _
  have hv1 := hv.later hb1
  have HN := Lib.hid (New_bad v l i c hc h0 W1 hv1)
  have HR := Lib.hid (fun W (hW : Below W1.heap.size W1 W) => RNew_bad v l i c hc h0 W (hv1.later hW))
  have q1 := bP.cell
  have hq : (c != 0) = true := by simpa using h0
  clear hc h0
  go_enter Try.func21, Try.ntmps21
  go_wp2_with fail
  try rw [hW1]
  refine HN.out.mono ?_
  rintro e w1 ⟨rfl, B1⟩
  have q2 := cell_later B1 q1
  clear hW1 q1
  go_wp2_with fail
  refine (HR.out w1 B1).mono ?_
  rintro e w2 ⟨rfl, B2⟩
  have hB1 := hb1.trans (B1.mono hb1.size)
  go_wp2_with fail
  go_ret2
  exact ⟨rfl, hB1.trans (B2.mono hB1.size)⟩
set_option maxRecDepth 100000 in
set_option maxHeartbeats 4000000 in
theorem made_ok (v : Value) (L : List Ru) (hL : OkL L) (u : Value) (al : List Ac) (hal : al.length ≤ 60) (w : World) (hv : RAt w v (toI L)) (hvo : ∀ b, obk v = some b → b < w.heap.size) (hu : AcAt w u al) (hx : ∀ x ∈ al, AcOk w w.heap.size x) :
    Calls Try.prog 21 #[.agg #[v], u] w (Madeq w) := by
  obtain ⟨ua, uc, rfl⟩ := hu.form
  obtain ⟨W1, hW1⟩ : ∃ x, w.alloc (.cells #[v] 24) = x := ⟨_, rfl⟩
  have hb1 : Below w.heap.size w W1 := by rw [← hW1]; exact (Below.refl _ _).alloc (Nat.le_refl _) _
  have bP : Boxed W1 w.heap.size 24 v := by rw [← hW1]; exact Boxed.new w _ _
  have hv1 := hv.later hb1
  have HN := Lib.hid (New_ok2 v L hL W1 hv1)
  have HR := Lib.hid (fun W (hW : Below W1.heap.size W1 W) => RNew_ok v L hL W (hv1.later hW))
  have q1 := bP.cell
  have HU := Lib.hid hu
  have HX := Lib.hid hx
  have HV := Lib.hid (show ∀ b, obk v = some b → b < w.heap.size from hvo)
  obtain ⟨N, hN⟩ : ∃ N, al.length = N := ⟨_, rfl⟩
  have HN2 := Lib.hid hN
  rw [hN] at HU hal ⊢
  clear hN hu hx hvo
  go_enter Try.func21, Try.ntmps21
  go_wp2_with fail
  try rw [hW1]
  refine HN.out.mono ?_
  rintro e w1 ⟨S, P, rfl, hS, hP, ⟨us, sV, huo⟩, B1⟩
  have q2 := cell_later B1 q1
  clear hW1 q1
  go_wp2_with fail
  refine (HR.out w1 B1).mono ?_
  rintro e w2 ⟨R, rfl, hR, rr, B2⟩
  have hB1 := hb1.trans (B1.mono hb1.size)
  have hB2 := hB1.trans (B2.mono hB1.size)
  have hz1 := hb1.size
  have hB := both_new hL (sV.later B2) (fun b hb => Nat.lt_of_lt_of_le (huo b hb) hR) (B0 := w.heap.size) (by omega) (by omega) (Nat.lt_of_lt_of_le sV.box.lt hR) (Nat.lt_of_lt_of_le sV.pg.lt hR) rr ((hv1.later B1).later B2) HV.out
  clear HN HR q2 sV huo rr
  go_wp2_with fail
  go_loopw [6, 10] (fun sv i wr => ∃ (k : Nat) (f : Pages) (L : List Ru) (m : Nat → Nat), k ≤ N ∧ i = .int .i64 k ∧ sv = .pointer (some ⟨S, 0, none⟩) ∧ Hid (MLe k m) ∧ Hid (Both wr w.heap.size S P R f L m) ∧ Below w.heap.size w wr) (fun _ i _ => N - (intOf i).toNat)
  case atStart => exact ⟨0, freeF, L, fun _ => 0, Nat.zero_le _, rfl, rfl, (fun k _ => Nat.le_refl _), hB, hB2⟩
  case round =>
    obtain ⟨k, f, L, m, hk, rfl, rfl, HM, HB, hbw⟩ := hrel
    by_cases hlt : k < N
    · obtain ⟨x, hx⟩ : ∃ x, al[k]? = some x := ⟨_, List.getElem?_eq_getElem (by rw [HN2.out]; exact hlt)⟩
      obtain ⟨b, off, rfl, hbl, k0, k1, k2, k3, k4, k5⟩ := HU.out.at k _ hx
      have hxo := HX.out x (List.mem_of_getElem? hx)
      have hxk := hxo.keep (Keep.of_below (q := fun k => w.heap.size ≤ k) hbw) (fun k h => h)
      replace k0 := cell_later hbw k0
      replace k1 := cell_later hbw k1
      replace k2 := cell_later hbw k2
      replace k3 := cell_later hbw k3
      replace k4 := cell_later hbw k4
      replace k5 := cell_later hbw k5
      have hi1 : (k : Int) < (N : Int) := by omega
      by_cases hq17 : x.q.tmod 19 = 17
      · clear hx hxo hxk
        go_wp2_with fail
        go_roundw
        case rel => exact ⟨k + 1, f, L, m, by omega, by go_num, rfl, HM.out.up, HB.out, hbw⟩
        case measure => simp [intOf]; omega
      · obtain ⟨f', L', m', hm', hc⟩ := step_any x k (by omega) HM.out _ hxk hq17 HB.out
        have HC := Lib.hid hc
        have hqb : (x.q.tmod 19 == 17) = false := by simpa using hq17
        have hbo := HB.out
        clear hx hxo hxk hc
        go_wp2_with fail
        refine HC.out.mono ?_
        rintro e w3 ⟨rfl, hB', hkp⟩
        have hbw3 : Below w.heap.size w w3 := hbw.trans (hkp.below _ hbw.size fun k hk => by rcases hk with h | h | h <;> (subst h; first | exact hbo.hS | exact hbo.hP | exact hbo.hR))
        go_wp2_with fail
        go_roundw
        case rel => exact ⟨k + 1, f', L', m', by omega, by go_num, rfl, hm', hB', hbw3⟩
        case measure => simp [intOf]; omega
    · have hi1 : ¬ ((k : Int) < (N : Int)) := by omega
      go_wp2_with fail
      go_ret2
      exact ⟨S, P, R, f, L, m, rfl, HB.out, fun j hj => by have := HM.out j hj; omega, hbw⟩
end Go.Proofs.Ytjplihljmohpjaa

/- One page goes back. -/
namespace Go.Proofs.Ytjplihljmohpjaa
open Go.RowKit Go.Shelf

theorem are_one (j : Nat) (hj : j < 1024) : areB (j : Int) 1 = true := by unfold areB; simp; omega
theorem turn_one {f : Pages} {m : Nat → Nat} (c : Nat) (x y : Int) (j : Nat) (hj : j < 1024) (hk : (f j).kd = x) (hh : (f j).hu = false) : opP (cTurn c x y) f [] m (j : Int) 1 = (0, updP f j ⟨y, false, fun _ => 0⟩, updN m c (m c + 1)) := by
  unfold opP
  rw [if_pos (are_one j hj)]
  unfold doA
  have e : posE (cTurn c x y).chk f (List.range' (j : Int).toNat (1 : Int).toNat) = 0 := by
    rw [Int.toNat_natCast]
    exact posE_zero fun i hi => by
      have : i = j := by have := List.mem_range'.1 hi; simp at this; omega
      subst this
      show chkT x (f i) = 0
      unfold chkT; rw [if_pos ⟨hk, hh⟩]
  rw [e, if_neg (by simp), if_neg (by simp [refP]), Int.toNat_natCast]
  rfl
theorem split_one {f : Pages} (hf : Good f) {m : Nat → Nat} (j : Nat) (hj : j < 1024) (h16 : j % 16 = 0) (hh : (f j).hu = true) : opG cSplit f [] m (j : Int) = (0, chgF chgS f (List.range' j 16), updN m 6 (m 6 + 1)) := by
  unfold opG
  rw [if_pos (by rw [grpB_of hj]; simpa using h16)]
  unfold doA
  have e : posE cSplit.chk f (List.range' (j : Int).toNat 16) = 0 := by
    rw [Int.toNat_natCast]
    exact posE_zero fun i hi => by
      have h1 : j ≤ i ∧ i < j + 16 := by have := List.mem_range'.1 hi; simp at this; omega
      have h2 := hf.grp i (by omega)
      rw [show 16 * (i / 16) = j by omega, hh] at h2
      show chkS (f i) = 0
      unfold chkS; rw [h2]; rfl
  rw [e, if_neg (by simp), if_neg (by simp [refP]), Int.toNat_natCast]
/-- What stands at page p: it and all pages behind it are to go back. -/
structure Bk (f : Pages) (m : Nat → Nat) (p : Nat) : Prop where
  good : Good f
  free : ∀ j, j < p → (f j).kd = 0
  m : MLe (4 * p) m
theorem Bk.next {f g : Pages} {m n : Nat → Nat} {p : Nat} (b : Bk f m p) (hg : Good g) (he : ∀ j, j < p → (g j).kd = 0) (hp : (g p).kd = 0) (hn : MLe (4 * p + 4) n) : Bk g n (p + 1) :=
  ⟨hg, fun j hj => by
    by_cases h : j < p
    · exact he j h
    · obtain rfl : j = p := by omega
      exact hp, hn⟩
theorem MLe.le {i k : Nat} {m : Nat → Nat} (h : MLe i m) (hk : i ≤ k) : MLe k m := fun j hj => Nat.le_trans (h j hj) hk
theorem good_one {f : Pages} (hf : Good f) (y : Int) (hy : 0 ≤ y ∧ y ≤ 3) (j : Nat) (hj : j < 1024) (hh : (f j).hu = false) : Good (updP f j ⟨y, false, fun _ => 0⟩) := by
  have h := good_turn hf [] (fun _ => 0) 0 (f j).kd y hy (j : Int) 1
  rw [turn_one 0 (f j).kd y j hj rfl hh] at h
  exact h
theorem upd_at (f : Pages) (j : Nat) (q : Pg) : updP f j q j = q := by unfold updP; rw [if_pos rfl]
theorem upd_lt (f : Pages) {j i : Nat} (q : Pg) (h : i < j) : updP f j q i = f i := by unfold updP; rw [if_neg (by omega)]
theorem good_grp {f : Pages} (hf : Good f) (j : Nat) (hj : j < 1024) (h16 : j % 16 = 0) (hh : (f j).hu = true) : Good (chgF chgS f (List.range' j 16)) := by
  have h := good_split hf [] (fun _ => 0) (j : Int)
  rw [split_one hf j hj h16 hh] at h
  exact h
theorem grp_at (f : Pages) (j : Nat) : chgF chgS f (List.range' j 16) j = { f j with hu := false } := by
  rw [chgF_at chgS _ f j List.nodup_range', if_pos (List.mem_range'.2 ⟨0, by omega, by omega⟩)]; rfl
theorem grp_lt (f : Pages) {i j : Nat} (h : i < j) : chgF chgS f (List.range' j 16) i = f i := by
  rw [chgF_at chgS _ f i List.nodup_range', if_neg fun hm => by have := List.mem_range'.1 hm; simp at this; omega]
/-- The first huge page that is met is the first of its group. -/
theorem Bk.first {f : Pages} {m : Nat → Nat} {p : Nat} (b : Bk f m p) (hp : p < 1024) (hh : (f p).hu = true) : p % 16 = 0 := by
  have h1 := b.good.grp p hp
  rw [hh] at h1
  have h2 := b.good.com (16 * (p / 16)) (by omega) h1.symm
  by_cases h : 16 * (p / 16) < p
  · have := b.free _ h; omega
  · omega
/-- All pages are free. -/
theorem Bk.all {f : Pages} {m : Nat → Nat} (b : Bk f m 1024) (j : Nat) (hj : j < 1024) : (f j).kd = 0 ∧ (f j).hu = false ∧ ∀ k, k < 64 → (f j).by' k = 0 := by
  have h := b.free j hj
  refine ⟨h, ?_, fun k hk => b.good.zer j hj (by omega) k hk⟩
  cases hh : (f j).hu with
  | false => rfl
  | true => have := b.good.com j hj hh; omega
end Go.Proofs.Ytjplihljmohpjaa
