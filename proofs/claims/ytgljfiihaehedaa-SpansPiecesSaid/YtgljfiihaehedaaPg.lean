/- Pages. -/
import Derived.Test.YtgljfiihaehedaaCons2
import Derived.Test.YtgljfiihaehedaaPieces0
import Derived.Laws.EntriesVeiled
namespace Go.Proofs.Ytgljfiihaehedaa
open Go.RowKit Go.Shelf
attribute [local go_sem] Oper.semAt_some

abbrev Pn := { p : Nat // p < 1024 }
def encN (x : Pn) : Array Value := #[.int .i64 (x.1 : Nat)]
def pgL (L : List Sp) : List Nat := (pcL 1 L).map (·.1)
def pgOf (x : Pc) : Pn := ⟨x.1.1, by have := x.2; omega⟩
theorem own_cells2 {β : Type} (B k : Nat) (o : Obj) (hc : o.isCells = true) : OwnFrom B (fun (_ : β) W => W.heap[k]? = some o) := fun _ A C row hs hg hr =>
  (hg.block k (Array.getElem?_eq_some_iff.1 hs).1 (fun e => by
    obtain ⟨_, o', h1, h2⟩ := hr k e.symm
    rw [hs] at h1; cases h1; rw [hc] at h2; cases h2)).trans hs
abbrev fPc (bk ba : Nat) : Value := .func (.func 72) #[] #[.pointer (some ⟨bk, 0, none⟩), .pointer (some ⟨ba, 0, none⟩)]

set_option maxRecDepth 100000 in
set_option maxHeartbeats 1000000 in
theorem Pages_ok (L : List Sp) (hL : SetL 0 L) (v : Value) (w : World) (h : SAt w v (toI L)) :
    Calls Try.prog 36 #[v] w fun e w' => ∃ BS ba bk u, e = .returned (.func (.func 69) #[] #[.pointer (some ⟨BS, 0, none⟩)]) ∧ Boxed w' BS 46 (fPc bk ba) ∧ Boxed w' ba 3 (.int .i64 1) ∧ Boxed w' bk 22 u ∧ SAt w' u (toI L) ∧ Below w.heap.size w w' := by
  have hp := fun w h => Pieces_ok L hL 1 (Nat.le_refl _) (by decide) v w h
  rw [show ((1 : Nat) : Int) = 1 from rfl] at hp
  have HP := Lib.hid hp
  clear hp
  go_enter Try.func36, Try.ntmps36
  go_wp2_with fail
  refine (HP.out _ h).mono ?_
  rintro e w1 ⟨ba, bk, rfl, bA, ⟨u, bK, hK⟩, B1⟩
  have D1 : Below w1.heap.size w1 (w1.alloc (.cells #[fPc bk ba] 46)) := (Below.refl _ _).alloc (Nat.le_refl _) _
  go_wp2_with fail
  go_ret
  exact ⟨w1.heap.size, ba, bk, u, rfl, Boxed.new w1 _ _, bA.alloc _, bK.alloc _, hK.later D1, B1.trans (D1.mono B1.size)⟩

set_option maxRecDepth 100000 in
set_option maxHeartbeats 4000000 in
theorem pg_in (n : Nat) (hn : 4 ≤ n) (l BS bk ba : Nat) (L : List Sp) (hL : SetL 0 L) (u : Value) (J Jx : List Pn → World → Prop) (W0 : World) (G : World → Prop) (fr : World → Nat → Prop) (Kp : World → World → Prop) (hC : Cons2 G fr Kp) (hG : G W0) (hfA : fr W0 ba) (hfu : L ≠ [] → ∀ k, u.ownBlock = some k → fr W0 k)
    (hJ : OwnFrom W0.heap.size J) (hJx : OwnFrom W0.heap.size Jx)
    (hY : ∀ (pre : List Pn) x W, J pre W → pre.length < 1025 → YieldAt Fence.wide (n - 1) Try.prog l (encN x) W fun e W' =>
      (e = .returned (.bool true) ∧ J (pre ++ [x]) W' ∧ Kp W W' ∧ KeepsFrom W0.heap.size W W') ∨ (e = .returned (.bool false) ∧ Jx (pre ++ [x]) W' ∧ KeepsFrom W0.heap.size W W'))
    (hbS : Boxed W0 BS 46 (fPc bk ba)) (hbK : Boxed W0 bk 22 u) (hu : SAt W0 u (toI L)) (hbA : Boxed W0 ba 3 (.int .i64 1)) (h0 : J [] W0) :
    CallsIn Fence.wide n Try.prog 69 #[.func (.yield l) #[] #[], .pointer (some ⟨BS, 0, none⟩)] W0 fun e W' => (∃ v, e = .returned v) ∧
      ((∃ ys, ys.map Subtype.val = pgL L ∧ J ys W') ∨ (∃ pre : List Pn, pre.map Subtype.val <+: pgL L ∧ Jx pre W')) := by
  refine callsIn_of_wp_marks Try.func69 rfl trivial ?_ rfl
  simp only [Try.ntmps69, List.size_toArray, List.length_cons, List.length_nil, Nat.reduceAdd, Nat.reduceSub, Array.replicate_succ, Array.replicate_zero, List.push_toArray, List.append_toArray, List.nil_append, List.cons_append]
  have qS := hbS.cell
  have hSl := hbS.lt
  have n1 : 1 ≤ n := by omega
  have n2 : 1 ≤ n - 1 := by omega
  have n3 : 1 ≤ n - 1 - 1 := by omega
  obtain ⟨WL, hWL⟩ : ∃ V, W0.alloc (.cells #[.func (.yield l) #[] #[]] 84) = V := ⟨_, rfl⟩
  have hbW : Below W0.heap.size W0 WL := by rw [← hWL]; exact (Below.refl _ _).alloc (Nat.le_refl _) _
  have bY : Boxed WL W0.heap.size 84 (.func (.yield l) #[] #[]) := by rw [← hWL]; exact Boxed.new W0 _ _
  have jL : J [] WL := by rw [← hWL]; exact hJ.alloc _ h0
  have gL := hC.gb hbW hG
  have fY : fr WL W0.heap.size := by rw [← hWL]; exact hC.new _ hG
  have fA := hC.fb hbW hbA.lt hG hfA
  have fu : L ≠ [] → ∀ k, u.ownBlock = some k → fr WL k := fun hne k hk => hC.fb hbW (SAt.own_lt hu (fun h1 => hne (List.eq_nil_of_length_eq_zero (by rw [← toI_len, h1]; rfl))) k hk) hG (hfu hne k hk)
  have hsz := hbW.size
  have qS2 := (hbS.kept (grown_of_below hbW) (by simp)).cell
  gi_wp2_with fail
  try rw [hWL]
  have hsq := it_g (n - 1) (by omega) bk ba L hL 1 (Nat.le_refl _) (by decide) u G fr Kp hC.toCons WL gL fA fu (hbK.kept (grown_of_below hbW) (by simp)) (hu.later hbW) (hbA.kept (grown_of_below hbW) (by simp))
  clear hWL qS qS2
  refine range_w rfl n1 (gf := 72) (lb := #[.pointer (some ⟨bk, 0, none⟩), .pointer (some ⟨ba, 0, none⟩)]) rfl (wide_fn _) (enters_of Try.func72 (by kernel_rfl) rfl) hsq (fun h k => hC.kt h k) (fun _ V k o o' hk hc _ => hC.kb V k o o' hk hc) (fun _ => rfl)
    (fun pre V => J (pre.map pgOf) V ∧ Kp WL V) (fun c pre V => c = .ret ∧ Jx (pre.map pgOf) V)
    ?own ?ownx ?start
    (fun x a' V => ∃ k, a' = { tmps := #[.func (.yield l) #[] #[], .pointer (some ⟨BS, 0, none⟩), .pointer (some ⟨W0.heap.size, 0, none⟩), .pointer (some ⟨k, 0, none⟩), fPc bk ba, .agg #[.int .i64 (x.1.1 : Nat), .int .i64 (x.1.2 : Nat)], undef, undef, undef, undef, undef], defers := [] } ∧ XBox V k ((x.1.1 : Int), (x.1.2 : Int))) ?ownA ?assign ?body ?done ?stop
  case own => exact OwnFrom.and (fun s W W' row hs hg hr => hJ _ W W' row hs hg (fun r e => ⟨Nat.le_trans hsz (hr r e).1, (hr r e).2⟩)) (hC.own _ _)
  case ownx => exact fun c => OwnFrom.and (ownFrom_pure _ (fun _ => c = .ret)) (fun s W W' row hs hg hr => hJx _ W W' row hs hg (fun r e => ⟨Nat.le_trans hsz (hr r e).1, (hr r e).2⟩))
  case start => exact ⟨jL, hC.kw (Below.refl _ _)⟩
  case ownA =>
    rintro x a' _ A C row ⟨k, ha, hb⟩ hg hr
    exact ⟨k, ha, own_cells2 (β := Unit) _ _ _ rfl () A C row hb hg hr⟩
  case assign =>
    rintro l' pre x V K ⟨hJV, hKV⟩ hK
    simp only [encP]
    gi_wp2
    have hb1 : Below V.heap.size V (V.alloc (.cells #[.int .i64 (x.1.1 : Nat), .int .i64 (x.1.2 : Nat)] 31)) := (Below.refl _ _).alloc (Nat.le_refl _) _
    exact hK _ _ ((KeepsOthers.alloc V _).from _) (hC.kw hb1) ⟨hJ.alloc _ hJV, hC.kt hKV (hC.kw hb1)⟩ ⟨V.heap.size, rfl, World.alloc_heap_new V _⟩
  case body =>
    rintro l' pre x a' V ⟨hJV, hKV⟩ ⟨k, rfl, hrb⟩ hlen
    have cY := (show Boxed V W0.heap.size 84 (.func (.yield l) #[] #[]) from (hC.kf gL hKV fY bY rfl).1).cell
    have r0 := hrb.c0
    simp only at r0
    obtain ⟨fn, tmps, assign, body, hy, hR⟩ := hY (pre.map pgOf) (pgOf x) V hJV (by rw [List.length_map]; exact hlen)
    dsimp only [encN, pgOf] at hy
    have hmap : (pre ++ [x]).map pgOf = pre.map pgOf ++ [pgOf x] := by rw [List.map_append, List.map_singleton]
    have HM := Lib.hid hmap
    have HKV := Lib.hid hKV
    clear hmap hKV hlen
    gi_wp2_with fail
    refine (round_in hR).mono ?_
    rintro e2 W2 (⟨rfl, hJ2, hk2, hF2⟩ | ⟨rfl, hJx2, hF2⟩)
    · gi_wp2
      exact ⟨keepsFrom_up hF2 hsz, hk2, by rw [HM.out]; exact hJ2, hC.kt HKV.out hk2⟩
    · gi_wp2
      exact ⟨keepsFrom_up hF2 hsz, rfl, by rw [HM.out]; exact hJx2⟩
  case done =>
    rintro D ys V hD hys ⟨hJV, _⟩ hK
    have hJD := hJ.putObj (.deferred none) hJV (by omega) hK rfl
    gi_wp2
    refine ⟨by simp, .inl ⟨D, _, rfl, run_takeDeferred hK, ?_⟩⟩
    refine ⟨_, results_none rfl _ _ _, ⟨_, rfl⟩, .inl ⟨ys.map pgOf, ?_, hJD⟩⟩
    unfold pgL
    rw [← hys, List.map_map, List.map_map]
    rfl
  case stop =>
    rintro D c pre V hD hSp ⟨rfl, hJV⟩ hK
    have hJD := hJx.putObj (.deferred none) hJV (by omega) hK rfl
    gi_wp2
    refine ⟨by simp, .inl ⟨D, _, rfl, run_takeDeferred hK, ?_⟩⟩
    refine ⟨_, results_none rfl _ _ _, ⟨_, rfl⟩, .inr ⟨pre.map pgOf, ?_, hJD⟩⟩
    obtain ⟨r, hr⟩ := hSp
    unfold pgL
    rw [← hr, List.map_append, List.map_map, List.map_map]
    exact ⟨r.map (·.1), rfl⟩

theorem pg_g (n : Nat) (hn : 4 ≤ n) (BS bk ba : Nat) (L : List Sp) (hL : SetL 0 L) (u : Value) (G : World → Prop) (fr : World → Nat → Prop) (Kp : World → World → Prop) (hC : Cons2 G fr Kp) (w : World) (hG : G w) (hfA : fr w ba) (hfu : L ≠ [] → ∀ k, u.ownBlock = some k → fr w k)
    (hbS : Boxed w BS 46 (fPc bk ba)) (hbK : Boxed w bk 22 u) (hu : SAt w u (toI L)) (hbA : Boxed w ba 3 (.int .i64 1)) :
    SeqG Fence.wide n Try.prog 69 #[.pointer (some ⟨BS, 0, none⟩)] encN (fun _ => Kp) (fun ys => ys.map Subtype.val = pgL L) (fun pre => pre.map Subtype.val <+: pgL L) 1025 w := by
  intro l J Jx W hW hJ hJx hY h0
  refine pg_in n hn l BS bk ba L hL u J Jx W G fr Kp hC (hC.gb hW hG) (hC.fb hW hbA.lt hG hfA) (fun hne k hk => hC.fb hW ?_ hG (hfu hne k hk)) hJ hJx hY (hbS.kept (grown_of_below hW) (by simp)) (hbK.kept (grown_of_below hW) (by simp)) (hu.later hW) (hbA.kept (grown_of_below hW) (by simp)) h0
  exact SAt.own_lt hu (fun h1 => hne (List.eq_nil_of_length_eq_zero (by rw [← toI_len, h1]; rfl))) k hk
end Go.Proofs.Ytgljfiihaehedaa
