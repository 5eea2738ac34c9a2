/- The range function that yields the runs. -/
import Derived.Test.YtpplleojdcgceaaDoorNextX
namespace Go.Proofs.YtpplleojdcgceaaDoor
open Go.RowKit Go.Shelf
attribute [local go_sem] Oper.semAt_some

theorem nextB_spec (ws : List Nat) (on : Bool) (a n : Nat) (h : a ≤ n) : a ≤ nextB ws on a n ∧ nextB ws on a n ≤ n ∧ (nextB ws on a n < n → btW ws (nextB ws on a n) = on) ∧ ∀ i, a ≤ i → i < nextB ws on a n → btW ws i ≠ on := by
  have hp := hits_pairwise ws on a n
  have hm := hits_mem ws on a n
  unfold nextB
  cases hh : hits ws on a n with
  | nil =>
    rw [hh] at hm
    refine ⟨h, Nat.le_refl _, fun h1 => absurd h1 (Nat.lt_irrefl _), fun i h1 h2 h3 => ?_⟩
    have := (hm i).2 ⟨h1, h2, h3⟩
    cases this
  | cons j l =>
    rw [hh] at hm hp
    have hj := (hm j).1 List.mem_cons_self
    show a ≤ j ∧ j ≤ n ∧ (j < n → btW ws j = on) ∧ ∀ i, a ≤ i → i < j → btW ws i ≠ on
    refine ⟨hj.1, by omega, fun _ => hj.2.2, fun i h1 h2 h3 => ?_⟩
    have hi := (hm i).2 ⟨h1, by omega, h3⟩
    rcases List.mem_cons.1 hi with rfl | hi
    · omega
    · have := (List.pairwise_cons.1 hp).1 i hi; omega

/-- The runs from the one on that begins at s. -/
def runsF (ws : List Nat) (on : Bool) (n : Nat) : Nat → Nat → List (Nat × Nat)
  | 0, _ => []
  | f + 1, s => if s < n then (s, nextB ws (!on) s n) :: runsF ws on n f (nextB ws on (nextB ws (!on) s n) n) else []
def runsL (ws : List Nat) (on : Bool) (a n : Nat) : List (Nat × Nat) := runsF ws on n (n + 1) (nextB ws on a n)
abbrev Rn (n : Nat) := { x : Nat × Nat // x.1 < x.2 ∧ x.2 ≤ n }
def encR {n : Nat} (x : Rn n) : Array Value := #[.agg #[.int .i64 (x.1.1 : Nat), .int .i64 (x.1.2 : Nat)]]
/-- What the rounds of a loop over runs must keep. -/
def RK (B0 : Nat) (v : Value) (ws : List Nat) (k : Nat) : Prop := (B0 ≤ k ∧ k ≤ B0 + 2) ∨ (ws ≠ [] ∧ v.ownBlock = some k) ∨ k = 0
theorem Gd.keep {p : Nat → Prop} {A C : World} (h : Gd A) (hk : KC p A C) (hp : p 0) : Gd C := fun k h64 => by
  obtain ⟨o, ho, hco⟩ := cells_of_cell (h k h64)
  rw [World.cell?_of_block (w := A) ((hk _ o hp ho hco).trans ho.symm)]
  exact h k h64
theorem Gd.lt {W : World} (h : Gd W) : 0 < W.heap.size := World.block_lt_of_cell? _ _ (h 0 (by decide))

set_option maxRecDepth 100000 in
set_option maxHeartbeats 4000000 in
theorem runs1_in (n : Nat) (hn : 1 ≤ n) (l B0 B1 B2 N a : Nat) (v : Value) (ws : List Nat) (hf : Fit64 ws) (hN : N ≤ 4096) (hl : ws.length = (N + 63) / 64) (ha : a ≤ N) (on : Bool) (p : Nat → Prop)
    (hp0 : p B0) (hp2 : p B2) (hpw : ws ≠ [] → ∀ k, v.ownBlock = some k → p k) (hpg : p 0) (J Jx : List (Rn N) → World → Prop) (W0 : World) (hJ : OwnFrom W0.heap.size J)
    (hY : ∀ (pre : List (Rn N)) x W, J pre W → pre.length < 5000 → YieldAt Fence.wide (n - 1) Tryd.prog l (encR x) W fun e W' =>
      (e = .returned (.bool true) ∧ J (pre ++ [x]) W' ∧ KC p W W' ∧ KeepsFrom W0.heap.size W W') ∨ (e = .returned (.bool false) ∧ Jx (pre ++ [x]) W' ∧ KeepsFrom W0.heap.size W W'))
    (hb0 : BBox W0 B0 N v) (hb1 : Boxed W0 B1 3 (.int .i64 a)) (hb2 : Boxed W0 B2 4 (.bool on)) (hw : WAt W0 v ws) (hgd : Gd W0) (h0 : J [] W0) :
    CallsIn Fence.wide n Tryd.prog 78 #[.func (.yield l) #[] #[], .pointer (some ⟨B0, 0, none⟩), .pointer (some ⟨B1, 0, none⟩), .pointer (some ⟨B2, 0, none⟩)] W0 fun e W' => (∃ v, e = .returned v) ∧
      ((∃ ys, ys.map Subtype.val = runsL ws on a N ∧ J ys W') ∨ (∃ pre : List (Rn N), pre.map Subtype.val <+: runsL ws on a N ∧ Jx pre W')) := by
  refine callsIn_of_wp Tryd.func78 rfl trivial ?_ rfl
  simp only [Tryd.ntmps78, List.size_toArray, List.length_cons, List.length_nil, Nat.reduceAdd, Nat.reduceSub, Array.replicate_succ, Array.replicate_zero, List.push_toArray, List.append_toArray, List.nil_append, List.cons_append]
  have hf1 := wide_fn 62
  have HL := Lib.hid hl
  obtain ⟨s0, hs0⟩ : ∃ s, nextB ws on a N = s := ⟨_, rfl⟩
  have hsp := nextB_spec ws on a N ha
  rw [hs0] at hsp
  have HS0 := Lib.hid hs0
  have HSP := Lib.hid hsp
  have hz0 := hb0.lt
  have hz1 := hb1.lt
  have hz2 := hb2.lt
  have q0 := hb0.c0
  have q0' := hb0.c1
  have q1 := hb1.cell
  have q2 := hb2.cell
  clear hl hs0 hsp
  gi_wp2_with fail
  refine (callsIn_wide.2 (next_is N a s0 v ws on HS0.out hf hN HL.out _ hgd hw)).mono ?_
  rintro e W1 ⟨rfl, hB1⟩
  have r0 := hb0.later hB1
  have r2 : Boxed W1 B2 4 (.bool on) := hb2.kept (grown_of_below hB1) (by simp)
  have rw1 := hw.later hB1
  have rg := hgd.later hB1
  have rJ := hJ _ _ _ none h0 (grown_of_below hB1) (fun _ e => by cases e)
  have hR0 : Hid (([] : List (Rn N)).map Subtype.val ++ runsF ws on N (N + 1) s0 = runsL ws on a N) := by unfold Hid runsL; rw [HS0.out]; rfl
  clear q0 q0' q1 q2 hz0 hz1 hz2 hB1
  gi_wp2_with fail
  gi_loopw [5] (fun u wr => ∃ (s f : Nat) (pre : List (Rn N)), u = .int .i64 s ∧ s ≤ N ∧ Hid (s < N → btW ws s = on) ∧ N < s + f ∧ J pre wr ∧ BBox wr B0 N v ∧ Boxed wr B2 4 (.bool on) ∧ WAt wr v ws ∧ Gd wr ∧ Hid (pre.map Subtype.val ++ runsF ws on N f s = runsL ws on a N) ∧ pre.length + f ≤ 4097) (fun u _ => N - (intOf u).toNat)
  case atStart => exact ⟨s0, N + 1, [], rfl, HSP.out.2.1, HSP.out.2.2.1, by omega, rJ, r0, r2, rw1, rg, hR0, by simp; omega⟩
  case round =>
    clear r0 r2 rw1 rg rJ hR0
    obtain ⟨s, f, pre, rfl, hsN, HSO, hfu, hJs, r0, r2, rw1, rg, HP, hpl⟩ := hrel
    have q0 := r0.c0
    have q0' := r0.c1
    have q2 := r2.cell
    by_cases hlt : s < N
    · obtain ⟨f, rfl⟩ : ∃ g, f = g + 1 := ⟨f - 1, by omega⟩
      obtain ⟨e, he⟩ : ∃ x, nextB ws (!on) s N = x := ⟨_, rfl⟩
      have hes := nextB_spec ws (!on) s N hsN
      rw [he] at hes
      have hse : s < e := by
        rcases Nat.lt_or_ge s e with h | h
        · exact h
        · have h1 : e = s := by omega
          rw [h1] at hes
          have := hes.2.2.1 hlt
          rw [HSO.out hlt] at this
          cases on <;> cases this
      obtain ⟨s', hs'⟩ : ∃ x, nextB ws on e N = x := ⟨_, rfl⟩
      have hss := nextB_spec ws on e N hes.2.1
      rw [hs'] at hss
      have heN := hes.2.1
      have HE := Lib.hid he
      have HS' := Lib.hid hs'
      have HSS := Lib.hid hss
      have hx : (s, e).1 < (s, e).2 ∧ (s, e).2 ≤ N := ⟨hse, heN⟩
      have HS : Hid ((pre ++ [(⟨(s, e), hx⟩ : Rn N)]).map Subtype.val ++ runsF ws on N f s' = runsL ws on a N) := by
        have h1 := HP.out
        rw [runsF, if_pos hlt, he, hs'] at h1
        unfold Hid
        rw [List.map_append, List.map_singleton, List.append_assoc]
        exact h1
      have hlt1 : (s : Int) < (N : Int) := by omega
      clear he hs' hes hss
      gi_wp2_with fail
      refine (callsIn_wide.2 (next_is N s e v ws (!on) HE.out hf hN HL.out _ rg rw1)).mono ?_
      rintro e0 W2 ⟨rfl, hB2⟩
      have t0 := r0.later hB2
      have t2 : Boxed W2 B2 4 (.bool on) := r2.kept (grown_of_below hB2) (by simp)
      have tw := rw1.later hB2
      have tg := rg.later hB2
      have tJ := hJ _ _ _ none hJs (grown_of_below hB2) (fun _ e => by cases e)
      obtain ⟨fn, tmps, assign, body, hy, hR⟩ := hY pre ⟨(s, e), hx⟩ W2 tJ (by omega)
      dsimp only [encR] at hy
      clear q0 q0' q2 r0 r2 rw1 rg hB2 hJs
      gi_wp2_with fail
      refine hR.mono ?_
      rintro e2 W3 (⟨rfl, hJ2, hk2, _⟩ | ⟨rfl, hJx2, _⟩)
      · have k0 : BBox W3 B0 N v := hk2 B0 _ hp0 t0 rfl
        have k2 : Boxed W3 B2 4 (.bool on) := hk2 B2 _ hp2 t2 rfl
        have kw := tw.keep hk2 hpw
        have kg := tg.keep hk2 hpg
        have q0 := k0.c0
        have q0' := k0.c1
        have q2 := k2.cell
        clear hk2 t0 t2 tw tg
        gi_wp2_with fail
        refine (callsIn_wide.2 (next_is N e s' v ws on HS'.out hf hN HL.out _ kg kw)).mono ?_
        rintro e4 W4 ⟨rfl, hB4⟩
        have m0 := k0.later hB4
        have m2 : Boxed W4 B2 4 (.bool on) := k2.kept (grown_of_below hB4) (by simp)
        have mw := kw.later hB4
        have mg := kg.later hB4
        have mJ := hJ _ _ _ none hJ2 (grown_of_below hB4) (fun _ e => by cases e)
        gi_wp2
        go_roundw
        case rel => exact ⟨s', f, _, rfl, HSS.out.2.1, HSS.out.2.2.1, by have := HSS.out.1; omega, mJ, m0, m2, mw, mg, HS, by rw [List.length_append, List.length_singleton]; omega⟩
        case measure => have := HSS.out.1; have := HSS.out.2.1; simp [intOf]; omega
      · gi_wp2
        refine bodyPost_ret (results_none rfl _ _ _) rfl ?_
        exact ⟨⟨_, rfl⟩, .inr ⟨_, ⟨_, HS.out⟩, hJx2⟩⟩
    · have h1 := HP.out
      have h2 : runsF ws on N f s = [] := by cases f with | zero => rfl | succ f => rw [runsF, if_neg hlt]
      rw [h2, List.append_nil] at h1
      have HP2 := Lib.hid h1
      clear h1 h2
      gi_wp2
      go_end0
      exact ⟨⟨_, rfl⟩, .inl ⟨pre, HP2.out, hJs⟩⟩

theorem runs_g (n : Nat) (hn : 1 ≤ n) (B0 N a : Nat) (v : Value) (ws : List Nat) (hf : Fit64 ws) (hN : N ≤ 4096) (hl : ws.length = (N + 63) / 64) (ha : a ≤ N) (on : Bool) (w : World)
    (hb0 : BBox w B0 N v) (hb1 : Boxed w (B0 + 1) 3 (.int .i64 a)) (hb2 : Boxed w (B0 + 2) 4 (.bool on)) (hw : WAt w v ws) (hgd : Gd w) :
    SeqG Fence.wide n Tryd.prog 78 #[.pointer (some ⟨B0, 0, none⟩), .pointer (some ⟨B0 + 1, 0, none⟩), .pointer (some ⟨B0 + 2, 0, none⟩)] (encR (n := N)) (fun _ => KC (RK B0 v ws)) (fun ys => ys.map Subtype.val = runsL ws on a N) (fun pre => pre.map Subtype.val <+: runsL ws on a N) 5000 w := by
  intro l J Jx W hW hJ _ hY h0
  exact runs1_in n hn l B0 (B0 + 1) (B0 + 2) N a v ws hf hN hl ha on (RK B0 v ws) (.inl (by omega)) (.inl (by omega)) (fun hne k hk => .inr (.inl ⟨hne, hk⟩)) (.inr (.inr rfl)) J Jx W hJ hY
    (hb0.later hW) (hb1.kept (grown_of_below hW) (by simp)) (hb2.kept (grown_of_below hW) (by simp)) (hw.later hW) (hgd.later hW) h0

theorem runsFrom_any (n : Nat) (N a : Int) (v : Value) (on : Bool) (w : World) :
    CallsIn Fence.wide n Tryd.prog 65 #[bv N v, .int .i64 a, .bool on] w fun e w' => e = .returned (.func (.func 78) #[] #[.pointer (some ⟨w.heap.size, 0, none⟩), .pointer (some ⟨w.heap.size + 1, 0, none⟩), .pointer (some ⟨w.heap.size + 2, 0, none⟩)]) ∧
      ((w.alloc (.cells #[.int .i64 N, v] 24)).alloc (.cells #[.int .i64 a] 3)).alloc (.cells #[.bool on] 4) = w' := by
  refine callsIn_of_wp Tryd.func65 rfl trivial ?_ rfl
  simp only [Tryd.ntmps65, List.size_toArray, List.length_cons, List.length_nil, Nat.reduceAdd, Nat.reduceSub, Array.replicate_succ, Array.replicate_zero, List.push_toArray, List.append_toArray, List.nil_append, List.cons_append]
  gi_wp2
  go_ret
  exact ⟨rfl, rfl⟩
theorem boxes3 (W : World) (N : Int) (v : Value) (a : Int) (on : Bool) : ∃ WL, ((W.alloc (.cells #[.int .i64 N, v] 24)).alloc (.cells #[.int .i64 a] 3)).alloc (.cells #[.bool on] 4) = WL ∧
    Below W.heap.size W WL ∧ WL.heap.size = W.heap.size + 3 ∧ BBox WL W.heap.size N v ∧ Boxed WL (W.heap.size + 1) 3 (.int .i64 a) ∧ Boxed WL (W.heap.size + 2) 4 (.bool on) := by
  refine ⟨_, rfl, (((Below.refl _ W).alloc (Nat.le_refl _) _).alloc (by simp) _).alloc (by simp; omega) _, by simp, ((BBox.new W _ _).alloc _).alloc _, ?_, ?_⟩
  · have := Boxed.new (W.alloc (.cells #[.int .i64 N, v] 24)) 3 (.int .i64 a)
    rw [World.size_alloc] at this
    exact this.alloc _
  · have := Boxed.new ((W.alloc (.cells #[.int .i64 N, v] 24)).alloc (.cells #[.int .i64 a] 3)) 4 (.bool on)
    simp only [World.size_alloc] at this
    exact this
end Go.Proofs.YtpplleojdcgceaaDoor
