/- Block. -/
import Derived.Test.YtpplleojdcgceaaDoorBest
import Derived.Sort.LoopGhostIn
namespace Go.Proofs.YtpplleojdcgceaaDoor
open Go.RowKit Go.Shelf
attribute [local go_sem] Oper.semAt_some

def markOf (D : Nat) : Deferred := { target := .collected D, args := #[] }
/-- The blocks for the rounds' deferred calls are taken up, one by one, at the function's return. -/
theorem leaves_marks {F : Fence} {n : Nat} {P : Program} {fn : Func} {tmps : Array Value} {R : Ending → World → Prop} (n0 : Nat) : ∀ (Ds : List Nat) (W : World), Ds.Nodup →
    (∀ D ∈ Ds, n0 ≤ D ∧ W.heap[D]? = some (.deferred (some []))) → (∀ W', (∀ k, k ∉ Ds → W'.heap[k]? = W.heap[k]?) → Below n0 W W' → LeavesInM F n P fn tmps R [] .returning W') → LeavesInM F n P fn tmps R (Ds.map markOf) .returning W
  | [], W, _, _, h => h W (fun _ _ => rfl) (Below.refl _ _)
  | D :: Ds, W, hnd, hD, h => by
    have hD0 := hD D List.mem_cons_self
    have hnd' := List.nodup_cons.1 hnd
    refine ⟨by simp, .inl ⟨D, _, rfl, run_takeDeferred hD0.2, ?_⟩⟩
    refine leaves_marks n0 Ds _ hnd'.2 (fun D' hD' => ?_) (fun W' hk hb => h W' (fun k hk' => ?_) ?_)
    · have := hD D' (List.mem_cons_of_mem _ hD')
      exact ⟨this.1, (World.putObj_heap_other (by intro e; subst e; exact hnd'.1 hD')).trans this.2⟩
    · rw [hk k (fun h => hk' (List.mem_cons_of_mem _ h)), World.putObj_heap_other (by intro e; subst e; exact hk' List.mem_cons_self)]
    · exact ((Below.refl n0 W).grown (grownBy_putObj' W D _) (Nat.le_trans hD0.1 (Nat.le_of_lt (Array.getElem?_eq_some_iff.1 hD0.2).1)) (fun k e => by cases e; exact hD0.1)).trans hb

/-- The first block of clear bits from b on. -/
def blkF (ws : List Nat) (sz n : Nat) : Nat → Nat → Option Nat
  | 0, _ => none
  | f + 1, b => if b + sz ≤ n then (if (hits ws true b (b + sz)).isEmpty then some b else blkF ws sz n f (b + sz)) else none
def blB (ws : List Nat) (k n : Nat) : Int × Int := match blkF ws (2 ^ k) n (n + 1) 0 with | some j => ((j : Int), 0) | none => (0, 4)
/-- What Block answers. -/
def blockB (N : Int) (ws : List Nat) (k : Int) : Int × Int := if checkB N ws ≠ 0 then (0, checkB N ws) else if k < 0 ∨ 12 < k then (0, 7) else blB ws k.toNat N.toNat

/-- Between two rounds of the loop over blocks. -/
def HB (w : World) (n sz : Nat) (v : Value) (ws : List Nat) (m b : Nat) (Ds : List Nat) (W : World) : Prop :=
  Hid (blkF ws sz n m b = blkF ws sz n (n + 1) 0) ∧ b ≤ n ∧ n < b + m ∧ BBox W w.heap.size n v ∧ Ds.Nodup ∧ (∀ D ∈ Ds, w.heap.size ≤ D ∧ W.heap[D]? = some (.deferred (some []))) ∧ Below w.heap.size w W
def IAb (w : World) (n s sz : Nat) (v : Value) (ws : List Nat) (m : Nat) (a : Act) (W : World) : Prop :=
  ∃ (b : Nat) (Ds : List Nat) (u9 u10 u11 u12 u13 u14 u15 u16 u17 u18 u19 u20 u21 u22 u23 u24 u25 u26 u27 u28 u29 u30 u31 u32 u33 u34 u35 u36 u37 u38 u39 u40 u41 u42 u43 u44 u45 u46 u47 u48 : Value), HB w n sz v ws m b Ds W ∧ a = { tmps := #[bv n v, .int .i64 (s : Int), .pointer (some ⟨w.heap.size, 0, none⟩), undef, .int .i64 0, .int .i64 0, .int .i64 0, .int .i64 (sz : Int), .int .i64 (b : Int), u9, u10, u11, u12, u13, u14, u15, u16, u17, u18, u19, u20, u21, u22, u23, u24, u25, u26, u27, u28, u29, u30, u31, u32, u33, u34, u35, u36, u37, u38, u39, u40, u41, u42, u43, u44, u45, u46, u47, u48], defers := Ds.map markOf }
/-- Between two rounds over the pieces of a block. -/
def JB (w : World) (n : Nat) (v : Value) (Ds : List Nat) (V : World) : Prop := BBox V w.heap.size n v ∧ (∀ D ∈ Ds, w.heap.size ≤ D ∧ V.heap[D]? = some (.deferred (some []))) ∧ Below w.heap.size w V
theorem JB_own {β : Type} (w : World) (n : Nat) (v : Value) (Ds : List Nat) (B : Nat) (hB : w.heap.size ≤ B) (hD : ∀ D ∈ Ds, D < B) : OwnFrom B (fun (_ : β) V => JB w n v Ds V) := by
  rintro s X Y row ⟨h1, h2, h3⟩ hg hr
  refine ⟨own_bbox (β := Unit) B _ _ _ () X Y row h1 hg hr, fun D hd => ⟨(h2 D hd).1, ?_⟩, h3.grown hg h3.size (fun r e => Nat.le_trans hB (hr r e).1)⟩
  exact ownFrom_block (β := Unit) _ (hD D hd) () X Y row (h2 D hd).2 hg hr
theorem posW_ne (i u : Nat) (hu : u < 18446744073709551616) (h0 : u ≠ 0) : posW (i, u) ≠ [] := by
  intro h
  have := posW_head i u hu (by omega)
  rw [h] at this; cases this
def cl (ws : List Nat) {L : Nat} (pre : List (Pw L)) : List Nat := ((pre.map Subtype.val).map (fw ws true)).flatMap posW
theorem cl_snoc (ws : List Nat) {L : Nat} (pre : List (Pw L)) (x : Pw L) : cl ws (pre ++ [x]) = cl ws pre ++ posW (fw ws true x.1) := by
  unfold cl; rw [List.map_append, List.map_singleton, List.map_append, List.map_singleton, List.flatMap_append, List.flatMap_singleton]

set_option maxRecDepth 100000 in
set_option maxHeartbeats 4000000 in
theorem Block_ok (n s : Nat) (v : Value) (ws : List Nat) (hf : Fit64 ws) (w : World) (h : WAt w v ws) (hr : checkB n ws = 0) (hs : s ≤ 12) :
    Calls Tryd.prog 39 #[bv n v, .int .i64 s] w fun e w' => e = .returned (.tuple #[.int .i64 (blB ws s n).1, .int .i64 (blB ws s n).2]) ∧ Below w.heap.size w w' := by
  obtain ⟨n', hn', hn4, hlen⟩ := check_ok hr
  obtain rfl : n = n' := by omega
  have HR := Lib.hid hr
  have HL := Lib.hid hlen
  clear hr hn' hlen
  obtain ⟨sz, hsz⟩ : ∃ z, 2 ^ s = z := ⟨_, rfl⟩
  have hsz1 : 1 ≤ sz ∧ sz ≤ 4096 := by
    rw [← hsz]
    exact ⟨Nat.one_le_two_pow, Nat.le_trans (Nat.pow_le_pow_right (by decide) hs) (by decide)⟩
  have hshl : (2 : Int) ^ s = (sz : Int) := by rw [← hsz, Int.natCast_pow]; rfl
  have HB0 : Hid (blB ws s n = match blkF ws sz n (n + 1) 0 with | some j => ((j : Int), 0) | none => (0, 4)) := by unfold Hid blB; rw [hsz]
  obtain ⟨va, vcap, rfl⟩ := h.form
  have m1 : ¬ ((s : Int) < 0) := by omega
  have m2 : ¬ ((12 : Int) < (s : Int)) := by omega
  have HSH := Lib.hid hshl
  have hwr : IntKind.i64.wrap ((2 : Int) ^ s) = (sz : Int) := by rw [hshl]; exact IntWalk.i64_in _ (by omega)
  clear hsz hs hshl
  refine (callsIn_wide (n := 5)).1 ?_
  refine callsIn_of_wp_marks Tryd.func39 rfl trivial ?_ rfl
  simp only [Tryd.ntmps39, List.size_toArray, List.length_cons, List.length_nil, Nat.reduceAdd, Nat.reduceSub, Array.replicate_succ, Array.replicate_zero, List.push_toArray, List.append_toArray, List.nil_append, List.cons_append]
  have hf1 := wide_fn 19
  have hf2 := wide_fn 69
  have b0 : Below w.heap.size w (w.alloc (.cells #[.int .i64 (n : Int), .slice va ws.length vcap] 24)) := (Below.refl _ _).alloc (Nat.le_refl _) _
  gi_wp2_with fail
  refine wpIn_wide.2 ?_
  apply wp_scope_straight
  refine (wpIn_wide (n := 5)).1 ?_
  gi_wp2_with fail
  refine (callsIn_wide.2 (Check_is n _ ws 0 HR.out hf _ (h.later b0))).mono ?_
  rintro e w1 ⟨rfl, hB⟩
  have hb1 : BBox w1 w.heap.size n (.slice va ws.length vcap) := (BBox.new w _ _).later hB
  have hB1 : Below w.heap.size w w1 := b0.trans (hB.mono b0.size)
  clear hB b0
  gi_wp2_with fail
  refine wpIn_label ?_
  gi_wp2_with fail
  refine wpIn_loop_ghost (IAb w n s sz (.slice va ws.length vcap) ws) (n + 1) ?_ ?_
  · exact ⟨0, [], _, _, _, _, _, _, _, _, _, _, _, _, _, _, _, _, _, _, _, _, _, _, _, _, _, _, _, _, _, _, _, _, _, _, _, _, _, _, _, _, ⟨rfl, Nat.zero_le _, by omega, hb1, List.nodup_nil, (fun D hD => by cases hD), hB1⟩, rfl⟩
  · rintro m a W ⟨b, Ds, u9, u10, u11, u12, u13, u14, u15, u16, u17, u18, u19, u20, u21, u22, u23, u24, u25, u26, u27, u28, u29, u30, u31, u32, u33, u34, u35, u36, u37, u38, u39, u40, u41, u42, u43, u44, u45, u46, u47, u48, ⟨HF, hbn, hm, hbx, hnd, hDs, hbel⟩, rfl⟩
    obtain ⟨k, rfl⟩ : ∃ k, m = k + 1 := ⟨m - 1, by omega⟩
    have c0 := hbx.c0
    by_cases hle : b + sz ≤ n
    · have hle1 : (b : Int) + (sz : Int) ≤ (n : Int) := by omega
      gi_wp2_with fail
      refine (pieces_any 4 _ _ _).mono ?_
      rintro e w' ⟨rfl, rfl⟩
      gi_wp2_with fail
      have f1 : Boxed ((W.alloc (.cells #[.int .i64 (b : Int)] 3)).alloc (.cells #[.int .i64 ((b : Int) + (sz : Int))] 3)) W.heap.size 3 (.int .i64 b) := (Boxed.new W _ _).alloc _
      have f2 : Boxed ((W.alloc (.cells #[.int .i64 (b : Int)] 3)).alloc (.cells #[.int .i64 ((b : Int) + (sz : Int))] 3)) (W.heap.size + 1) 3 (.int .i64 ((b + sz : Nat) : Int)) := by
        have := Boxed.new (W.alloc (.cells #[.int .i64 (b : Int)] 3)) 3 (.int .i64 ((b : Int) + (sz : Int)))
        rw [World.size_alloc] at this
        exact this
      obtain ⟨WL, hWL⟩ : ∃ x, (W.alloc (.cells #[.int .i64 (b : Int)] 3)).alloc (.cells #[.int .i64 ((b : Int) + (sz : Int))] 3) = x := ⟨_, rfl⟩
      have hzL : WL.heap.size = W.heap.size + 2 := by rw [← hWL]; simp
      have hbW : Below W.heap.size W WL := by rw [← hWL]; exact ((Below.refl _ W).alloc (Nat.le_refl _) _).alloc (by simp) _
      rw [hWL] at f1 f2 ⊢
      clear hWL
      have hDW : ∀ D ∈ Ds, D < W.heap.size := fun D hd => (Array.getElem?_eq_some_iff.1 (hDs D hd).2).1
      have hbL : Below w.heap.size w WL := hbel.trans (hbW.mono hbel.size)
      have hJ0 : JB w n (.slice va ws.length vcap) Ds WL := ⟨hbx.later hbW, fun D hd => ⟨(hDs D hd).1, (hbW.block D (hDW D hd)).trans (hDs D hd).2⟩, hbL⟩
      have hle2 : b + sz ≤ 64 * ws.length := by have := HL.out; omega
      refine range_g rfl (by decide) (gf := 79) (lb := #[.pointer (some ⟨W.heap.size, 0, none⟩), .pointer (some ⟨W.heap.size + 1, 0, none⟩)]) rfl (wide_fn _) (enters_of Tryd.func79 (by kernel_rfl) rfl)
        (pieces_g 4 (by decide) W.heap.size (W.heap.size + 1) ws.length b (b + sz) hle2 (by have := HL.out; omega) (fun _ k => k = W.heap.size + 1) (fun _ => rfl) WL f1 f2) (fun h k => KC.trans h k) (fun _ V k o o' hk hc _ => KC.putObj V k o o' hk hc) (fun _ => rfl)
        (fun pre V => cl ws pre = [] ∧ JB w n (.slice va ws.length vcap) Ds V) (fun c pre V => (c = .exit 1 ∧ cl ws pre ≠ []) ∧ JB w n (.slice va ws.length vcap) Ds V)
        ?own ?ownx ?start (fun x => { tmps := #[bv n (.slice va ws.length vcap), .int .i64 (s : Int), .pointer (some ⟨w.heap.size, 0, none⟩), undef, .int .i64 0, .int .i64 0, .int .i64 0, .int .i64 (sz : Int), .int .i64 (b : Int), .int .i64 (x.1.1 : Nat), .int .u64 (x.1.2 : Nat), u11, u12, u13, u14, u15, u16, u17, u18, u19, u20, u21, u22, u23, .int .i64 (b : Int), .int .i64 (sz : Int), .int .i64 ((b : Int) + (sz : Int)), .pointer (some ⟨w.heap.size, 0, none⟩), .int .i64 (n : Int), .bool true, u30, u31, u32, .int .i64 (b : Int), .int .i64 (b : Int), .int .i64 (sz : Int), .int .i64 ((b : Int) + (sz : Int)), .func (.func 79) #[] #[.pointer (some ⟨W.heap.size, 0, none⟩), .pointer (some ⟨W.heap.size + 1, 0, none⟩)], .int .i64 (x.1.1 : Nat), .int .u64 (x.1.2 : Nat), u40, u41, u42, u43, u44, u45, u46, u47, u48], defers := [] }) ?assign ?body ?done ?stop
      case own => exact OwnFrom.and (ownFrom_pure _ (fun pre : List (Pw ws.length) => cl ws pre = [])) (JB_own w n _ Ds _ hbL.size (fun D hd => by have := hDW D hd; omega))
      case ownx => exact fun c => OwnFrom.and (ownFrom_pure _ (fun pre : List (Pw ws.length) => c = .exit 1 ∧ cl ws pre ≠ [])) (JB_own w n _ Ds _ hbL.size (fun D hd => by have := hDW D hd; omega))
      case start => exact ⟨rfl, hJ0⟩
      case assign =>
        intro l x V K hK
        simp only [encW]
        gi_wp2
        exact hK
      case body =>
        rintro l pre x V ⟨hcl, hJ⟩ hlen
        have hsn := cl_snoc ws pre x
        obtain ⟨x, hx1, hx2⟩ := x
        obtain ⟨i, m⟩ := x
        simp only at hx1 hx2 hsn
        obtain ⟨bw, off, rfl, hb, hc⟩ := (h.later hJ.2.2).at i hx1
        obtain ⟨y, hy0⟩ : ∃ y, ws[i] = y := ⟨_, rfl⟩
        have hy2 : y < 18446744073709551616 := by rw [← hy0]; exact hf.get i hx1
        rw [hy0] at hc
        obtain ⟨u, hu⟩ : ∃ u, y &&& m = u := ⟨_, rfl⟩
        have hu2 : u < 18446744073709551616 := by rw [← hu]; exact Nat.lt_of_le_of_lt Nat.and_le_left hy2
        have hfw : fw ws true (i, m) = (i, u) := by unfold fw fnd; rw [List.getElem?_eq_getElem hx1, hy0]; simp [hu]
        rw [hcl, List.nil_append, hfw] at hsn
        have k1 : bits .and .u64 (y : Int) (m : Int) = (u : Int) := by rw [u64_and_nat _ _ hy2 hx2, hu]
        have hi1 : (i : Int) < (ws.length : Int) := by omega
        have c1 := hJ.1.c1
        have HS := Lib.hid hsn
        clear hsn hfw hu hy0 hcl
        by_cases hu0 : u = 0
        · have hq : ((u : Int) != 0) = false := by simp [hu0]
          have hp : Hid (posW (i, u) = []) := by unfold Hid; rw [hu0]; exact posW_zero i
          clear hu0
          gi_wp2_with fail
          exact ⟨KeepsFrom.refl _ _, KC.refl _ _, by rw [HS.out, hp.out], hJ⟩
        · have hq : ((u : Int) != 0) = true := by simp [hu0]
          have hp : Hid (posW (i, u) ≠ []) := posW_ne i u hu2 hu0
          clear hu0
          gi_wp2_with fail
          exact ⟨KeepsFrom.refl _ _, ⟨rfl, by rw [HS.out]; exact hp.out⟩, hJ⟩
      case done =>
        rintro D ys V hD hys ⟨hcl, hJ⟩ hK
        have hh : hits ws true b (b + sz) = [] := by
          have := mt_hits ws hf true b (b + sz) (by omega)
          unfold mtL at this
          rw [← this, ← hys]; exact hcl
        have hx : Hid (blB ws s n = ((b : Int), 0)) := by
          unfold Hid
          rw [HB0.out, ← HF.out, blkF, if_pos hle, hh]; rfl
        clear hh hcl
        gi_wp2_with fail
        refine leaves_marks w.heap.size (D :: Ds) V (List.nodup_cons.2 ⟨fun hd => by have := hDW D hd; omega, hnd⟩) (fun D' hd => ?_) (fun W' _ hb' => ?_)
        · rcases List.mem_cons.1 hd with rfl | hd
          · exact ⟨by have := hbL.size; omega, hK⟩
          · exact hJ.2.1 D' hd
        · exact ⟨_, results_tmp2 rfl _ _ _, by rw [hx.out]; rfl, hJ.2.2.trans hb'⟩
      case stop =>
        rintro D c pre V hD hSp ⟨⟨rfl, hne⟩, hJ⟩ hK
        have hh : (hits ws true b (b + sz)).isEmpty = false := by
          obtain ⟨r, hr⟩ := hSp
          have := mt_hits ws hf true b (b + sz) (by omega)
          unfold mtL at this
          rw [← this, ← hr, List.map_append, List.flatMap_append]
          have h2 : cl ws pre ≠ [] := hne
          unfold cl at h2
          cases hq : ((pre.map Subtype.val).map (fw ws true)).flatMap posW with
          | nil => exact absurd hq h2
          | cons a l => rfl
        have hF2 : blkF ws sz n k (b + sz) = blkF ws sz n (n + 1) 0 := by
          rw [← HF.out, blkF, if_pos hle, if_neg (by rw [hh]; decide)]
        have HF2 := Lib.hid hF2
        clear hh hF2 hne
        gi_wp2_with fail
        refine ⟨k, Nat.lt_succ_self k, b + sz, D :: Ds, _, _, _, _, _, _, _, _, _, _, _, _, _, _, _, _, _, _, _, _, _, _, _, _, _, _, _, _, _, _, _, _, _, _, _, _, _, _, _, _, ⟨HF2, hle, by omega, hJ.1, List.nodup_cons.2 ⟨fun hd => by have := hDW D hd; omega, hnd⟩, (fun D' hd => ?_), hJ.2.2⟩, rfl⟩
        rcases List.mem_cons.1 hd with rfl | hd
        · exact ⟨by have := hbL.size; omega, hK⟩
        · exact hJ.2.1 D' hd
    · have hle1 : ¬ ((b : Int) + (sz : Int) ≤ (n : Int)) := by omega
      have hx : Hid (blB ws s n = (0, 4)) := by
        unfold Hid
        rw [HB0.out, ← HF.out, blkF, if_neg hle]
      gi_wp2_with fail
      refine leaves_marks w.heap.size Ds W hnd hDs fun W' _ hb' => ?_
      exact ⟨_, results_tmp2 rfl _ _ _, by rw [hx.out]; rfl, hbel.trans hb'⟩

set_option maxRecDepth 100000 in
set_option maxHeartbeats 1000000 in
theorem Block_any (N k : Int) (v : Value) (ws : List Nat) (hf : Fit64 ws) (w : World) (h : WAt w v ws) :
    Calls Tryd.prog 39 #[bv N v, .int .i64 k] w fun e w' => e = .returned (.tuple #[.int .i64 (blockB N ws k).1, .int .i64 (blockB N ws k).2]) ∧ Below w.heap.size w w' := by
  obtain ⟨c, hc⟩ : ∃ c, checkB N ws = c := ⟨_, rfl⟩
  have HC := Lib.hid hc
  have b0 : Below w.heap.size w (w.alloc (.cells #[.int .i64 N, v] 24)) := (Below.refl _ _).alloc (Nat.le_refl _) _
  by_cases h0 : c = 0
  case neg =>
    have hd : Hid (blockB N ws k = (0, c)) := by unfold Hid blockB; rw [hc, if_pos h0]
    have hq : (c != 0) = true := by simp [h0]
    clear hc h0
    go_enter Tryd.func39, Tryd.ntmps39
    go_wp2_with fail
    go_step3
    go_wp2_with fail
    refine (Check_is N v ws c HC.out hf _ (h.later b0)).mono ?_
    rintro e w1 ⟨rfl, hB⟩
    go_wp2_with fail
    rw [Exit.noGoto_ret]
    go_ret2
    rw [hd.out]
    exact ⟨rfl, b0.trans (hB.mono b0.size)⟩
  subst h0
  obtain ⟨n, rfl, hn4, hlen⟩ := check_ok hc
  by_cases hk : k < 0 ∨ 12 < k
  · have hd : Hid (blockB n ws k = (0, 7)) := by unfold Hid blockB; rw [if_neg (by simp [hc]), if_pos hk]
    clear hc hlen
    by_cases hk0 : k < 0 <;> by_cases hk1 : 12 < k
    all_goals first | (exfalso; omega) | skip
    all_goals
      clear hk
      go_enter Tryd.func39, Tryd.ntmps39
      go_wp2_with fail
      go_step3
      go_wp2_with fail
      refine (Check_is n v ws 0 HC.out hf _ (h.later b0)).mono ?_
      rintro e w1 ⟨rfl, hB⟩
      go_wp2_with fail
      rw [Exit.noGoto_ret]
      go_ret2
      rw [hd.out]
      exact ⟨rfl, b0.trans (hB.mono b0.size)⟩
  · obtain ⟨k', rfl⟩ : ∃ k' : Nat, k = k' := ⟨k.toNat, by omega⟩
    have hd : blockB (n : Int) ws k' = blB ws k' n := by unfold blockB; rw [if_neg (by simp [hc]), if_neg hk]; rfl
    rw [hd]
    exact Block_ok n k' v ws hf w h hc (by omega)
end Go.Proofs.YtpplleojdcgceaaDoor
