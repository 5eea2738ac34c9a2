/- A step of both. -/
import Derived.Test.YtjplihljmohpjaaMVmAa
/- Bytes of both. -/
namespace Go.Proofs.Ytjplihljmohpjaa
open Go.RowKit Go.Shelf
attribute [local go_sem] Oper.semAt_some
variable {W V : World} {B0 S P R : Nat} {f : Pages} {L : List Ru} {m : Nat → Nat}

set_option maxRecDepth 100000 in
set_option maxHeartbeats 4000000 in
theorem step_13 (a n t b : Int) (q : Int) (hq : q.tmod 19 = 13) (r : Value) (w : World) (hb : Both w B0 S P R f L m) :
    Calls Try.prog 15 #[.pointer (some ⟨S, 0, none⟩), .pointer (some ⟨R, 0, none⟩), .agg (acA q a n t b r)] w (Stepd w B0 S P R (((0 : Int), wrF f t b, m)).2.1 L (((0 : Int), wrF f t b, m)).2.2) := by
  obtain ⟨W1, hW1⟩ : ∃ x, w.alloc (.cells (acA q a n t b r) 38) = x := ⟨_, rfl⟩
  have hb1 : Below w.heap.size w W1 := by rw [← hW1]; exact (Below.refl _ _).alloc (Nat.le_refl _) _
  have bA : ABx W1 w.heap.size q a n t b r := by rw [← hW1]; exact World.alloc_heap_new w _
  have hlt := hb.lt
  have hB := hb.later hb1
  have c0 := bA.c0
  have x3 := bA.c3
  have x4 := bA.c4
  obtain ⟨v, hv, hvo⟩ := hB.ref
  have HA := Lib.hid (fun W (hW : Below W1.heap.size W1 W) => Write_is S P (· = R) f L m t b W (hB.sys.later hW) _ rfl)
  have hG := hB.good
  have hOk := hB.ok
  clear hb
  go_enter Try.func15, Try.ntmps15
  go_wp2_with fail
  try rw [hW1]
  clear hW1 c0 hq
  have hgx : ¬ SP S P w.heap.size := by rintro (h | h) <;> omega
  have hgr : ¬ (w.heap.size = R) := by omega
  go_region_held3 (fun W' => W'.cell? ⟨w.heap.size, 3, none⟩ = some (.int .i64 t) ∧ W'.cell? ⟨w.heap.size, 4, none⟩ = some (.int .u8 b)) (first | exact ⟨x3, x4⟩ | exact ⟨y3, y4⟩ | exact ⟨z3, z4⟩)
    (first
    | (go_at_call 25; ((with_reducible refine (HA.out _ ?hh).mono ?_); (case hh => exact ⟨rfl, rfl, rfl, Nat.le_refl _, fun _ _ => rfl⟩)); rintro e wA ⟨rfl, sA, kA'⟩; have kA : Keep (SP S P) W1 wA := ⟨kA'.os, kA'.tape, kA'.output, kA'.size, kA'.block⟩; have rA := hv.keep kA (fun _ h => h); have y3 := (bA.keep kA hgx).c3; have y4 := (bA.keep kA hgx).c4)
    | (go_at_call 48; ((with_reducible refine (RWrite_is (SP S P) f L m v t b _ ?hh _ rfl).mono ?_); (case hh => first | exact rA | exact rA.later ⟨rfl, rfl, rfl, Nat.le_refl _, fun _ _ => rfl⟩)); rintro e wB ⟨rfl, rB, kB'⟩; have kB : Keep (· = R) wA wB := ⟨kB'.os, kB'.tape, kB'.output, kB'.size, kB'.block⟩; have z3 := ((bA.keep kA hgx).keep kB hgr).c3; have z4 := ((bA.keep kA hgx).keep kB hgr).c4))
  clear HA
  go_wp2_with fail
  go_ret2
  exact ⟨rfl, both_after hB sA kB rB hvo (good_write hG t b) hOk, (Keep.of_below hb1).trans ((kA.mono fun _ _ h => h.elim .inl (fun h => .inr (.inl h))).trans (kB.mono fun _ _ h => .inr (.inr h)))⟩
set_option maxRecDepth 100000 in
set_option maxHeartbeats 4000000 in
theorem step_14 (a n t b : Int) (q : Int) (hq : q.tmod 19 = 14) (r : Value) (w : World) (hb : Both w B0 S P R f L m) :
    Calls Try.prog 15 #[.pointer (some ⟨S, 0, none⟩), .pointer (some ⟨R, 0, none⟩), .agg (acA q a n t b r)] w (Stepd w B0 S P R (((0 : Int), wrF f t b, m)).2.1 L (((0 : Int), wrF f t b, m)).2.2) := by
  obtain ⟨W1, hW1⟩ : ∃ x, w.alloc (.cells (acA q a n t b r) 38) = x := ⟨_, rfl⟩
  have hb1 : Below w.heap.size w W1 := by rw [← hW1]; exact (Below.refl _ _).alloc (Nat.le_refl _) _
  have bA : ABx W1 w.heap.size q a n t b r := by rw [← hW1]; exact World.alloc_heap_new w _
  have hlt := hb.lt
  have hB := hb.later hb1
  have c0 := bA.c0
  have x3 := bA.c3
  have x4 := bA.c4
  obtain ⟨v, hv, hvo⟩ := hB.ref
  have HA := Lib.hid (fun W (hW : Below W1.heap.size W1 W) => Write_is S P (· = R) f L m t b W (hB.sys.later hW) _ rfl)
  have hG := hB.good
  have hOk := hB.ok
  clear hb
  go_enter Try.func15, Try.ntmps15
  go_wp2_with fail
  try rw [hW1]
  clear hW1 c0 hq
  have hgx : ¬ SP S P w.heap.size := by rintro (h | h) <;> omega
  have hgr : ¬ (w.heap.size = R) := by omega
  go_region_held3 (fun W' => W'.cell? ⟨w.heap.size, 3, none⟩ = some (.int .i64 t) ∧ W'.cell? ⟨w.heap.size, 4, none⟩ = some (.int .u8 b)) (first | exact ⟨x3, x4⟩ | exact ⟨y3, y4⟩ | exact ⟨z3, z4⟩)
    (first
    | (go_at_call 25; ((with_reducible refine (HA.out _ ?hh).mono ?_); (case hh => exact ⟨rfl, rfl, rfl, Nat.le_refl _, fun _ _ => rfl⟩)); rintro e wA ⟨rfl, sA, kA'⟩; have kA : Keep (SP S P) W1 wA := ⟨kA'.os, kA'.tape, kA'.output, kA'.size, kA'.block⟩; have rA := hv.keep kA (fun _ h => h); have y3 := (bA.keep kA hgx).c3; have y4 := (bA.keep kA hgx).c4)
    | (go_at_call 48; ((with_reducible refine (RWrite_is (SP S P) f L m v t b _ ?hh _ rfl).mono ?_); (case hh => first | exact rA | exact rA.later ⟨rfl, rfl, rfl, Nat.le_refl _, fun _ _ => rfl⟩)); rintro e wB ⟨rfl, rB, kB'⟩; have kB : Keep (· = R) wA wB := ⟨kB'.os, kB'.tape, kB'.output, kB'.size, kB'.block⟩; have z3 := ((bA.keep kA hgx).keep kB hgr).c3; have z4 := ((bA.keep kA hgx).keep kB hgr).c4))
  clear HA
  go_wp2_with fail
  go_ret2
  exact ⟨rfl, both_after hB sA kB rB hvo (good_write hG t b) hOk, (Keep.of_below hb1).trans ((kA.mono fun _ _ h => h.elim .inl (fun h => .inr (.inl h))).trans (kB.mono fun _ _ h => .inr (.inr h)))⟩
end Go.Proofs.Ytjplihljmohpjaa

/- Reading, kinds and plans of both. -/
namespace Go.Proofs.Ytjplihljmohpjaa
open Go.RowKit Go.Shelf
attribute [local go_sem] Oper.semAt_some
variable {W V : World} {B0 S P R : Nat} {f : Pages} {L : List Ru} {m : Nat → Nat}

set_option maxRecDepth 100000 in
set_option maxHeartbeats 4000000 in
theorem step_15 (a n t b : Int) (q : Int) (hq : q.tmod 19 = 15) (r : Value) (w : World) (hb : Both w B0 S P R f L m) :
    Calls Try.prog 15 #[.pointer (some ⟨S, 0, none⟩), .pointer (some ⟨R, 0, none⟩), .agg (acA q a n t b r)] w (Stepd w B0 S P R f L m) := by
  obtain ⟨W1, hW1⟩ : ∃ x, w.alloc (.cells (acA q a n t b r) 38) = x := ⟨_, rfl⟩
  have hb1 : Below w.heap.size w W1 := by rw [← hW1]; exact (Below.refl _ _).alloc (Nat.le_refl _) _
  have bA : ABx W1 w.heap.size q a n t b r := by rw [← hW1]; exact World.alloc_heap_new w _
  have hB := hb.later hb1
  have c0 := bA.c0
  have c3 := bA.c3
  obtain ⟨v, hv, hvo⟩ := hB.ref
  obtain ⟨u, su⟩ := hB.sys
  obtain ⟨rd, hrd⟩ : ∃ rd, rdE f t = rd := ⟨_, rfl⟩
  have HA := Lib.hid (Read_is S P u _ _ f t W1 su.box su.pg rd hrd)
  have HC := Lib.hid (RRead_is f t W1 hv.row rd hrd)
  clear hb hrd
  go_enter Try.func15, Try.ntmps15
  go_wp2_with fail
  try rw [hW1]
  refine HA.out.mono ?_
  rintro e w' ⟨rfl, rfl⟩
  go_wp2_with fail
  refine HC.out.mono ?_
  rintro e w' ⟨rfl, rfl⟩
  go_wp2_with fail
  go_ret2
  exact ⟨rfl, hB, Keep.of_below hb1⟩
set_option maxRecDepth 100000 in
set_option maxHeartbeats 4000000 in
theorem step_18b (a n t b : Int) (q : Int) (hq : q.tmod 19 = 18) (r : Value) (l : List RlI) (i : Nat) (c : Int) (hc : chkP l = (i, c)) (h0 : c ≠ 0) (w : World) (hr : RAt w r l) (hro : ∀ b, obk r = some b → b < B0) (hb : Both w B0 S P R f L m) :
    Calls Try.prog 15 #[.pointer (some ⟨S, 0, none⟩), .pointer (some ⟨R, 0, none⟩), .agg (acA q a n t b r)] w (Stepd w B0 S P R f L m) := by
  obtain ⟨W1, hW1⟩ : ∃ x, w.alloc (.cells (acA q a n t b r) 38) = x := ⟨_, rfl⟩
  have hb1 : Below w.heap.size w W1 := by rw [← hW1]; exact (Below.refl _ _).alloc (Nat.le_refl _) _
  have bA : ABx W1 w.heap.size q a n t b r := by rw [← hW1]; exact World.alloc_heap_new w _
  have hlt := hb.lt
  have hB := hb.later hb1
  have c0 := bA.c0
  have x5 := bA.c5
  obtain ⟨v, hv, hvo⟩ := hB.ref
  have hr1 := hr.later hb1
  have HA := Lib.hid (fun W (hW : Below W1.heap.size W1 W) => Plan_bad S P (· = R) f L m r l i c hc h0 W (hB.sys.later hW) (hr1.later hW))
  have hG := hB.good
  have hOk := hB.ok
  clear hb
  go_enter Try.func15, Try.ntmps15
  go_wp2_with fail
  try rw [hW1]
  clear hW1 c0 hq
  have hgx : ¬ SP S P w.heap.size := by rintro (h | h) <;> omega
  have hgr : ¬ (w.heap.size = R) := by omega
  go_region_held3 (fun W' => W'.cell? ⟨w.heap.size, 5, none⟩ = some (r)) (first | exact x5 | exact y5 | exact z5)
    (first
    | (go_at_call 23; ((with_reducible refine (HA.out _ ?hh).mono ?_); (case hh => exact ⟨rfl, rfl, rfl, Nat.le_refl _, fun _ _ => rfl⟩)); rintro e wA ⟨rfl, sA, kA'⟩; have kA : Keep (SP S P) W1 wA := ⟨kA'.os, kA'.tape, kA'.output, kA'.size, kA'.block⟩; have rA := hv.keep kA (fun _ h => h); have aA := hr1.keep kA (fun b hb h => h.elim (fun e => by have := hro b hb; have := hB.hS; omega) (fun e => by have := hro b hb; have := hB.hP; omega)); have y5 := (bA.keep kA hgx).c5)
    | (go_at_call 52; ((with_reducible refine (RPlan_bad (SP S P) f L m v r l i c hc h0 _ ?hh (aA.of_heap rfl)).mono ?_); (case hh => first | exact rA | exact rA.later ⟨rfl, rfl, rfl, Nat.le_refl _, fun _ _ => rfl⟩)); rintro e wB ⟨rfl, rB, kB'⟩; have kB : Keep (· = R) wA wB := ⟨kB'.os, kB'.tape, kB'.output, kB'.size, kB'.block⟩; have z5 := ((bA.keep kA hgx).keep kB hgr).c5))
  clear HA
  go_wp2_with fail
  go_ret2
  exact ⟨rfl, both_after hB sA kB rB hvo (hG) hOk, (Keep.of_below hb1).trans ((kA.mono fun _ _ h => h.elim .inl (fun h => .inr (.inl h))).trans (kB.mono fun _ _ h => .inr (.inr h)))⟩
set_option maxRecDepth 100000 in
set_option maxHeartbeats 4000000 in
theorem step_18k (a n t b : Int) (q : Int) (hq : q.tmod 19 = 18) (r : Value) (L' : List Ru) (hL' : OkL L') (w : World) (hr : RAt w r (toI L')) (hro : ∀ b, obk r = some b → b < B0) (hb : Both w B0 S P R f L m) :
    Calls Try.prog 15 #[.pointer (some ⟨S, 0, none⟩), .pointer (some ⟨R, 0, none⟩), .agg (acA q a n t b r)] w (Stepd w B0 S P R f L' fun _ => 0) := by
  obtain ⟨W1, hW1⟩ : ∃ x, w.alloc (.cells (acA q a n t b r) 38) = x := ⟨_, rfl⟩
  have hb1 : Below w.heap.size w W1 := by rw [← hW1]; exact (Below.refl _ _).alloc (Nat.le_refl _) _
  have bA : ABx W1 w.heap.size q a n t b r := by rw [← hW1]; exact World.alloc_heap_new w _
  have hlt := hb.lt
  have hB := hb.later hb1
  have c0 := bA.c0
  have x5 := bA.c5
  obtain ⟨v, hv, hvo⟩ := hB.ref
  have hr1 := hr.later hb1
  have HA := Lib.hid (fun W (hW : Below W1.heap.size W1 W) => Plan_ok S P (· = R) f L m r L' hL' W (hB.sys.later hW) (hr1.later hW))
  have hG := hB.good
  have hOk := hB.ok
  clear hb
  go_enter Try.func15, Try.ntmps15
  go_wp2_with fail
  try rw [hW1]
  clear hW1 c0 hq
  have hgx : ¬ SP S P w.heap.size := by rintro (h | h) <;> omega
  have hgr : ¬ (w.heap.size = R) := by omega
  go_region_held3 (fun W' => W'.cell? ⟨w.heap.size, 5, none⟩ = some (r)) (first | exact x5 | exact y5 | exact z5)
    (first
    | (go_at_call 23; ((with_reducible refine (HA.out _ ?hh).mono ?_); (case hh => exact ⟨rfl, rfl, rfl, Nat.le_refl _, fun _ _ => rfl⟩)); rintro e wA ⟨rfl, sA, kA'⟩; have kA : Keep (SP S P) W1 wA := ⟨kA'.os, kA'.tape, kA'.output, kA'.size, kA'.block⟩; have rA := hv.keep kA (fun _ h => h); have aA := hr1.keep kA (fun b hb h => h.elim (fun e => by have := hro b hb; have := hB.hS; omega) (fun e => by have := hro b hb; have := hB.hP; omega)); have y5 := (bA.keep kA hgx).c5)
    | (go_at_call 52; ((with_reducible refine (RPlan_ok (SP S P) f L m v r L' hL' _ ?hh (aA.of_heap rfl) (fun b hb => ⟨fun e => by have := hro b hb; have := hB.hR; omega, fun h => h.elim (fun e => by have := hro b hb; have := hB.hS; omega) (fun e => by have := hro b hb; have := hB.hP; omega)⟩)).mono ?_); (case hh => first | exact rA | exact rA.later ⟨rfl, rfl, rfl, Nat.le_refl _, fun _ _ => rfl⟩)); rintro e wB ⟨rfl, rB, kB'⟩; have kB : Keep (· = R) wA wB := ⟨kB'.os, kB'.tape, kB'.output, kB'.size, kB'.block⟩; have z5 := ((bA.keep kA hgx).keep kB hgr).c5))
  clear HA
  go_wp2_with fail
  go_ret2
  exact ⟨rfl, both_after hB sA kB rB hro hG hL', (Keep.of_below hb1).trans ((kA.mono fun _ _ h => h.elim .inl (fun h => .inr (.inl h))).trans (kB.mono fun _ _ h => .inr (.inr h)))⟩
set_option maxRecDepth 100000 in
set_option maxHeartbeats 4000000 in
theorem step_16 (a n t b : Int) (ha : I64 a) (q : Int) (hq : q.tmod 19 = 16) (r : Value) (w : World) (hb : Both w B0 S P R f L m) :
    Calls Try.prog 15 #[.pointer (some ⟨S, 0, none⟩), .pointer (some ⟨R, 0, none⟩), .agg (acA q a n t b r)] w (Stepd w B0 S P R f L m) := by
  obtain ⟨W1, hW1⟩ : ∃ x, w.alloc (.cells (acA q a n t b r) 38) = x := ⟨_, rfl⟩
  have hb1 : Below w.heap.size w W1 := by rw [← hW1]; exact (Below.refl _ _).alloc (Nat.le_refl _) _
  have bA : ABx W1 w.heap.size q a n t b r := by rw [← hW1]; exact World.alloc_heap_new w _
  have hB := hb.later hb1
  have c0 := bA.c0
  have c1 := bA.c1
  obtain ⟨v, hv, hvo⟩ := hB.ref
  obtain ⟨u, su⟩ := hB.sys
  obtain ⟨kn, hkn⟩ : ∃ kn, knE f a = kn := ⟨_, rfl⟩
  have HA := Lib.hid (Kind_is S P u _ _ f a ha W1 su.box su.pg kn hkn)
  have HC := Lib.hid (fun W (hW : Below W1.heap.size W1 W) => RKind_is f hB.good a W (hv.row.later hW) kn hkn)
  have HD := Lib.hid (fun W (hW : Below W1.heap.size W1 W) => Counts_is S P u _ _ f W (su.box.later hW) (su.pg.later hW))
  have HE := Lib.hid (fun W (hW : Below W1.heap.size W1 W) => RCounts_is f hB.good W (hv.row.later hW))
  clear hb hkn
  go_enter Try.func15, Try.ntmps15
  go_wp2_with fail
  try rw [hW1]
  refine HA.out.mono ?_
  rintro e w2 ⟨rfl, B2⟩
  have d1 := cell_later B2 c1
  clear hW1
  go_wp2_with fail
  refine (HC.out _ B2).mono ?_
  rintro e w3 ⟨rfl, B3⟩
  have B13 := B2.trans (B3.mono B2.size)
  go_wp2_with fail
  refine (HD.out _ B13).mono ?_
  rintro e w4 ⟨rfl, B4⟩
  have B14 := B13.trans (B4.mono B13.size)
  obtain ⟨n0, hn0⟩ : ∃ n, cnK f 0 (List.range' 0 1024) = n := ⟨_, rfl⟩
  obtain ⟨n1, hn1⟩ : ∃ n, cnK f 1 (List.range' 0 1024) = n := ⟨_, rfl⟩
  obtain ⟨n2, hn2⟩ : ∃ n, cnK f 2 (List.range' 0 1024) = n := ⟨_, rfl⟩
  obtain ⟨n3, hn3⟩ : ∃ n, cnK f 3 (List.range' 0 1024) = n := ⟨_, rfl⟩
  obtain ⟨n4, hn4⟩ : ∃ n, cnH f (List.range' 0 1024) = n := ⟨_, rfl⟩
  simp only [cnV, hn0, hn1, hn2, hn3, hn4] at HE ⊢
  clear hn0 hn1 hn2 hn3 hn4 HA HC HD
  obtain ⟨W5, hW5⟩ : ∃ x, w4.alloc (.cells #[.int .i64 0, .int .i64 0, .int .i64 0, .int .i64 0, .int .i64 0] 67) = x := ⟨_, rfl⟩
  have hb5 : Below w4.heap.size w4 W5 := by rw [← hW5]; exact (Below.refl _ _).alloc (Nat.le_refl _) _
  have g5 : NBx W5 w4.heap.size 0 0 0 0 0 := by rw [← hW5]; exact World.alloc_heap_new w4 _
  have B15 := B14.trans (hb5.mono B14.size)
  have g6 : NBx (W5.setRow w4.heap.size (v5 n0 n1 n2 n3 n4)) w4.heap.size n0 n1 n2 n3 n4 := setRow_heap W5 _ _ _ _ _ g5
  have B16 : Below W1.heap.size W1 (W5.setRow w4.heap.size (v5 n0 n1 n2 n3 n4)) := below_row B15 _ B14.size _
  have hone : (v5 n0 n1 n2 n3 n4).all (·.oneCell') = true := by kernel_rfl
  have heq := eq5 n0 n1 n2 n3 n4
  go_wp2_with (first | rw [hW5] | refine wpList_store_row rfl 67 _ _ rfl w4.heap.size (v5 n0 n1 n2 n3 n4) rfl rfl 67 _ g5 (n5_i _ _ _ _ _) rfl hone ?_)
  obtain ⟨W6, hW6⟩ : ∃ x, W5.setRow w4.heap.size (v5 n0 n1 n2 n3 n4) = x := ⟨_, rfl⟩
  rw [hW6] at g6 B16 ⊢
  have y0 := fun x : Beh W6 => Beh.cell g6.c0 x
  have y1 := fun x : Beh W6 => Beh.cell g6.c1 x
  have y2 := fun x : Beh W6 => Beh.cell g6.c2 x
  have y3 := fun x : Beh W6 => Beh.cell g6.c3 x
  have y4 := fun x : Beh W6 => Beh.cell g6.c4 x
  clear hW6 hW5
  refine region_beh (by kernel_rfl) (by kernel_rfl) ?_
  repeat (go_big_quiet_step ((go_at_call 51; rename_i x; refine (HE.out _ (B16.trans (x.h.mono B16.size))).mono ?_; rintro e w8 ⟨rfl, B8⟩; exact ⟨rfl, ⟨_, x.h.trans (B8.mono x.h.size)⟩, rfl⟩)))
  refine wpQuiet_nil ?_
  intro _ hw'
  obtain ⟨x, rfl⟩ := hw'
  go_wp2_with fail
  go_ret2
  have hE := B16.trans (x.h.mono B16.size)
  exact ⟨rfl, hB.later hE, Keep.of_below (hb1.trans (hE.mono hb1.size))⟩
end Go.Proofs.Ytjplihljmohpjaa
