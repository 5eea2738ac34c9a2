/- More calls of both. -/
import Derived.Test.YtjplihljmohpjaaMVmAa
namespace Go.Proofs.Ytjplihljmohpjaa
open Go.RowKit Go.Shelf
attribute [local go_sem] Oper.semAt_some
variable {W V : World} {B0 S P R : Nat} {f : Pages} {L : List Ru} {m : Nat → Nat}

set_option maxRecDepth 100000 in
set_option maxHeartbeats 4000000 in
theorem step_3 (a n t b : Int) (ha : I64 a) (q : Int) (hq : q.tmod 19 = 3) (r : Value) (hm : Sm m) (w : World) (hb : Both w B0 S P R f L m) :
    Calls Try.prog 15 #[.pointer (some ⟨S, 0, none⟩), .pointer (some ⟨R, 0, none⟩), .agg (acA q a n t b r)] w (Stepd w B0 S P R (opP (cTurn 2 1 2) f L m a n).2.1 L (opP (cTurn 2 1 2) f L m a n).2.2) := by
  obtain ⟨W1, hW1⟩ : ∃ x, w.alloc (.cells (acA q a n t b r) 38) = x := ⟨_, rfl⟩
  have hb1 : Below w.heap.size w W1 := by rw [← hW1]; exact (Below.refl _ _).alloc (Nat.le_refl _) _
  have bA : ABx W1 w.heap.size q a n t b r := by rw [← hW1]; exact World.alloc_heap_new w _
  have hlt := hb.lt
  have hB := hb.later hb1
  have c0 := bA.c0
  have x1 := bA.c1
  have x2 := bA.c2
  obtain ⟨v, hv, hvo⟩ := hB.ref
  have HA := Lib.hid (fun W (hW : Below W1.heap.size W1 W) => Commit_is S P (· = R) f L hB.ok m hm a n ha W (hB.sys.later hW))
  have hG := hB.good
  have hOk := hB.ok
  clear hb
  go_enter Try.func15, Try.ntmps15
  go_wp2_with fail
  try rw [hW1]
  clear hW1 c0 hq
  have hgx : ¬ SP S P w.heap.size := by rintro (h | h) <;> omega
  have hgr : ¬ (w.heap.size = R) := by omega
  go_region_held3 (fun W' => W'.cell? ⟨w.heap.size, 1, none⟩ = some (.int .i64 a) ∧ W'.cell? ⟨w.heap.size, 2, none⟩ = some (.int .i64 n)) (first | exact ⟨x1, x2⟩ | exact ⟨y1, y2⟩ | exact ⟨z1, z2⟩)
    (first
    | (go_at_call 28; ((with_reducible refine (HA.out _ ?hh).mono ?_); (case hh => exact ⟨rfl, rfl, rfl, Nat.le_refl _, fun _ _ => rfl⟩)); rintro e wA ⟨rfl, sA, kA'⟩; have kA : Keep (SP S P) W1 wA := ⟨kA'.os, kA'.tape, kA'.output, kA'.size, kA'.block⟩; have rA := hv.keep kA (fun _ h => h); have y1 := (bA.keep kA hgx).c1; have y2 := (bA.keep kA hgx).c2)
    | (go_at_call 42; ((with_reducible refine (RCommit_is (SP S P) f hG L hOk m hm v a n ha _ ?hh).mono ?_); (case hh => first | exact rA | exact rA.later ⟨rfl, rfl, rfl, Nat.le_refl _, fun _ _ => rfl⟩)); rintro e wB ⟨rfl, rB, kB'⟩; have kB : Keep (· = R) wA wB := ⟨kB'.os, kB'.tape, kB'.output, kB'.size, kB'.block⟩; have z1 := ((bA.keep kA hgx).keep kB hgr).c1; have z2 := ((bA.keep kA hgx).keep kB hgr).c2))
  clear HA
  go_wp2_with fail
  go_ret2
  exact ⟨rfl, both_after hB sA kB rB hvo (good_turn hG L m 2 1 2 (by decide) a n) hOk, (Keep.of_below hb1).trans ((kA.mono fun _ _ h => h.elim .inl (fun h => .inr (.inl h))).trans (kB.mono fun _ _ h => .inr (.inr h)))⟩
set_option maxRecDepth 100000 in
set_option maxHeartbeats 4000000 in
theorem step_4 (a n t b : Int) (ha : I64 a) (q : Int) (hq : q.tmod 19 = 4) (r : Value) (hm : Sm m) (w : World) (hb : Both w B0 S P R f L m) :
    Calls Try.prog 15 #[.pointer (some ⟨S, 0, none⟩), .pointer (some ⟨R, 0, none⟩), .agg (acA q a n t b r)] w (Stepd w B0 S P R (opP (cTurn 2 1 2) f L m a n).2.1 L (opP (cTurn 2 1 2) f L m a n).2.2) := by
  obtain ⟨W1, hW1⟩ : ∃ x, w.alloc (.cells (acA q a n t b r) 38) = x := ⟨_, rfl⟩
  have hb1 : Below w.heap.size w W1 := by rw [← hW1]; exact (Below.refl _ _).alloc (Nat.le_refl _) _
  have bA : ABx W1 w.heap.size q a n t b r := by rw [← hW1]; exact World.alloc_heap_new w _
  have hlt := hb.lt
  have hB := hb.later hb1
  have c0 := bA.c0
  have x1 := bA.c1
  have x2 := bA.c2
  obtain ⟨v, hv, hvo⟩ := hB.ref
  have HA := Lib.hid (fun W (hW : Below W1.heap.size W1 W) => Commit_is S P (· = R) f L hB.ok m hm a n ha W (hB.sys.later hW))
  have hG := hB.good
  have hOk := hB.ok
  clear hb
  go_enter Try.func15, Try.ntmps15
  go_wp2_with fail
  try rw [hW1]
  clear hW1 c0 hq
  have hgx : ¬ SP S P w.heap.size := by rintro (h | h) <;> omega
  have hgr : ¬ (w.heap.size = R) := by omega
  go_region_held3 (fun W' => W'.cell? ⟨w.heap.size, 1, none⟩ = some (.int .i64 a) ∧ W'.cell? ⟨w.heap.size, 2, none⟩ = some (.int .i64 n)) (first | exact ⟨x1, x2⟩ | exact ⟨y1, y2⟩ | exact ⟨z1, z2⟩)
    (first
    | (go_at_call 28; ((with_reducible refine (HA.out _ ?hh).mono ?_); (case hh => exact ⟨rfl, rfl, rfl, Nat.le_refl _, fun _ _ => rfl⟩)); rintro e wA ⟨rfl, sA, kA'⟩; have kA : Keep (SP S P) W1 wA := ⟨kA'.os, kA'.tape, kA'.output, kA'.size, kA'.block⟩; have rA := hv.keep kA (fun _ h => h); have y1 := (bA.keep kA hgx).c1; have y2 := (bA.keep kA hgx).c2)
    | (go_at_call 42; ((with_reducible refine (RCommit_is (SP S P) f hG L hOk m hm v a n ha _ ?hh).mono ?_); (case hh => first | exact rA | exact rA.later ⟨rfl, rfl, rfl, Nat.le_refl _, fun _ _ => rfl⟩)); rintro e wB ⟨rfl, rB, kB'⟩; have kB : Keep (· = R) wA wB := ⟨kB'.os, kB'.tape, kB'.output, kB'.size, kB'.block⟩; have z1 := ((bA.keep kA hgx).keep kB hgr).c1; have z2 := ((bA.keep kA hgx).keep kB hgr).c2))
  clear HA
  go_wp2_with fail
  go_ret2
  exact ⟨rfl, both_after hB sA kB rB hvo (good_turn hG L m 2 1 2 (by decide) a n) hOk, (Keep.of_below hb1).trans ((kA.mono fun _ _ h => h.elim .inl (fun h => .inr (.inl h))).trans (kB.mono fun _ _ h => .inr (.inr h)))⟩
set_option maxRecDepth 100000 in
set_option maxHeartbeats 4000000 in
theorem step_5 (a n t b : Int) (ha : I64 a) (q : Int) (hq : q.tmod 19 = 5) (r : Value) (hm : Sm m) (w : World) (hb : Both w B0 S P R f L m) :
    Calls Try.prog 15 #[.pointer (some ⟨S, 0, none⟩), .pointer (some ⟨R, 0, none⟩), .agg (acA q a n t b r)] w (Stepd w B0 S P R (opP (cTurn 2 1 2) f L m a n).2.1 L (opP (cTurn 2 1 2) f L m a n).2.2) := by
  obtain ⟨W1, hW1⟩ : ∃ x, w.alloc (.cells (acA q a n t b r) 38) = x := ⟨_, rfl⟩
  have hb1 : Below w.heap.size w W1 := by rw [← hW1]; exact (Below.refl _ _).alloc (Nat.le_refl _) _
  have bA : ABx W1 w.heap.size q a n t b r := by rw [← hW1]; exact World.alloc_heap_new w _
  have hlt := hb.lt
  have hB := hb.later hb1
  have c0 := bA.c0
  have x1 := bA.c1
  have x2 := bA.c2
  obtain ⟨v, hv, hvo⟩ := hB.ref
  have HA := Lib.hid (fun W (hW : Below W1.heap.size W1 W) => Commit_is S P (· = R) f L hB.ok m hm a n ha W (hB.sys.later hW))
  have hG := hB.good
  have hOk := hB.ok
  clear hb
  go_enter Try.func15, Try.ntmps15
  go_wp2_with fail
  try rw [hW1]
  clear hW1 c0 hq
  have hgx : ¬ SP S P w.heap.size := by rintro (h | h) <;> omega
  have hgr : ¬ (w.heap.size = R) := by omega
  go_region_held3 (fun W' => W'.cell? ⟨w.heap.size, 1, none⟩ = some (.int .i64 a) ∧ W'.cell? ⟨w.heap.size, 2, none⟩ = some (.int .i64 n)) (first | exact ⟨x1, x2⟩ | exact ⟨y1, y2⟩ | exact ⟨z1, z2⟩)
    (first
    | (go_at_call 28; ((with_reducible refine (HA.out _ ?hh).mono ?_); (case hh => exact ⟨rfl, rfl, rfl, Nat.le_refl _, fun _ _ => rfl⟩)); rintro e wA ⟨rfl, sA, kA'⟩; have kA : Keep (SP S P) W1 wA := ⟨kA'.os, kA'.tape, kA'.output, kA'.size, kA'.block⟩; have rA := hv.keep kA (fun _ h => h); have y1 := (bA.keep kA hgx).c1; have y2 := (bA.keep kA hgx).c2)
    | (go_at_call 42; ((with_reducible refine (RCommit_is (SP S P) f hG L hOk m hm v a n ha _ ?hh).mono ?_); (case hh => first | exact rA | exact rA.later ⟨rfl, rfl, rfl, Nat.le_refl _, fun _ _ => rfl⟩)); rintro e wB ⟨rfl, rB, kB'⟩; have kB : Keep (· = R) wA wB := ⟨kB'.os, kB'.tape, kB'.output, kB'.size, kB'.block⟩; have z1 := ((bA.keep kA hgx).keep kB hgr).c1; have z2 := ((bA.keep kA hgx).keep kB hgr).c2))
  clear HA
  go_wp2_with fail
  go_ret2
  exact ⟨rfl, both_after hB sA kB rB hvo (good_turn hG L m 2 1 2 (by decide) a n) hOk, (Keep.of_below hb1).trans ((kA.mono fun _ _ h => h.elim .inl (fun h => .inr (.inl h))).trans (kB.mono fun _ _ h => .inr (.inr h)))⟩
set_option maxRecDepth 100000 in
set_option maxHeartbeats 4000000 in
theorem step_6 (a n t b : Int) (ha : I64 a) (q : Int) (hq : q.tmod 19 = 6) (r : Value) (hm : Sm m) (w : World) (hb : Both w B0 S P R f L m) :
    Calls Try.prog 15 #[.pointer (some ⟨S, 0, none⟩), .pointer (some ⟨R, 0, none⟩), .agg (acA q a n t b r)] w (Stepd w B0 S P R (opP (cTurn 3 2 1) f L m a n).2.1 L (opP (cTurn 3 2 1) f L m a n).2.2) := by
  obtain ⟨W1, hW1⟩ : ∃ x, w.alloc (.cells (acA q a n t b r) 38) = x := ⟨_, rfl⟩
  have hb1 : Below w.heap.size w W1 := by rw [← hW1]; exact (Below.refl _ _).alloc (Nat.le_refl _) _
  have bA : ABx W1 w.heap.size q a n t b r := by rw [← hW1]; exact World.alloc_heap_new w _
  have hlt := hb.lt
  have hB := hb.later hb1
  have c0 := bA.c0
  have x1 := bA.c1
  have x2 := bA.c2
  obtain ⟨v, hv, hvo⟩ := hB.ref
  have HA := Lib.hid (fun W (hW : Below W1.heap.size W1 W) => Decommit_is S P (· = R) f L hB.ok m hm a n ha W (hB.sys.later hW))
  have hG := hB.good
  have hOk := hB.ok
  clear hb
  go_enter Try.func15, Try.ntmps15
  go_wp2_with fail
  try rw [hW1]
  clear hW1 c0 hq
  have hgx : ¬ SP S P w.heap.size := by rintro (h | h) <;> omega
  have hgr : ¬ (w.heap.size = R) := by omega
  go_region_held3 (fun W' => W'.cell? ⟨w.heap.size, 1, none⟩ = some (.int .i64 a) ∧ W'.cell? ⟨w.heap.size, 2, none⟩ = some (.int .i64 n)) (first | exact ⟨x1, x2⟩ | exact ⟨y1, y2⟩ | exact ⟨z1, z2⟩)
    (first
    | (go_at_call 27; ((with_reducible refine (HA.out _ ?hh).mono ?_); (case hh => exact ⟨rfl, rfl, rfl, Nat.le_refl _, fun _ _ => rfl⟩)); rintro e wA ⟨rfl, sA, kA'⟩; have kA : Keep (SP S P) W1 wA := ⟨kA'.os, kA'.tape, kA'.output, kA'.size, kA'.block⟩; have rA := hv.keep kA (fun _ h => h); have y1 := (bA.keep kA hgx).c1; have y2 := (bA.keep kA hgx).c2)
    | (go_at_call 43; ((with_reducible refine (RDecommit_is (SP S P) f hG L hOk m hm v a n ha _ ?hh).mono ?_); (case hh => first | exact rA | exact rA.later ⟨rfl, rfl, rfl, Nat.le_refl _, fun _ _ => rfl⟩)); rintro e wB ⟨rfl, rB, kB'⟩; have kB : Keep (· = R) wA wB := ⟨kB'.os, kB'.tape, kB'.output, kB'.size, kB'.block⟩; have z1 := ((bA.keep kA hgx).keep kB hgr).c1; have z2 := ((bA.keep kA hgx).keep kB hgr).c2))
  clear HA
  go_wp2_with fail
  go_ret2
  exact ⟨rfl, both_after hB sA kB rB hvo (good_turn hG L m 3 2 1 (by decide) a n) hOk, (Keep.of_below hb1).trans ((kA.mono fun _ _ h => h.elim .inl (fun h => .inr (.inl h))).trans (kB.mono fun _ _ h => .inr (.inr h)))⟩
set_option maxRecDepth 100000 in
set_option maxHeartbeats 4000000 in
theorem step_7 (a n t b : Int) (ha : I64 a) (q : Int) (hq : q.tmod 19 = 7) (r : Value) (hm : Sm m) (w : World) (hb : Both w B0 S P R f L m) :
    Calls Try.prog 15 #[.pointer (some ⟨S, 0, none⟩), .pointer (some ⟨R, 0, none⟩), .agg (acA q a n t b r)] w (Stepd w B0 S P R (opP (cTurn 3 2 1) f L m a n).2.1 L (opP (cTurn 3 2 1) f L m a n).2.2) := by
  obtain ⟨W1, hW1⟩ : ∃ x, w.alloc (.cells (acA q a n t b r) 38) = x := ⟨_, rfl⟩
  have hb1 : Below w.heap.size w W1 := by rw [← hW1]; exact (Below.refl _ _).alloc (Nat.le_refl _) _
  have bA : ABx W1 w.heap.size q a n t b r := by rw [← hW1]; exact World.alloc_heap_new w _
  have hlt := hb.lt
  have hB := hb.later hb1
  have c0 := bA.c0
  have x1 := bA.c1
  have x2 := bA.c2
  obtain ⟨v, hv, hvo⟩ := hB.ref
  have HA := Lib.hid (fun W (hW : Below W1.heap.size W1 W) => Decommit_is S P (· = R) f L hB.ok m hm a n ha W (hB.sys.later hW))
  have hG := hB.good
  have hOk := hB.ok
  clear hb
  go_enter Try.func15, Try.ntmps15
  go_wp2_with fail
  try rw [hW1]
  clear hW1 c0 hq
  have hgx : ¬ SP S P w.heap.size := by rintro (h | h) <;> omega
  have hgr : ¬ (w.heap.size = R) := by omega
  go_region_held3 (fun W' => W'.cell? ⟨w.heap.size, 1, none⟩ = some (.int .i64 a) ∧ W'.cell? ⟨w.heap.size, 2, none⟩ = some (.int .i64 n)) (first | exact ⟨x1, x2⟩ | exact ⟨y1, y2⟩ | exact ⟨z1, z2⟩)
    (first
    | (go_at_call 27; ((with_reducible refine (HA.out _ ?hh).mono ?_); (case hh => exact ⟨rfl, rfl, rfl, Nat.le_refl _, fun _ _ => rfl⟩)); rintro e wA ⟨rfl, sA, kA'⟩; have kA : Keep (SP S P) W1 wA := ⟨kA'.os, kA'.tape, kA'.output, kA'.size, kA'.block⟩; have rA := hv.keep kA (fun _ h => h); have y1 := (bA.keep kA hgx).c1; have y2 := (bA.keep kA hgx).c2)
    | (go_at_call 43; ((with_reducible refine (RDecommit_is (SP S P) f hG L hOk m hm v a n ha _ ?hh).mono ?_); (case hh => first | exact rA | exact rA.later ⟨rfl, rfl, rfl, Nat.le_refl _, fun _ _ => rfl⟩)); rintro e wB ⟨rfl, rB, kB'⟩; have kB : Keep (· = R) wA wB := ⟨kB'.os, kB'.tape, kB'.output, kB'.size, kB'.block⟩; have z1 := ((bA.keep kA hgx).keep kB hgr).c1; have z2 := ((bA.keep kA hgx).keep kB hgr).c2))
  clear HA
  go_wp2_with fail
  go_ret2
  exact ⟨rfl, both_after hB sA kB rB hvo (good_turn hG L m 3 2 1 (by decide) a n) hOk, (Keep.of_below hb1).trans ((kA.mono fun _ _ h => h.elim .inl (fun h => .inr (.inl h))).trans (kB.mono fun _ _ h => .inr (.inr h)))⟩
end Go.Proofs.Ytjplihljmohpjaa
