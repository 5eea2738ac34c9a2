/- Bytes of both. -/
import Derived.Test.YtnmeeddhagmjdaaVmAa
namespace Go.Proofs.Ytnmeeddhagmjdaa
open Go.RowKit Go.Shelf
attribute [local go_sem] Oper.semAt_some
variable {W V : World} {B0 S P R : Nat} {f : Pages} {L : List Ru} {m : Nat → Nat}

set_option maxRecDepth 100000 in
set_option maxHeartbeats 4000000 in
theorem step_13 (a n t b : Int) (q : Int) (hq : q.tmod 19 = 13) (r : Value) (w : World) (hb : Both w B0 S P R f L m) :
    Calls Try.prog 15 #[.pointer (some ⟨S, 0, none⟩), .pointer (some ⟨R, 0, none⟩), .agg (acA q a n t b r)] w (Stepd w B0 S P R (((0 : Int), wrF f t b, m)).2.1 L (((0 : Int), wrF f t b, m)).2.2) := by
  obtain ⟨W1, hW1⟩ : ∃ x, w.alloc (.cells (acA q a n t b r) 38) = x := ⟨_, rfl⟩
  have hb1 : Below w.heap.size w W1 := by rw [← hW1]; exact (Below.refl _ _).alloc (Nat.le_refl _) _
  have bA : ABx W1 w.heap.size q a n t b r := by rw [← hW1]; exact World.alloc_heap_new w _
  have hlt := hb.lt
  have hB := hb.later hb1
  have c0 := bA.c0
  have x3 := bA.c3
  have x4 := bA.c4
  obtain ⟨v, hv, hvo⟩ := hB.ref
  have HA := Lib.hid (fun W (hW : Below W1.heap.size W1 W) => Write_is S P (· = R) f L m t b W (hB.sys.later hW) _ rfl)
  have hG := hB.good
  have hOk := hB.ok
  clear hb
  go_enter Try.func15, Try.ntmps15
  go_wp2_with fail
  try rw [hW1]
  clear hW1 c0 hq
  have hgx : ¬ SP S P w.heap.size := by rintro (h | h) <;> omega
  have hgr : ¬ (w.heap.size = R) := by omega
  go_region_held3 (fun W' => W'.cell? ⟨w.heap.size, 3, none⟩ = some (.int .i64 t) ∧ W'.cell? ⟨w.heap.size, 4, none⟩ = some (.int .u8 b)) (first | exact ⟨x3, x4⟩ | exact ⟨y3, y4⟩ | exact ⟨z3, z4⟩)
    (first
    | (go_at_call 25; ((with_reducible refine (HA.out _ ?hh).mono ?_); (case hh => exact ⟨rfl, rfl, rfl, Nat.le_refl _, fun _ _ => rfl⟩)); rintro e wA ⟨rfl, sA, kA'⟩; have kA : Keep (SP S P) W1 wA := ⟨kA'.os, kA'.tape, kA'.output, kA'.size, kA'.block⟩; have rA := hv.keep kA (fun _ h => h); have y3 := (bA.keep kA hgx).c3; have y4 := (bA.keep kA hgx).c4)
    | (go_at_call 48; ((with_reducible refine (RWrite_is (SP S P) f L m v t b _ ?hh _ rfl).mono ?_); (case hh => first | exact rA | exact rA.later ⟨rfl, rfl, rfl, Nat.le_refl _, fun _ _ => rfl⟩)); rintro e wB ⟨rfl, rB, kB'⟩; have kB : Keep (· = R) wA wB := ⟨kB'.os, kB'.tape, kB'.output, kB'.size, kB'.block⟩; have z3 := ((bA.keep kA hgx).keep kB hgr).c3; have z4 := ((bA.keep kA hgx).keep kB hgr).c4))
  clear HA
  go_wp2_with fail
  go_ret2
  exact ⟨rfl, both_after hB sA kB rB hvo (good_write hG t b) hOk, (Keep.of_below hb1).trans ((kA.mono fun _ _ h => h.elim .inl (fun h => .inr (.inl h))).trans (kB.mono fun _ _ h => .inr (.inr h)))⟩
set_option maxRecDepth 100000 in
set_option maxHeartbeats 4000000 in
theorem step_14 (a n t b : Int) (q : Int) (hq : q.tmod 19 = 14) (r : Value) (w : World) (hb : Both w B0 S P R f L m) :
    Calls Try.prog 15 #[.pointer (some ⟨S, 0, none⟩), .pointer (some ⟨R, 0, none⟩), .agg (acA q a n t b r)] w (Stepd w B0 S P R (((0 : Int), wrF f t b, m)).2.1 L (((0 : Int), wrF f t b, m)).2.2) := by
  obtain ⟨W1, hW1⟩ : ∃ x, w.alloc (.cells (acA q a n t b r) 38) = x := ⟨_, rfl⟩
  have hb1 : Below w.heap.size w W1 := by rw [← hW1]; exact (Below.refl _ _).alloc (Nat.le_refl _) _
  have bA : ABx W1 w.heap.size q a n t b r := by rw [← hW1]; exact World.alloc_heap_new w _
  have hlt := hb.lt
  have hB := hb.later hb1
  have c0 := bA.c0
  have x3 := bA.c3
  have x4 := bA.c4
  obtain ⟨v, hv, hvo⟩ := hB.ref
  have HA := Lib.hid (fun W (hW : Below W1.heap.size W1 W) => Write_is S P (· = R) f L m t b W (hB.sys.later hW) _ rfl)
  have hG := hB.good
  have hOk := hB.ok
  clear hb
  go_enter Try.func15, Try.ntmps15
  go_wp2_with fail
  try rw [hW1]
  clear hW1 c0 hq
  have hgx : ¬ SP S P w.heap.size := by rintro (h | h) <;> omega
  have hgr : ¬ (w.heap.size = R) := by omega
  go_region_held3 (fun W' => W'.cell? ⟨w.heap.size, 3, none⟩ = some (.int .i64 t) ∧ W'.cell? ⟨w.heap.size, 4, none⟩ = some (.int .u8 b)) (first | exact ⟨x3, x4⟩ | exact ⟨y3, y4⟩ | exact ⟨z3, z4⟩)
    (first
    | (go_at_call 25; ((with_reducible refine (HA.out _ ?hh).mono ?_); (case hh => exact ⟨rfl, rfl, rfl, Nat.le_refl _, fun _ _ => rfl⟩)); rintro e wA ⟨rfl, sA, kA'⟩; have kA : Keep (SP S P) W1 wA := ⟨kA'.os, kA'.tape, kA'.output, kA'.size, kA'.block⟩; have rA := hv.keep kA (fun _ h => h); have y3 := (bA.keep kA hgx).c3; have y4 := (bA.keep kA hgx).c4)
    | (go_at_call 48; ((with_reducible refine (RWrite_is (SP S P) f L m v t b _ ?hh _ rfl).mono ?_); (case hh => first | exact rA | exact rA.later ⟨rfl, rfl, rfl, Nat.le_refl _, fun _ _ => rfl⟩)); rintro e wB ⟨rfl, rB, kB'⟩; have kB : Keep (· = R) wA wB := ⟨kB'.os, kB'.tape, kB'.output, kB'.size, kB'.block⟩; have z3 := ((bA.keep kA hgx).keep kB hgr).c3; have z4 := ((bA.keep kA hgx).keep kB hgr).c4))
  clear HA
  go_wp2_with fail
  go_ret2
  exact ⟨rfl, both_after hB sA kB rB hvo (good_write hG t b) hOk, (Keep.of_below hb1).trans ((kA.mono fun _ _ h => h.elim .inl (fun h => .inr (.inl h))).trans (kB.mono fun _ _ h => .inr (.inr h)))⟩
end Go.Proofs.Ytnmeeddhagmjdaa
