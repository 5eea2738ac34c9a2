/- One call of both systems. -/
import Derived.Deep.RegionHeld3
import Derived.Test.YtjplihljmohpjaaKh
import Derived.Test.YtjplihljmohpjaaKg
namespace Go.Proofs.Ytjplihljmohpjaa
open Go.RowKit Go.Shelf
attribute [local go_sem] Oper.semAt_some

/-- Both systems: the program's and the reference's; nothing below B0 is theirs to write, and the reference's rules lie there. -/
structure Both (W : World) (B0 S P R : Nat) (f : Pages) (L : List Ru) (m : Nat → Nat) : Prop where
  sys : Sys W S P (· = R) f L m
  ref : ∃ v, RfS W R (SP S P) f L m v ∧ ∀ b, obk v = some b → b < B0
  good : Good f
  ok : OkL L
  hS : B0 ≤ S
  hP : B0 ≤ P
  hR : B0 ≤ R
/-- What a call of both may write. -/
abbrev SPR (S P R : Nat) : Nat → Prop := fun k => k = S ∨ k = P ∨ k = R
variable {W V : World} {B0 S P R : Nat} {f : Pages} {L : List Ru} {m : Nat → Nat}
theorem Both.later (b : Both W B0 S P R f L m) (hb : Below W.heap.size W V) : Both V B0 S P R f L m := by
  obtain ⟨v, h1, h2⟩ := b.ref
  exact ⟨b.sys.later hb, ⟨v, h1.later hb, h2⟩, b.good, b.ok, b.hS, b.hP, b.hR⟩
theorem Both.lt (b : Both W B0 S P R f L m) : S < W.heap.size ∧ P < W.heap.size ∧ R < W.heap.size := by
  obtain ⟨v, h1, _⟩ := b.ref
  obtain ⟨u, s⟩ := b.sys
  exact ⟨s.box.lt, s.pg.lt, h1.row.lt⟩
/-- What one call of both leaves. -/
def Stepd (w : World) (B0 S P R : Nat) (f : Pages) (L : List Ru) (m : Nat → Nat) (e : Ending) (w' : World) : Prop := e = .returned (.tuple #[.pointer (some ⟨S, 0, none⟩), .bool true]) ∧ Both w' B0 S P R f L m ∧ Keep (SPR S P R) w w'
theorem good_write {f : Pages} (hf : Good f) (t b : Int) : Good (wrF f t b) := by
  unfold wrF
  split
  · exact hf
  · split
    · rename_i h0 h2
      have hk : ∀ i, (updP f (t.toNat / 64) { f (t.toNat / 64) with by' := fun k => if k = t.toNat % 64 then b else (f (t.toNat / 64)).by' k } i).kd = (f i).kd := fun i => by
        unfold updP; split
        · rename_i e; subst e; rfl
        · rfl
      have hu : ∀ i, (updP f (t.toNat / 64) { f (t.toNat / 64) with by' := fun k => if k = t.toNat % 64 then b else (f (t.toNat / 64)).by' k } i).hu = (f i).hu := fun i => by
        unfold updP; split
        · rename_i e; subst e; rfl
        · rfl
      refine ⟨fun j hj => by rw [hu, hu]; exact hf.grp j hj, fun j hj h => by rw [hk]; rw [hu] at h; exact hf.com j hj h, fun j hj h k hkk => ?_, fun j hj => by rw [hk]; exact hf.knd j hj⟩
      rw [hk] at h
      unfold updP
      split
      · rename_i e; rw [e] at h; exact absurd h2 h
      · exact hf.zer j hj h k hkk
    · exact hf
theorem both_after {wA wB : World} {w : World} (hb : Both w B0 S P R f L m) {f' : Pages} {L' : List Ru} {m' : Nat → Nat} (sA : Sys wA S P (· = R) f' L' m') (kB : Keep (· = R) wA wB) {v : Value} (rB : RfS wB R (SP S P) f' L' m' v) (hvo : ∀ b, obk v = some b → b < B0) (hg : Good f') (hL : OkL L') : Both wB B0 S P R f' L' m' :=
  ⟨sA.keep kB (fun _ _ h => h), ⟨v, rB, hvo⟩, hg, hL, hb.hS, hb.hP, hb.hR⟩
set_option maxRecDepth 100000 in
set_option maxHeartbeats 4000000 in
theorem step_0 (a n t b : Int) (ha : I64 a) (q : Int) (hq : q.tmod 19 = 0) (r : Value) (hm : Sm m) (w : World) (hb : Both w B0 S P R f L m) :
    Calls Try.prog 15 #[.pointer (some ⟨S, 0, none⟩), .pointer (some ⟨R, 0, none⟩), .agg (acA q a n t b r)] w (Stepd w B0 S P R (opP (cTurn 0 0 1) f L m a n).2.1 L (opP (cTurn 0 0 1) f L m a n).2.2) := by
  obtain ⟨W1, hW1⟩ : ∃ x, w.alloc (.cells (acA q a n t b r) 38) = x := ⟨_, rfl⟩
  have hb1 : Below w.heap.size w W1 := by rw [← hW1]; exact (Below.refl _ _).alloc (Nat.le_refl _) _
  have bA : ABx W1 w.heap.size q a n t b r := by rw [← hW1]; exact World.alloc_heap_new w _
  have hlt := hb.lt
  have hB := hb.later hb1
  have c0 := bA.c0
  have x1 := bA.c1
  have x2 := bA.c2
  obtain ⟨v, hv, hvo⟩ := hB.ref
  have HA := Lib.hid (fun W (hW : Below W1.heap.size W1 W) => Reserve_is S P (· = R) f L hB.ok m hm a n ha W (hB.sys.later hW))
  have hG := hB.good
  have hOk := hB.ok
  clear hb
  go_enter Try.func15, Try.ntmps15
  go_wp2_with fail
  try rw [hW1]
  clear hW1 c0 hq
  have hgx : ¬ SP S P w.heap.size := by rintro (h | h) <;> omega
  have hgr : ¬ (w.heap.size = R) := by omega
  go_region_held3 (fun W' => W'.cell? ⟨w.heap.size, 1, none⟩ = some (.int .i64 a) ∧ W'.cell? ⟨w.heap.size, 2, none⟩ = some (.int .i64 n)) (first | exact ⟨x1, x2⟩ | exact ⟨y1, y2⟩ | exact ⟨z1, z2⟩)
    (first
    | (go_at_call 36; ((with_reducible refine (HA.out _ ?hh).mono ?_); (case hh => exact ⟨rfl, rfl, rfl, Nat.le_refl _, fun _ _ => rfl⟩)); rintro e wA ⟨rfl, sA, kA'⟩; have kA : Keep (SP S P) W1 wA := ⟨kA'.os, kA'.tape, kA'.output, kA'.size, kA'.block⟩; have rA := hv.keep kA (fun _ h => h); have y1 := (bA.keep kA hgx).c1; have y2 := (bA.keep kA hgx).c2)
    | (go_at_call 40; ((with_reducible refine (RReserve_is (SP S P) f hG L hOk m hm v a n ha _ ?hh).mono ?_); (case hh => first | exact rA | exact rA.later ⟨rfl, rfl, rfl, Nat.le_refl _, fun _ _ => rfl⟩)); rintro e wB ⟨rfl, rB, kB'⟩; have kB : Keep (· = R) wA wB := ⟨kB'.os, kB'.tape, kB'.output, kB'.size, kB'.block⟩; have z1 := ((bA.keep kA hgx).keep kB hgr).c1; have z2 := ((bA.keep kA hgx).keep kB hgr).c2))
  clear HA
  go_wp2_with fail
  go_ret2
  exact ⟨rfl, both_after hB sA kB rB hvo (good_turn hG L m 0 0 1 (by decide) a n) hOk, (Keep.of_below hb1).trans ((kA.mono fun _ _ h => h.elim .inl (fun h => .inr (.inl h))).trans (kB.mono fun _ _ h => .inr (.inr h)))⟩
set_option maxRecDepth 100000 in
set_option maxHeartbeats 4000000 in
theorem step_1 (a n t b : Int) (ha : I64 a) (q : Int) (hq : q.tmod 19 = 1) (r : Value) (hm : Sm m) (w : World) (hb : Both w B0 S P R f L m) :
    Calls Try.prog 15 #[.pointer (some ⟨S, 0, none⟩), .pointer (some ⟨R, 0, none⟩), .agg (acA q a n t b r)] w (Stepd w B0 S P R (opP (cTurn 0 0 1) f L m a n).2.1 L (opP (cTurn 0 0 1) f L m a n).2.2) := by
  obtain ⟨W1, hW1⟩ : ∃ x, w.alloc (.cells (acA q a n t b r) 38) = x := ⟨_, rfl⟩
  have hb1 : Below w.heap.size w W1 := by rw [← hW1]; exact (Below.refl _ _).alloc (Nat.le_refl _) _
  have bA : ABx W1 w.heap.size q a n t b r := by rw [← hW1]; exact World.alloc_heap_new w _
  have hlt := hb.lt
  have hB := hb.later hb1
  have c0 := bA.c0
  have x1 := bA.c1
  have x2 := bA.c2
  obtain ⟨v, hv, hvo⟩ := hB.ref
  have HA := Lib.hid (fun W (hW : Below W1.heap.size W1 W) => Reserve_is S P (· = R) f L hB.ok m hm a n ha W (hB.sys.later hW))
  have hG := hB.good
  have hOk := hB.ok
  clear hb
  go_enter Try.func15, Try.ntmps15
  go_wp2_with fail
  try rw [hW1]
  clear hW1 c0 hq
  have hgx : ¬ SP S P w.heap.size := by rintro (h | h) <;> omega
  have hgr : ¬ (w.heap.size = R) := by omega
  go_region_held3 (fun W' => W'.cell? ⟨w.heap.size, 1, none⟩ = some (.int .i64 a) ∧ W'.cell? ⟨w.heap.size, 2, none⟩ = some (.int .i64 n)) (first | exact ⟨x1, x2⟩ | exact ⟨y1, y2⟩ | exact ⟨z1, z2⟩)
    (first
    | (go_at_call 36; ((with_reducible refine (HA.out _ ?hh).mono ?_); (case hh => exact ⟨rfl, rfl, rfl, Nat.le_refl _, fun _ _ => rfl⟩)); rintro e wA ⟨rfl, sA, kA'⟩; have kA : Keep (SP S P) W1 wA := ⟨kA'.os, kA'.tape, kA'.output, kA'.size, kA'.block⟩; have rA := hv.keep kA (fun _ h => h); have y1 := (bA.keep kA hgx).c1; have y2 := (bA.keep kA hgx).c2)
    | (go_at_call 40; ((with_reducible refine (RReserve_is (SP S P) f hG L hOk m hm v a n ha _ ?hh).mono ?_); (case hh => first | exact rA | exact rA.later ⟨rfl, rfl, rfl, Nat.le_refl _, fun _ _ => rfl⟩)); rintro e wB ⟨rfl, rB, kB'⟩; have kB : Keep (· = R) wA wB := ⟨kB'.os, kB'.tape, kB'.output, kB'.size, kB'.block⟩; have z1 := ((bA.keep kA hgx).keep kB hgr).c1; have z2 := ((bA.keep kA hgx).keep kB hgr).c2))
  clear HA
  go_wp2_with fail
  go_ret2
  exact ⟨rfl, both_after hB sA kB rB hvo (good_turn hG L m 0 0 1 (by decide) a n) hOk, (Keep.of_below hb1).trans ((kA.mono fun _ _ h => h.elim .inl (fun h => .inr (.inl h))).trans (kB.mono fun _ _ h => .inr (.inr h)))⟩
set_option maxRecDepth 100000 in
set_option maxHeartbeats 4000000 in
theorem step_2 (a n t b : Int) (ha : I64 a) (q : Int) (hq : q.tmod 19 = 2) (r : Value) (hm : Sm m) (w : World) (hb : Both w B0 S P R f L m) :
    Calls Try.prog 15 #[.pointer (some ⟨S, 0, none⟩), .pointer (some ⟨R, 0, none⟩), .agg (acA q a n t b r)] w (Stepd w B0 S P R (opP (cTurn 1 1 0) f L m a n).2.1 L (opP (cTurn 1 1 0) f L m a n).2.2) := by
  obtain ⟨W1, hW1⟩ : ∃ x, w.alloc (.cells (acA q a n t b r) 38) = x := ⟨_, rfl⟩
  have hb1 : Below w.heap.size w W1 := by rw [← hW1]; exact (Below.refl _ _).alloc (Nat.le_refl _) _
  have bA : ABx W1 w.heap.size q a n t b r := by rw [← hW1]; exact World.alloc_heap_new w _
  have hlt := hb.lt
  have hB := hb.later hb1
  have c0 := bA.c0
  have x1 := bA.c1
  have x2 := bA.c2
  obtain ⟨v, hv, hvo⟩ := hB.ref
  have HA := Lib.hid (fun W (hW : Below W1.heap.size W1 W) => Release_is S P (· = R) f L hB.ok m hm a n ha W (hB.sys.later hW))
  have hG := hB.good
  have hOk := hB.ok
  clear hb
  go_enter Try.func15, Try.ntmps15
  go_wp2_with fail
  try rw [hW1]
  clear hW1 c0 hq
  have hgx : ¬ SP S P w.heap.size := by rintro (h | h) <;> omega
  have hgr : ¬ (w.heap.size = R) := by omega
  go_region_held3 (fun W' => W'.cell? ⟨w.heap.size, 1, none⟩ = some (.int .i64 a) ∧ W'.cell? ⟨w.heap.size, 2, none⟩ = some (.int .i64 n)) (first | exact ⟨x1, x2⟩ | exact ⟨y1, y2⟩ | exact ⟨z1, z2⟩)
    (first
    | (go_at_call 34; ((with_reducible refine (HA.out _ ?hh).mono ?_); (case hh => exact ⟨rfl, rfl, rfl, Nat.le_refl _, fun _ _ => rfl⟩)); rintro e wA ⟨rfl, sA, kA'⟩; have kA : Keep (SP S P) W1 wA := ⟨kA'.os, kA'.tape, kA'.output, kA'.size, kA'.block⟩; have rA := hv.keep kA (fun _ h => h); have y1 := (bA.keep kA hgx).c1; have y2 := (bA.keep kA hgx).c2)
    | (go_at_call 41; ((with_reducible refine (RRelease_is (SP S P) f hG L hOk m hm v a n ha _ ?hh).mono ?_); (case hh => first | exact rA | exact rA.later ⟨rfl, rfl, rfl, Nat.le_refl _, fun _ _ => rfl⟩)); rintro e wB ⟨rfl, rB, kB'⟩; have kB : Keep (· = R) wA wB := ⟨kB'.os, kB'.tape, kB'.output, kB'.size, kB'.block⟩; have z1 := ((bA.keep kA hgx).keep kB hgr).c1; have z2 := ((bA.keep kA hgx).keep kB hgr).c2))
  clear HA
  go_wp2_with fail
  go_ret2
  exact ⟨rfl, both_after hB sA kB rB hvo (good_turn hG L m 1 1 0 (by decide) a n) hOk, (Keep.of_below hb1).trans ((kA.mono fun _ _ h => h.elim .inl (fun h => .inr (.inl h))).trans (kB.mono fun _ _ h => .inr (.inr h)))⟩
end Go.Proofs.Ytjplihljmohpjaa
