/- New, Set. -/
import Derived.Test.YtpplleojdcgceaaDoorPut
import Derived.Test.YtpplleojdcgceaaDoorShelf
import Derived.Laws.OwnMore
import Derived.Deep.RegionHeld3
namespace Go.Proofs.YtpplleojdcgceaaDoor
open Go.RowKit Go.Shelf
attribute [local go_sem] Oper.semAt_some

theorem Tryd.infoU64 : (Tryd.prog.info? 58).map (fun i => (i.zero, i.size, i.bytes)) = some (some (.int .u64 0), 1, 8) := by kernel_rfl
theorem made_zero (m : Nat) : (madeCells (Value.int .u64 0).cells (m * 1)).toList = wv (List.replicate m 0) := by
  unfold wv
  apply List.ext_getElem?
  intro j
  rw [List.map_replicate, List.getElem?_replicate]
  by_cases h : j < m <;> simp [madeCells, h, Value.cells, Nat.mod_one]

theorem new_mk (on : Bool) (n : Nat) (hn : n ≤ 4096) : putL on (List.replicate ((n + 63) / 64) 0) (pcL 0 n) = mkW n fun _ => on := by
  rw [wz_mk, put_mk on n 0 n _ _ rfl (Nat.le_refl n) hn]
  exact mkW_congr fun i hi => by simp [hi]
theorem argres (w : World) (N : Int) (u : Value) : ∃ wA, (w.alloc (.cells #[.int .i64 N, u] 24)).alloc (.cells #[.int .i64 0, .slice none 0 0] 24) = wA ∧ Below w.heap.size w wA ∧ BBox wA w.heap.size N u ∧ BBox wA (w.heap.size + 1) 0 (.slice none 0 0) := by
  refine ⟨_, rfl, ((Below.refl _ _).alloc (Nat.le_refl _) _).alloc (by simp) _, (BBox.new w N u).alloc _, ?_⟩
  have := BBox.new (w.alloc (.cells #[.int .i64 N, u] 24)) 0 (.slice none 0 0)
  rw [World.size_alloc] at this
  exact this

set_option maxRecDepth 100000 in
set_option maxHeartbeats 1000000 in
theorem New_ok (n : Nat) (on : Bool) (hn : n ≤ 4096) (w : World) :
    Calls Tryd.prog 15 #[.int .i64 n, .bool on] w fun e w' => ∃ u, e = .returned (.tuple #[bv n u, .int .i64 0]) ∧ WAt w' u (mkW n fun _ => on) ∧ Below w.heap.size w w' := by
  obtain ⟨m, hm⟩ : ∃ m, (n + 63) / 64 = m := ⟨_, rfl⟩
  obtain ⟨i0, hi, hz0, hz1, hz2⟩ := info_parts Tryd.infoU64
  have HM := Lib.hid hm
  have hm64 : m ≤ 64 := by omega
  have hmn : n ≤ 64 * m := by omega
  have q1 : ¬ (n : Int) < 0 := by omega
  have q2 : ¬ (4096 < (n : Int)) := by omega
  clear hm
  go_enter Tryd.func15, Tryd.ntmps15
  go_wp2_with fail
  refine (wordsFor_any n m (by omega) HM.out _).mono ?_
  rintro e w' ⟨rfl, rfl⟩
  obtain ⟨w1, hw1⟩ : ∃ x, w.alloc (.cells #[.int .i64 0, .slice none 0 0] 24) = x := ⟨_, rfl⟩
  have hb1 : Below w.heap.size w w1 := by rw [← hw1]; exact (Below.refl _ _).alloc (Nat.le_refl _) _
  have b1 : BBox w1 w.heap.size 0 (.slice none 0 0) := by rw [← hw1]; exact BBox.new w 0 _
  rw [hw1]
  clear hw1
  obtain ⟨w2, hmk, hown, hgr⟩ := run_make_full (P := Tryd.prog) (w := w1) w1.heap.size 22 58 i0 _ 1 Tryd.underlying22 hi hz0 hz1 .i64 .i64 m (by rw [hz2]; omega) (by unfold maxLen; omega) (Nat.le_refl _)
  rw [made_zero] at hown
  have hsz2 : w1.heap.size < w2.heap.size := (hown.lt w1.heap.size rfl).2
  have hb2 : Below w1.heap.size w1 w2 := (Below.refl _ _).grown hgr (Nat.le_refl _) (fun k e => by cases e)
  have ho2 : WOwn w2 w1.heap.size (.slice (some ⟨w1.heap.size, 0, none⟩) m m) (List.replicate m 0) := by unfold WOwn; rw [List.length_replicate]; exact hown
  have hfr : Fit64 (List.replicate m 0) := fun x hx => by rw [(List.mem_replicate.1 hx).2]; decide
  have HH := Lib.hid hown
  clear hown
  go_wp2_with fail
  refine (put_any n 0 n on _ (List.replicate m 0) hfr (by simpa using hmn) (by simpa using hm64) w1.heap.size w2 (Nat.le_of_lt hsz2) ho2).mono ?_
  rintro e w3 ⟨rfl, ho3, hb3⟩
  have b3 : BBox w3 w.heap.size 0 (.slice none 0 0) := b1.later (hb2.trans hb3)
  have c0 := b3.c0
  have c1 := b3.c1
  have z0 := b3.fz 0
  have z1 := b3.fz 1
  have HO := Lib.hid ho3
  clear ho3
  go_wp2_with fail
  have hW := b3.write (M := n) (u := .slice (some ⟨w1.heap.size, 0, none⟩) m m)
  have hG := write_grown w3 w.heap.size n (.slice (some ⟨w1.heap.size, 0, none⟩) m m)
  obtain ⟨VW, hVW⟩ : ∃ x, (w3.setCell ⟨w.heap.size, 0, none⟩ (.int .i64 (n : Int))).setCell ⟨w.heap.size, 1, none⟩ (.slice (some ⟨w1.heap.size, 0, none⟩) m m) = x := ⟨_, rfl⟩
  rw [hVW] at hW hG ⊢
  have e0 := hW.c0
  have e1 := hW.c1
  have hlt := b1.lt
  refine bodyPost_ret (v := .tuple #[bv n (.slice (some ⟨w1.heap.size, 0, none⟩) m m), .int .i64 0]) (by simp [results, Tryd.results15, go_sem, e0, e1]) rfl ⟨_, rfl, ?_, ?_⟩
  · have h4 := (World.ownsRow.kept HO.out hG (.inr fun e => by simp [Value.ownBlock] at e; omega) : WOwn VW w1.heap.size _ _)
    have h5 := WOwn.at h4
    rw [← HM.out, new_mk on n hn, HM.out] at h5
    exact h5
  · exact (hb1.trans ((hb2.trans hb3).mono hb1.size)).grown hG (Nat.le_of_lt (Nat.lt_of_lt_of_le hlt (hb2.trans hb3).size)) (fun k e => by cases e; exact Nat.le_refl _)

theorem run_chk {N : Int} {ws : List Nat} {a t : Int} (h : runB N ws a t = 0) : checkB N ws = 0 := by
  unfold runB at h
  split at h
  · contradiction
  · rename_i hc; simpa using hc
theorem Clone_any (u : Value) (ws : List Nat) (hl : ws.length ≤ 64) (w : World) (h : WAt w u ws) :
    Calls Tryd.prog 57 #[u] w fun e w' => ∃ v, e = .returned v ∧ WOwn w' w.heap.size v ws ∧ Below w.heap.size w w' ∧ w.heap.size ≤ w'.heap.size := by
  obtain ⟨i0, hi, hz0, hz1, hz2⟩ := info_parts Tryd.infoU64
  rcases h with ⟨rfl, rfl⟩ | ⟨b, off, cap, rfl, h1, h2, hc⟩
  · refine (Tryd.slices_Clone_nil 0 0 w).mono ?_
    rintro e w' ⟨rfl, rfl⟩
    exact ⟨_, rfl, World.ownsRow_nil _ _ _ _, Below.refl _ _, Nat.le_refl _⟩
  · refine (Tryd.slices_Clone i0 _ 1 8 hi hz0 hz1 hz2 rfl (by decide) Tryd.sizeOf58 b off ws.length cap (wv ws) w (by unfold wv; simp) (by unfold maxLen; omega) (by omega) (fun j x hx => ?_) (fun x hx => ?_)).mono ?_
    · unfold wv at hx
      rw [List.getElem?_map] at hx
      cases hq : ws[j]? with
      | none => rw [hq] at hx; cases hx
      | some y =>
        rw [hq] at hx
        simp at hx
        subst hx
        obtain ⟨hj, rfl⟩ := List.getElem?_eq_some_iff.1 hq
        exact hc j hj
    · unfold wv at hx
      obtain ⟨y, _, rfl⟩ := List.mem_map.1 hx
      rfl
    · rintro e w' ⟨v, rfl, ho, _, hB⟩
      exact ⟨v, rfl, ho, hB, hB.size⟩

set_option maxRecDepth 100000 in
set_option maxHeartbeats 1000000 in
theorem Set_ok (n a t : Nat) (on : Bool) (u : Value) (ws : List Nat) (hf : Fit64 ws) (hr : runB n ws a t = 0) (w : World) (h : WAt w u ws) :
    Calls Tryd.prog 22 #[bv n u, .int .i64 a, .int .i64 t, .bool on] w fun e w' => ∃ v, e = .returned (.tuple #[bv n v, .int .i64 0]) ∧ WAt w' v (mkW n fun i => if a ≤ i ∧ i < t then on else btW ws i) ∧ Below w.heap.size w w' := by
  obtain ⟨n', a', t', hn', ha', ht', hat, htn, hn4, hlen⟩ := run_ok hr
  obtain rfl : n = n' := by omega
  obtain rfl : a = a' := by omega
  obtain rfl : t = t' := by omega
  have hck := run_chk hr
  obtain ⟨wA, hwA, hAB, bA, rA⟩ := argres w n u
  have hA := h.later hAB
  have HW := Lib.hid hwA
  clear hwA
  go_enter Tryd.func22, Tryd.ntmps22
  go_wp2_with fail
  rw [HW.out]
  refine (checkRun_is n u ws a t 0 hr hf _ hA).mono ?_
  rintro e w1 ⟨rfl, hB1⟩
  have bA1 := bA.later hB1
  have rA1 := rA.later hB1
  have x0 := bA1.c0
  have x1 := bA1.c1
  have r0 := rA1.c0
  have r1 := rA1.c1
  have z0 := rA1.fz 0
  have z1 := rA1.fz 1
  have q0 := bA1.lt
  have q1 := rA1.lt
  have hA1 := hA.later hB1
  have hm64 : ws.length ≤ 64 := by omega
  have htl : t ≤ 64 * ws.length := by omega
  have HLN := Lib.hid hlen
  have HCK := Lib.hid hck
  clear hlen hn' ha' ht' hck
  go_wp2_with fail
  first | go_region_held3 (fun w' => w'.cell? ⟨w.heap.size, 0, none⟩ = some (.int .i64 (n : Int)) ∧ w'.cell? ⟨w.heap.size, 1, none⟩ = some u) (first | exact ⟨x0, x1⟩ | exact ⟨y0, y1⟩ | exact ⟨u0, u1⟩ | go_keep)
    (first | (go_at_call 57; refine (Clone_any u ws hm64 _ (by exact hA1)).mono ?_; rintro e w2 ⟨v, rfl, ho2, hB2, hs2⟩; obtain ⟨a2, c2, rfl⟩ := own_form ho2; have B2 : Below w1.heap.size w1 w2 := ⟨hB2.os, hB2.tape, hB2.output, hB2.size, hB2.block⟩; have bA2 := bA1.later B2; have rA2 := rA1.later B2; have y0 := bA2.c0; have y1 := bA2.c1) | (go_at_call 50; refine (put_any n a t on _ ws hf htl hm64 _ _ (by assumption) (by assumption)).mono ?_; rintro e w3 ⟨rfl, ho3, hB3⟩; have B3 : Below w1.heap.size w2 w3 := ⟨hB3.os, hB3.tape, hB3.output, hB3.size, hB3.block⟩; have bA3 := bA1.later (B2.trans B3); have rA3 := rA1.later (B2.trans B3); have u0 := bA3.c0; have u1 := bA3.c1; have s0 := rA3.c0; have s1 := rA3.c1; have t0 := rA3.fz 0; have t1 := rA3.fz 1)) | fail
  all_goals
    have HO3 := Lib.hid ho3
    clear ho3 ho2
    go_wp2
    have hW := rA3.write (M := n) (u := .slice a2 ws.length c2)
    have hG := write_grown w3 (w.heap.size + 1) n (.slice a2 ws.length c2)
    obtain ⟨VW, hVW⟩ : ∃ x, (w3.setCell ⟨w.heap.size + 1, 0, none⟩ (.int .i64 (n : Int))).setCell ⟨w.heap.size + 1, 1, none⟩ (.slice a2 ws.length c2) = x := ⟨_, rfl⟩
    rw [hVW] at hW hG ⊢
    have e0 := hW.c0
    have e1 := hW.c1
    have hsd : w1.drew.heap.size = w1.heap.size := rfl
    refine bodyPost_ret (v := .tuple #[bv n (.slice a2 ws.length c2), .int .i64 0]) (by simp [results, Tryd.results22, go_sem, e0, e1]) rfl ⟨_, rfl, ?_, ?_⟩
    · have h4 : WOwn VW w1.drew.heap.size (.slice a2 ws.length c2) (putL on ws (pcL a t)) := World.ownsRow.kept HO3.out hG (.inr fun e => by have := (World.ownsRow.lt HO3.out _ e).1; omega)
      have h5 := WOwn.at h4
      rw [put_mk on n a t ws (btW ws) (valid_mk hf HCK.out) htn hn4] at h5
      exact h5
    · have hb13 : Below w.heap.size w w3 := hAB.trans ((hB1.trans ((B2.trans B3).mono hB1.size)).mono hAB.size)
      exact hb13.grown hG hb13.size (fun k e => by cases e; omega)
end Go.Proofs.YtpplleojdcgceaaDoor
