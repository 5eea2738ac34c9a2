/- RefusalsCounts: the law's walk over a valid plan. -/
import Derived.Test.YtldebakeebajkaaDoorRfCt
namespace Go.Proofs.YtldebakeebajkaaDoor
open Go.RowKit Go.Shelf
attribute [local go_sem] Oper.semAt_some

/-- A slice value that reads as a list of bytes. -/
def NAt8 (W : World) (v : Value) (l : List Nat) : Prop :=
  (v = .slice none 0 0 ∧ l = []) ∨ ∃ b off cap, v = .slice (some ⟨b, off, none⟩) l.length cap ∧ l.length ≤ cap ∧ cap ≤ maxLen ∧ ∀ (j x : Nat), l[j]? = some x → W.cell? ⟨b, off + j, none⟩ = some (.int .u8 (x : Int))
theorem NAt8.form {W : World} {v : Value} {l : List Nat} (h : NAt8 W v l) : ∃ a cap, v = .slice a l.length cap := by
  rcases h with ⟨rfl, rfl⟩ | ⟨b, off, cap, rfl, _⟩
  · exact ⟨_, _, rfl⟩
  · exact ⟨_, _, rfl⟩
theorem NAt8.len {W : World} {v : Value} {l : List Nat} (h : NAt8 W v l) : l.length ≤ 9223372036854775807 := by
  rcases h with ⟨_, rfl⟩ | ⟨b, off, cap, _, h1, h2, _⟩
  · simp
  · unfold maxLen at h2; omega
theorem NAt8.at {W : World} {a : Option Addr} {n cap : Nat} {l : List Nat} (h : NAt8 W (.slice a n cap) l) (k x : Nat) (hx : l[k]? = some x) : ∃ b off, a = some ⟨b, off, none⟩ ∧ b < W.heap.size ∧ W.cell? ⟨b, off + k, none⟩ = some (.int .u8 (x : Int)) := by
  rcases h with ⟨_, rfl⟩ | ⟨b, off, cap', hv, _, _, hc⟩
  · simp at hx
  · cases hv; exact ⟨b, off, rfl, World.block_lt_of_cell? _ _ (hc k x hx), hc k x hx⟩

set_option maxRecDepth 100000 in
set_option maxHeartbeats 8000000 in
theorem counts_ok (v : Value) (L : List Ru) (hL : OkL L) (hfar : farB L.length = false) (kv : Value) (ks : List Nat) (hk8 : ∀ x ∈ ks, x < 256) (hks : ks.length ≤ 60) (w : World) (hw : Gd w) (hr : RAt w v (toI L)) (hk : NAt8 w kv ks) :
    Calls Tryd.prog 8 #[.agg #[v], kv] w fun e w' => e = .returned (.bool true) ∧ Below w.heap.size w w' := by
  obtain ⟨N, hN⟩ : ∃ N, ks.length = N := ⟨_, rfl⟩
  have HN := Lib.hid hN
  obtain ⟨ka, kc, rfl⟩ := hk.form
  rw [hN] at hk hks ⊢
  obtain ⟨W1, hW1⟩ : ∃ x, w.alloc (.cells #[v] 24) = x := ⟨_, rfl⟩
  have hb1 : Below w.heap.size w W1 := by rw [← hW1]; exact (Below.refl _ _).alloc (Nat.le_refl _) _
  have bP : Boxed W1 w.heap.size 24 v := by rw [← hW1]; exact Boxed.new w _ _
  have q1 := bP.cell
  have HF := Lib.hid (far_is v (toI L) false (by rw [toI_len]; exact hfar) W1 (hr.later hb1))
  have HL := Lib.hid hL
  have h60 : ¬ (60 : Int) < (N : Int) := by omega
  clear hN hfar
  go_enter Tryd.func8, Tryd.ntmps8
  go_wp2_with fail
  try rw [hW1]
  refine HF.out.mono ?_
  rintro e w1 ⟨rfl, B1⟩
  have hB1 := hb1.trans (B1.mono hb1.size)
  have q2 := (bP.kept (grown_of_below B1) (by simp)).cell
  have hr1 := (hr.later hb1).later B1
  clear hW1
  go_wp2_with fail
  refine (Start_ok v L HL.out w1 hr1).mono ?_
  rintro e w2 ⟨u, rfl, h2, hfr, B2⟩
  have hB2 := hB1.trans (B2.mono hB1.size)
  have hu1 : u.oneCell' = true := by obtain ⟨_, _, rfl⟩ := h2.form; rfl
  obtain ⟨W3, hW3⟩ : ∃ x, w2.alloc (.cells #[.slice none 0 0, .int .i64 0, .int .i64 0, .int .i64 0, .int .i64 0, .int .i64 0, .int .i64 0, .int .i64 0, .int .i64 0, .int .i64 0, .int .i64 0, .int .i64 0, .int .i64 0, .int .i64 0, .int .i64 0] 40) = x := ⟨_, rfl⟩
  have s3 : SBox W3 w2.heap.size (.slice none 0 0) zer zer := by rw [← hW3]; exact SBox.new w2 (.slice none 0 0) zer zer
  have b3 : Below w2.heap.size w2 W3 := by rw [← hW3]; exact (Below.refl _ _).alloc (Nat.le_refl _) _
  have hz3 : W3.heap.size = w2.heap.size + 1 := by rw [← hW3]; simp
  go_wp2_with (refine wpList_store_row rfl 40 _ _ rfl w2.heap.size (stA u zer zer) rfl rfl 40 _ s3 (st_i _ _ _) rfl (stA_one _ hu1 _ _) ?_)
  obtain ⟨W4, hW4⟩ : ∃ x, W3.setRow w2.heap.size (stA u zer zer) = x := ⟨_, rfl⟩
  have s4 : SBox W4 w2.heap.size u zer zer := by rw [← hW4]; exact s3.row u zer zer
  have hz4 : W4.heap.size = w2.heap.size + 1 := by rw [← hW4, setRow_size]; exact hz3
  have hB4 : Below w.heap.size w W4 := by rw [← hW4]; exact below_row (hB2.trans (b3.mono hB2.size)) _ hB2.size _
  have hub : ∀ b, u.ownBlock = some b → b < w2.heap.size ∨ w2.heap.size + 3 < b := fun b e => .inl (hfr b e).2
  have hr4 : RAt W4 u (toI L) := by rw [← hW4]; exact (h2.later b3).row _ (fun e => by have := hub _ e; omega)
  have bP4 : Boxed W4 w.heap.size 24 v := by
    rw [← hW4]
    have h5 : Boxed W3 w.heap.size 24 v := ((bP.kept (grown_of_below B1) (by simp)).kept (grown_of_below B2) (by simp)).kept (grown_of_below b3) (by simp)
    exact boxed_row h5 (by have := hB1.size; have := B2.size; have := bP.lt; have := B1.size; omega) _
  obtain ⟨W5, hW5⟩ : ∃ x, ((W4.alloc (.cells #[.int .i64 0, .int .i64 0, .int .i64 0, .int .i64 0, .int .i64 0, .int .i64 0, .int .i64 0] 38)).alloc (.cells #[.int .i64 0, .int .i64 0, .int .i64 0, .int .i64 0, .int .i64 0, .int .i64 0, .int .i64 0] 38)).alloc (.cells #[.int .i64 0, .int .i64 0, .int .i64 0, .int .i64 0, .int .i64 0, .int .i64 0, .int .i64 0] 38) = x := ⟨_, rfl⟩
  have b5 : Below W4.heap.size W4 W5 := by rw [← hW5]; exact (((Below.refl _ _).alloc (Nat.le_refl _) _).alloc (by simp) _).alloc (by simp; omega) _
  have m1 : MBox W5 (w2.heap.size + 1) zer := by rw [← hW5, ← hz4]; exact ((MBox.new W4 zer).alloc _).alloc _
  have m2 : MBox W5 (w2.heap.size + 2) zer := by
    have h5 := MBox.new (W4.alloc (.cells (arr zer) 38)) zer
    rw [World.size_alloc, hz4] at h5
    rw [← hW5]; exact h5.alloc _
  have m3 : MBox W5 (w2.heap.size + 3) zer := by
    have h5 := MBox.new ((W4.alloc (.cells (arr zer) 38)).alloc (.cells (arr zer) 38)) zer
    rw [World.size_alloc, World.size_alloc, hz4] at h5
    rw [← hW5]; exact h5
  have z1 : zer = ci (fun _ => 0) := rfl
  have z2 : zer = ci (hf L (fun _ => 0)) := by funext k; unfold ci hf; rw [hitN_zero HL.out.2]; rfl
  have hI : CtI L v w.heap.size w2.heap.size 0 (fun _ => 0) (fun _ => 0) u W5 :=
    { p := bP4.kept (grown_of_below b5) (by simp), s := by rw [← z1, ← z2]; exact s4.later b5, r := hr4.later b5, f := hub, m := by rw [← z1]; exact m1, h := by rw [← z2]; exact m2, l := by rw [← z1]; exact m3,
      hmd := fun _ _ => Nat.le_refl _, hls := fun k _ => LS_self L k 0 }
  have hB5 : Below w.heap.size w W5 := hB4.trans (b5.mono hB4.size)
  obtain ⟨B, hB⟩ : ∃ x, w2.heap.size = x := ⟨_, rfl⟩
  have hBw : w.heap.size < B := by rw [← hB]; have := bP.lt; have := B1.size; have := B2.size; omega
  rw [hB] at hI hW4 ⊢
  rw [hW4, hW5]
  rw [show B + 1 + 1 + 1 = B + 3 from rfl, show B + 1 + 1 = B + 2 from rfl]
  clear hW3 hW4 hW5 m1 m2 m3 z1 z2 s3 s4 hub hfr hr4 bP4 b5 hz3 hz4 b3 hB4 q1 q2 bP hB
  go_loopw [10] (fun i wr => ∃ (j : Nat) (md ls : Nat → Nat) (u : Value), j ≤ N ∧ i = .int .i64 j ∧ CtI L v w.heap.size B j md ls u wr ∧ Below w.heap.size w wr) (fun i _ => N - (intOf i).toNat)
  case atStart => exact ⟨0, _, _, u, Nat.zero_le _, rfl, hI, hB5⟩
  case round =>
    clear hI hB5 h2 hu1
    obtain ⟨j, md, ls, u, hjN, rfl, hI, hB⟩ := hrel
    by_cases hlt : j < N
    · obtain ⟨x, hx⟩ : ∃ x, ks[j]? = some x := ⟨_, List.getElem?_eq_getElem (by rw [HN.out]; exact hlt)⟩
      have hx8 := hk8 x (List.mem_of_getElem? hx)
      obtain ⟨kb, ko, rfl, _, kcell⟩ := hk.at j x hx
      replace kcell := cell_later hB kcell
      have hi1 : (j : Int) < (N : Int) := by omega
      obtain ⟨kd, hkd⟩ : ∃ kd, x % 7 = kd := ⟨_, rfl⟩
      have hkd7 : kd < 7 := by omega
      have hmd1 : (x : Int) % 7 = (kd : Int) := by omega
      have hmd2 : Int.tmod (x : Int) 7 = (kd : Int) := by rw [Int.tmod_eq_emod_of_nonneg (by omega)]; exact hmd1
      obtain ⟨n, hn⟩ : ∃ n, md kd = n := ⟨_, rfl⟩
      have hnj : n ≤ j := by rw [← hn]; exact hI.hmd kd hkd7
      obtain ⟨md2, hmd⟩ : ∃ f, updN md kd (n + 1) = f := ⟨_, rfl⟩
      obtain ⟨rb, hrb⟩ : ∃ b, refP L kd (n + 1) = b := ⟨_, rfl⟩
      have hm2 : md2 kd = n + 1 := by rw [← hmd]; exact updN_same _ _ _
      have hmo : ∀ k, k ≠ kd → md2 k = md k := fun k hk => by rw [← hmd]; unfold updN; rw [if_neg hk]
      have hNx := Next_ok u L HL.out (ci md) (ci (hf L md)) (fun k hk7 => .inl (by have := hI.hmd k hk7; unfold ci; omega)) (csF_hf L md (fun k hk7 => by have := hI.hmd k hk7; omega)) kd n hkd7 (by unfold ci; rw [hn]) (by omega) wr hI.r
      rw [ci_upd, hmd, show nxH L (ci (hf L md)) kd n = ci (hf L md2) by rw [← hmd, ← hn]; exact nxH_hf L md kd, hrb] at hNx
      have HNx := Lib.hid hNx
      have hsS := hI.s
      clear hx hkd hNx
      go_wp2_with (first | (refine wpList_load_row rfl 40 _ rfl B rfl 40 _ (0, 0) _ hsS Tryd.underlying40 rfl (st_i _ _ _) ?_))
      refine HNx.out.mono ?_
      rintro e w6 ⟨u2, rfl, hr6, hf6, B6⟩
      have hu2 : u2.oneCell' = true := by obtain ⟨_, _, rfl⟩ := hr6.form; rfl
      obtain ⟨W7, hW7⟩ : ∃ x, w6.alloc (.cells #[.slice none 0 0, .int .i64 0, .int .i64 0, .int .i64 0, .int .i64 0, .int .i64 0, .int .i64 0, .int .i64 0, .int .i64 0, .int .i64 0, .int .i64 0, .int .i64 0, .int .i64 0, .int .i64 0, .int .i64 0] 40) = x := ⟨_, rfl⟩
      have s7 : SBox W7 w6.heap.size (.slice none 0 0) zer zer := by rw [← hW7]; exact SBox.new w6 (.slice none 0 0) zer zer
      have b7 : Below w6.heap.size w6 W7 := by rw [← hW7]; exact (Below.refl _ _).alloc (Nat.le_refl _) _
      have hJ0 := hI.open hBw B6 md2 u2 hr6 hf6 W7 b7 s7 kd hkd7 ((n : Int) + 1) (by rw [← hmd, ← ci_upd]; congr 1)
      have hm7 : MBox (W7.setRow w6.heap.size (stA u2 (ci md2) (ci (hf L md2)))) (B + 1) (ci md) := ((hI.m.later B6).later b7).row (by have := hI.l.lt; have := B6.size; omega) _
      have km := hm7.cell kd hkd7
      have kz := hm7.frozen kd
      rw [show ci md kd = (n : Int) by unfold ci; rw [hn]] at km
      have hB9 : Below w.heap.size w ((W7.setRow w6.heap.size (stA u2 (ci md2) (ci (hf L md2)))).setCell ⟨B + 1, kd, none⟩ (.int .i64 ((n : Int) + 1))) :=
        (below_row (hB.trans ((B6.trans (b7.mono B6.size)).mono hB.size)) _ (Nat.le_trans hB.size B6.size) _).setCell (by dsimp only; omega) _
      have hkdi : (kd : Int) < 7 := by omega
      have har := arr7
      have hJl := hJ0.m.lt
      obtain ⟨V, hV⟩ : ∃ x, (W7.setRow w6.heap.size (stA u2 (ci md2) (ci (hf L md2)))).setCell ⟨B + 1, kd, none⟩ (.int .i64 ((n : Int) + 1)) = x := ⟨_, rfl⟩
      rw [hV] at hJ0 hB9 hJl
      have HV := Lib.hid hV
      clear hV
      go_wp2_with (first | (refine wpList_store_row rfl 40 _ _ rfl w6.heap.size (stA u2 (ci md2) (ci (hf L md2))) rfl rfl 40 _ s7 (st_i _ _ _) rfl (stA_one _ hu2 _ _) ?_))
      rw [HV.out]
      have hrV := hr.later hB9
      have hmv : ci md2 kd = (n : Int) + 1 := by unfold ci; rw [hm2]; omega
      have hmdn : ∀ k, k < 7 → md2 k ≤ j + 1 := fun k hk7 => by
        by_cases he : k = kd
        · subst he; rw [hm2]; omega
        · rw [hmo k he]; have := hI.hmd k hk7; omega
      have hI_ls := hI.hls
      have HRf : Hid (∀ W, RAt W v (toI L) → Calls Tryd.prog 16 #[.agg #[v], .int .i64 (kd : Int), .int .i64 ((n : Int) + 1)] W fun e w' => e = .returned (.tuple #[.bool rb, .int .i64 0]) ∧ Below W.heap.size W w') := fun W hW => by
        have h := Refused_ok L HL.out kd (n + 1) hkd7 (by omega) (by omega) v W hW
        rw [hrb] at h
        exact h
      obtain ⟨q, hqd⟩ : ∃ q, hitN L kd (n + 1) = q := ⟨_, rfl⟩
      have HHt : Hid (∀ W, RAt W v (toI L) → Calls Tryd.prog 18 #[.agg #[v], .int .i64 (kd : Int), .int .i64 ((n : Int) + 1)] W fun e w' => e = .returned (.tuple #[.int .i64 (q : Int), .int .i64 0]) ∧ Below W.heap.size W w') := fun W hW => by
        have h := Hits_ok L HL.out kd (n + 1) hkd7 (by omega) v W hW
        rw [hqd] at h
        exact h
      have hqv : ci (hf L md2) kd = (q : Int) := by unfold ci hf; rw [hm2, hqd]
      have hk0 : decide ((kd : Int) < 0) = false := by simp
      have hk7 : decide ((7 : Int) ≤ (kd : Int)) = false := by simp; omega
      have p0 := fun x : Beh V => Beh.cell hJ0.p.cell x
      have p1 := fun x : Beh V => Beh.cell (hJ0.m.cell kd hkd7) x
      rw [hmv] at p1
      refine region_beh (by kernel_rfl) (by kernel_rfl) ?_
      repeat (go_big_quiet_step ((go_at_call 16; rename_i x; refine (HRf.out _ (hrV.later x.h)).mono ?_; rintro e w3 ⟨rfl, B3⟩; exact ⟨rfl, ⟨_, x.h.trans (B3.mono x.h.size)⟩, rfl⟩)))
      refine wpQuiet_nil ?_
      intro _ hw'
      obtain ⟨x, rfl⟩ := hw'
      have J1 := hJ0.later x.h
      have hB10 := hB9.trans (x.h.mono hB9.size)
      have hr10 := hrV.later x.h
      generalize x.W = V1 at J1 hB10 hr10 ⊢
      clear p0 p1 hJ0 hB9 hrV km kz hm7 s7 b7 hsS kcell hJl HV
      cases rb
      · have hhe : ci (hf L md) = ci (hf L md2) := by
          funext k
          unfold ci hf
          by_cases he : k = kd
          · subst he; rw [hn, hm2, hitN_succ, hrb]; simp
          · rw [hmo k he]
        rw [hhe] at J1
        have hlsn : ∀ k, k < 7 → LS L k (ls k) (md2 k) := fun k hk9 => by
          by_cases he : k = kd
          · subst he; rw [hm2]; have := hI_ls k hk9; rw [hn] at this; exact LS_step this hrb
          · rw [hmo k he]; exact hI_ls k hk9
        clear hhe hn hrb hmd hm2 hmo hqd hI hI_ls
        go_wp2_with fail
        have p0 := fun x : Beh V1 => Beh.cell J1.p.cell x
        have p1 := fun x : Beh V1 => Beh.cell (J1.m.cell kd hkd7) x
        rw [hmv] at p1
        refine region_beh (by kernel_rfl) (by kernel_rfl) ?_
        repeat (go_big_quiet_step ((go_at_call 18; rename_i x; refine (HHt.out _ (hr10.later x.h)).mono ?_; rintro e w3 ⟨rfl, B3⟩; exact ⟨rfl, ⟨_, x.h.trans (B3.mono x.h.size)⟩, rfl⟩)))
        refine wpQuiet_nil ?_
        intro _ hw'
        obtain ⟨x, rfl⟩ := hw'
        have J8 := J1.later x.h
        have hB8 := hB10.trans (x.h.mono hB10.size)
        generalize x.W = V8 at J8 hB8 ⊢
        clear p0 p1
        have t0 := J8.t.c 0 (by decide)
        have t1 := J8.t.c 1 (by decide)
        have t2 := J8.t.c 2 (by decide)
        have t3 := J8.t.c 3 (by decide)
        have t4 := J8.t.c 4 (by decide)
        have t5 := J8.t.c 5 (by decide)
        have t6 := J8.t.c 6 (by decide)
        have g0 := J8.t.h 0 (by decide)
        have g1 := J8.t.h 1 (by decide)
        have g2 := J8.t.h 2 (by decide)
        have g3 := J8.t.h 3 (by decide)
        have g4 := J8.t.h 4 (by decide)
        have g5 := J8.t.h 5 (by decide)
        have g6 := J8.t.h 6 (by decide)
        simp only [Nat.reduceAdd] at t0 t1 t2 t3 t4 t5 t6 g0 g1 g2 g3 g4 g5 g6
        have m0 := J8.m.cell 0 (by decide)
        have m1 := J8.m.cell 1 (by decide)
        have m2 := J8.m.cell 2 (by decide)
        have m3 := J8.m.cell 3 (by decide)
        have m4 := J8.m.cell 4 (by decide)
        have m5 := J8.m.cell 5 (by decide)
        have m6 := J8.m.cell 6 (by decide)
        have h0 := J8.h.cell 0 (by decide)
        have h1 := J8.h.cell 1 (by decide)
        have h2 := J8.h.cell 2 (by decide)
        have h3 := J8.h.cell 3 (by decide)
        have h4 := J8.h.cell 4 (by decide)
        have h5 := J8.h.cell 5 (by decide)
        have h6 := J8.h.cell 6 (by decide)
        have hq := J8.h.cell kd hkd7
        rw [hqv] at hq
        have ne1 := fun W => neq7 (ci md2) W
        have ne2 := fun W => neq7 (ci (hf L md2)) W
        have jt := J8.t
        have js := J8.s
        have hz8 := J8.lt
        have hzt := J8.t.lt
        go_wp2_with (first | (refine wpList_load_row rfl 40 _ rfl w6.heap.size rfl 40 _ (0, 0) _ jt Tryd.underlying40 rfl (st_i _ _ _) ?_) | (refine wpList_store_row rfl 40 _ _ rfl B (stA u2 (ci md2) (ci (hf L md2))) rfl rfl 40 _ js (st_i _ _ _) rfl (stA_one _ hu2 _ _) ?_))
        go_roundw
        case rel => exact ⟨j + 1, md2, ls, u2, by omega, by go_num, J8.shut hmdn (by exact hlsn), below_row hB8 _ (Nat.le_of_lt hBw) _⟩
        case measure => simp [intOf]; omega
      · obtain ⟨q0, hq0⟩ : ∃ q0, hitN L kd n = q0 := ⟨_, rfl⟩
        obtain ⟨l0, hl0⟩ : ∃ l0, ls kd = l0 := ⟨_, rfl⟩
        have hlL := hI_ls kd hkd7
        rw [hn, hl0] at hlL
        have hl0n := hlL.1
        have hhe : upd (ci (hf L md)) kd ((q0 : Int) + 1) = ci (hf L md2) := by
          funext k
          unfold upd ci hf
          by_cases he : k = kd
          · subst he; rw [if_pos rfl, hm2, hitN_succ, hrb, hq0]; simp
          · rw [if_neg he, hmo k he]
        have hle : upd (ci ls) kd ((n : Int) + 1) = ci (updN ls kd (n + 1)) := by rw [← ci_upd]; congr 1
        have HAf : Hid (∀ W, RAt W v (toI L) → Calls Tryd.prog 20 #[.agg #[v], .int .i64 (kd : Int), .int .i64 (l0 : Int)] W fun e w' => e = .returned (.tuple #[.int .i64 ((n : Int) + 1), .int .i64 0]) ∧ Below W.heap.size W w') := fun W hW => by
          have h := After_ok L HL.out kd l0 hkd7 (by omega) v W hW
          rw [LS_aft HL.out hlL hrb] at h
          have ha : aftA (some (n + 1)) = ((n : Int) + 1, 0) := by unfold aftA; simp only; rw [if_neg (by omega)]; rfl
          rw [ha] at h
          exact h
        have hlsn : ∀ k, k < 7 → LS L k (updN ls kd (n + 1) k) (md2 k) := fun k hk9 => by
          by_cases he : k = kd
          · subst he; rw [hm2, updN_same]; exact LS_self L k (n + 1)
          · rw [hmo k he, show updN ls kd (n + 1) k = ls k by unfold updN; rw [if_neg he]]; exact hI_ls k hk9
        have c1 := J1.h.cell kd hkd7
        have z1 := J1.h.frozen kd
        rw [show ci (hf L md) kd = (q0 : Int) by unfold ci hf; rw [hn, hq0]] at c1
        have J2 := J1.seth kd hkd7 ((q0 : Int) + 1)
        rw [hhe] at J2
        have hl1 := J1.lt
        have hl2 := J1.h.lt
        have hB11 : Below w.heap.size w (V1.setCell ⟨B + 2, kd, none⟩ (.int .i64 ((q0 : Int) + 1))) := hB10.setCell (by dsimp only; omega) _
        have hq0b : q0 ≤ n := by rw [← hq0]; exact hitN_le L kd n HL.out.2
        obtain ⟨V2, hV2⟩ : ∃ x, V1.setCell ⟨B + 2, kd, none⟩ (.int .i64 ((q0 : Int) + 1)) = x := ⟨_, rfl⟩
        rw [hV2] at J2 hB11
        have HV2 := Lib.hid hV2
        have hli : ci ls kd = (l0 : Int) := by unfold ci; rw [hl0]
        clear hV2 hhe hn hrb hmd hm2 hmo hqd hI hI_ls hlL hq0 hl0
        go_wp2_with fail
        rw [HV2.out]
        have hr11 := hr.later hB11
        have p0 := fun x : Beh V2 => Beh.cell J2.p.cell x
        have p1 := fun x : Beh V2 => Beh.cell (J2.l.cell kd hkd7) x
        rw [hli] at p1
        refine region_beh (by kernel_rfl) (by kernel_rfl) ?_
        repeat (go_big_quiet_step ((go_at_call 20; rename_i x; refine (HAf.out _ (hr11.later x.h)).mono ?_; rintro e w3 ⟨rfl, B3⟩; exact ⟨rfl, ⟨_, x.h.trans (B3.mono x.h.size)⟩, rfl⟩)))
        refine wpQuiet_nil ?_
        intro _ hw'
        obtain ⟨x, rfl⟩ := hw'
        have J3 := J2.later x.h
        have hB3 := hB11.trans (x.h.mono hB11.size)
        generalize x.W = V3 at J3 hB3 ⊢
        clear p0 p1 J1 J2 c1 z1 HV2 hl2
        have c1 := J3.m.cell kd hkd7
        rw [hmv] at c1
        have c3 := J3.l.cell kd hkd7
        have z3 := J3.l.frozen kd
        have hl3 := J3.l.lt
        have J4 := J3.setl kd hkd7 ((n : Int) + 1)
        rw [hle] at J4
        have hB12 : Below w.heap.size w (V3.setCell ⟨B + 3, kd, none⟩ (.int .i64 ((n : Int) + 1))) := hB3.setCell (by dsimp only; omega) _
        obtain ⟨V4, hV4⟩ : ∃ x, V3.setCell ⟨B + 3, kd, none⟩ (.int .i64 ((n : Int) + 1)) = x := ⟨_, rfl⟩
        rw [hV4] at J4 hB12
        have HV4 := Lib.hid hV4
        clear hV4 hle
        go_wp2_with fail
        rw [HV4.out]
        have hr12 := hr.later hB12
        clear J3 c1 c3 z3 hl3 HV4
        have p0 := fun x : Beh V4 => Beh.cell J4.p.cell x
        have p1 := fun x : Beh V4 => Beh.cell (J4.m.cell kd hkd7) x
        rw [hmv] at p1
        refine region_beh (by kernel_rfl) (by kernel_rfl) ?_
        repeat (go_big_quiet_step ((go_at_call 18; rename_i x; refine (HHt.out _ (hr12.later x.h)).mono ?_; rintro e w3 ⟨rfl, B3⟩; exact ⟨rfl, ⟨_, x.h.trans (B3.mono x.h.size)⟩, rfl⟩)))
        refine wpQuiet_nil ?_
        intro _ hw'
        obtain ⟨x, rfl⟩ := hw'
        have J8 := J4.later x.h
        have hB8 := hB12.trans (x.h.mono hB12.size)
        generalize x.W = V8 at J8 hB8 ⊢
        clear p0 p1
        have t0 := J8.t.c 0 (by decide)
        have t1 := J8.t.c 1 (by decide)
        have t2 := J8.t.c 2 (by decide)
        have t3 := J8.t.c 3 (by decide)
        have t4 := J8.t.c 4 (by decide)
        have t5 := J8.t.c 5 (by decide)
        have t6 := J8.t.c 6 (by decide)
        have g0 := J8.t.h 0 (by decide)
        have g1 := J8.t.h 1 (by decide)
        have g2 := J8.t.h 2 (by decide)
        have g3 := J8.t.h 3 (by decide)
        have g4 := J8.t.h 4 (by decide)
        have g5 := J8.t.h 5 (by decide)
        have g6 := J8.t.h 6 (by decide)
        simp only [Nat.reduceAdd] at t0 t1 t2 t3 t4 t5 t6 g0 g1 g2 g3 g4 g5 g6
        have m0 := J8.m.cell 0 (by decide)
        have m1 := J8.m.cell 1 (by decide)
        have m2 := J8.m.cell 2 (by decide)
        have m3 := J8.m.cell 3 (by decide)
        have m4 := J8.m.cell 4 (by decide)
        have m5 := J8.m.cell 5 (by decide)
        have m6 := J8.m.cell 6 (by decide)
        have h0 := J8.h.cell 0 (by decide)
        have h1 := J8.h.cell 1 (by decide)
        have h2 := J8.h.cell 2 (by decide)
        have h3 := J8.h.cell 3 (by decide)
        have h4 := J8.h.cell 4 (by decide)
        have h5 := J8.h.cell 5 (by decide)
        have h6 := J8.h.cell 6 (by decide)
        have hq := J8.h.cell kd hkd7
        rw [hqv] at hq
        have ne1 := fun W => neq7 (ci md2) W
        have ne2 := fun W => neq7 (ci (hf L md2)) W
        have jt := J8.t
        have js := J8.s
        have hz8 := J8.lt
        have hzt := J8.t.lt
        go_wp2_with (first | (refine wpList_load_row rfl 40 _ rfl w6.heap.size rfl 40 _ (0, 0) _ jt Tryd.underlying40 rfl (st_i _ _ _) ?_) | (refine wpList_store_row rfl 40 _ _ rfl B (stA u2 (ci md2) (ci (hf L md2))) rfl rfl 40 _ js (st_i _ _ _) rfl (stA_one _ hu2 _ _) ?_))
        go_roundw
        case rel => exact ⟨j + 1, md2, updN ls kd (n + 1), u2, by omega, by go_num, J8.shut hmdn (by exact hlsn), below_row hB8 _ (Nat.le_of_lt hBw) _⟩
        case measure => simp [intOf]; omega
    · have hi1 : ¬ ((j : Int) < (N : Int)) := by omega
      go_wp2_with fail
      refine (shown_is _ (hw.later hB)).mono ?_
      rintro e w9 ⟨rfl, B9⟩
      go_wp2
      go_ret
      exact ⟨rfl, hB.trans (B9.mono hB.size)⟩
end Go.Proofs.YtldebakeebajkaaDoor
