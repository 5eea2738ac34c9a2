/- How many rules refuse each call. -/
import Derived.Test.YtnmeeddhagmjdaaRfTb
namespace Go.Proofs.Ytnmeeddhagmjdaa
open Go.RowKit Go.Shelf
attribute [local go_sem] Oper.semAt_some

/-- Between two rounds of the loop over rules. -/
def HT (w : World) (L : List Ru) (kd m n : Nat) (j k : Nat) (Ds : List Nat) (W : World) : Prop :=
  k + j = n + 1 ∧ k ≤ n ∧ Boxed W (w.heap.size + 2) 56 (.slice (some ⟨w.heap.size + 1, 0, none⟩) m m) ∧ TBox W (w.heap.size + 1) m (cnt (L.take k) kd) ∧ Ds.Nodup ∧ (∀ D ∈ Ds, w.heap.size ≤ D ∧ W.heap[D]? = some (.deferred (some []))) ∧ Below w.heap.size w W
def IAt (w : World) (L : List Ru) (kd most n : Nat) (va : Option Addr) (cap : Nat) (j : Nat) (a : Act) (W : World) : Prop :=
  ∃ (k : Nat) (Ds : List Nat) (u8 u9 u10 u18 u19 u20 u21 u22 u23 u24 u25 u26 u27 u28 u29 u30 u31 u32 u33 u34 u35 u36 : Value), HT w L kd (most + 1) n j k Ds W ∧ a = { tmps := #[.agg #[.slice va n cap], .int .i64 (kd : Int), .int .i64 (most : Int), .pointer (some ⟨w.heap.size, 0, none⟩), undef, undef, .slice none 0 0, .pointer (some ⟨w.heap.size + 2, 0, none⟩), u8, u9, u10, .int .i64 (most : Int), .int .i64 ((most : Int) + 1), .slice (some ⟨w.heap.size + 1, 0, none⟩) (most + 1) (most + 1), .pointer (some ⟨w.heap.size, 0, none⟩), .slice va n cap, .int .i64 (n : Int), .int .i64 (k : Int), u18, u19, u20, u21, u22, u23, u24, u25, u26, u27, u28, u29, u30, u31, u32, u33, u34, u35, u36], defers := Ds.map markOf }

/-- Between two rounds over the calls of a rule. -/
def JT (w : World) (m : Nat) (c : Nat → Nat) (Ds : List Nat) (s : List Nat) (V : World) : Prop :=
  Boxed V (w.heap.size + 2) 56 (.slice (some ⟨w.heap.size + 1, 0, none⟩) m m) ∧ TBox V (w.heap.size + 1) m (fun p => c p + s.count p) ∧ (∀ D ∈ Ds, w.heap.size ≤ D ∧ V.heap[D]? = some (.deferred (some []))) ∧ Below w.heap.size w V
theorem JT_own {α : Type} (w : World) (m : Nat) (c : Nat → Nat) (Ds : List Nat) (f : α → Nat) (B : Nat) (hB : w.heap.size ≤ B) (hD : ∀ D ∈ Ds, D < B) : OwnFrom B (fun (pre : List α) V => JT w m c Ds (pre.map f) V) := by
  rintro s X Y row ⟨h1, h2, h3, h4⟩ hg hr
  refine ⟨Own.from (boxed_own _ _ (fun _ : Unit => .slice (some ⟨w.heap.size + 1, 0, none⟩) m m)) _ () X Y row h1 hg hr, own_TBox (β := Unit) B _ _ (fun _ p => c p + (s.map f).count p) () X Y row h2 hg hr, fun D hd => ⟨(h3 D hd).1, ?_⟩, h4.grown hg h4.size (fun r e => Nat.le_trans hB (hr r e).1)⟩
  exact ownFrom_block (β := Unit) _ (hD D hd) () X Y row (h3 D hd).2 hg hr

set_option maxRecDepth 100000 in
set_option maxHeartbeats 4000000 in
theorem tally_is (L : List Ru) (hL : OkL L) (kd most : Nat) (hmost : most ≤ 100000) (v : Value) (w : World) (h : RAt w v (toI L)) :
    Calls Try.prog 100 #[.agg #[v], .int .i64 (kd : Int), .int .i64 (most : Int)] w fun e w' => e = .returned (.slice (some ⟨w.heap.size + 1, 0, none⟩) (most + 1) (most + 1)) ∧ TBox w' (w.heap.size + 1) (most + 1) (cnt L kd) ∧ Below w.heap.size w w' := by
  obtain ⟨va, vcap, rfl⟩ := h.form
  obtain ⟨n, hn⟩ : ∃ n, L.length = n := ⟨_, rfl⟩
  have HN := Lib.hid hn
  have hn50 : n ≤ 50 := by have := hL.1; omega
  rw [toI_len, hn] at h
  rw [toI_len, hn]
  clear hn
  refine (callsIn_wide (n := 5)).1 ?_
  refine callsIn_of_wp_marks Try.func100 rfl trivial ?_ rfl
  simp only [Try.ntmps100, List.size_toArray, List.length_cons, List.length_nil, Nat.reduceAdd, Nat.reduceSub, Array.replicate_succ, Array.replicate_zero, List.push_toArray, List.append_toArray, List.nil_append, List.cons_append]
  have hf1 := wide_fn 103
  obtain ⟨W1, hW1⟩ : ∃ x, w.alloc (.cells #[.slice va n vcap] 24) = x := ⟨_, rfl⟩
  have hb1 : Below w.heap.size w W1 := by rw [← hW1]; exact (Below.refl _ _).alloc (Nat.le_refl _) _
  have hz1 : W1.heap.size = w.heap.size + 1 := by rw [← hW1]; simp
  have bP : Boxed W1 w.heap.size 24 (.slice va n vcap) := by rw [← hW1]; exact Boxed.new w _ _
  have hmk := run_make_tbl W1 (most + 1) (by omega)
  rw [show ((most + 1 : Nat) : Int) = (most : Int) + 1 by omega, hz1] at hmk
  have hP := bP.cell
  obtain ⟨W2, hW2⟩ : ∃ x, (W1.alloc (.cells (tbl (most + 1) fun _ => 0) 5)).alloc (.cells #[.slice (some ⟨w.heap.size + 1, 0, none⟩) (most + 1) (most + 1)] 56) = x := ⟨_, rfl⟩
  have hb2 : Below W1.heap.size W1 W2 := by rw [← hW2]; exact ((Below.refl _ _).alloc (Nat.le_refl _) _).alloc (by simp) _
  have hB2 : Below w.heap.size w W2 := hb1.trans (hb2.mono hb1.size)
  have bT : TBox W2 (w.heap.size + 1) (most + 1) (fun _ => 0) := by
    rw [← hW2, ← hz1]
    exact (Below.heap_alloc _ _ _ (by simp)).trans (World.alloc_heap_new W1 _)
  have bS : Boxed W2 (w.heap.size + 2) 56 (.slice (some ⟨w.heap.size + 1, 0, none⟩) (most + 1) (most + 1)) := by
    have := Boxed.new (W1.alloc (.cells (tbl (most + 1) fun _ => 0) 5)) 56 (.slice (some ⟨w.heap.size + 1, 0, none⟩) (most + 1) (most + 1))
    rw [World.size_alloc, hz1] at this
    rw [← hW2]; exact this
  have hP2 := (bP.kept (grown_of_below hb2) (by simp)).cell
  gi_wp2_with fail
  try rw [hW2]
  rw [show w.heap.size + 1 + 1 = w.heap.size + 2 from rfl]
  clear hW2 hW1 hmk
  refine wpIn_loop_ghost (IAt w L kd most n va vcap) (n + 1) ?_ ?_
  · exact ⟨0, [], _, _, _, _, _, _, _, _, _, _, _, _, _, _, _, _, _, _, _, _, _, _, ⟨by omega, Nat.zero_le _, bS, bT, List.nodup_nil, (fun D hD => by cases hD), hB2⟩, rfl⟩
  · rintro m a W ⟨k, Ds, u8, u9, u10, u18, u19, u20, u21, u22, u23, u24, u25, u26, u27, u28, u29, u30, u31, u32, u33, u34, u35, u36, ⟨hkm, hkn, hS, hT, hnd, hDs, hbel⟩, rfl⟩
    obtain ⟨j, rfl⟩ : ∃ j, m = j + 1 := ⟨m - 1, by omega⟩
    have hcS := hS.cell
    by_cases hlt : k < n
    · obtain ⟨r, hx⟩ : ∃ x, L[k]? = some x := ⟨_, List.getElem?_eq_getElem (by rw [HN.out]; exact hlt)⟩
      have hr := hL.get hx
      obtain ⟨b, off, rfl, _, k1, k2, k3, k4⟩ := h.at k _ (toI_some hx)
      replace k1 := cell_later hbel k1
      replace k2 := cell_later hbel k2
      replace k3 := cell_later hbel k3
      replace k4 := cell_later hbel k4
      have hi1 : (k : Int) < (n : Int) := by omega
      have hct := cnt_take L kd
      have HX := Lib.hid hx
      simp only [Ru.toI] at k1 k2 k3 k4
      have hsz := hbel.size
      have hSl := hS.lt
      by_cases hkd : r.k = kd
      · subst hkd
        have hq : ((r.k : Int) != (r.k : Int)) = false := by simp
        clear hx
        have HR := Lib.hid hr
        clear hr
        gi_wp2_with fail
        refine (calls_any 4 r.toI _ _).mono ?_
        rintro e w' ⟨rfl, rfl⟩
        obtain ⟨WA, hWA⟩ : ∃ x, W.alloc (.cells #[.int .i64 (r.k : Int), .int .i64 (r.f : Int), .int .i64 (r.e : Int), .int .i64 (r.t : Int)] 134) = x := ⟨_, rfl⟩
        have hbA : Below W.heap.size W WA := by rw [← hWA]; exact (Below.refl _ _).alloc (Nat.le_refl _) _
        have hzA : WA.heap.size = W.heap.size + 1 := by rw [← hWA]; simp
        obtain ⟨V, hV⟩ : ∃ x, (WA.alloc (.cells #[.int .i64 (r.k : Int), .int .i64 (r.f : Int), .int .i64 (r.e : Int), .int .i64 (r.t : Int)] 134)).alloc (.cells #[.int .i64 (most : Int)] 3) = x := ⟨_, rfl⟩
        have hbV : Below WA.heap.size WA V := by rw [← hV]; exact ((Below.refl _ _).alloc (Nat.le_refl _) _).alloc (by simp) _
        have hbWV : Below W.heap.size W V := hbA.trans (hbV.mono hbA.size)
        have bR : RBox V (W.heap.size + 1) r.toI := by rw [← hV, ← hzA]; exact (RBox.new WA r.toI).alloc _
        have bM : Boxed V (W.heap.size + 2) 3 (.int .i64 (most : Int)) := by
          have := Boxed.new (WA.alloc (.cells #[.int .i64 (r.k : Int), .int .i64 (r.f : Int), .int .i64 (r.e : Int), .int .i64 (r.t : Int)] 134)) 3 (.int .i64 (most : Int))
          rw [World.size_alloc, hzA] at this
          rw [← hV]; exact this
        have hzV : V.heap.size = W.heap.size + 3 := by rw [← hV]; simp [hzA]
        have hSV : Boxed V (w.heap.size + 2) 56 (.slice (some ⟨w.heap.size + 1, 0, none⟩) (most + 1) (most + 1)) := hS.kept (grown_of_below hbWV) (by simp)
        have hTV := hT.later hbWV
        have hBV : Below w.heap.size w V := hbel.trans (hbWV.mono hbel.size)
        have hDW : ∀ D ∈ Ds, D < W.heap.size := fun D hd => (Array.getElem?_eq_some_iff.1 (hDs D hd).2).1
        have hDV : ∀ D ∈ Ds, w.heap.size ≤ D ∧ V.heap[D]? = some (.deferred (some [])) := fun D hd => ⟨(hDs D hd).1, (hbWV.block D (hDW D hd)).trans (hDs D hd).2⟩
        simp only [Ru.toI]
        rw [hWA, hzA, hV]
        clear hWA hV
        gi_wp2_with fail
        rw [show W.heap.size + 1 + 1 = W.heap.size + 2 from rfl]
        refine range_g rfl (by decide) (gf := 105) (lb := #[.pointer (some ⟨W.heap.size + 1, 0, none⟩), .pointer (some ⟨W.heap.size + 2, 0, none⟩)]) rfl (wide_fn _) (enters_of Try.func105 (by kernel_rfl) rfl)
          (calls_g 4 (by decide) (W.heap.size + 1) (W.heap.size + 2) most hmost r HR.out (fun q => q = W.heap.size + 1 ∨ q = W.heap.size + 2) (.inl rfl) (.inr rfl) V bR bM) (fun h k => KC.trans h k) (fun _ V k o o' hk hc _ => KC.putObj V k o o' hk hc) (fun _ => rfl)
          (fun pre Y => JT w (most + 1) (cnt (L.take k) r.k) Ds (pre.map Subtype.val) Y) (fun _ _ _ => False)
          ?own (fun _ _ _ _ _ h _ _ => h) ?start (fun x => { tmps := #[.agg #[.slice (some ⟨b, off, none⟩) n vcap], .int .i64 (r.k : Int), .int .i64 (most : Int), .pointer (some ⟨w.heap.size, 0, none⟩), undef, undef, .slice none 0 0, .pointer (some ⟨w.heap.size + 2, 0, none⟩), u8, .pointer (some ⟨W.heap.size, 0, none⟩), .int .i64 (x.1 : Nat), .int .i64 (most : Int), .int .i64 ((most : Int) + 1), .slice (some ⟨w.heap.size + 1, 0, none⟩) (most + 1) (most + 1), .pointer (some ⟨w.heap.size, 0, none⟩), .slice (some ⟨b, off, none⟩) n vcap, .int .i64 (n : Int), .int .i64 (k : Int), .bool true, .pointer (some ⟨b, off + k * 4, none⟩), .agg #[.int .i64 (r.k : Int), .int .i64 (r.f : Int), .int .i64 (r.e : Int), .int .i64 (r.t : Int)], .pointer (some ⟨W.heap.size, 0, none⟩), .int .i64 (r.k : Int), .int .i64 (r.k : Int), .bool false, .agg #[.int .i64 (r.k : Int), .int .i64 (r.f : Int), .int .i64 (r.e : Int), .int .i64 (r.t : Int)], .int .i64 (most : Int), .func (.func 105) #[] #[.pointer (some ⟨W.heap.size + 1, 0, none⟩), .pointer (some ⟨W.heap.size + 2, 0, none⟩)], .int .i64 (x.1 : Nat), u29, u30, u31, u32, u33, u34, u35, u36], defers := [] }) ?assign ?body ?done ?stop
        case own => exact JT_own w _ _ Ds Subtype.val _ (by omega) (fun D hd => by have := hDW D hd; omega)
        case start => exact ⟨hSV, hTV.congr fun p _ => by simp, hDV, hBV⟩
        case assign =>
          intro l x Y K hK
          simp only [encN]
          gi_wp2
          exact hK
        case body =>
          rintro l pre x Y ⟨yS, yT, yD, yB⟩ hlen
          obtain ⟨x, hxm⟩ := x
          have ycS := yS.cell
          obtain ⟨c, hc⟩ : ∃ c, cnt (L.take k) r.k x + (pre.map Subtype.val).count x = c := ⟨_, rfl⟩
          have ycT := yT.cell x (by omega)
          have yfT := yT.frozen x
          rw [hc] at ycT
          obtain ⟨y, hy⟩ : ∃ y, c % 256 = y := ⟨_, rfl⟩
          obtain ⟨z, hz⟩ : ∃ z, (c + 1) % 256 = z := ⟨_, rfl⟩
          rw [hy] at ycT
          have hw8 : IntKind.u8.wrap ((y : Int) + 1) = (z : Int) := by rw [IntKind.wrap_u8]; omega
          have hx1 : (x : Int) < (most : Int) + 1 := by omega
          have hx2 : x < most + 1 := by omega
          have ySl := yS.lt
          have yTl := yT.lt
          have YT := Lib.hid yT
          have HC := Lib.hid hc
          have HZ := Lib.hid hz
          clear yT hc hy hz
          have hne : ∀ D ∈ Ds, D ≠ w.heap.size + 1 := fun D hd e => by
            have h1 := (yD D hd).2
            have h2 := YT.out
            unfold TBox at h2
            rw [e, h2] at h1; cases h1
          gi_wp2_with fail
          refine ⟨(KeepsOthers.setCell _ _ _).from _, KC.setCell _ _ _ (by show ¬ (w.heap.size + 1 = W.heap.size + 1 ∨ w.heap.size + 1 = W.heap.size + 2); omega), (Below.heap_setCell _ _ _ _ (by show w.heap.size + 2 ≠ w.heap.size + 1; omega)).trans yS, ?_, fun D hd => ⟨(yD D hd).1, (Below.heap_setCell _ _ _ _ (hne D hd)).trans (yD D hd).2⟩, yB.setCell (by dsimp only; omega) _⟩
          have h1 := YT.out.set x (c + 1)
          rw [HZ.out] at h1
          refine h1.congr fun p _ => ?_
          rw [List.map_append, List.map_singleton, List.count_append, ← Nat.add_assoc]
          by_cases hp : p = x
          · subst hp
            rw [if_pos rfl, HC.out]
            exact (congrArg (c + ·) (List.count_singleton_self : List.count p [p] = 1)).symm
          · rw [if_neg hp]
            exact (congrArg (cnt (L.take k) r.k p + List.count p (List.map Subtype.val pre) + ·) (List.count_eq_zero.2 (by rw [List.mem_singleton]; exact hp) : List.count p [x] = 0)).symm
        case done =>
          rintro D ys Y hD hys ⟨yS, yT, yD, yB⟩ hK
          have hT2 : TBox Y (w.heap.size + 1) (most + 1) (cnt (L.take (k + 1)) r.k) := yT.congr fun p hp => by
            rw [cnt_take L r.k p k r HX.out, hys, clL_count HR.out most p (by omega)]
            by_cases hp2 : r.ref p = true
            · rw [if_pos hp2, if_pos ⟨rfl, hp2⟩]
            · rw [if_neg hp2, if_neg (by intro h; exact hp2 h.2)]
          have hnd2 : (D :: Ds).Nodup := List.nodup_cons.2 ⟨fun hd => by have := hDW D hd; omega, hnd⟩
          have hD2 : ∀ D' ∈ D :: Ds, w.heap.size ≤ D' ∧ Y.heap[D']? = some (.deferred (some [])) := fun D' hd => by
            rcases List.mem_cons.1 hd with rfl | hd
            · exact ⟨by omega, hK⟩
            · exact yD D' hd
          clear yT
          gi_wp2_with fail
          exact ⟨j, Nat.lt_succ_self j, k + 1, D :: Ds, _, _, _, _, _, _, _, _, _, _, _, _, _, _, _, _, _, _, _, _, _, _, ⟨by omega, by omega, yS, hT2, hnd2, hD2, yB⟩, rfl⟩
        case stop => exact fun _ _ _ _ _ _ h _ => h.elim
      · have hq : ((r.k : Int) != (kd : Int)) = true := by simp; omega
        have hq2 : ¬ (r.k : Int) = (kd : Int) := by omega
        have hT2 : TBox W (w.heap.size + 1) (most + 1) (cnt (L.take (k + 1)) kd) := hT.congr fun p _ => by
          rw [cnt_take L kd p k r HX.out, if_neg (by intro h; exact hkd h.1)]; rfl
        clear hx
        gi_wp2_with fail
        have hbA : Below W.heap.size W (W.alloc (.cells #[.int .i64 (r.k : Int), .int .i64 (r.f : Int), .int .i64 (r.e : Int), .int .i64 (r.t : Int)] 134)) := (Below.refl _ _).alloc (Nat.le_refl _) _
        refine ⟨j, Nat.lt_succ_self j, k + 1, Ds, _, _, _, _, _, _, _, _, _, _, _, _, _, _, _, _, _, _, _, _, _, _, ⟨by omega, by omega, hS.kept (grown_of_below hbA) (by simp), hT2.later hbA, hnd, fun D hd => ⟨(hDs D hd).1, (hbA.block D (Array.getElem?_eq_some_iff.1 (hDs D hd).2).1).trans (hDs D hd).2⟩, hbel.trans (hbA.mono hbel.size)⟩, rfl⟩
    · have hi1 : ¬ ((k : Int) < (n : Int)) := by omega
      have hkn2 : k = n := by omega
      have hs : L.take k = L := by rw [hkn2, ← HN.out, List.take_length]
      rw [hs] at hT
      clear hs hkn2
      gi_wp2_with fail
      refine leaves_marks w.heap.size Ds W hnd hDs fun W' hk' hb' => ?_
      exact ⟨_, results_tmp rfl _ _ _, rfl, (hk' _ (by intro hd; have := (hDs _ hd).2; unfold TBox at hT; rw [hT] at this; cases this)).trans hT, hbel.trans hb'⟩
end Go.Proofs.Ytnmeeddhagmjdaa
