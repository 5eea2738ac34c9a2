/- slices.MinFunc over spans, by their pages. -/
import Derived.Test.YtgljfiihaehedaaFirst
import Derived.Test.YtgljfiihaehedaaSort
namespace Go.Proofs.Ytgljfiihaehedaa
open Go.RowKit Go.Shelf
attribute [local go_sem] Oper.semAt_some

set_option maxRecDepth 100000 in
set_option maxHeartbeats 1000000 in
theorem cmp2_is (p q p2 q2 : Int) (w : World) :
    Calls Try.prog 67 #[.agg #[.int .i64 p, .int .i64 q], .agg #[.int .i64 p2, .int .i64 q2]] w fun e w' => e = .returned (.int .i64 (Lib.compareInt q q2)) ∧ Below w.heap.size w w' := by
  have hcon := fun W' => AnyG.cmp_Compare_int Try.cmpInt q q2 W'
  change ∀ W', Calls Try.prog 68 _ _ _ at hcon
  generalize Lib.compareInt q q2 = r at hcon ⊢
  go_enter Try.func67, Try.ntmps67
  go_wp2_with (go_at_call 68; refine (hcon _).mono ?_; rintro e w' ⟨rfl, rfl⟩)
  go_ret
  exact ⟨rfl, ((Below.refl _ _).alloc (Nat.le_refl _) _).alloc (by simp) _⟩
theorem set_len2 {L : List Sp} (h : SetL 0 L) : L.length ≤ 2000 := by have := h.len (by omega); omega
def minS (m y : Sp) : Sp := if y.2 < m.2 then y else m
theorem minS_mem (F : List Sp) : ∀ (x : Sp), F.foldl minS x ∈ x :: F := by
  induction F with
  | nil => intro x; simp
  | cons y F ih =>
    intro x
    have := ih (minS x y)
    rw [List.foldl_cons]
    rcases List.mem_cons.1 this with h | h
    · rw [h]; unfold minS; split <;> simp
    · simp [h]
theorem minS_le (F : List Sp) : ∀ (x : Sp), ∀ y ∈ x :: F, (F.foldl minS x).2 ≤ y.2 := by
  induction F with
  | nil => intro x y hy; simp at hy; subst hy; exact Nat.le_refl _
  | cons z F ih =>
    intro x y hy
    rw [List.foldl_cons]
    have h0 := ih (minS x z) (minS x z) (by simp)
    have h1 : (minS x z).2 ≤ x.2 ∧ (minS x z).2 ≤ z.2 := by unfold minS; split <;> omega
    rcases List.mem_cons.1 hy with rfl | hy
    · omega
    · rcases List.mem_cons.1 hy with rfl | hy
      · omega
      · exact ih (minS x z) y (by simp [hy])
theorem XBox.write {W : World} {k : Nat} {x y : SpI} (h : XBox W k x) : XBox ((W.setCell ⟨k, 0, none⟩ (.int .i64 y.1)).setCell ⟨k, 1, none⟩ (.int .i64 y.2)) k y := by
  have h1 := heap_setCell_same W k 0 _ _ (.int .i64 y.1) h
  exact heap_setCell_same _ k 1 _ _ (.int .i64 y.2) h1
theorem XBox.fz {W : World} {k : Nat} {x : SpI} (h : XBox W k x) (o : Nat) : W.frozen? ⟨k, o, none⟩ = false := by unfold XBox at h; simp [World.frozen?, h]

set_option maxRecDepth 100000 in
set_option maxHeartbeats 1000000 in
theorem min_is (x : Sp) (F : List Sp) (hV : ValL (x :: F)) (hl : F.length ≤ 2000) (v : Value) (w : World) (h : SAt w v (toI (x :: F))) :
    Calls Try.prog 66 #[v, .func (.func 67) #[] #[]] w fun e w' => e = .returned (.agg #[.int .i64 ((F.foldl minS x).1 : Nat), .int .i64 ((F.foldl minS x).2 : Nat)]) ∧ Below w.heap.size w w' := by
  obtain ⟨va, vc, rfl⟩ := h.form
  obtain ⟨n, hn⟩ : ∃ n, F.length = n := ⟨_, rfl⟩
  have hln : (toI (x :: F)).length = n + 1 := by rw [toI_len, List.length_cons, hn]
  have HN := Lib.hid hn
  rw [hn] at hl
  rw [hln] at h ⊢
  obtain ⟨p, q⟩ := x
  have vx := hV (p, q) (by simp)
  simp only at vx
  obtain ⟨b, off, rfl, hbl, k1, k2⟩ := h.at 0 _ (toI_some (show ((p, q) :: F)[0]? = some (p, q) from rfl))
  rw [Nat.zero_mul, Nat.add_zero] at k1 k2
  simp only at k1 k2
  have hi0 : (0 : Int) < (n : Int) + 1 := by omega
  have hi1 : ¬ (n : Int) + 1 < 1 := by omega
  have hi2 : decide ((n : Int) + 1 < 1) = false := by simpa using hi1
  clear hn hln
  go_enter Try.func66, Try.ntmps66
  go_wp2_with fail
  obtain ⟨WX, hWX⟩ : ∃ y, (w.alloc (.cells #[.int .i64 0, .int .i64 0] 31)).alloc (.cells #[.int .i64 (p : Int), .int .i64 (q : Int)] 31) = y := ⟨_, rfl⟩
  have hBX : Below w.heap.size w WX := by rw [← hWX]; exact ((Below.refl _ _).alloc (Nat.le_refl _) _).alloc (by simp) _
  have b0 : XBox WX w.heap.size (0, 0) := by rw [← hWX]; exact (XBox.new w (0, 0)).alloc _
  have b1 : XBox WX (w.heap.size + 1) ((p : Int), (q : Int)) := by
    rw [← hWX]
    have := XBox.new (w.alloc (.cells #[.int .i64 0, .int .i64 0] 31)) ((p : Int), (q : Int))
    rw [World.size_alloc] at this
    exact this
  rw [hWX]
  clear hWX
  go_loopw [6] (fun i wr => ∃ (k : Nat) (m : Sp), k ≤ n ∧ i = .int .i64 ((k : Int) + 1) ∧ Hid ((F.take k).foldl minS (p, q) = m) ∧ XBox wr w.heap.size (0, 0) ∧ XBox wr (w.heap.size + 1) ((m.1 : Int), (m.2 : Int)) ∧ Below w.heap.size w wr) (fun i _ => n + 1 - (intOf i).toNat)
  case atStart => exact ⟨0, (p, q), Nat.zero_le _, rfl, rfl, b0, b1, hBX⟩
  case round =>
    clear b0 b1 hBX
    obtain ⟨k, m, hk, rfl, HM, b0, b1, hB⟩ := hrel
    have hmm : m ∈ (p, q) :: F := by
      have h1 := minS_mem (F.take k) (p, q)
      rw [HM.out] at h1
      rcases List.mem_cons.1 h1 with h2 | h2
      · rw [h2]; simp
      · simp [List.mem_of_mem_take h2]
    have vm := hV m hmm
    obtain ⟨m1, m2⟩ := m
    simp only at vm b1
    have x0 := b1.c0
    have x1 := b1.c1
    have xl := b1.lt
    have xf0 := b1.fz 0
    have xf1 := b1.fz 1
    simp only at x0 x1
    by_cases hlt : k < n
    · obtain ⟨y, hy⟩ : ∃ y, F[k]? = some y := ⟨_, List.getElem?_eq_getElem (by rw [HN.out]; exact hlt)⟩
      have vy := hV y (by simp [List.mem_of_getElem? hy])
      have hst : (F.take (k + 1)).foldl minS (p, q) = minS (m1, m2) y := by rw [List.take_add_one, hy, Option.toList_some, List.foldl_append, HM.out]; rfl
      obtain ⟨y1, y2⟩ := y
      have iy := toI_some (show ((p, q) :: F)[k + 1]? = some (y1, y2) from hy)
      simp only at vy iy
      obtain ⟨b', off', hab, _, k3, k4⟩ := h.at (k + 1) _ iy
      cases hab
      simp only at k3 k4
      replace k3 := cell_later hB k3
      replace k4 := cell_later hB k4
      have hbw := Nat.lt_of_lt_of_le hbl hB.size
      have hi3 : (k : Int) + 1 < (n : Int) + 1 := by omega
      have hi4 : (0 : Int) ≤ (k : Int) + 1 := by omega
      have ht : ((k : Int) + 1).toNat = k + 1 := by omega
      have HY := Lib.hid hy
      have HST := Lib.hid hst
      obtain ⟨r, hr⟩ : ∃ r, Lib.compareInt (y2 : Int) (m2 : Int) = r := ⟨_, rfl⟩
      have HR := Lib.hid hr
      clear hy iy hst
      by_cases hc : y2 < m2
      · have hr2 : r = -1 := by rw [← hr]; unfold Lib.compareInt; rw [if_pos (by omega)]
        have HS2 : Hid (minS (m1, m2) (y1, y2) = (y1, y2)) := by unfold Hid minS; rw [if_pos hc]
        subst hr2
        clear hr hc
        go_wp2_with fail
        first | go_region_with ((go_at_call 67; refine (cmp2_is _ _ _ _ _).mono ?_; rintro e w2 ⟨rfl, B2'⟩; have B2 : Below wr.heap.size wr w2 := ⟨B2'.os, B2'.tape, B2'.output, B2'.size, B2'.block⟩; rw [HR.out])) | fail
        all_goals
          have c0 := b0.later B2
          have c1 := b1.later B2
          have j3 := cell_later B2 k3
          have j4 := cell_later B2 k4
          have y0 := c1.c0
          have y1' := c1.c1
          have yl := c1.lt
          have yf0 := c1.fz 0
          have yf1 := c1.fz 1
          have hbw2 := Nat.lt_of_lt_of_le hbw B2.size
          have D2 := hB.trans (B2.mono hB.size)
          simp only at y0 y1'
          clear x0 x1 xl xf0 xf1 k3 k4
          go_wp2_with fail
          go_roundw
          case rel =>
            refine ⟨k + 1, (y1, y2), by omega, by go_num, by unfold Hid; rw [HST.out]; exact HS2.out, ?_, c1.write (y := ((y1 : Int), (y2 : Int))), (D2.setCell (by dsimp only; omega) _).setCell (by dsimp only; omega) _⟩
            exact (Below.heap_setCell _ _ _ _ (by show w.heap.size ≠ w.heap.size + 1; omega)).trans ((Below.heap_setCell _ _ _ _ (by show w.heap.size ≠ w.heap.size + 1; omega)).trans c0)
          case measure => simp [intOf]; omega
      · have hr2 : ¬ r < 0 := by rw [← hr]; unfold Lib.compareInt; rw [if_neg (by omega)]; split <;> decide
        have hr3 : decide (r < 0) = false := by simpa using hr2
        have HS2 : Hid (minS (m1, m2) (y1, y2) = (m1, m2)) := by unfold Hid minS; rw [if_neg hc]
        clear hr hc
        go_wp2_with fail
        first | go_region_with ((go_at_call 67; refine (cmp2_is _ _ _ _ _).mono ?_; rintro e w2 ⟨rfl, B2'⟩; have B2 : Below wr.heap.size wr w2 := ⟨B2'.os, B2'.tape, B2'.output, B2'.size, B2'.block⟩; rw [HR.out])) | fail
        all_goals
          go_wp2_with fail
          go_roundw
          case rel => exact ⟨k + 1, (m1, m2), by omega, by go_num, by unfold Hid; rw [HST.out]; exact HS2.out, b0.later B2, b1.later B2, hB.trans (B2.mono hB.size)⟩
          case measure => simp [intOf]; omega
    · have hi3 : ¬ (k : Int) + 1 < (n : Int) + 1 := by omega
      have hkn : k = n := by omega
      have hfin : F.foldl minS (p, q) = (m1, m2) := by rw [← HM.out, hkn, ← HN.out, List.take_length]
      have HF := Lib.hid hfin
      have z0 := b0.c0
      have z1 := b0.c1
      have zl := b0.lt
      have zf0 := b0.fz 0
      have zf1 := b0.fz 1
      simp only at z0 z1
      clear hkn hfin
      go_wp2_with fail
      have hw2 := b0.write (y := ((m1 : Int), (m2 : Int)))
      refine bodyPost_ret (results_cell_row (P := Try.prog) rfl _ _ w.heap.size 31 #[.int .i64 (m1 : Int), .int .i64 (m2 : Int)] (0, 0) _ rfl hw2 Try.underlying31 rfl (by kernel_rfl)) rfl ?_
      exact ⟨by rw [HF.out], (hB.setCell (by dsimp only; omega) _).setCell (by dsimp only; omega) _⟩

set_option maxRecDepth 100000 in
set_option maxHeartbeats 1000000 in
theorem Best_ok (L : List Sp) (hL : SetL 0 L) (m al : Nat) (hm1 : 1 ≤ m) (hm2 : m ≤ 1024) (hal : alB (al : Int) = true) (x : Sp) (F : List Sp) (hF : L.filter (fits m al) = x :: F) (v : Value) (w : World) (h : SAt w v (toI L)) :
    Calls Try.prog 34 #[v, .int .i64 m, .int .i64 al] w fun e w' => e = .returned (.tuple #[.int .i64 (algn (F.foldl minS x).1 al : Nat), .int .i64 0]) ∧ Below w.heap.size w w' := by
  have hfit := Lib.hid (fun w h => fitting_ok L hL m al hm1 hm2 hal (x :: F) hF 0 (if_neg (by simp)) v w h)
  have hsub : ∀ y ∈ x :: F, y ∈ L := fun y hy => by rw [← hF] at hy; exact (List.mem_filter.1 hy).1
  have hV : ValL (x :: F) := fun y hy => hL.val y (hsub y hy)
  have hFl : F.length ≤ 2000 := by
    have h1 : (x :: F).length ≤ L.length := by rw [← hF]; exact List.length_filter_le _ _
    have h2 := set_len2 hL
    rw [List.length_cons] at h1; omega
  obtain ⟨al', hq, ha1, ha2⟩ := alB_nat hal
  have hqq : al' = al := by omega
  subst hqq
  have hmem := minS_mem F x
  have vz := hV _ hmem
  have HMN := Lib.hid (fun v w h => min_is x F hV hFl v w h)
  obtain ⟨z, hz⟩ : ∃ z, F.foldl minS x = z := ⟨_, rfl⟩
  rw [hz] at vz ⊢
  have HZ := Lib.hid hz
  obtain ⟨g, hg⟩ : ∃ g, algn z.1 al' = g := ⟨_, rfl⟩
  obtain ⟨p, q⟩ := z
  simp only at vz hg ⊢
  have HAL : Hid (∀ w, Calls Try.prog 64 #[.int .i64 (p : Int), .int .i64 (al' : Int)] w fun e w' => e = .returned (.int .i64 (g : Nat)) ∧ Below w.heap.size w w') := fun w => by have := aligned_is p al' (by omega) ha1 ha2 w; rw [hg] at this; exact this
  rw [hg]
  obtain ⟨va, vc, rfl⟩ := h.form
  clear hF hq hg hmem hsub hz
  go_enter Try.func34, Try.ntmps34
  go_wp2_with fail
  refine (hfit.out _ h).mono ?_
  rintro e w1 ⟨u, rfl, hu, B1⟩
  have hu2 := Lib.hid hu
  obtain ⟨ua, uc, rfl⟩ := hu.form
  clear hu
  go_wp2_with fail
  refine (HMN.out _ _ hu2.out).mono ?_
  rintro e w2 ⟨rfl, B2⟩
  rw [HZ.out]
  have D2 := B1.trans (B2.mono B1.size)
  have hA2 : Below w2.heap.size w2 (w2.alloc (.cells #[.int .i64 (p : Int), .int .i64 (q : Int)] 31)) := (Below.refl _ _).alloc (Nat.le_refl _) _
  go_wp2_with fail
  refine (HAL.out _).mono ?_
  rintro e w3 ⟨rfl, B3⟩
  go_wp2
  go_ret2
  exact ⟨rfl, D2.trans ((hA2.trans (B3.mono hA2.size)).mono D2.size)⟩

set_option maxRecDepth 100000 in
set_option maxHeartbeats 1000000 in
theorem Best_bad (l : List SpI) (fl : Fit l) (m a : Int) (ha : I64 a) (c : Int) (hc : fitE l m a = c) (h0 : c ≠ 0) (v : Value) (w : World) (h : SAt w v l) :
    Calls Try.prog 34 #[v, .int .i64 m, .int .i64 a] w fun e w' => e = .returned (.tuple #[.int .i64 0, .int .i64 c]) ∧ Below w.heap.size w w' := by
  have HC := Lib.hid (fun w h => fitting_bad l fl m a ha c hc h0 v w h)
  have hq : (c != 0) = true := by simp [h0]
  clear hc h0
  go_enter Try.func34, Try.ntmps34
  go_wp2_with fail
  refine (HC.out _ h).mono ?_
  rintro e w1 ⟨rfl, B1⟩
  go_wp2
  go_ret2
  exact ⟨rfl, B1⟩

set_option maxRecDepth 100000 in
set_option maxHeartbeats 1000000 in
theorem Best_none (L : List Sp) (hL : SetL 0 L) (m al : Nat) (hm1 : 1 ≤ m) (hm2 : m ≤ 1024) (hal : alB (al : Int) = true) (hF : L.filter (fits m al) = []) (v : Value) (w : World) (h : SAt w v (toI L)) :
    Calls Try.prog 34 #[v, .int .i64 m, .int .i64 al] w fun e w' => e = .returned (.tuple #[.int .i64 0, .int .i64 4]) ∧ Below w.heap.size w w' := by
  have hfit := Lib.hid (fun w h => fitting_ok L hL m al hm1 hm2 hal [] hF 4 (if_pos rfl) v w h)
  clear hF
  go_enter Try.func34, Try.ntmps34
  go_wp2_with fail
  refine (hfit.out _ h).mono ?_
  rintro e w1 ⟨u, rfl, hu, B1⟩
  obtain ⟨ua, uc, rfl⟩ := hu.form
  clear hu
  go_wp2
  go_ret2
  exact ⟨rfl, B1⟩
end Go.Proofs.Ytgljfiihaehedaa
