/- The reference's counts; plans; New. -/
import Derived.Test.YtnmeeddhagmjdaaVmW
import Derived.Test.YtnmeeddhagmjdaaVmL
namespace Go.Proofs.Ytnmeeddhagmjdaa
open Go.RowKit Go.Shelf
attribute [local go_sem] Oper.semAt_some
variable {R : Nat} {kd : Nat → Int} {hg : Nat → Bool} {bt : Nat → Nat → Int} {st : Array Value}

abbrev v4 (a b c d : Nat) : Array Value := #[.int .i64 (a : Int), .int .i64 (b : Int), .int .i64 (c : Int), .int .i64 (d : Int)]
def FBx (W : World) (g : Nat) (a b c d : Nat) : Prop := W.heap[g]? = some (.cells (v4 a b c d) 65 (0, 0))
theorem FBx.lt {W : World} {g a b c d : Nat} (s : FBx W g a b c d) : g < W.heap.size := (Array.getElem?_eq_some_iff.1 s).1
theorem FBx.frozen {W : World} {g a b c d : Nat} (s : FBx W g a b c d) (j : Nat) : W.frozen? ⟨g, j, none⟩ = false := by unfold FBx at s; simp [World.frozen?, s]
theorem FBx.c0 {W : World} {g a b c d : Nat} (s : FBx W g a b c d) : W.cell? ⟨g, 0, none⟩ = some (.int .i64 (a : Int)) := by unfold FBx at s; simp [World.cell?, s]
theorem FBx.i0 {W : World} {g a b c d : Nat} (s : FBx W g a b c d) : FBx (W.setCell ⟨g, 0, none⟩ (.int .i64 ((a : Int) + 1))) g (a + 1) b c d := heap_setCell_same W g 0 _ _ _ s
theorem FBx.c1 {W : World} {g a b c d : Nat} (s : FBx W g a b c d) : W.cell? ⟨g, 1, none⟩ = some (.int .i64 (b : Int)) := by unfold FBx at s; simp [World.cell?, s]
theorem FBx.i1 {W : World} {g a b c d : Nat} (s : FBx W g a b c d) : FBx (W.setCell ⟨g, 1, none⟩ (.int .i64 ((b : Int) + 1))) g a (b + 1) c d := heap_setCell_same W g 1 _ _ _ s
theorem FBx.c2 {W : World} {g a b c d : Nat} (s : FBx W g a b c d) : W.cell? ⟨g, 2, none⟩ = some (.int .i64 (c : Int)) := by unfold FBx at s; simp [World.cell?, s]
theorem FBx.i2 {W : World} {g a b c d : Nat} (s : FBx W g a b c d) : FBx (W.setCell ⟨g, 2, none⟩ (.int .i64 ((c : Int) + 1))) g a b (c + 1) d := heap_setCell_same W g 2 _ _ _ s
theorem FBx.c3 {W : World} {g a b c d : Nat} (s : FBx W g a b c d) : W.cell? ⟨g, 3, none⟩ = some (.int .i64 (d : Int)) := by unfold FBx at s; simp [World.cell?, s]
theorem FBx.i3 {W : World} {g a b c d : Nat} (s : FBx W g a b c d) : FBx (W.setCell ⟨g, 3, none⟩ (.int .i64 ((d : Int) + 1))) g a b c (d + 1) := heap_setCell_same W g 3 _ _ _ s
theorem cnH_append (f : Pages) : ∀ (l r : List Nat), cnH f (l ++ r) = cnH f l + cnH f r
  | [], r => by rw [List.nil_append]; show _ = 0 + _; omega
  | j :: l, r => by show _ + cnH f (l ++ r) = _ + cnH f l + _; rw [cnH_append f l r]; omega
theorem cnH_grp (f : Pages) (g : Nat) : ∀ k, k ≤ 16 → cnH f (List.range' (16 * g) k) = if k = 0 then 0 else if (f (16 * g)).hu = true then 1 else 0
  | 0, _ => rfl
  | k + 1, h => by
    rw [List.range'_concat, Nat.one_mul, cnH_snoc, cnH_grp f g k (by omega), if_neg (by omega : ¬ k + 1 = 0)]
    by_cases e : k = 0
    · subst e
      rw [if_pos rfl, Nat.add_zero]
      by_cases hu : (f (16 * g)).hu = true
      · rw [if_pos ⟨hu, by omega⟩, if_pos hu]
      · rw [if_neg (fun h => hu h.1), if_neg hu]
    · rw [if_neg e, if_neg (show ¬ ((f (16 * g + k)).hu = true ∧ (16 * g + k) % 16 = 0) from fun h2 => by have := h2.2; omega), Nat.add_zero]
/-- How many groups are huge. -/
def cnG (hg : Nat → Bool) : Nat → Nat
  | 0 => 0
  | g + 1 => cnG hg g + if hg g = true then 1 else 0
theorem cnG_is (f : Pages) : ∀ i, cnH f (List.range' 0 (16 * i)) = cnG (hgF f) i
  | 0 => rfl
  | i + 1 => by
    have e : List.range' 0 (16 * (i + 1)) = List.range' 0 (16 * i) ++ List.range' (16 * i) 16 := by
      rw [show 16 * (i + 1) = 16 * i + 16 by omega, ← List.range'_append_1, Nat.zero_add]
    rw [e, cnH_append, cnG_is f i, cnH_grp f i 16 (Nat.le_refl _), if_neg (by decide)]
    rfl
theorem cnG_le (hg : Nat → Bool) : ∀ i, cnG hg i ≤ i
  | 0 => Nat.le_refl _
  | i + 1 => by have := cnG_le hg i; show cnG hg i + (if _ then 1 else 0) ≤ _; split <;> omega
theorem cnK_len1 (f : Pages) (k : Int) (n : Nat) : cnK f k (List.range' 0 n) ≤ n := by have := cnK_len f k (List.range' 0 n); rwa [List.length_range'] at this
theorem cnK_step (f : Pages) (k : Int) (n : Nat) : cnK f k (List.range' 0 (n + 1)) = cnK f k (List.range' 0 n) + if (f n).kd = k then 1 else 0 := by
  rw [List.range'_concat, Nat.one_mul, Nat.zero_add, cnK_snoc]
theorem cboxes (w : World) : ∃ W, (w.alloc (.cells #[.int .i64 0, .int .i64 0, .int .i64 0, .int .i64 0, .int .i64 0] 67)).alloc (.cells #[.int .i64 0, .int .i64 0, .int .i64 0, .int .i64 0] 65) = W ∧ Below w.heap.size w W ∧ NBx W w.heap.size 0 0 0 0 0 ∧ FBx W (w.heap.size + 1) 0 0 0 0 := by
  refine ⟨_, rfl, ((Below.refl _ _).alloc (Nat.le_refl _) _).alloc (by simp) _, (Below.heap_alloc _ _ _ (by simp)).trans (World.alloc_heap_new w _), ?_⟩
  have := World.alloc_heap_new (w.alloc (.cells #[.int .i64 0, .int .i64 0, .int .i64 0, .int .i64 0, .int .i64 0] 67)) (.cells #[.int .i64 0, .int .i64 0, .int .i64 0, .int .i64 0] 65)
  rw [World.size_alloc] at this
  exact this
set_option maxRecDepth 100000 in
set_option maxHeartbeats 4000000 in
theorem RCounts_is (f : Pages) (hf : Good f) (w : World) (hr : RAtS w R (kdF f) (hgF f) (btF f) st) :
    Calls Try.prog 51 #[.pointer (some ⟨R, 0, none⟩)] w fun e w' => e = .returned (.agg (cnV f (List.range' 0 1024))) ∧ Below w.heap.size w w' := by
  have HR := Lib.hid hr
  have HF := Lib.hid hf
  have hal : Try.prog.arrayLen 86 = 1024 := by kernel_rfl
  have hal2 : Try.prog.arrayLen 87 = 64 := by kernel_rfl
  have hal3 : Try.prog.arrayLen 65 = 4 := by kernel_rfl
  obtain ⟨W1, hW1, hb1, bR, bF⟩ := cboxes w
  have hRl := hr.lt
  clear hr hf
  go_enter Try.func51, Try.ntmps51
  go_wp2_with fail
  try rw [hW1]
  go_loopw [4] (fun i wr => ∃ k : Nat, k ≤ 1024 ∧ i = .int .i64 k ∧ FBx wr (w.heap.size + 1) (cnK f 0 (List.range' 0 k)) (cnK f 1 (List.range' 0 k)) (cnK f 2 (List.range' 0 k)) (cnK f 3 (List.range' 0 k)) ∧ NBx wr w.heap.size 0 0 0 0 0 ∧ Below w.heap.size w wr) (fun i _ => 1024 - (intOf i).toNat)
  case atStart => exact ⟨0, Nat.zero_le _, rfl, bF, bR, hb1⟩
  case round =>
    obtain ⟨k, hk, rfl, hN, hZ, hB⟩ := hrel
    by_cases hlt : k < 1024
    · have hc := (HR.out.later hB).ck k hlt
      have hk1 : (k : Int) < 1024 := by omega
      have hkd := HF.out.knd k hlt
      have l0 := cnK_len1 f 0 k
      have l1 := cnK_len1 f 1 k
      have l2 := cnK_len1 f 2 k
      have l3 := cnK_len1 f 3 k
      have s0 := cnK_step f 0 k
      have s1 := cnK_step f 1 k
      have s2 := cnK_step f 2 k
      have s3 := cnK_step f 3 k
      have HI : Hid (∀ V', FBx V' (w.heap.size + 1) (cnK f 0 (List.range' 0 k) + if (f k).kd = 0 then 1 else 0) (cnK f 1 (List.range' 0 k) + if (f k).kd = 1 then 1 else 0) (cnK f 2 (List.range' 0 k) + if (f k).kd = 2 then 1 else 0) (cnK f 3 (List.range' 0 k) + if (f k).kd = 3 then 1 else 0) →
          FBx V' (w.heap.size + 1) (cnK f 0 (List.range' 0 (k + 1))) (cnK f 1 (List.range' 0 (k + 1))) (cnK f 2 (List.range' 0 (k + 1))) (cnK f 3 (List.range' 0 (k + 1)))) := fun V' h => by rw [s0, s1, s2, s3]; exact h
      clear s0 s1 s2 s3
      have hc' : wr.cell? ⟨R, k, none⟩ = some (.int .i64 (f k).kd) := hc
      clear hc
      generalize cnK f 0 (List.range' 0 k) = n0 at *
      generalize cnK f 1 (List.range' 0 k) = n1 at *
      generalize cnK f 2 (List.range' 0 k) = n2 at *
      generalize cnK f 3 (List.range' 0 k) = n3 at *
      obtain ⟨x, hx⟩ : ∃ x, (f k).kd = x := ⟨_, rfl⟩
      rw [hx] at hc' hkd HI
      replace l0 : n0 < 2000 := by omega
      replace l1 : n1 < 2000 := by omega
      replace l2 : n2 < 2000 := by omega
      replace l3 : n3 < 2000 := by omega
      clear hx bR bF hW1
      have hx4 : x = 0 ∨ x = 1 ∨ x = 2 ∨ x = 3 := by omega
      have hFl := hN.lt
      rcases hx4 with rfl | rfl | rfl | rfl
      · have q := hN.c0
        have qf := hN.frozen 0
        simp only [show ((0 : Int) = 1) = False by simp, show ((0 : Int) = 2) = False by simp, show ((0 : Int) = 3) = False by simp, if_true, if_false, Nat.add_zero] at HI
        have h1 := HI.out _ hN.i0
        have h2 := hZ.other (x := ⟨w.heap.size + 1, 0, none⟩) (by simp) (.int .i64 ((n0 : Int) + 1))
        have h3 := hB.setCell (p := ⟨w.heap.size + 1, 0, none⟩) (by dsimp only; omega) (.int .i64 ((n0 : Int) + 1))
        have H1 := Lib.hid h1
        have H2 := Lib.hid h2
        have H3 := Lib.hid h3
        clear h1 h2 h3 HI hN hZ hB
        go_wp2_with fail
        go_roundw
        case rel => exact ⟨k + 1, by omega, by go_num, H1.out, H2.out, H3.out⟩
        case measure => simp [intOf]; omega
      · have q := hN.c1
        have qf := hN.frozen 1
        simp only [show ((1 : Int) = 0) = False by simp, show ((1 : Int) = 2) = False by simp, show ((1 : Int) = 3) = False by simp, if_true, if_false, Nat.add_zero] at HI
        have h1 := HI.out _ hN.i1
        have h2 := hZ.other (x := ⟨w.heap.size + 1, 1, none⟩) (by simp) (.int .i64 ((n1 : Int) + 1))
        have h3 := hB.setCell (p := ⟨w.heap.size + 1, 1, none⟩) (by dsimp only; omega) (.int .i64 ((n1 : Int) + 1))
        have H1 := Lib.hid h1
        have H2 := Lib.hid h2
        have H3 := Lib.hid h3
        clear h1 h2 h3 HI hN hZ hB
        go_wp2_with fail
        go_roundw
        case rel => exact ⟨k + 1, by omega, by go_num, H1.out, H2.out, H3.out⟩
        case measure => simp [intOf]; omega
      · have q := hN.c2
        have qf := hN.frozen 2
        simp only [show ((2 : Int) = 0) = False by simp, show ((2 : Int) = 1) = False by simp, show ((2 : Int) = 3) = False by simp, if_true, if_false, Nat.add_zero] at HI
        have h1 := HI.out _ hN.i2
        have h2 := hZ.other (x := ⟨w.heap.size + 1, 2, none⟩) (by simp) (.int .i64 ((n2 : Int) + 1))
        have h3 := hB.setCell (p := ⟨w.heap.size + 1, 2, none⟩) (by dsimp only; omega) (.int .i64 ((n2 : Int) + 1))
        have H1 := Lib.hid h1
        have H2 := Lib.hid h2
        have H3 := Lib.hid h3
        clear h1 h2 h3 HI hN hZ hB
        go_wp2_with fail
        go_roundw
        case rel => exact ⟨k + 1, by omega, by go_num, H1.out, H2.out, H3.out⟩
        case measure => simp [intOf]; omega
      · have q := hN.c3
        have qf := hN.frozen 3
        simp only [show ((3 : Int) = 0) = False by simp, show ((3 : Int) = 1) = False by simp, show ((3 : Int) = 2) = False by simp, if_true, if_false, Nat.add_zero] at HI
        have h1 := HI.out _ hN.i3
        have h2 := hZ.other (x := ⟨w.heap.size + 1, 3, none⟩) (by simp) (.int .i64 ((n3 : Int) + 1))
        have h3 := hB.setCell (p := ⟨w.heap.size + 1, 3, none⟩) (by dsimp only; omega) (.int .i64 ((n3 : Int) + 1))
        have H1 := Lib.hid h1
        have H2 := Lib.hid h2
        have H3 := Lib.hid h3
        clear h1 h2 h3 HI hN hZ hB
        go_wp2_with fail
        go_roundw
        case rel => exact ⟨k + 1, by omega, by go_num, H1.out, H2.out, H3.out⟩
        case measure => simp [intOf]; omega
    · have hk1 : ¬ (k : Int) < 1024 := by omega
      obtain rfl : k = 1024 := by omega
      obtain ⟨n0, hn0⟩ : ∃ n, cnK f 0 (List.range' 0 1024) = n := ⟨_, rfl⟩
      obtain ⟨n1, hn1⟩ : ∃ n, cnK f 1 (List.range' 0 1024) = n := ⟨_, rfl⟩
      obtain ⟨n2, hn2⟩ : ∃ n, cnK f 2 (List.range' 0 1024) = n := ⟨_, rfl⟩
      obtain ⟨n3, hn3⟩ : ∃ n, cnK f 3 (List.range' 0 1024) = n := ⟨_, rfl⟩
      have hn4 := cnG_is f 64
      have HV : Hid (cnV f (List.range' 0 1024) = v5 n0 n1 n2 n3 (cnG (hgF f) 64)) := by
        unfold Hid cnV
        rw [hn0, hn1, hn2, hn3, ← hn4]
      rw [hn0, hn1, hn2, hn3] at hN
      clear hn0 hn1 hn2 hn3 hn4 bR bF hW1
      obtain ⟨V, rfl⟩ : ∃ V, V = wr := ⟨_, rfl⟩
      go_wp2_with fail
      go_loopw [5, 6] (fun s i wr => ∃ g : Nat, g ≤ 64 ∧ i = .int .i64 g ∧ s = .int .i64 (cnG (hgF f) g : Nat) ∧ V = wr) (fun _ i _ => 64 - (intOf i).toNat)
      case atStart => exact ⟨0, Nat.zero_le _, rfl, rfl, rfl⟩
      case round =>
        obtain ⟨g, hg', rfl, rfl, rfl⟩ := hrel
        have hle := cnG_le (hgF f) g
        by_cases hg2 : g < 64
        · have hc := (HR.out.later hB).ch g hg2
          have hg1 : (g : Int) < 64 := by omega
          have hs : Hid (cnG (hgF f) (g + 1) = cnG (hgF f) g + if hgF f g = true then 1 else 0) := rfl
          obtain ⟨b, hb⟩ : ∃ b, hgF f g = b := ⟨_, rfl⟩
          rw [hb] at hc hs
          obtain ⟨c, hcc⟩ : ∃ c, cnG (hgF f) g = c := ⟨_, rfl⟩
          rw [hcc] at hs hle ⊢
          clear hb hcc hN hZ
          cases b
          · go_wp2_with fail
            go_roundw
            case rel => exact ⟨g + 1, by omega, by go_num, by rw [hs.out]; rfl, by trivial⟩
            case measure => simp [intOf]; omega
          · go_wp2_with fail
            go_roundw
            case rel => exact ⟨g + 1, by omega, by go_num, by rw [hs.out]; go_num, by trivial⟩
            case measure => simp [intOf]; omega
        · have hg1 : ¬ (g : Int) < 64 := by omega
          obtain rfl : g = 64 := by omega
          obtain ⟨n4, hn4⟩ : ∃ n, cnG (hgF f) 64 = n := ⟨_, rfl⟩
          rw [hn4] at HV ⊢
          have q0 := hN.c0
          have q1 := hN.c1
          have q2 := hN.c2
          have q3 := hN.c3
          have hone : (v5 n0 n1 n2 n3 n4).all (·.oneCell') = true := by kernel_rfl
          clear hn4
          go_wp2_with (refine wpList_store_row rfl 67 _ _ rfl w.heap.size (v5 n0 n1 n2 n3 n4) rfl rfl 67 _ hZ (n5_i _ _ _ _ _) rfl hone ?_)
          have m3 := setRow_heap V w.heap.size _ (v5 n0 n1 n2 n3 n4) _ _ hZ
          have hld : (loadVar 67 ⟨w.heap.size, 0, none⟩).run Try.prog _ = _ := run_loadVar_row _ _ 67 67 _ _ _ m3 Try.underlying67 rfl (n5_i _ _ _ _ _)
          exact bodyPost_ret (v := .agg (v5 n0 n1 n2 n3 n4)) (by simp [results, Try.results51, asAddr, hld]) rfl ⟨by rw [HV.out], below_row hB _ (by omega) _⟩
end Go.Proofs.Ytnmeeddhagmjdaa
