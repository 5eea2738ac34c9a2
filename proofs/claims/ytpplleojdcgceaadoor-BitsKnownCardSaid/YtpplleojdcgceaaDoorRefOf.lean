/- The reference's Of, New. -/
import Derived.Test.YtpplleojdcgceaaDoorFlip
import Derived.StillTailTactics
namespace Go.Proofs.YtpplleojdcgceaaDoor
open Go.RowKit Go.Shelf
attribute [local go_sem] Oper.semAt_some

/-- A list of bools. -/
def fL (n : Nat) (f : Nat → Bool) : List Value := (List.range n).map fun j => .bool (f j)
theorem bitL_fL (ws : List Nat) (n : Nat) : bitL ws n = fL n (btW ws) := rfl
theorem fL_at (n : Nat) (f : Nat → Bool) (k : Nat) (hk : k < n) : (fL n f)[k]? = some (.bool (f k)) := by
  unfold fL; rw [List.getElem?_map, List.getElem?_range hk]; rfl
theorem fL_set (n : Nat) (f : Nat → Bool) (k : Nat) (b : Bool) : (fL n f).set k (.bool b) = fL n fun i => if i = k then b else f i := by
  unfold fL
  apply List.ext_getElem (by simp)
  intro j h1 h2
  simp at h1 h2
  rw [List.getElem_set]
  by_cases h : k = j
  · subst h; simp
  · rw [if_neg h]; simp [show ¬ j = k by omega]
/-- The words after so many bits were looked at. -/
def ofW (n : Nat) (f : Nat → Bool) (k : Nat) : List Nat := mkW n fun i => decide (i < k) && f i
theorem ofW_zero (n : Nat) (f : Nat → Bool) : ofW n f 0 = List.replicate ((n + 63) / 64) 0 := by
  unfold ofW; rw [wz_mk]; exact mkW_congr fun i _ => by simp
theorem ofW_all (n : Nat) (f : Nat → Bool) : ofW n f n = mkW n f := mkW_congr fun i hi => by simp [hi]
theorem ofW_skip (n : Nat) (f : Nat → Bool) (k : Nat) (h : f k = false) : ofW n f (k + 1) = ofW n f k := mkW_congr fun i _ => by
  by_cases hi : i = k
  · subst hi; simp [h]
  · by_cases h2 : i < k
    · simp [h2, show i < k + 1 by omega]
    · simp [h2, show ¬ i < k + 1 by omega]
theorem ofW_set (n : Nat) (f : Nat → Bool) (k : Nat) (hk : k < n) (h : f k = true) : putW true (ofW n f k) (k / 64, 2 ^ (k % 64)) = ofW n f (k + 1) := by
  have e : 2 ^ (k % 64) = mk (k % 64) (k % 64 + 1) := by unfold mk; rw [show k % 64 + 1 - k % 64 = 1 by omega]; simp
  have hl : (ofW n f k).length = (n + 63) / 64 := mkW_len _ _
  rw [e]
  refine mkW_of (by rw [putW_len, hl]) (putW_fit _ _ _ (mkW_fit _ _) (mk_lt _ _ (by omega) (by omega))) fun i hi => ?_
  rw [putW_bit true (ofW n f k) (k / 64) (k % 64) (k % 64 + 1) i (by rw [hl]; omega) (by omega) (by omega)]
  by_cases c1 : i / 64 = k / 64 ∧ k % 64 ≤ i % 64 ∧ i % 64 < k % 64 + 1
  · have : i = k := by omega
    subst this
    simp [h, hk]
  · rw [if_neg c1]
    have hne : i ≠ k := by omega
    unfold ofW
    rw [mkW_bit]
    by_cases h2 : i < k
    · simp [h2, show i < k + 1 by omega]
    · simp [h2, show ¬ i < k + 1 by omega]

theorem BBox.write1 {W : World} {k : Nat} {N : Int} {v u : Value} (h : BBox W k N v) : BBox (W.setCell ⟨k, 1, none⟩ u) k N u := heap_setCell_same W k 1 _ _ u h
theorem BBox.grown {W V : World} {k : Nat} {N : Int} {v : Value} {row : Option Nat} (h : BBox W k N v) (hg : W.grownBy V row) (hne : some k ≠ row) : BBox V k N v := (hg.block k h.lt hne).trans h
theorem wv_snoc0 (k : Nat) : wv (List.replicate k 0) ++ [Value.int .u64 0] = wv (List.replicate (k + 1) 0) := by
  rw [List.replicate_succ']; unfold wv; rw [List.map_append]; rfl

set_option maxRecDepth 100000 in
set_option maxHeartbeats 4000000 in
theorem RefOf_any (b n : Nat) (a : Option Addr) (cap : Nat) (f : Nat → Bool) (hn : n ≤ 4096) (w : World) (hu : w.ownsRow b 4 1 (.slice a n cap) n (fL n f)) :
    Calls Tryd.prog 52 #[.slice a n cap] w fun e w' => ∃ u, e = .returned (bv n u) ∧ WAt w' u (mkW n f) ∧ Below w.heap.size w w' := by
  obtain ⟨i0, hi, hz0, hz1, hz2⟩ := info_parts Tryd.infoU64
  have Hhi := Lib.hid hi
  have Hz0 := Lib.hid hz0
  have Hz1 := Lib.hid hz1
  have Hz2 := Lib.hid hz2
  clear hi hz0 hz1 hz2
  obtain ⟨m, hm⟩ : ∃ m, (n + 63) / 64 = m := ⟨_, rfl⟩
  have HM := Lib.hid hm
  have hm64 : m ≤ 64 := by omega
  have hmn : n ≤ 64 * m := by omega
  clear hm
  obtain ⟨wA, hwA, hAB, rA, bA⟩ : ∃ wA, (w.alloc (.cells #[.int .i64 0, .slice none 0 0] 24)).alloc (.cells #[.int .i64 (n : Int), .slice none 0 0] 24) = wA ∧ Below w.heap.size w wA ∧ BBox wA w.heap.size 0 (.slice none 0 0) ∧ BBox wA (w.heap.size + 1) n (.slice none 0 0) := by
    refine ⟨_, rfl, ((Below.refl _ _).alloc (Nat.le_refl _) _).alloc (by simp) _, (BBox.new w 0 _).alloc _, ?_⟩
    have := BBox.new (w.alloc (.cells #[.int .i64 0, .slice none 0 0] 24)) n (.slice none 0 0)
    rw [World.size_alloc] at this
    exact this
  have HW := Lib.hid hwA
  have hsA : wA.heap.size = w.heap.size + 2 := by rw [← hwA]; simp
  clear hwA
  go_enter Tryd.func52, Tryd.ntmps52
  go_wp2_with fail
  rw [HW.out]
  go_loopw [4] (fun i wr => ∃ (k : Nat) (v : Value), k ≤ m ∧ i = .int .i64 k ∧ BBox wr w.heap.size 0 (.slice none 0 0) ∧ BBox wr (w.heap.size + 1) n v ∧ wr.ownsRow (w.heap.size + 2) 58 1 v k (wv (List.replicate k 0)) ∧ Below w.heap.size w wr) (fun i _ => m - (intOf i).toNat)
  case atStart => exact ⟨0, _, Nat.zero_le _, rfl, rA, bA, World.ownsRow_nil _ _ _ _, hAB⟩
  case round =>
    obtain ⟨k, v, hk, rfl, hrA, hbA, hr, hB⟩ := hrel
    obtain ⟨va, vc, rfl⟩ := own_form hr
    have c1 := hbA.c1
    have z1 := hbA.fz 1
    have dl := hbA.lt
    by_cases hlt : k < m
    · have hlt1 : (k : Int) < (m : Int) := by omega
      have hr2 := hr.alloc (.cells #[.int .u64 0] 58)
      have HR2 := Lib.hid hr2
      clear hr2 hr
      go_wp2_with fail
      refine (refWords_any n m (by omega) HM.out _).mono ?_
      rintro e w' ⟨rfl, rfl⟩
      go_wp2_with (at_builtin; refine wpList_append_own _ rfl _ _ 22 rfl (w.heap.size + 2) 58 i0 (.int .u64 0) 1 8 Tryd.underlying22 Hhi.out Hz0.out Hz1.out Hz2.out rfl (by decide) _ _ _ rfl HR2.out ⟨wr.heap.size, 0, none⟩ 1 1 [.int .u64 0] rfl rfl ?c1 ?c2 ?c3 ?c4 ?c5 ?_)
      case c1 => exact cell_one_new wr _ _
      case c2 => intro u hu; simp at hu; subst hu; rfl
      case c3 => unfold maxLen; omega
      case c4 => omega
      case c5 => have := hB.size; simp; omega
      intro v' w1 hown hgrow _
      rw [wv_snoc0] at hown
      obtain ⟨va', vc', rfl⟩ := own_form hown
      have hge : ∀ j, (Value.slice va k vc).ownBlock = some j → w.heap.size + 2 ≤ j := fun j e => (HR2.out.lt j e).1
      have hne0 : some w.heap.size ≠ (Value.slice va k vc).ownBlock := fun e => by have := hge _ e.symm; omega
      have hne1 : some (w.heap.size + 1) ≠ (Value.slice va k vc).ownBlock := fun e => by have := hge _ e.symm; omega
      have hbA1 := (hbA.alloc (.cells #[.int .u64 0] 58)).grown hgrow hne1
      have hrA1 := (hrA.alloc (.cells #[.int .u64 0] 58)).grown hgrow hne0
      have hB4 := (hB.alloc hB.size (.cells #[.int .u64 0] 58)).grown hgrow (by have := hB.size; simp; omega) (fun j e => by have := hge j e; omega)
      have y0 := hbA1.c0
      have y1 := hbA1.c1
      have yz := hbA1.fz 1
      have HO := Lib.hid hown
      clear hown hgrow c1 z1
      go_wp2
      have hG := grownBy_setAt w1 (w.heap.size + 1) 1 (.slice va' (k + 1) vc')
      go_roundw
      case rel => exact ⟨k + 1, _, by omega, by go_num, hrA1.setOther (by omega) 1 _, hbA1.write1, HO.out.kept hG (.inr fun e => by have := (HO.out.lt _ e).1; omega), hB4.setCell (by simp) _⟩
      case measure => simp [intOf]; omega
    · have hkm : k = m := by omega
      subst hkm
      rw [← HM.out, ← ofW_zero n f] at hr
      have HR := Lib.hid hr
      clear hr
      go_wp2_with fail
      refine (refWords_any n k (by omega) HM.out _).mono ?_
      rintro e w' ⟨rfl, rfl⟩
      go_wp2_with fail
      have hm0 : k = (n + 63) / 64 := HM.out.symm
      have hofl : (ofW n f 0).length = k := by unfold ofW; rw [mkW_len]; exact HM.out
      have HR0 := HR.out
      rw [HM.out] at HR0
      have HM0 := Lib.hid hm0
      have HOF := Lib.hid (fun j => show (ofW n f j).length = k by unfold ofW; rw [mkW_len]; exact HM.out)
      clear hm0 hofl hk
      go_loopw [5] (fun i wr => ∃ j : Nat, j ≤ n ∧ i = .int .i64 j ∧ BBox wr w.heap.size 0 (.slice none 0 0) ∧ BBox wr (w.heap.size + 1) n (.slice va k vc) ∧ wr.ownsRow (w.heap.size + 2) 58 1 (.slice va k vc) k (wv (ofW n f j)) ∧ Below w.heap.size w wr) (fun i _ => n - (intOf i).toNat)
      case atStart => exact ⟨0, Nat.zero_le _, rfl, hrA, hbA, HR0, hB⟩
      case round =>
        obtain ⟨j, hj, rfl, hrA2, hbA2, hr2, hB2⟩ := hrel
        have c0 := hbA2.c0
        have c1 := hbA2.c1
        have z1 := hbA2.fz 1
        by_cases hlt : j < n
        · have hlt1 : (j : Int) < (n : Int) := by omega
          have hum := hu.kept (grown_of_below hB2) (Classical.em _)
          obtain ⟨g0, rfl, hcell⟩ := own_at hum j hlt _ (fL_at n f j hlt)
          obtain ⟨q, hq⟩ : ∃ q, f j = q := ⟨_, rfl⟩
          rw [hq] at hcell
          have hkw : j / 64 < (ofW n f j).length := by rw [HOF.out]; omega
          cases q
          · have HS := Lib.hid (ofW_skip n f j hq)
            clear hq
            go_wp2
            go_roundw
            case rel => exact ⟨j + 1, by omega, by go_num, hrA2, hbA2, by rw [HS.out]; exact hr2, hB2⟩
            case measure => simp [intOf]; omega
          · obtain ⟨g, rfl, hcw⟩ := own_at hr2 (j / 64) (by rw [← HOF.out j]; exact hkw) _ (wv_at (ofW n f j) (j / 64) hkw)
            obtain ⟨x, hx⟩ : ∃ x, (ofW n f j)[j / 64] = x := ⟨_, rfl⟩
            have hx2 : x < 2 ^ 64 := by rw [← hx]; exact mkW_fit _ _ _ (List.getElem_mem hkw)
            rw [hx] at hcw
            have hp2 : 2 ^ (j % 64) < 18446744073709551616 := Nat.lt_of_le_of_lt (Nat.pow_le_pow_right (by decide) (show j % 64 ≤ 63 by omega)) (by decide)
            obtain ⟨pw, hpw⟩ : ∃ y, 2 ^ (j % 64) = y := ⟨_, rfl⟩
            obtain ⟨y, hy⟩ : ∃ y, x ||| pw = y := ⟨_, rfl⟩
            have k1 : bits .or .u64 (x : Int) (pw : Int) = (y : Int) := by rw [u64_or_nat _ _ hx2 (by omega), hy]
            have hS := (own_setv (k := j / 64) hr2 (.int .u64 (y : Int))).1
            rw [wv_put true (ofW n f j) (j / 64) pw x y hkw hx (by simp [hy]), ← hpw, ofW_set n f j hlt hq] at hS
            have hfz := (own_setv (k := j / 64) hr2 (.int .u64 0)).2.1
            have hgb := (own_setv (k := j / 64) hr2 (.int .u64 0)).2.2.1
            have hpi : (2 : Int) ^ (j % 64) = (pw : Int) := by rw [← hpw, Int.natCast_pow]; rfl
            have e1 : ((j : Int) / 64).toNat = j / 64 := by omega
            have e2 : (j : Int) / 64 < (k : Int) := by rw [HOF.out] at hkw; omega
            have e3 : (0 : Int) ≤ (j : Int) / 64 := by omega
            have hwq : IntKind.i64.wrap ((j : Int) / 64) = (j : Int) / 64 := IntWalk.i64_in _ (by omega)
            have hsh : IntKind.u64.wrap (2 ^ min (IntKind.u64.wrap ((j : Int).tmod 64)).toNat 64) = (pw : Int) := by
              have h1 : (j : Int).tmod 64 = ((j % 64 : Nat) : Int) := by rw [Int.tmod_eq_emod_of_nonneg (by omega)]; omega
              have h2 : IntKind.u64.wrap ((j % 64 : Nat) : Int) = ((j % 64 : Nat) : Int) := by rw [IntKind.wrap_u64]; omega
              rw [h1, h2, Int.toNat_natCast, show min (j % 64) 64 = j % 64 by omega, hpi, IntKind.wrap_u64]; omega
            have HS := Lib.hid hS
            clear hS hx hq hkw hy hpw hpi
            go_wp2_with fail
            go_still_tail 15, (by kernel_rfl)
            change wpList _ _ _ _ _ wr.drew
            have k0 := k1
            go_wp2
            go_roundw
            case rel => exact ⟨j + 1, by omega, by go_num, (hrA2.setOther (by omega) _ _).drew, (hbA2.setOther (by omega) _ _).drew, HS.out.drew, (hB2.setCell (by dsimp only; omega) _).drew⟩
            case measure => simp [intOf]; omega
        · have hjn : j = n := by omega
          have d0 := hrA2.c0
          have d1 := hrA2.c1
          have f0 := hrA2.fz 0
          have f1 := hrA2.fz 1
          have HR2 := Lib.hid hr2
          have HJ := Lib.hid hjn
          clear hr2 hjn
          go_wp2
          have hW := hrA2.write (M := n) (u := .slice va k vc)
          have hG := write_grown wr w.heap.size n (.slice va k vc)
          obtain ⟨VW, hVW⟩ : ∃ x, (wr.setCell ⟨w.heap.size, 0, none⟩ (.int .i64 (n : Int))).setCell ⟨w.heap.size, 1, none⟩ (.slice va k vc) = x := ⟨_, rfl⟩
          rw [hVW] at hW hG ⊢
          have e0 := hW.c0
          have e1 := hW.c1
          refine bodyPost_ret (v := bv n (.slice va k vc)) (by simp [results, Tryd.results52, go_sem, e0, e1]) rfl ⟨_, rfl, ?_, ?_⟩
          · have h4 := HR2.out.kept hG (.inr fun e => by have := (HR2.out.lt _ e).1; omega)
            rw [HJ.out, ofW_all] at h4
            have h5 : WOwn VW (w.heap.size + 2) (.slice va k vc) (mkW n f) := by unfold WOwn; rw [mkW_len, HM.out]; exact h4
            exact WOwn.at h5
          · exact hB2.grown hG hB2.size (fun k e => by cases e; exact Nat.le_refl _)
end Go.Proofs.YtpplleojdcgceaaDoor
