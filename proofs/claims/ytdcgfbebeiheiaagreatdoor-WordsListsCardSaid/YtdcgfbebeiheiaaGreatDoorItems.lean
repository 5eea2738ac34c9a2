/- The range function that yields the items that can start a list. -/
import Derived.Test.YtdcgfbebeiheiaaGreatDoorSpec
import Derived.Test.YtdcgfbebeiheiaaGreatDoorNums
import Derived.RangeFuncBox
import Derived.RangeFuncLeaves
import Derived.RangeFuncFrom
import Derived.RangeFuncWrites
import Derived.Shelf.Abstract
import Derived.WalkKit
import Derived.OwnWalkIn
import Derived.TacticsInMore
import Derived.LoopNIn
import Derived.LoopIn
import Derived.Lib.AppendIntMem
import Derived.Handy
import Derived.Sort.QuietIn
namespace Go.Proofs.YtdcgfbebeiheiaaGreatDoor
open Go.RowKit Go.Shelf
attribute [local go_sem] Oper.semAt_some

theorem Itoa_any (n : Int) (w : World) (hw : Gd w) (h0 : -9223372036854775808 ≤ n) (h1 : n ≤ 9223372036854775807) :
    Calls Tryz.prog 70 #[.int .i64 n] w fun e w' => e = .returned (.string (numS n)) ∧ Below w.heap.size w w' :=
  (Tryz.strconv_Itoa n h0 h1 w hw.pow).mono fun _ _ ⟨h, k, os, hw'⟩ => ⟨h, by rw [hw']; exact Lib.below_grow _ _ (Nat.le_refl _) _ _⟩
theorem grown_of_below {w w' : World} (h : Below w.heap.size w w') : w.grownBy w' none := ⟨h.os, h.tape, h.output, h.size, fun k hk _ => h.block k hk⟩
theorem wide_fn (f : FuncId) : Fence.wide.fn f := by simp [Fence.wide]
theorem numS_size (z : Int) (h0 : -9223372036854775808 ≤ z) (h1 : z ≤ 9223372036854775807) : (numS z).size ≤ 21 := by
  have := Lib.itoa_length_le z h0 h1
  unfold numS
  rw [Lib.size_eq]; exact this

/-- What a round of a loop over the items must keep: all blocks of cells but Bb. -/
def KpBut (Bb : Nat) (A B : World) : Prop := ∀ k o, A.heap[k]? = some o → o.isCells = true → k ≠ Bb → B.heap[k]? = some o
theorem KpBut.cell {Bb : Nat} {A B : World} (h : KpBut Bb A B) {a : Addr} {v : Value} (ha : A.cell? a = some v) (hne : a.block ≠ Bb) : B.cell? a = some v := by
  obtain ⟨o, ho, hc⟩ := cells_of_cell ha
  have := h _ o ho hc hne
  rw [World.cell?_of_block (w := A) (this.trans ho.symm)]; exact ha

theorem KpBut.trans {Bb : Nat} {A B C : World} (h : KpBut Bb A B) (k : KpBut Bb B C) : KpBut Bb A C := fun i o ho hc hne => k i o (h i o ho hc hne) hc hne
theorem KpBut.refl (Bb : Nat) (A : World) : KpBut Bb A A := fun _ _ h _ _ => h
theorem KpBut.of_below {Bb : Nat} {A B : World} (h : Below A.heap.size A B) : KpBut Bb A B := fun i _ ho _ _ => (h.block i (Array.getElem?_eq_some_iff.1 ho).1).trans ho
theorem KpBut.var {Bb : Nat} {A B : World} (h : KpBut Bb A B) {n : String} {g : Nat} {cs : Array Value} (hg : Tryz.prog.globalNamed n = some g) (hne : g ≠ Bb) (hv : A.var? Tryz.prog n = some cs) : B.var? Tryz.prog n = some cs := by
  unfold World.var? at hv ⊢
  rw [hg] at hv ⊢
  simp only [Option.bind_some] at hv ⊢
  cases ho : A.heap[g]? with
  | none => rw [ho] at hv; cases hv
  | some o =>
    rw [ho] at hv
    cases o with
    | cells c t f => rw [h g _ ho rfl hne]; exact hv
    | _ => cases hv
/-- The package-level variables lie below block n. -/
def GB (n : Nat) : Prop := 3 < n ∧ 0 < n ∧ 4 < n ∧ 5 < n ∧ 6 < n
theorem var_lt {P : Program} {n : String} {g : Nat} {cs : Array Value} {w : World} (hg : P.globalNamed n = some g) (h : w.var? P n = some cs) : g < w.heap.size := by
  unfold World.var? at h
  rw [hg] at h
  simp only [Option.bind_some] at h
  rcases Nat.lt_or_ge g w.heap.size with h' | h'
  · exact h'
  · rw [Array.getElem?_eq_none h'] at h; cases h
theorem Gd.gb {w : World} (h : Gd w) : GB w.heap.size :=
  ⟨World.block_lt_of_cell? _ _ (h.dig 0 (by decide)), (let ⟨_, hm⟩ := h.ml; World.block_lt_of_cell? _ _ hm), var_lt gPow h.pow, (let ⟨_, _, hp⟩ := h.es; var_lt gEs hp), (let ⟨_, _, hp⟩ := h.er; var_lt gEr hp)⟩
theorem Gd.kp {Bb : Nat} {A B : World} (hB : GB Bb) (h : KpBut Bb A B) (hw : Gd A) : Gd B where
  dig k hk := h.cell (hw.dig k hk) (by have := hB.1; simp only; omega)
  ml := let ⟨m, hm⟩ := hw.ml; ⟨m, h.cell hm (by have := hB.2.1; simp only; omega)⟩
  pow := h.var gPow (by have := hB.2.2.1; omega) hw.pow
  es := let ⟨t, p, hp⟩ := hw.es; ⟨t, p, h.var gEs (by have := hB.2.2.2.1; omega) hp⟩
  er := let ⟨t, p, hp⟩ := hw.er; ⟨t, p, h.var gEr (by have := hB.2.2.2.2; omega) hp⟩
abbrev It (l : List Int) := { p : BA × Nat // p ∈ itemsL l }
def itE (l : List Int) (x : It l) : Array Value := #[.string x.1.1, .int .i64 (x.1.2 : Int)]

set_option maxRecDepth 100000 in
set_option maxHeartbeats 4000000 in
theorem itemsAt1_in (n : Nat) (hn : 1 ≤ n) (l Bs Bb b off cap : Nat) (zs : List Int) (hl1 : 1 ≤ zs.length) (hlen : zs.length ≤ 500)
    (hz : ∀ j : Nat, 0 ≤ zs[j]?.getD 0 ∧ zs[j]?.getD 0 ≤ 9999) (h9 : GB Bb) (hbb : b ≠ Bb) (hBs : Bs ≠ Bb) (J Jx : List (It zs) → World → Prop) (W0 : World) (hgd : Gd W0)
    (hJ : AbidesFrom W0.heap.size J)
    (hY : ∀ pre x W, J pre W → pre.length < 2000 → YieldAt Fence.wide (n - 1) Tryz.prog l (itE zs x) W fun e W' =>
      (e = .returned (.bool true) ∧ J (pre ++ [x]) W' ∧ KpBut Bb W W') ∨ (e = .returned (.bool false) ∧ Jx (pre ++ [x]) W'))
    (hc0 : W0.cell? ⟨Bs, 0, none⟩ = some (.slice (some ⟨b, off, none⟩) zs.length cap)) (hc : ∀ j : Nat, j < zs.length → W0.cell? ⟨b, off + j, none⟩ = some (.int .i64 (zs[j]?.getD 0))) (h0 : J [] W0) :
    CallsIn Fence.wide n Tryz.prog 69 #[.func (.yield l) #[] #[], .pointer (some ⟨Bs, 0, none⟩)] W0 fun e W' => (∃ v, e = .returned v) ∧
      ((∃ ys, ys.map Subtype.val = itemsL zs ∧ J ys W') ∨ (∃ pre : List (It zs), True ∧ Jx pre W')) := by
  refine callsIn_of_wp Tryz.func69 rfl trivial ?_ rfl
  simp only [Tryz.ntmps69, List.size_toArray, List.length_cons, List.length_nil, Nat.reduceAdd, Nat.reduceSub, Array.replicate_succ, Array.replicate_zero, List.push_toArray, List.append_toArray, List.nil_append, List.cons_append]
  have hz0 := hz 0
  have hf1 := wide_fn 70
  have hcc := hc 0 (by omega)
  gi_wp2_with fail
  refine (callsIn_wide.2 (Itoa_any (zs[0]?.getD 0) _ hgd (by omega) (by omega))).mono ?_
  rintro e W1 ⟨rfl, hb1⟩
  have hJ1 := hJ _ _ _ none h0 (grown_of_below hb1) (fun _ e => by cases e)
  obtain ⟨fn, tmps, assign, body, hy, hR⟩ := hY [] ⟨(numS (zs[0]?.getD 0), 1), List.mem_cons_self⟩ W1 hJ1 (by simp)
  dsimp only [itE] at hy
  rw [show ((1 : Nat) : Int) = 1 from rfl] at hy
  gi_wp2
  refine hR.mono ?_
  rintro e W2 (⟨rfl, hJ2, hk2⟩ | ⟨rfl, hJx2⟩)
  · have hcs : W2.cell? ⟨Bs, 0, none⟩ = some (.slice (some ⟨b, off, none⟩) zs.length cap) := hk2.cell (cell_later hb1 hc0) hBs
    have hgd2 := Gd.kp h9 hk2 (hgd.later hb1)
    have hcc2 : ∀ j : Nat, j < zs.length → W2.cell? ⟨b, off + j, none⟩ = some (.int .i64 (zs[j]?.getD 0)) := fun j hj => hk2.cell (cell_later hb1 (hc j hj)) hbb
    have HC := Lib.hid hcc2
    have HZ := Lib.hid hz
    clear hcc2 hz hc hcc
    gi_wp2_with fail
    gi_loopw [4] (fun v wr => ∃ (k : Nat) (pre : List (It zs)), 2 ≤ k ∧ k ≤ zs.length + 1 ∧ v = .int .i64 k ∧ J pre wr ∧ Hid (pre.map Subtype.val ++ (upsF zs k (zs.length + 1 - k) ++ repsF zs 2 (zs.length - 1)) = itemsL zs) ∧ KpBut Bb W2 wr ∧ pre.length < k) (fun v _ => zs.length + 1 - (intOf v).toNat)
    case atStart => exact ⟨2, _, by omega, by omega, rfl, hJ2, rfl, KpBut.refl _ _, by simp⟩
    case round =>
      obtain ⟨k, pre, hk1, hk2', rfl, hJs, HP, hkp, hpl⟩ := hrel
      have hgr := Gd.kp h9 hkp hgd2
      have hcr := hkp.cell hcs hBs
      have hcr0 : wr.cell? ⟨b, off, none⟩ = some (.int .i64 (zs[0]?.getD 0)) := hkp.cell (HC.out 0 (by omega)) hbb
      by_cases hlt : k ≤ zs.length
      · have hcrk := hkp.cell (HC.out (k - 1) (by omega)) hbb
        have hzk := HZ.out (k - 1)
        have hi1 : (1 : Int) ≤ (k : Int) := by omega
        have hi2 : (k : Int) ≤ (zs.length : Int) := by omega
        have hi3 : (0 : Int) ≤ (k : Int) - 1 := by omega
        have hi4 : ((k : Int) - 1).toNat = k - 1 := by omega
        have hw1 : IntKind.i64.wrap (zs[0]?.getD 0 + (k : Int)) = zs[0]?.getD 0 + (k : Int) := IntWalk.i64_in _ (by omega)
        have hw2 : IntKind.i64.wrap (zs[0]?.getD 0 + (k : Int) - 1) = zs[0]?.getD 0 + (k : Int) - 1 := IntWalk.i64_in _ (by omega)
        have hw3 : IntKind.i64.wrap ((k : Int) - 1) = (k : Int) - 1 := IntWalk.i64_in _ (by omega)
        have HPd := HP.out
        rw [show zs.length + 1 - k = (zs.length - k) + 1 from by omega, upsF] at HPd
        by_cases heq : zs[k - 1]?.getD 0 = zs[0]?.getD 0 + k - 1
        · rw [if_pos ⟨hlt, heq⟩] at HPd
          have HPh := Lib.hid HPd
          have hmem : (upT (zs[0]?.getD 0) (zs[k - 1]?.getD 0), k) ∈ itemsL zs := by rw [← HPd]; simp
          have he1 : (zs[k - 1]?.getD 0 == zs[0]?.getD 0 + (k : Int) - 1) = true := by simp [heq]
          have hsz0 := numS_size (zs[0]?.getD 0) (by omega) (by omega)
          have hszk := numS_size (zs[k - 1]?.getD 0) (by omega) (by omega)
          clear HPd heq
          gi_wp2_with fail
          gi_quiet (fail)
          gi_wp2_with fail
          refine (callsIn_wide.2 (Itoa_any _ _ (hgr.drewN _) (by omega) (by omega))).mono ?_
          rintro e W3 ⟨rfl, hb3⟩
          have hJ3 := hJ _ _ _ none hJs (grown_of_below (below_drewN (Below.refl _ wr) nq |>.trans hb3)) (fun _ e => by cases e)
          obtain ⟨fn3, tmps3, assign3, body3, hy3, hR3⟩ := hY pre ⟨(upT (zs[0]?.getD 0) (zs[k - 1]?.getD 0), k), hmem⟩ W3 hJ3 (by omega)
          dsimp only [itE, upT] at hy3
          have hcw3 := hkp.trans ((KpBut.of_below (below_drewN (Below.refl _ wr) nq)).trans (KpBut.of_below hb3))
          gi_wp2
          refine hR3.mono ?_
          rintro e W4 (⟨rfl, hJ4, hk4⟩ | ⟨rfl, hJx4⟩)
          · gi_wp2
            go_roundw
            case rel => exact ⟨k + 1, _, by omega, by omega, by go_num, hJ4, by unfold Hid; rw [show zs.length + 1 - (k + 1) = zs.length - k from by omega]; simpa using HPh.out, hcw3.trans hk4, by simp; omega⟩
            case measure => simp [intOf]; omega
          · gi_wp2
            refine bodyPost_ret (results_none rfl _ _ _) rfl ?_
            exact ⟨⟨_, rfl⟩, .inr ⟨_, trivial, hJx4⟩⟩
        · rw [if_neg (by intro h; exact heq h.2)] at HPd
          have HPh := Lib.hid HPd
          have he1 : (zs[k - 1]?.getD 0 == zs[0]?.getD 0 + (k : Int) - 1) = false := by simpa using heq
          clear HPd heq
          gi_wp2_with fail
          gi_quiet (fail)
          gi_wp2_with fail
          clear he1 hw1 hw2 hw3 hi1 hi3 hi4 hcrk hzk hlt
          have hJ5 := hJ _ _ _ none hJs (grown_of_below (below_drewN (Below.refl _ wr) nq)) (fun _ e => by cases e)
          have hk5 := hkp.trans (KpBut.of_below (below_drewN (Below.refl _ wr) nq))
          gi_loopw [5] (fun v wr => ∃ (k : Nat) (pre : List (It zs)), 2 ≤ k ∧ k ≤ zs.length + 1 ∧ v = .int .i64 k ∧ J pre wr ∧ Hid (pre.map Subtype.val ++ repsF zs k (zs.length + 1 - k) = itemsL zs) ∧ KpBut Bb W2 wr ∧ pre.length < 501 + k) (fun v _ => zs.length + 1 - (intOf v).toNat)
          case atStart => exact ⟨2, _, by omega, by omega, rfl, hJ5, by unfold Hid; rw [show zs.length + 1 - 2 = zs.length - 1 from by omega]; simpa using HPh.out, hk5, by omega⟩
          case round =>
            clear hcr hcr0 hJs hkp HPh hJ5 hk5 hpl hgr hi2 hk1 hk2'
            obtain ⟨m, pre, hk1, hk2', rfl, hJs, HP, hkp, hpl⟩ := hrel
            have hgr := Gd.kp h9 hkp hgd2
            have hcr := hkp.cell hcs hBs
            have hcr0 : wr.cell? ⟨b, off, none⟩ = some (.int .i64 (zs[0]?.getD 0)) := hkp.cell (HC.out 0 (by omega)) hbb
            by_cases hlt2 : m ≤ zs.length
            · have hcrm := hkp.cell (HC.out (m - 1) (by omega)) hbb
              have hzm := HZ.out (m - 1)
              have hi1 : (1 : Int) ≤ (m : Int) := by omega
              have hi2 : (m : Int) ≤ (zs.length : Int) := by omega
              have hi3 : (0 : Int) ≤ (m : Int) - 1 := by omega
              have hi4 : ((m : Int) - 1).toNat = m - 1 := by omega
              have hw3 : IntKind.i64.wrap ((m : Int) - 1) = (m : Int) - 1 := IntWalk.i64_in _ (by omega)
              have HPd := HP.out
              rw [show zs.length + 1 - m = (zs.length - m) + 1 from by omega, repsF] at HPd
              by_cases heq : zs[m - 1]?.getD 0 = zs[0]?.getD 0
              · rw [if_pos ⟨hlt2, heq⟩] at HPd
                have HPh := Lib.hid HPd
                have hmem : (repT (zs[0]?.getD 0) m, m) ∈ itemsL zs := by rw [← HPd]; simp
                have he1 : (zs[m - 1]?.getD 0 == zs[0]?.getD 0) = true := by simp [heq]
                have hsz0 := numS_size (zs[0]?.getD 0) (by omega) (by omega)
                have hszk := numS_size (m : Int) (by omega) (by omega)
                clear HPd heq
                gi_wp2_with fail
                gi_quiet (fail)
                gi_wp2_with fail
                refine (callsIn_wide.2 (Itoa_any _ _ (hgr.drewN _) (by omega) (by omega))).mono ?_
                rintro e W3 ⟨rfl, hb3⟩
                have hJ3 := hJ _ _ _ none hJs (grown_of_below (below_drewN (Below.refl _ wr) nq |>.trans hb3)) (fun _ e => by cases e)
                obtain ⟨fn3, tmps3, assign3, body3, hy3, hR3⟩ := hY pre ⟨(repT (zs[0]?.getD 0) m, m), hmem⟩ W3 hJ3 (by omega)
                dsimp only [itE, repT] at hy3
                have hcw3 := hkp.trans ((KpBut.of_below (below_drewN (Below.refl _ wr) nq)).trans (KpBut.of_below hb3))
                gi_wp2
                refine hR3.mono ?_
                rintro e W4 (⟨rfl, hJ4, hk4⟩ | ⟨rfl, hJx4⟩)
                · gi_wp2
                  go_roundw
                  case rel => exact ⟨m + 1, _, by omega, by omega, by go_num, hJ4, by unfold Hid; rw [show zs.length + 1 - (m + 1) = zs.length - m from by omega]; simpa using HPh.out, hcw3.trans hk4, by simp; omega⟩
                  case measure => simp [intOf]; omega
                · gi_wp2
                  refine bodyPost_ret (results_none rfl _ _ _) rfl ?_
                  exact ⟨⟨_, rfl⟩, .inr ⟨_, trivial, hJx4⟩⟩
              · rw [if_neg (by intro h; exact heq h.2)] at HPd
                have HPh := Lib.hid HPd
                have he1 : (zs[m - 1]?.getD 0 == zs[0]?.getD 0) = false := by simpa using heq
                clear HPd heq
                gi_wp2_with fail
                gi_quiet (fail)
                gi_wp2_with fail
                go_end0
                exact ⟨⟨_, rfl⟩, .inl ⟨pre, by simpa using HPh.out, hJ _ _ _ none hJs (grown_of_below (below_drewN (Below.refl _ wr) nq)) (fun _ e => by cases e)⟩⟩
            · have HPd := HP.out
              rw [repsF_end _ _ _ (by omega)] at HPd
              have HPh := Lib.hid HPd
              clear HPd
              have hi2 : ¬ ((m : Int) ≤ (zs.length : Int)) := by omega
              gi_wp2_with fail
              gi_quiet (fail)
              gi_wp2_with fail
              go_end0
              exact ⟨⟨_, rfl⟩, .inl ⟨pre, by simpa using HPh.out, hJ _ _ _ none hJs (grown_of_below (below_drewN (Below.refl _ wr) nq)) (fun _ e => by cases e)⟩⟩
      · have HPd := HP.out
        rw [upsF_end _ _ _ (by omega)] at HPd
        have HPh := Lib.hid HPd
        clear HPd
        have hi2 : ¬ ((k : Int) ≤ (zs.length : Int)) := by omega
        gi_wp2_with fail
        gi_quiet (fail)
        gi_wp2_with fail
        clear hlt
        have hJ5 := hJ _ _ _ none hJs (grown_of_below (below_drewN (Below.refl _ wr) nq)) (fun _ e => by cases e)
        have hk5 := hkp.trans (KpBut.of_below (below_drewN (Below.refl _ wr) nq))
        gi_loopw [5] (fun v wr => ∃ (k : Nat) (pre : List (It zs)), 2 ≤ k ∧ k ≤ zs.length + 1 ∧ v = .int .i64 k ∧ J pre wr ∧ Hid (pre.map Subtype.val ++ repsF zs k (zs.length + 1 - k) = itemsL zs) ∧ KpBut Bb W2 wr ∧ pre.length < 501 + k) (fun v _ => zs.length + 1 - (intOf v).toNat)
        case atStart => exact ⟨2, _, by omega, by omega, rfl, hJ5, by unfold Hid; rw [show zs.length + 1 - 2 = zs.length - 1 from by omega]; simpa using HPh.out, hk5, by omega⟩
        case round =>
          clear hcr hcr0 hJs hkp HPh hJ5 hk5 hpl hgr hi2 hk1 hk2'
          obtain ⟨m, pre, hk1, hk2', rfl, hJs, HP, hkp, hpl⟩ := hrel
          have hgr := Gd.kp h9 hkp hgd2
          have hcr := hkp.cell hcs hBs
          have hcr0 : wr.cell? ⟨b, off, none⟩ = some (.int .i64 (zs[0]?.getD 0)) := hkp.cell (HC.out 0 (by omega)) hbb
          by_cases hlt2 : m ≤ zs.length
          · have hcrm := hkp.cell (HC.out (m - 1) (by omega)) hbb
            have hzm := HZ.out (m - 1)
            have hi1 : (1 : Int) ≤ (m : Int) := by omega
            have hi2 : (m : Int) ≤ (zs.length : Int) := by omega
            have hi3 : (0 : Int) ≤ (m : Int) - 1 := by omega
            have hi4 : ((m : Int) - 1).toNat = m - 1 := by omega
            have hw3 : IntKind.i64.wrap ((m : Int) - 1) = (m : Int) - 1 := IntWalk.i64_in _ (by omega)
            have HPd := HP.out
            rw [show zs.length + 1 - m = (zs.length - m) + 1 from by omega, repsF] at HPd
            by_cases heq : zs[m - 1]?.getD 0 = zs[0]?.getD 0
            · rw [if_pos ⟨hlt2, heq⟩] at HPd
              have HPh := Lib.hid HPd
              have hmem : (repT (zs[0]?.getD 0) m, m) ∈ itemsL zs := by rw [← HPd]; simp
              have he1 : (zs[m - 1]?.getD 0 == zs[0]?.getD 0) = true := by simp [heq]
              have hsz0 := numS_size (zs[0]?.getD 0) (by omega) (by omega)
              have hszk := numS_size (m : Int) (by omega) (by omega)
              clear HPd heq
              gi_wp2_with fail
              gi_quiet (fail)
              gi_wp2_with fail
              refine (callsIn_wide.2 (Itoa_any _ _ (hgr.drewN _) (by omega) (by omega))).mono ?_
              rintro e W3 ⟨rfl, hb3⟩
              have hJ3 := hJ _ _ _ none hJs (grown_of_below (below_drewN (Below.refl _ wr) nq |>.trans hb3)) (fun _ e => by cases e)
              obtain ⟨fn3, tmps3, assign3, body3, hy3, hR3⟩ := hY pre ⟨(repT (zs[0]?.getD 0) m, m), hmem⟩ W3 hJ3 (by omega)
              dsimp only [itE, repT] at hy3
              have hcw3 := hkp.trans ((KpBut.of_below (below_drewN (Below.refl _ wr) nq)).trans (KpBut.of_below hb3))
              gi_wp2
              refine hR3.mono ?_
              rintro e W4 (⟨rfl, hJ4, hk4⟩ | ⟨rfl, hJx4⟩)
              · gi_wp2
                go_roundw
                case rel => exact ⟨m + 1, _, by omega, by omega, by go_num, hJ4, by unfold Hid; rw [show zs.length + 1 - (m + 1) = zs.length - m from by omega]; simpa using HPh.out, hcw3.trans hk4, by simp; omega⟩
                case measure => simp [intOf]; omega
              · gi_wp2
                refine bodyPost_ret (results_none rfl _ _ _) rfl ?_
                exact ⟨⟨_, rfl⟩, .inr ⟨_, trivial, hJx4⟩⟩
            · rw [if_neg (by intro h; exact heq h.2)] at HPd
              have HPh := Lib.hid HPd
              have he1 : (zs[m - 1]?.getD 0 == zs[0]?.getD 0) = false := by simpa using heq
              clear HPd heq
              gi_wp2_with fail
              gi_quiet (fail)
              gi_wp2_with fail
              go_end0
              exact ⟨⟨_, rfl⟩, .inl ⟨pre, by simpa using HPh.out, hJ _ _ _ none hJs (grown_of_below (below_drewN (Below.refl _ wr) nq)) (fun _ e => by cases e)⟩⟩
          · have HPd := HP.out
            rw [repsF_end _ _ _ (by omega)] at HPd
            have HPh := Lib.hid HPd
            clear HPd
            have hi2 : ¬ ((m : Int) ≤ (zs.length : Int)) := by omega
            gi_wp2_with fail
            gi_quiet (fail)
            gi_wp2_with fail
            go_end0
            exact ⟨⟨_, rfl⟩, .inl ⟨pre, by simpa using HPh.out, hJ _ _ _ none hJs (grown_of_below (below_drewN (Below.refl _ wr) nq)) (fun _ e => by cases e)⟩⟩
  · gi_wp2_with fail
    refine bodyPost_ret (results_none rfl _ _ _) rfl ?_
    exact ⟨⟨_, rfl⟩, .inr ⟨_, trivial, hJx2⟩⟩
end Go.Proofs.YtdcgfbebeiheiaaGreatDoor
