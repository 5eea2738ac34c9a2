/- The reference's List. -/
import Derived.Test.YtpplleojdcgceaaDoorIs
import Derived.Deep.RegionHeld
import Derived.OwnWalk
namespace Go.Proofs.YtpplleojdcgceaaDoor
open Go.RowKit Go.Shelf
attribute [local go_sem] Oper.semAt_some

theorem Tryd.infoBool : (Tryd.prog.info? 4).map (fun i => (i.zero, i.size, i.bytes)) = some (some (.bool false), 1, 1) := by kernel_rfl
theorem cell_one_new (w : World) (u : Value) (t : TypeId) : ∀ j x, [u][j]? = some x → (w.alloc (.cells #[u] t)).cell? ((⟨w.heap.size, 0, none⟩ : Addr).add j) = some x := by
  intro j x hj
  cases j with
  | zero => simp at hj; subst hj; simp [Addr.add]
  | succ j => simp at hj
def bitL (ws : List Nat) (k : Nat) : List Value := (List.range k).map fun j => .bool (btW ws j)

set_option maxRecDepth 100000 in
set_option maxHeartbeats 4000000 in
theorem RefList_any (n : Nat) (v : Value) (ws : List Nat) (hf : Fit64 ws) (hn : n ≤ 4096) (hl : n ≤ 64 * ws.length) (w : World) (h : WAt w v ws) :
    Calls Tryd.prog 53 #[bv n v] w fun e w' => ∃ u, e = .returned u ∧ w'.ownsRow (w.heap.size + 1) 4 1 u n (bitL ws n) ∧ Below w.heap.size w w' := by
  obtain ⟨a, c, rfl⟩ := h.form
  obtain ⟨i0, hi, hz0, hz1, hz2⟩ := info_parts Tryd.infoBool
  have Hhi := Lib.hid hi
  have Hz0 := Lib.hid hz0
  have Hz1 := Lib.hid hz1
  have Hz2 := Lib.hid hz2
  clear hi hz0 hz1 hz2
  obtain ⟨wA, hwA⟩ : ∃ wA, w.alloc (.cells #[.int .i64 (n : Int), .slice a ws.length c] 24) = wA := ⟨_, rfl⟩
  have hAB : Below w.heap.size w wA := by rw [← hwA]; exact (Below.refl _ _).alloc (Nat.le_refl _) _
  have bA : BBox wA w.heap.size n (.slice a ws.length c) := by rw [← hwA]; exact BBox.new w n _
  have hsA : wA.heap.size = w.heap.size + 1 := by rw [← hwA]; simp
  have hA := h.later hAB
  have HW := Lib.hid hwA
  clear hwA
  go_enter Tryd.func53, Tryd.ntmps53
  go_wp2_with fail
  rw [HW.out]
  go_loopw [3, 4] (fun v i wr => ∃ (k : Nat), k ≤ n ∧ i = .int .i64 k ∧ wr.ownsRow (w.heap.size + 1) 4 1 v k (bitL ws k) ∧ Below wA.heap.size wA wr) (fun _ i _ => n - (intOf i).toNat)
  case atStart => exact ⟨0, Nat.zero_le _, rfl, World.ownsRow_nil _ _ _ _, Below.refl _ _⟩
  case round =>
    obtain ⟨k, hk, rfl, hr, hB⟩ := hrel
    have x0 := (bA.later hB).c0
    have x1 := (bA.later hB).c1
    by_cases hlt : k < n
    · have hkw : k / 64 < ws.length := by omega
      obtain ⟨b, off, rfl, hb, hcell⟩ := hA.at (k / 64) hkw
      obtain ⟨x, hx⟩ : ∃ x, ws[k / 64] = x := ⟨_, rfl⟩
      have hx2 : x < 18446744073709551616 := by rw [← hx]; exact hf.get _ hkw
      rw [hx] at hcell
      have hcell1 := cell_later hB hcell
      have hbt : btW ws k = x.testBit (k % 64) := by unfold btW; rw [List.getElem?_eq_getElem hkw, hx]; rfl
      have HB := Lib.hid hbt
      have e1 : ((k : Int) / 64).toNat = k / 64 := by omega
      have e2 : (k : Int) / 64 < (ws.length : Int) := by omega
      have e3 : (0 : Int) ≤ (k : Int) / 64 := by omega
      have hi1 : (k : Int) < (n : Int) := by omega
      clear hx hbt
      have hbe := bit_eq x (k % 64) hx2
      have hr2 := hr.alloc (.cells #[.bool (x.testBit (k % 64))] 4)
      have HR2 := Lib.hid hr2
      have HR := Lib.hid hr
      clear hr2 hr
      go_wp2_with (at_builtin; refine wpList_append_own _ rfl _ _ 61 rfl (w.heap.size + 1) 4 i0 (.bool false) 1 1 Tryd.underlying61 Hhi.out Hz0.out Hz1.out Hz2.out rfl (by decide) _ _ _ rfl HR2.out ⟨wr.heap.size, 0, none⟩ 1 1 [.bool (x.testBit (k % 64))] rfl rfl ?c1 ?c2 ?c3 ?c4 ?c5 ?_)
      case c1 => exact cell_one_new wr _ _
      case c2 => intro u hu; simp at hu; subst hu; rfl
      case c3 => unfold maxLen; omega
      case c4 => omega
      case c5 => have := hB.size; simp; omega
      intro v' w1 hown hgrow _
      have hB4 := (hB.alloc hB.size (.cells #[.bool (x.testBit (k % 64))] 4)).grown hgrow (by have := hB.size; simp; omega) (fun j e => by have := (HR2.out.lt j e).1; omega)
      have HO := Lib.hid hown
      clear hown hgrow
      go_wp2
      go_roundw
      case rel =>
        refine ⟨k + 1, by omega, by go_num, ?_, hB4⟩
        have : bitL ws (k + 1) = bitL ws k ++ [.bool (x.testBit (k % 64))] := by unfold bitL; rw [List.range_succ, List.map_append, List.map_singleton, HB.out]
        rw [this]; exact HO.out
      case measure => simp [intOf]; omega
    · have hkk : k = n := by omega
      subst hkk
      go_wp2
      go_ret
      exact ⟨_, rfl, hr, hAB.trans (hB.mono hAB.size)⟩
end Go.Proofs.YtpplleojdcgceaaDoor
