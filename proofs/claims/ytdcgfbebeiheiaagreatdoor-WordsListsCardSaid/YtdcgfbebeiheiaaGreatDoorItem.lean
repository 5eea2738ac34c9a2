/- Items of list expressions, as the program reads them. -/
import Derived.Test.YtdcgfbebeiheiaaGreatDoorNums
import Derived.Deep.RegionWith
import Derived.Deep.RegionHeld3
import Derived.Handy
import Derived.StillTailTactics
import Derived.Deep.QuietTactic
import Derived.BigQuiet
import Derived.Lib.Hide
namespace Go.Proofs.YtdcgfbebeiheiaaGreatDoor
open Go.RowKit

def beforeB (a b : List UInt8) : Bool := if a.length = b.length then Op.bytesLess a b else decide (a.length < b.length)

set_option maxHeartbeats 1000000 in
theorem before_any (a b : ByteArray) (w : World) :
    Calls Tryz.prog 48 #[.string a, .string b] w fun e w' => e = .returned (.bool (beforeB a.data.toList b.data.toList)) ∧ w = w' := by
  have hdef : Hid (beforeB a.data.toList b.data.toList = if a.size = b.size then Op.bytesLess a.toList b.toList else decide (a.size < b.size)) := by
    unfold Hid beforeB; rw [Lib.size_eq, Lib.size_eq, Lib.toList_data, Lib.toList_data]
  by_cases h : a.size = b.size
  · have h1 : ((a.size : Int) != (b.size : Int)) = false := by simp [h]
    have H := Lib.hid h
    clear h
    go_enter Tryz.func48, Tryz.ntmps48
    go_wp2
    go_ret
    exact ⟨ret_bool (by rw [hdef.out, if_pos H.out]), rfl⟩
  · have h1 : ((a.size : Int) != (b.size : Int)) = true := by simp; omega
    go_enter Tryz.func48, Tryz.ntmps48
    go_wp2
    go_ret
    exact ⟨ret_bool (by rw [hdef.out, if_neg h]), rfl⟩

set_option maxHeartbeats 1000000 in
theorem last_any (a b c : Int) (w : World) (ha : 0 ≤ a) (ha' : a ≤ 10000) (hb : 0 ≤ b) (hb' : b ≤ 20000) (hc : 0 ≤ c) (hc' : c ≤ 1) :
    Calls Tryz.prog 25 #[.agg #[.int .i64 a, .int .i64 b, .int .i64 c]] w fun e w' => e = .returned (.int .i64 (a + (b - 1) * c)) ∧ Below w.heap.size w w' := by
  have h1 : -20000 ≤ (b - 1) * c ∧ (b - 1) * c ≤ 20000 := by
    have : c = 0 ∨ c = 1 := by omega
    rcases this with rfl | rfl <;> omega
  go_enter Tryz.func25, Tryz.ntmps25
  go_wp2
  go_ret
  exact ⟨rfl, (Below.refl _ _).alloc (Nat.le_refl _) _⟩

theorem Cut_any (s p : ByteArray) (w : World) (hw : Gd w) (hs : s.size ≤ 4000000000) :
    Calls Tryz.prog 72 #[.string s, .string p] w fun e w' => e = .returned (.tuple #[.string ⟨(Lib.cut s.data.toList p.data.toList).1.toArray⟩, .string ⟨(Lib.cut s.data.toList p.data.toList).2.1.toArray⟩, .bool (Lib.cut s.data.toList p.data.toList).2.2]) ∧ ∃ n, w' = w.drewN n :=
  let ⟨m, hm⟩ := hw.ml
  Tryz.strings_Cut s p m w (by omega) hm

theorem cell_new3 (w : World) (a b c : Value) (t : TypeId) : (w.alloc (.cells #[a, b, c] t)).cell? ⟨w.heap.size, 0, none⟩ = some a ∧ (w.alloc (.cells #[a, b, c] t)).cell? ⟨w.heap.size, 1, none⟩ = some b ∧ (w.alloc (.cells #[a, b, c] t)).cell? ⟨w.heap.size, 2, none⟩ = some c := by
  refine ⟨?_, ?_, ?_⟩ <;> simp
theorem isNatural_is (s : ByteArray) (w : World) (hw : Gd w) (hs : s.size ≤ maxLen) (b : Bool) (hb : natB s.data.toList = b) :
    Calls Tryz.prog 74 #[.string s] w fun e w' => e = .returned (.bool b) ∧ w = w' := by
  rw [← hb]; exact isNatural_any s w hw hs
theorem cut_len (l p : List UInt8) : (Lib.cut l p).1.length ≤ l.length ∧ (Lib.cut l p).2.1.length ≤ l.length := by
  unfold Lib.cut
  split
  · simp only [List.length_take, List.length_drop]; omega
  · simp

/-- What parseItem answers: first, count, step, and whether it is an item. -/
def piB (l : List UInt8) : Int × Int × Int × Bool :=
  if (Lib.cut l [120]).2.2 then (clampB (Lib.cut l [120]).2.1, clampB (Lib.cut l [120]).1, 0, natB (Lib.cut l [120]).1 && natB (Lib.cut l [120]).2.1 && decide (2 ≤ clampB (Lib.cut l [120]).1))
  else if (Lib.cut l [45]).2.2 then (clampB (Lib.cut l [45]).1, clampB (Lib.cut l [45]).2.1 - clampB (Lib.cut l [45]).1 + 1, 1, natB (Lib.cut l [45]).1 && natB (Lib.cut l [45]).2.1 && beforeB (Lib.cut l [45]).1 (Lib.cut l [45]).2.1)
  else (clampB l, 1, 0, natB l)

set_option maxRecDepth 100000 in
set_option maxHeartbeats 8000000 in
theorem parseItem_x (s : ByteArray) (w : World) (hw : Gd w) (hs0 : s.size ≤ 4000000000) (hx : (Lib.cut s.data.toList [120]).2.2 = true) :
    Calls Tryz.prog 50 #[.string s] w fun e w' => e = .returned (.tuple #[.agg #[.int .i64 (clampB (Lib.cut s.data.toList [120]).2.1), .int .i64 (clampB (Lib.cut s.data.toList [120]).1), .int .i64 0], .bool (natB (Lib.cut s.data.toList [120]).1 && natB (Lib.cut s.data.toList [120]).2.1 && decide (2 ≤ clampB (Lib.cut s.data.toList [120]).1))]) ∧ Below w.heap.size w w' := by
  obtain ⟨hl1, hl2⟩ := cut_len s.data.toList [120]
  have hsz := Lib.size_eq s
  generalize hA : (Lib.cut s.data.toList [120]).1 = A at *
  generalize hB : (Lib.cut s.data.toList [120]).2.1 = B at *
  have hAs : (⟨A.toArray⟩ : ByteArray).size ≤ 281474976710656 := by rw [Lib.size_eq]; simp only; omega
  have hBs : (⟨B.toArray⟩ : ByteArray).size ≤ 281474976710656 := by rw [Lib.size_eq]; simp only; omega
  have hAm : (⟨A.toArray⟩ : ByteArray).size ≤ maxLen := by unfold maxLen; omega
  have hBm : (⟨B.toArray⟩ : ByteArray).size ≤ maxLen := by unfold maxLen; omega
  clear hl1 hl2 hsz
  have bA := clampB_bd A
  go_enter Tryz.func50, Tryz.ntmps50
  go_wp2_with fail
  refine (Cut_any _ _ _ (hw.later (by exact (Below.refl _ _).alloc (Nat.le_refl _) _)) hs0).mono ?_
  rintro e w' ⟨rfl, n, rfl⟩
  rw [hA, hB, hx]
  have hb0 : Below w.heap.size w ((w.alloc (.cells #[.int .i64 0, .int .i64 0, .int .i64 0] 56)).drewN n) := below_drewN ((Below.refl _ _).alloc (Nat.le_refl _) _) n
  go_wp2_with fail
  refine (clamped_any ⟨B.toArray⟩ _ (hw.later hb0) hBs).mono ?_
  rintro e W1 ⟨rfl, hb1⟩
  have hb1' : Below w.heap.size w W1 := hb0.trans (hb1.mono hb0.size)
  go_wp2_with fail
  refine (clamped_any ⟨A.toArray⟩ _ (hw.later hb1') hAs).mono ?_
  rintro e W2 ⟨rfl, hb2⟩
  have hb2' : Below w.heap.size w W2 := hb1'.trans (hb2.mono hb1'.size)
  go_wp2_with fail
  have hbx : Below (w.heap.size + 1) ((w.alloc (.cells #[.int .i64 0, .int .i64 0, .int .i64 0] 56)).drewN n) W2 := (hb1.mono (by simp)).trans (hb2.mono (by have := hb1.size; simp at this; omega))
  have c0 : W2.cell? ⟨w.heap.size, 0, none⟩ = some (.int .i64 0) := (hbx.cell (p := ⟨w.heap.size, 0, none⟩) (Nat.lt_succ_self _)).trans (by simp)
  have c1 : W2.cell? ⟨w.heap.size, 1, none⟩ = some (.int .i64 0) := (hbx.cell (p := ⟨w.heap.size, 1, none⟩) (Nat.lt_succ_self _)).trans (by simp)
  have c2 : W2.cell? ⟨w.heap.size, 2, none⟩ = some (.int .i64 0) := (hbx.cell (p := ⟨w.heap.size, 2, none⟩) (Nat.lt_succ_self _)).trans (by simp)
  have f0 : W2.frozen? ⟨w.heap.size, 0, none⟩ = false := (hbx.frozen (p := ⟨w.heap.size, 0, none⟩) (Nat.lt_succ_self _)).trans (by simp)
  have f1 : W2.frozen? ⟨w.heap.size, 1, none⟩ = false := (hbx.frozen (p := ⟨w.heap.size, 1, none⟩) (Nat.lt_succ_self _)).trans (by simp)
  have f2 : W2.frozen? ⟨w.heap.size, 2, none⟩ = false := (hbx.frozen (p := ⟨w.heap.size, 2, none⟩) (Nat.lt_succ_self _)).trans (by simp)
  have hgw : Gd (W2.alloc (.cells #[.int .i64 (clampB B), .int .i64 (clampB A), .int .i64 0] 56)) := hw.later (hb2'.alloc hb2'.size _)
  have hlt : w.heap.size < W2.heap.size := by have := hbx.size; simp at this; omega
  have hb3 : Below w.heap.size w (W2.alloc (.cells #[.int .i64 (clampB B), .int .i64 (clampB A), .int .i64 0] 56)) := hb2'.alloc hb2'.size _
  have hb3x := (Below.refl (w.heap.size + 1) W2).alloc hlt (.cells #[.int .i64 (clampB B), .int .i64 (clampB A), .int .i64 0] 56)
  have d0 := (hb3x.cell (p := ⟨w.heap.size, 0, none⟩) (Nat.lt_succ_self _)).trans c0
  have d1 := (hb3x.cell (p := ⟨w.heap.size, 1, none⟩) (Nat.lt_succ_self _)).trans c1
  have d2 := (hb3x.cell (p := ⟨w.heap.size, 2, none⟩) (Nat.lt_succ_self _)).trans c2
  have g0 := (hb3x.frozen (p := ⟨w.heap.size, 0, none⟩) (Nat.lt_succ_self _)).trans f0
  have g1 := (hb3x.frozen (p := ⟨w.heap.size, 1, none⟩) (Nat.lt_succ_self _)).trans f1
  have g2 := (hb3x.frozen (p := ⟨w.heap.size, 2, none⟩) (Nat.lt_succ_self _)).trans f2
  have e0 := cell_new3 W2 (.int .i64 (clampB B)) (.int .i64 (clampB A)) (.int .i64 0) 56
  obtain ⟨q0, q1, q2⟩ := e0
  clear c0 c1 c2 f0 f1 f2 hb3x hbx hb2 hb2' hb1 hb1' hb0
  obtain ⟨W3, hW3⟩ : ∃ x, W2.alloc (.cells #[.int .i64 (clampB B), .int .i64 (clampB A), .int .i64 0] 56) = x := ⟨_, rfl⟩
  rw [hW3] at hgw hb3 d0 d1 d2 g0 g1 g2 q0 q1 q2 ⊢
  clear hW3
  obtain ⟨N, hN⟩ : ∃ x, W2.heap.size = x := ⟨_, rfl⟩
  rw [hN] at hlt q0 q1 q2 ⊢
  clear hN
  have hne : N ≠ w.heap.size := by omega
  have hne2 : w.heap.size ≠ N := by omega
  cases nA : natB A
  case false =>
    first | go_region_with (go_at_call 74; refine (isNatural_is _ _ (by repeat (first | exact hgw | refine Gd.drew ?_)) (by assumption) _ (by first | exact nA | exact nB)).mono ?_; rintro e w' ⟨rfl, rfl⟩) | fail
    all_goals
      go_wp2
      refine bodyPost_ret (v := .tuple #[.agg #[.int .i64 (clampB B), .int .i64 (clampB A), .int .i64 0], .bool (false)]) (by simp [results, Tryz.results50, go_sem, d0, d1, d2]) rfl ⟨?_, ?_⟩
      · simp [nA]
      · go_grown
  cases nB : natB B
  case false =>
    first | go_region_with (go_at_call 74; refine (isNatural_is _ _ (by repeat (first | exact hgw | refine Gd.drew ?_)) (by assumption) _ (by first | exact nA | exact nB)).mono ?_; rintro e w' ⟨rfl, rfl⟩) | fail
    all_goals
      go_wp2
      refine bodyPost_ret (v := .tuple #[.agg #[.int .i64 (clampB B), .int .i64 (clampB A), .int .i64 0], .bool (false)]) (by simp [results, Tryz.results50, go_sem, d0, d1, d2]) rfl ⟨?_, ?_⟩
      · simp [nA, nB]
      · go_grown
  case true =>
    first | go_region_held3 (fun w' => w'.cell? ⟨N, 0, none⟩ = some (.int .i64 (clampB B)) ∧ w'.cell? ⟨N, 1, none⟩ = some (.int .i64 (clampB A)) ∧ w'.cell? ⟨N, 2, none⟩ = some (.int .i64 0)) (go_keep) (first | (go_at_call 74; refine (isNatural_is _ _ (by repeat (first | exact hgw | refine Gd.drew ?_)) (by assumption) _ (by first | exact nA | exact nB)).mono ?_; rintro e w' ⟨rfl, rfl⟩)) | fail
    all_goals
      go_wp2
      refine bodyPost_ret (v := .tuple #[.agg #[.int .i64 (clampB B), .int .i64 (clampB A), .int .i64 0], .bool (decide (2 ≤ clampB A))]) (by simp [results, Tryz.results50, go_sem, d0, d1, d2]) rfl ⟨?_, ?_⟩
      · simp [nA, nB]
      · go_grown
end Go.Proofs.YtdcgfbebeiheiaaGreatDoor
