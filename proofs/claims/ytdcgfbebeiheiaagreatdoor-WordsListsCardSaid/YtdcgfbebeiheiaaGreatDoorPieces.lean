/- The range function that yields what stands between the spaces of a line. -/
import Derived.Test.YtdcgfbebeiheiaaGreatDoorItems
import Derived.Test.YtdcgfbebeiheiaaGreatDoorField
namespace Go.Proofs.YtdcgfbebeiheiaaGreatDoor
open Go.RowKit Go.Shelf
attribute [local go_sem] Oper.semAt_some

def pcs : Nat → BA → List BA
  | 0, _ => []
  | f + 1, r => if feB false r.data.toList = r.size then [r.extract 0 (feB false r.data.toList)] else r.extract 0 (feB false r.data.toList) :: pcs f (r.extract (feB false r.data.toList + 1) r.size)
def piecesL (s : BA) : List BA := pcs (s.size + 1) s
abbrev Pc := { x : BA // x.size ≤ 4096 }
theorem ext_size (r : BA) (a b : Nat) (h : b ≤ r.size) : (r.extract a b).size = b - a := by rw [Lib.size_eq, Lib.extract_data]; simp only [List.length_take, List.length_drop]; rw [← Lib.size_eq]; omega

set_option maxRecDepth 100000 in
set_option maxHeartbeats 4000000 in
theorem pieces1_in (n : Nat) (hn : 1 ≤ n) (l Bs : Nat) (s : BA) (hs : s.size ≤ 4096) (J Jx : List Pc → World → Prop) (W0 : World)
    (hJ : AbidesFrom W0.heap.size J)
    (hY : ∀ (pre : List Pc) x W, J pre W → pre.length < 5000 → YieldAt Fence.wide (n - 1) Tryz.prog l #[.string x.1] W fun e W' =>
      (e = .returned (.bool true) ∧ J (pre ++ [x]) W' ∧ True) ∨ (e = .returned (.bool false) ∧ Jx (pre ++ [x]) W'))
    (hc0 : W0.cell? ⟨Bs, 0, none⟩ = some (.string s)) (h0 : J [] W0) :
    CallsIn Fence.wide n Tryz.prog 54 #[.func (.yield l) #[] #[], .pointer (some ⟨Bs, 0, none⟩)] W0 fun e W' => (∃ v, e = .returned v) ∧
      ((∃ ys, ys.map Subtype.val = piecesL s ∧ J ys W') ∨ (∃ pre : List Pc, pre.map Subtype.val <+: piecesL s ∧ Jx pre W')) := by
  refine callsIn_of_wp Tryz.func54 rfl trivial ?_ rfl
  simp only [Tryz.ntmps54, List.size_toArray, List.length_cons, List.length_nil, Nat.reduceAdd, Nat.reduceSub, Array.replicate_succ, Array.replicate_zero, List.push_toArray, List.append_toArray, List.nil_append, List.cons_append]
  have hf1 := wide_fn 55
  gi_wp2_with fail
  gi_loopw [3] (fun v wr => ∃ (r : BA) (f : Nat) (pre : List Pc), r.size ≤ 4096 ∧ r.size < f ∧ v = .string r ∧ J pre wr ∧ Hid (pre.map Subtype.val ++ pcs f r = piecesL s) ∧ pre.length + r.size ≤ 4096) (fun v _ => match v with | .string r => r.size | _ => 0)
  case atStart => exact ⟨s, s.size + 1, [], hs, Nat.lt_succ_self _, rfl, h0, rfl, by simpa using hs⟩
  case round =>
    obtain ⟨r, f, pre, hrs, hf, rfl, hJs, HP, hpl⟩ := hrel
    obtain ⟨f, rfl⟩ : ∃ g, f = g + 1 := ⟨f - 1, by omega⟩
    have hfe := feB_le r.data.toList false
    rw [← Lib.size_eq] at hfe
    have hPd := HP.out
    rw [pcs] at hPd
    obtain ⟨E, hE⟩ : ∃ E, feB false r.data.toList = E := ⟨_, rfl⟩
    rw [hE] at hfe hPd
    have HE := Lib.hid hE
    clear hE
    have hx : (r.extract 0 E).size ≤ 4096 := by rw [ext_size _ _ _ hfe]; omega
    gi_wp2_with fail
    refine (callsIn_wide.2 (fieldEnd_any r _ (by unfold maxLen; omega))).mono ?_
    rintro e W1 ⟨rfl, hb1⟩
    rw [HE.out]
    have hJ1 := hJ _ _ _ none hJs (grown_of_below hb1) (fun _ e => by cases e)
    obtain ⟨fn, tmps, assign, body, hy, hR⟩ := hY pre ⟨r.extract 0 E, hx⟩ W1 hJ1 (by omega)
    dsimp only at hy
    have hi1 : (E : Int) ≤ (r.size : Int) := by omega
    by_cases hEr : E = r.size
    · rw [if_pos hEr] at hPd
      have hq1 : ((E : Int) == (r.size : Int)) = true := by simp [hEr]
      have HPd := Lib.hid hPd
      clear hPd hEr
      gi_wp2
      refine hR.mono ?_
      rintro e W2 (⟨rfl, hJ2, _⟩ | ⟨rfl, hJx2⟩)
      · gi_wp2
        refine bodyPost_ret (results_none rfl _ _ _) rfl ?_
        exact ⟨⟨_, rfl⟩, .inl ⟨_, by simpa using HPd.out, hJ2⟩⟩
      · gi_wp2
        refine bodyPost_ret (results_none rfl _ _ _) rfl ?_
        exact ⟨⟨_, rfl⟩, .inr ⟨_, by rw [← HPd.out]; simp, hJx2⟩⟩
    · rw [if_neg hEr] at hPd
      have hq1 : ((E : Int) == (r.size : Int)) = false := by simp; omega
      have hlt : E + 1 ≤ r.size := by omega
      have hsz := ext_size r (E + 1) r.size (Nat.le_refl _)
      have HPd := Lib.hid hPd
      clear hPd hEr
      gi_wp2
      refine hR.mono ?_
      rintro e W2 (⟨rfl, hJ2, _⟩ | ⟨rfl, hJx2⟩)
      · gi_wp2
        go_roundw
        case rel => exact ⟨r.extract (E + 1) r.size, f, _, by rw [hsz]; omega, by rw [hsz]; omega, rfl, hJ2, by unfold Hid; simpa using HPd.out, by rw [hsz]; simp; omega⟩
        case measure => simp [hsz]; omega
      · gi_wp2
        refine bodyPost_ret (results_none rfl _ _ _) rfl ?_
        exact ⟨⟨_, rfl⟩, .inr ⟨_, by rw [← HPd.out]; simp, hJx2⟩⟩

theorem pieces_stops (n : Nat) (hn : 1 ≤ n) (Bs : Nat) (s : BA) (hs : s.size ≤ 4096) (w : World) (hc0 : w.cell? ⟨Bs, 0, none⟩ = some (.string s)) :
    SeqStopsK Fence.wide n Tryz.prog 54 #[.pointer (some ⟨Bs, 0, none⟩)] (fun x : Pc => #[.string x.1]) (fun _ _ => True) (fun ys => ys.map Subtype.val = piecesL s) (fun pre => pre.map Subtype.val <+: piecesL s) 5000 w := by
  intro l J Jx W hW hJ _ hY h0
  exact pieces1_in n hn l Bs s hs J Jx W hJ hY (cell_later hW hc0) h0

theorem pieces_any (n : Nat) (s : BA) (w : World) :
    CallsIn Fence.wide n Tryz.prog 30 #[.string s] w fun e w' => e = .returned (.func (.func 54) #[] #[.pointer (some ⟨w.heap.size, 0, none⟩)]) ∧ w.alloc (.cells #[.string s] 9) = w' := by
  refine callsIn_of_wp Tryz.func30 rfl trivial ?_ rfl
  simp only [Tryz.ntmps30, List.size_toArray, List.length_cons, List.length_nil, Nat.reduceAdd, Nat.reduceSub, Array.replicate_succ, Array.replicate_zero, List.push_toArray, List.append_toArray, List.nil_append, List.cons_append]
  gi_wp2
  go_ret
  exact ⟨rfl, rfl⟩
end Go.Proofs.YtdcgfbebeiheiaaGreatDoor
