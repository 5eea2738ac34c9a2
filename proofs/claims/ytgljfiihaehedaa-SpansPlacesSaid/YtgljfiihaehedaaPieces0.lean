/- Pieces: the function itself. -/
import Derived.Test.YtgljfiihaehedaaFirst
import Derived.Shelf.SlicesE.Clone
import Derived.Test.YtgljfiihaehedaaShelf
namespace Go.Proofs.Ytgljfiihaehedaa
open Go.RowKit Go.Shelf
attribute [local go_sem] Oper.semAt_some

theorem Clone_is (l : List SpI) (hl : l.length ≤ 4000000) (v : Value) (w : World) (h : SAt w v l) :
    Calls Try.prog 71 #[v] w fun e w' => ∃ u, e = .returned u ∧ SOwn w' w.heap.size u l ∧ Below w.heap.size w w' := by
  rcases h with ⟨rfl, rfl⟩ | ⟨b, off, cap, rfl, h1, h2, hc⟩
  · have hcon := AnyE.slices_Clone_nil Try.cloneSp 0 0 w
    change Calls Try.prog 71 _ _ _ at hcon
    refine hcon.mono ?_
    rintro e w' ⟨rfl, rfl⟩
    exact ⟨_, rfl, World.ownsRow_nil _ _ _ _, Below.refl _ _⟩
  · obtain ⟨i0, hi, hz0, hz1, hz2⟩ := info_parts Try.infoSp
    have hcon := AnyE.slices_Clone Try.cloneSp i0 (.agg #[.int .i64 0, .int .i64 0]) 2 16 hi hz0 hz1 hz2 rfl (by decide) Try.sizeOf31 b off l.length cap (rowS l) w (by rw [rowS_len]; omega) (by omega) (by omega) (fun j u hu => by have h3 := rowS_cells hc j u hu; rw [show (Addr.add ⟨b, off, none⟩ j) = ⟨b, off + j, none⟩ by simp [Addr.add]] at h3; exact h3) (rowS_one l)
    change Calls Try.prog 71 _ _ _ at hcon
    refine hcon.mono ?_
    rintro e w' ⟨u, rfl, ho, _, hB⟩
    exact ⟨u, rfl, ho, hB⟩

set_option maxRecDepth 100000 in
set_option maxHeartbeats 1000000 in
theorem Pieces_ok (L : List Sp) (hL : SetL 0 L) (z : Nat) (h1 : 1 ≤ z) (h2 : z ≤ 1024) (v : Value) (w : World) (h : SAt w v (toI L)) :
    Calls Try.prog 37 #[v, .int .i64 z] w fun e w' => ∃ ba bk, e = .returned (.func (.func 72) #[] #[.pointer (some ⟨bk, 0, none⟩), .pointer (some ⟨ba, 0, none⟩)]) ∧ Boxed w' ba 3 (.int .i64 z) ∧ (∃ u, Boxed w' bk 22 u ∧ SAt w' u (toI L)) ∧ Below w.heap.size w w' := by
  have HC := Lib.hid (chkS_set hL)
  have HF := Lib.hid (fit_nat L hL.val)
  have h64 := len64 h
  have d1 : decide ((z : Int) < 1) = false := by simp; omega
  have d2 : decide ((1024 : Int) < (z : Int)) = false := by simp; omega
  obtain ⟨va, vc, rfl⟩ := h.form
  go_enter Try.func37, Try.ntmps37
  go_wp2_with fail
  have hAB : Below w.heap.size w (w.alloc (.cells #[.int .i64 (z : Int)] 3)) := (Below.refl _ _).alloc (Nat.le_refl _) _
  have hA := h.later hAB
  refine (Check_is _ (toI L) HF.out h64 0 HC.out _ hA).mono ?_
  rintro e w1 ⟨rfl, B1⟩
  have bz : Boxed w1 w.heap.size 3 (.int .i64 (z : Int)) := (Boxed.new w 3 (.int .i64 (z : Int))).kept (grown_of_below B1) (by simp)
  have hB := hA.later B1
  have z0 := bz.cell
  go_wp2_with fail
  refine (Clone_is (toI L) (by have := set_len hL; rw [toI_len]; omega) _ _ hB).mono ?_
  rintro e w2 ⟨u, rfl, hu, B2⟩
  have hu2 := SOwn.at hu
  obtain ⟨ua, uc, rfl⟩ := hu2.form
  have bz2 := bz.kept (grown_of_below B2) (by simp)
  have HU := Lib.hid hu2
  have B12 := hAB.trans ((B1.trans (B2.mono B1.size)).mono hAB.size)
  clear hu hu2
  go_wp2
  go_ret
  have hN : Below w2.heap.size w2 (w2.alloc (.cells #[.slice ua (toI L).length uc] 22)) := (Below.refl _ _).alloc (Nat.le_refl _) _
  exact ⟨w.heap.size, w2.heap.size, rfl, bz2.alloc _, ⟨_, Boxed.new w2 _ _, HU.out.later hN⟩, B12.trans (hN.mono B12.size)⟩
end Go.Proofs.Ytgljfiihaehedaa
