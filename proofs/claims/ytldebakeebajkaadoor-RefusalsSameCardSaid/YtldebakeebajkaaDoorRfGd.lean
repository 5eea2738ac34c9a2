/- The package-level variables that are read: the names of the kinds, the powers of ten. -/
import Derived.Test.YtldebakeebajkaaDoorRfHt
import Derived.Test.YtldebakeebajkaaDoorShelf
import Derived.Lib.LaidTab
import Derived.Lib.ItoaNum
import Derived.Lib.ItoaLen
import Derived.Laws.Concat
import Derived.Lib.AppendIntMem
namespace Go.Proofs.YtldebakeebajkaaDoor
open Go.RowKit Go.Shelf
attribute [local go_sem] Oper.semAt_some

def nmL : Nat → List UInt8
  | 0 => [114, 101, 115, 101, 114, 118, 101]
  | 1 => [114, 101, 108, 101, 97, 115, 101]
  | 2 => [99, 111, 109, 109, 105, 116]
  | 3 => [100, 101, 99, 111, 109, 109, 105, 116]
  | 4 => [112, 114, 111, 116, 101, 99, 116]
  | 5 => [106, 111, 105, 110]
  | 6 => [115, 112, 108, 105, 116]
  | _ => []
def nmB (k : Nat) : ByteArray := ⟨(nmL k).toArray⟩
theorem nmB_size (k : Nat) : (nmB k).size ≤ 8 := by
  match k with
  | 0 => decide
  | 1 => decide
  | 2 => decide
  | 3 => decide
  | 4 => decide
  | 5 => decide
  | 6 => decide
  | k + 7 => exact Nat.zero_le _
theorem var?_later {P : Program} {n : String} {g : Nat} {cs : Array Value} {w w' : World} (hg : P.globalNamed n = some g) (h : w.var? P n = some cs) (hb : Below w.heap.size w w') : w'.var? P n = some cs := by
  unfold World.var? at h ⊢
  rw [hg] at h ⊢
  simp only [Option.bind_some] at h ⊢
  have hlt : g < w.heap.size := by
    rcases Nat.lt_or_ge g w.heap.size with h' | h'
    · exact h'
    · rw [Array.getElem?_eq_none h'] at h; cases h
  rw [hb.block g hlt]
  exact h
/-- What the package-level variables hold. -/
structure Gd (w : World) : Prop where
  nam : ∀ k : Nat, k < 7 → w.cell? ⟨0, k, none⟩ = some (.string (nmB k))
  pow : Lib.TabIs Tryd.prog w "internal/strconv.uint64pow10" .u64 Lib.pow10Tab
theorem gPow : Tryd.prog.globalNamed "internal/strconv.uint64pow10" = some 2 := by kernel_rfl
theorem Gd.later {w w' : World} (h : Gd w) (hb : Below w.heap.size w w') : Gd w' where
  nam k hk := cell_later hb (h.nam k hk)
  pow := var?_later gPow h.pow hb
/-- The decimal digits of a number. -/
def dg (n : Nat) : ByteArray := ⟨(Lib.itoa (n : Int)).toArray⟩
theorem dg_size (n : Nat) (h : n ≤ 9223372036854775807) : (dg n).size ≤ 21 := by
  have := Lib.itoa_length_le (n : Int) (by omega) (by omega)
  unfold dg
  rw [Lib.size_eq]; exact this
theorem Digits_is (n : Nat) (h : n ≤ 9223372036854775807) (w : World) (hw : Gd w) :
    Calls Tryd.prog 73 #[.int .i64 (n : Int)] w fun e w' => e = .returned (.string (dg n)) ∧ Below w.heap.size w w' := by
  go_enter Tryd.func73, Tryd.ntmps73
  go_wp2_with (go_at_call 80; refine (Tryd.strconv_FormatInt_10 n (by omega) (by omega) _ hw.pow).mono ?_; rintro e w' ⟨rfl, k, os, rfl⟩)
  go_ret
  exact ⟨rfl, Lib.below_grow _ _ (Nat.le_refl _) _ _⟩
/-- The line of a rule. -/
def prB (r : Ru) : ByteArray :=
  if r.e = 0 then nmB r.k ++ ⟨#[32]⟩ ++ dg r.f else
  if r.t = 0 then nmB r.k ++ ⟨#[32]⟩ ++ dg r.f ++ (⟨#[32, 101, 118, 101, 114, 121, 32]⟩ ++ dg r.e) else
  nmB r.k ++ ⟨#[32]⟩ ++ dg r.f ++ (⟨#[32, 101, 118, 101, 114, 121, 32]⟩ ++ dg r.e) ++ (⟨#[32, 116, 105, 109, 101, 115, 32]⟩ ++ dg r.t)

set_option maxRecDepth 100000 in
set_option maxHeartbeats 2000000 in
theorem printRule_is (r : Ru) (h : r.ok) (w : World) (hw : Gd w) :
    Calls Tryd.prog 63 #[rv r.toI] w fun e w' => e = .returned (.string (prB r)) ∧ Below w.heap.size w w' := by
  have hk := h.k; have hf2 := h.f2; have he2 := h.e2; have ht2 := h.t2
  clear h
  obtain ⟨k, f, e, t⟩ := r
  simp only at hk hf2 he2 ht2
  unfold Ru.toI
  simp only
  obtain ⟨WL, hWL⟩ : ∃ x, w.alloc (.cells #[.int .i64 (k : Int), .int .i64 (f : Int), .int .i64 (e : Int), .int .i64 (t : Int)] 61) = x := ⟨_, rfl⟩
  have hbL : Below w.heap.size w WL := by rw [← hWL]; exact (Below.refl _ _).alloc (Nat.le_refl _) _
  have hR : RBox WL w.heap.size ⟨(k : Int), (f : Int), (e : Int), (t : Int)⟩ := by rw [← hWL]; exact RBox.new w ⟨(k : Int), (f : Int), (e : Int), (t : Int)⟩
  have hG := hw.later hbL
  have hnm := hG.nam k hk
  obtain ⟨nm, hnm2⟩ : ∃ x, nmB k = x := ⟨_, rfl⟩
  have hns : nm.size ≤ 8 := by rw [← hnm2]; exact nmB_size k
  have HN := Lib.hid hnm2
  obtain ⟨df, hdf⟩ : ∃ x, dg f = x := ⟨_, rfl⟩
  have hds : df.size ≤ 21 := by rw [← hdf]; exact dg_size f (by omega)
  have HF := Lib.hid hdf
  have HD := Lib.hid (Digits_is f (by omega))
  rw [hdf] at HD
  rw [hnm2] at hnm
  have x0 := fun x : Beh WL => Beh.cell hR.c0 x
  have x1 := fun x : Beh WL => Beh.cell hR.c1 x
  have xn := fun x : Beh WL => Beh.cell hnm x
  simp only at x0 x1
  have hk1 : (k : Int) < 7 := by omega
  have hk0 : decide ((k : Int) < 0) = false := by simp
  have hk7 : decide ((7 : Int) ≤ (k : Int)) = false := by simp; omega
  have hsz := hbL.size
  have hRl := hR.lt
  clear hdf hnm2
  by_cases he : e = 0
  · have he1 : ((e : Int) != 0) = false := by simp; omega
    have HP : Hid (prB ⟨k, f, e, t⟩ = nm ++ ⟨#[32]⟩ ++ df) := by unfold Hid prB; rw [if_pos he, HN.out, HF.out]
    clear he
    go_enter Tryd.func63, Tryd.ntmps63
    go_wp2_with fail
    try rw [hWL]
    refine region_beh (by kernel_rfl) (by kernel_rfl) ?_
    repeat (go_big_quiet_step ((go_at_call 73; rename_i x; refine (HD.out _ (hG.later x.h)).mono ?_; rintro e w3 ⟨rfl, B3⟩; exact ⟨rfl, ⟨_, x.h.trans (B3.mono x.h.size)⟩, rfl⟩)))
    refine wpQuiet_nil ?_
    intro _ hw'
    obtain ⟨x, rfl⟩ := hw'
    have e2 := Beh.cell hR.c2 x
    have e3 := Beh.cell hR.c3 x
    have hGx := hG.later x.h
    simp only at e2 e3
    go_wp2
    go_ret
    exact ⟨by rw [HP.out]; rfl, hbL.trans (x.h.mono hbL.size)⟩
  have he1 : ((e : Int) != 0) = true := by simp; omega
  obtain ⟨de, hde⟩ : ∃ x, dg e = x := ⟨_, rfl⟩
  have hes : de.size ≤ 21 := by rw [← hde]; exact dg_size e (by omega)
  have HE := Lib.hid (Digits_is e (by omega))
  rw [hde] at HE
  by_cases ht : t = 0
  · have ht1 : ((t : Int) != 0) = false := by simp; omega
    have HP : Hid (prB ⟨k, f, e, t⟩ = nm ++ ⟨#[32]⟩ ++ df ++ (⟨#[32, 101, 118, 101, 114, 121, 32]⟩ ++ de)) := by unfold Hid prB; rw [if_neg he, if_pos ht, HN.out, HF.out, hde]
    clear hde ht
    go_enter Tryd.func63, Tryd.ntmps63
    go_wp2_with fail
    try rw [hWL]
    refine region_beh (by kernel_rfl) (by kernel_rfl) ?_
    repeat (go_big_quiet_step ((go_at_call 73; rename_i x; refine (HD.out _ (hG.later x.h)).mono ?_; rintro e w3 ⟨rfl, B3⟩; exact ⟨rfl, ⟨_, x.h.trans (B3.mono x.h.size)⟩, rfl⟩)))
    refine wpQuiet_nil ?_
    intro _ hw'
    obtain ⟨x, rfl⟩ := hw'
    have e2 := Beh.cell hR.c2 x
    have e3 := Beh.cell hR.c3 x
    have hGx := hG.later x.h
    simp only at e2 e3
    go_wp2_with fail
    refine (HE.out _ hGx).mono ?_
    rintro e w4 ⟨rfl, B4⟩
    have e3 := cell_later B4 e3
    go_wp2
    go_ret
    exact ⟨by rw [HP.out]; rfl, hbL.trans ((x.h.trans (B4.mono x.h.size)).mono hbL.size)⟩
  · have ht1 : ((t : Int) != 0) = true := by simp; omega
    obtain ⟨dt, hdt⟩ : ∃ x, dg t = x := ⟨_, rfl⟩
    have hts : dt.size ≤ 21 := by rw [← hdt]; exact dg_size t (by omega)
    have HT := Lib.hid (Digits_is t (by omega))
    rw [hdt] at HT
    have HP : Hid (prB ⟨k, f, e, t⟩ = nm ++ ⟨#[32]⟩ ++ df ++ (⟨#[32, 101, 118, 101, 114, 121, 32]⟩ ++ de) ++ (⟨#[32, 116, 105, 109, 101, 115, 32]⟩ ++ dt)) := by unfold Hid prB; rw [if_neg he, if_neg ht, HN.out, HF.out, hde, hdt]
    clear hde hdt
    go_enter Tryd.func63, Tryd.ntmps63
    go_wp2_with fail
    try rw [hWL]
    refine region_beh (by kernel_rfl) (by kernel_rfl) ?_
    repeat (go_big_quiet_step ((go_at_call 73; rename_i x; refine (HD.out _ (hG.later x.h)).mono ?_; rintro e w3 ⟨rfl, B3⟩; exact ⟨rfl, ⟨_, x.h.trans (B3.mono x.h.size)⟩, rfl⟩)))
    refine wpQuiet_nil ?_
    intro _ hw'
    obtain ⟨x, rfl⟩ := hw'
    have e2 := Beh.cell hR.c2 x
    have e3 := Beh.cell hR.c3 x
    have hGx := hG.later x.h
    simp only at e2 e3
    go_wp2_with fail
    refine (HE.out _ hGx).mono ?_
    rintro e w4 ⟨rfl, B4⟩
    have e3 := cell_later B4 e3
    go_wp2_with fail
    refine (HT.out _ (hGx.later B4)).mono ?_
    rintro e w5 ⟨rfl, B5⟩
    go_wp2
    go_ret
    exact ⟨by rw [HP.out]; rfl, hbL.trans ((x.h.trans ((B4.trans (B5.mono B4.size)).mono x.h.size)).mono hbL.size)⟩
end Go.Proofs.YtldebakeebajkaaDoor
