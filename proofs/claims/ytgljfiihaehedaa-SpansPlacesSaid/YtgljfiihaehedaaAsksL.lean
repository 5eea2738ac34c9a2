/- Has, Meets, Count: both ways answer the same; the law SpansAsks. -/
import Derived.Test.YtgljfiihaehedaaRAsk
import Derived.Test.YtgljfiihaehedaaTwo
namespace Go.Proofs.Ytgljfiihaehedaa
open Go.RowKit
attribute [local go_sem] Oper.semAt_some

def RetB (w : World) (r : Bool) (c : Int) (e : Ending) (w' : World) : Prop := e = .returned (.tuple #[.bool r, .int .i64 c]) ∧ Below w.heap.size w w'
def RetI (w : World) (r : Int) (c : Int) (e : Ending) (w' : World) : Prop := e = .returned (.tuple #[.int .i64 r, .int .i64 c]) ∧ Below w.heap.size w w'
theorem two_Has (l : List SpI) (fl : Fit l) (x : SpI) (fx : I64 x.1) : ∃ (r : Bool) (c : Int), (∀ u w, SAt w u l → Calls Try.prog 26 #[u, sv x] w fun e w' => RetB w r c e w') ∧ (∀ u w, SAt w u l → Calls Try.prog 27 #[u, sv x] w fun e w' => RetB w r c e w') := by
  obtain ⟨p, q⟩ := x
  by_cases hc : withB l (p, q) = 0
  · have hc2 := hc
    unfold withB at hc2
    by_cases h3 : chkS l = 0
    · rw [if_neg (by simp [h3])] at hc2
      obtain ⟨L, rfl, sl⟩ := chkS_ok h3
      have hv : vld (p, q) = true := by
        cases hv : vld (p, q) with
        | true => rfl
        | false => rw [hv] at hc2; simp at hc2
      obtain ⟨a, b, hab, hb1, hb2⟩ := vld_nat hv
      cases hab
      exact ⟨L.any (hasOne a b), 0, fun u w h1 => Has_ok L sl a b ⟨hb1, hb2⟩ u w h1, fun u w h1 => RHas_ok L sl a b ⟨hb1, hb2⟩ u w h1⟩
    · rw [if_pos h3] at hc2; exact absurd hc2 h3
  · exact ⟨false, withB l (p, q), fun u w h1 => Has_bad l p q fl fx _ rfl hc u w h1, fun u w h1 => RHas_bad l p q fl fx _ rfl hc u w h1⟩
theorem two_Meets (l : List SpI) (fl : Fit l) (x : SpI) (fx : I64 x.1) : ∃ (r : Bool) (c : Int), (∀ u w, SAt w u l → Calls Try.prog 28 #[u, sv x] w fun e w' => RetB w r c e w') ∧ (∀ u w, SAt w u l → Calls Try.prog 29 #[u, sv x] w fun e w' => RetB w r c e w') := by
  obtain ⟨p, q⟩ := x
  by_cases hc : withB l (p, q) = 0
  · have hc2 := hc
    unfold withB at hc2
    by_cases h3 : chkS l = 0
    · rw [if_neg (by simp [h3])] at hc2
      obtain ⟨L, rfl, sl⟩ := chkS_ok h3
      have hv : vld (p, q) = true := by
        cases hv : vld (p, q) with
        | true => rfl
        | false => rw [hv] at hc2; simp at hc2
      obtain ⟨a, b, hab, hb1, hb2⟩ := vld_nat hv
      cases hab
      exact ⟨L.any (meetsOne a b), 0, fun u w h1 => Meets_ok L sl a b ⟨hb1, hb2⟩ u w h1, fun u w h1 => RMeets_ok L sl a b ⟨hb1, hb2⟩ u w h1⟩
    · rw [if_pos h3] at hc2; exact absurd hc2 h3
  · exact ⟨false, withB l (p, q), fun u w h1 => Meets_bad l p q fl fx _ rfl hc u w h1, fun u w h1 => RMeets_bad l p q fl fx _ rfl hc u w h1⟩
theorem two_Count (l : List SpI) (fl : Fit l) : ∃ (r : Int) (c : Int), (∀ u w, SAt w u l → Calls Try.prog 30 #[u] w fun e w' => RetI w r c e w') ∧ (∀ u w, SAt w u l → Calls Try.prog 31 #[u] w fun e w' => RetI w r c e w') := by
  by_cases hc : chkS l = 0
  · obtain ⟨L, rfl, sl⟩ := chkS_ok hc
    exact ⟨(cntL L : Nat), 0, fun u w h1 => Count_ok L sl u w h1, fun u w h1 => RCount_ok L sl u w h1⟩
  · exact ⟨0, chkS l, fun u w h1 => Count_bad l fl _ rfl hc u w h1, fun u w h1 => RCount_bad l fl _ rfl hc u w h1⟩

set_option maxRecDepth 100000 in
set_option maxHeartbeats 4000000 in
theorem law_asks (u : Value) (l : List SpI) (fl : Fit l) (x : SpI) (fx : I64 x.1) (w : World) (h : SAt w u l) :
    Calls Try.prog 5 #[u, sv x] w fun e w' => e = .returned (.bool true) ∧ Below w.heap.size w w' := by
  obtain ⟨r1, c1, hO1, hR1⟩ := two_Has l fl x fx
  obtain ⟨r2, c2, hO2, hR2⟩ := two_Meets l fl x fx
  obtain ⟨r3, c3, hO3, hR3⟩ := two_Count l fl
  obtain ⟨p, q⟩ := x
  have O1 := Lib.hid hO1
  have R1 := Lib.hid hR1
  have O2 := Lib.hid hO2
  have R2 := Lib.hid hR2
  have O3 := Lib.hid hO3
  have R3 := Lib.hid hR3
  obtain ⟨WX, hWX⟩ : ∃ y, w.alloc (.cells #[.int .i64 p, .int .i64 q] 31) = y := ⟨_, rfl⟩
  have D0 : Below w.heap.size w WX := by rw [← hWX]; exact (Below.refl _ _).alloc (Nat.le_refl _) _
  have bx : XBox WX w.heap.size (p, q) := by rw [← hWX]; exact XBox.new w (p, q)
  have HW := Lib.hid hWX
  replace h := h.later D0
  clear hO1 hR1 hO2 hR2 hO3 hR3 hWX
  cases hg : decide (2100 < l.length)
  · have HG := Lib.hid hg
    clear hg
    have hr1 : (r1 == r1) = true := by simp
    have hr2 : (r2 == r2) = true := by simp
    go_enter Try.func5, Try.ntmps5
    have qbx0 := bx.c0
    have qbx1 := bx.c1
    have qbxl := bx.lt
    try simp only at qbx0 qbx1
    go_wp2_with fail
    try rw [HW.out]
    refine (long_is l false HG.out _ _ h).mono ?_
    rintro e w1 ⟨rfl, B1⟩
    clear qbx0 qbx1 qbxl
    have D1 := D0.trans (B1.mono D0.size)
    replace h := h.later B1
    replace bx := bx.later B1
    have qbx0 := bx.c0
    have qbx1 := bx.c1
    have qbxl := bx.lt
    try simp only at qbx0 qbx1
    go_wp2_with fail
    refine (O1.out _ _ h).mono ?_
    rintro e w2 ⟨rfl, B2⟩
    clear qbx0 qbx1 qbxl
    have D2 := D1.trans (B2.mono D1.size)
    replace h := h.later B2
    replace bx := bx.later B2
    have qbx0 := bx.c0
    have qbx1 := bx.c1
    have qbxl := bx.lt
    try simp only at qbx0 qbx1
    go_wp2_with fail
    refine (R1.out _ _ h).mono ?_
    rintro e w3 ⟨rfl, B3⟩
    clear qbx0 qbx1 qbxl
    have D3 := D2.trans (B3.mono D2.size)
    replace h := h.later B3
    replace bx := bx.later B3
    have qbx0 := bx.c0
    have qbx1 := bx.c1
    have qbxl := bx.lt
    try simp only at qbx0 qbx1
    go_wp2_with fail
    refine (O2.out _ _ h).mono ?_
    rintro e w4 ⟨rfl, B4⟩
    clear qbx0 qbx1 qbxl
    have D4 := D3.trans (B4.mono D3.size)
    replace h := h.later B4
    replace bx := bx.later B4
    have qbx0 := bx.c0
    have qbx1 := bx.c1
    have qbxl := bx.lt
    try simp only at qbx0 qbx1
    go_wp2_with fail
    refine (R2.out _ _ h).mono ?_
    rintro e w5 ⟨rfl, B5⟩
    clear qbx0 qbx1 qbxl
    have D5 := D4.trans (B5.mono D4.size)
    replace h := h.later B5
    replace bx := bx.later B5
    have qbx0 := bx.c0
    have qbx1 := bx.c1
    have qbxl := bx.lt
    try simp only at qbx0 qbx1
    go_wp2_with fail
    refine (O3.out _ _ h).mono ?_
    rintro e w6 ⟨rfl, B6⟩
    clear qbx0 qbx1 qbxl
    have D6 := D5.trans (B6.mono D5.size)
    replace h := h.later B6
    replace bx := bx.later B6
    have qbx0 := bx.c0
    have qbx1 := bx.c1
    have qbxl := bx.lt
    try simp only at qbx0 qbx1
    go_wp2_with fail
    refine (R3.out _ _ h).mono ?_
    rintro e w7 ⟨rfl, B7⟩
    clear qbx0 qbx1 qbxl
    have D7 := D6.trans (B7.mono D6.size)
    replace h := h.later B7
    replace bx := bx.later B7
    have qbx0 := bx.c0
    have qbx1 := bx.c1
    have qbxl := bx.lt
    try simp only at qbx0 qbx1
    go_wp2_with fail
    refine (awake_is _).mono ?_
    rintro e w8 ⟨rfl, B8⟩
    clear qbx0 qbx1 qbxl
    have D8 := D7.trans (B8.mono D7.size)
    replace h := h.later B8
    replace bx := bx.later B8
    have qbx0 := bx.c0
    have qbx1 := bx.c1
    have qbxl := bx.lt
    try simp only at qbx0 qbx1
    go_wp2_with fail
    go_ret
    exact ⟨rfl, D8⟩
  · have HG := Lib.hid hg
    clear hg
    go_enter Try.func5, Try.ntmps5
    have qbx0 := bx.c0
    have qbx1 := bx.c1
    have qbxl := bx.lt
    try simp only at qbx0 qbx1
    go_wp2_with fail
    try rw [HW.out]
    refine (long_is l true HG.out _ _ h).mono ?_
    rintro e w1 ⟨rfl, B1⟩
    clear qbx0 qbx1 qbxl
    have D1 := D0.trans (B1.mono D0.size)
    replace h := h.later B1
    replace bx := bx.later B1
    have qbx0 := bx.c0
    have qbx1 := bx.c1
    have qbxl := bx.lt
    try simp only at qbx0 qbx1
    go_wp2_with fail
    refine (awake_is _).mono ?_
    rintro e w2 ⟨rfl, B2⟩
    clear qbx0 qbx1 qbxl
    have D2 := D1.trans (B2.mono D1.size)
    replace h := h.later B2
    replace bx := bx.later B2
    have qbx0 := bx.c0
    have qbx1 := bx.c1
    have qbxl := bx.lt
    try simp only at qbx0 qbx1
    go_wp2_with fail
    go_ret
    exact ⟨rfl, D2⟩
end Go.Proofs.Ytgljfiihaehedaa
