/- Everything goes back. -/
import Derived.Test.YtjplihljmohpjaaKs
import Derived.Test.YtjplihljmohpjaaKj
import Derived.Test.YtjplihljmohpjaaMVmAh
namespace Go.Proofs.Ytjplihljmohpjaa
open Go.RowKit Go.Shelf
attribute [local go_sem] Oper.semAt_some

theorem one_turn {f : Pages} {m : Nat → Nat} (c : Nat) (x y : Int) (j : Nat) (hj : j < 1024) (hk : (f j).kd = x) (hh : (f j).hu = false) (hg : Good f) (hy : 0 ≤ y ∧ y ≤ 3) :
    ∃ g n, opP (cTurn c x y) f [] m (j : Int) 1 = (0, g, n) ∧ Good g ∧ (g j).kd = y ∧ (g j).hu = false ∧ (∀ i, i < j → g i = f i) ∧ ∀ a, MLe a m → MLe (a + 1) n :=
  ⟨_, _, turn_one c x y j hj hk hh, good_one hg y hy j hj hh, by rw [upd_at], by rw [upd_at], fun i hi => upd_lt f _ hi, fun a h => h.upd c⟩
theorem one_split {f : Pages} {m : Nat → Nat} (j : Nat) (hj : j < 1024) (h16 : j % 16 = 0) (hh : (f j).hu = true) (hg : Good f) :
    ∃ g n, opG cSplit f [] m (j : Int) = (0, g, n) ∧ Good g ∧ (g j).kd = (f j).kd ∧ (g j).hu = false ∧ (∀ i, i < j → g i = f i) ∧ ∀ a, MLe a m → MLe (a + 1) n :=
  ⟨_, _, split_one hg j hj h16 hh, good_grp hg j hj h16 hh, by rw [grp_at], by rw [grp_at], fun i hi => grp_lt f hi, fun a h => h.upd 6⟩

set_option maxRecDepth 100000 in
set_option maxHeartbeats 16000000 in
/-- The law, of lists as they read. -/
theorem law_back (u : Value) (al : List Ac) (w : World) (hu : AcAt w u al) (hx : ∀ x ∈ al, AcOk w w.heap.size x) :
    Calls Try.prog 9 #[u] w fun e w' => e = .returned (.bool true) ∧ Below w.heap.size w w' := by
  obtain ⟨ua, uc, rfl⟩ := hu.form
  have hu64 := hu.len
  obtain ⟨r, hr⟩ : ∃ r, lgB [] al = r := ⟨_, rfl⟩
  have HL := Lib.hid (long_is nilS [] _ al r hr w (nil_at w) hu (fun x h => (hx x h).ru))
  have HS := Lib.hid shown_is
  obtain ⟨N, hN⟩ : ∃ N, al.length = N := ⟨_, rfl⟩
  rw [hN] at HL hu64 hu ⊢
  have HU := Lib.hid hu
  have HX := Lib.hid hx
  have HN := Lib.hid hN
  clear hu hx hr hN
  by_cases h30 : 30 < N
  · have hi1 : (30 : Int) < (N : Int) := by omega
    go_enter Try.func9, Try.ntmps9
    go_wp2_with fail
    refine (HS.out _).mono ?_
    rintro e w2 ⟨rfl, B2⟩
    go_wp2_with fail
    go_ret
    exact ⟨rfl, B2⟩
  have hi1 : ¬ (30 : Int) < (N : Int) := by omega
  cases r
  case true =>
    go_enter Try.func9, Try.ntmps9
    go_wp2_with fail
    refine HL.out.mono ?_
    rintro e w2 ⟨rfl, B2⟩
    go_wp2_with fail
    refine (HS.out _).mono ?_
    rintro e w3 ⟨rfl, B3⟩
    go_wp2_with fail
    go_ret
    exact ⟨rfl, B2.trans (B3.mono B2.size)⟩
  case false =>
    have HM := Lib.hid (fun W (hW : Below w.heap.size w W) => made_ok nilS [] okL_nil (.slice ua N uc) al (by rw [HN.out]; omega) W (nil_at W) (fun b h => by cases h) (HU.out.keep w.heap.size HU.out.own hW) (fun x h => (HX.out x h).later hW hW.size))
    go_enter Try.func9, Try.ntmps9
    go_wp2_with fail
    refine HL.out.mono ?_
    rintro e w2 ⟨rfl, B2⟩
    go_wp2_with fail
    refine (HM.out w2 B2).mono ?_
    rintro e w3 ⟨S, P, R, f0, L0, m0, rfl, hB, _, B3⟩
    have hB3 := B2.trans (B3.mono B2.size)
    have HP := Lib.hid (Plan_ok S P (· = R) f0 L0 m0 nilS [] okL_nil w3 hB.sys (nil_at w3))
    have HG := Lib.hid hB.good
    have HSP : Hid (∀ k, SP S P k → w.heap.size ≤ k) := by
      have h1 := hB.hS
      have h2 := hB.hP
      have h3 := B2.size
      rintro k (rfl | rfl) <;> omega
    clear hB HM HL
    go_wp2_with fail
    refine HP.out.mono ?_
    rintro e w4 ⟨rfl, s4, k4⟩
    have hB4 := hB3.trans (k4.below w.heap.size hB3.size HSP.out)
    have HS4 := Lib.hid s4
    clear HP s4 k4
    go_wp2_with fail
    go_loopw [5] (fun i wr => ∃ (k : Nat) (f : Pages) (m : Nat → Nat), k ≤ 1024 ∧ i = .int .i64 k ∧ Hid (Bk f m k) ∧ Hid (Sys wr S P (· = R) f [] m) ∧ Below w.heap.size w wr) (fun i _ => 1024 - (intOf i).toNat)
    case atStart => exact ⟨0, f0, fun _ => 0, Nat.zero_le _, rfl, ⟨HG.out, fun j hj => absurd hj (Nat.not_lt_zero j), fun j hj => Nat.zero_le _⟩, HS4.out, hB4⟩
    case round =>
      obtain ⟨k, f, m, hk, rfl, HB, HQ, hbw⟩ := hrel
      by_cases hlt : k < 1024
      · have hi1 : (k : Int) < 1024 := by omega
        have hk64 : I64 (k : Int) := ⟨by omega, by omega⟩
        have hn := knE_at f k hlt
        obtain ⟨us, sV⟩ := HQ.out
        have hkd := HB.out.good.knd k hlt
        have hcm := HB.out.good.com k hlt
        have five : ((f k).kd = 0 ∧ (f k).hu = false) ∨ ((f k).kd = 1 ∧ (f k).hu = false) ∨ ((f k).kd = 2 ∧ (f k).hu = false) ∨ ((f k).kd = 2 ∧ (f k).hu = true) ∨ ((f k).kd = 3 ∧ (f k).hu = false) := by
          cases hh : (f k).hu with
          | true => have := hcm hh; simp [this]
          | false =>
            have h4 : (f k).kd = 0 ∨ (f k).kd = 1 ∨ (f k).kd = 2 ∨ (f k).kd = 3 := by omega
            simpa using h4
        clear hkd hcm
        rcases five with E0 | E0 | E0 | E0 | E0
        · rw [E0.1, E0.2] at hn
          have HK := Lib.hid (Kind_is S P us _ _ f k hk64 wr sV.box sV.pg (0, false, 0) hn)
          have HE := Lib.hid E0
          have HB0 := Lib.hid HB.out.good
          have HM0 := Lib.hid HB.out.m
          clear sV hn E0
          go_wp2_with fail
          refine HK.out.mono ?_
          rintro e v0 ⟨rfl, B5⟩
          have hb0 := hbw.trans (B5.mono hbw.size)
          have HQ0 := Lib.hid (HQ.out.later B5)
          clear HK B5
          go_wp2_with fail
          go_roundw
          case rel => exact ⟨k + 1, f, m, by omega, by go_num, ⟨HB.out.good, fun j hj => (Nat.lt_succ_iff_lt_or_eq.1 hj).elim (fun h => HB.out.free j h) (fun h => by rw [h]; exact HE.out.1), HB.out.m.le (by omega)⟩, HQ0.out, hb0⟩
          case measure => simp [intOf]; omega
        · rw [E0.1, E0.2] at hn
          have HK := Lib.hid (Kind_is S P us _ _ f k hk64 wr sV.box sV.pg (1, false, 0) hn)
          have HE := Lib.hid E0
          have HB0 := Lib.hid HB.out.good
          have HM0 := Lib.hid HB.out.m
          clear sV hn E0
          go_wp2_with fail
          refine HK.out.mono ?_
          rintro e v0 ⟨rfl, B5⟩
          have hb0 := hbw.trans (B5.mono hbw.size)
          have HQ0 := Lib.hid (HQ.out.later B5)
          clear HK B5
          obtain ⟨g1, n1, q1, G1, K1, U1, I1, M1⟩ := one_turn (f := f) (m := m) 1 1 0 k hlt (HE.out.1) HE.out.2 HB0.out (by decide)
          have C1 := Lib.hid (Release_is S P (· = R) f [] okL_nil m (HM0.out.sm (by omega)) k 1 hk64 v0 HQ0.out)
          unfold Left at C1
          rw [q1] at C1
          have HB1 := Lib.hid G1
          have HK1 := Lib.hid K1
          have HU1 := Lib.hid U1
          have HI1 := Lib.hid I1
          have HM1 := Lib.hid (M1 _ HM0.out)
          clear q1 G1 K1 U1 I1 M1
          go_wp2_with fail
          refine C1.out.mono ?_
          rintro e v1 ⟨rfl, t1, k1⟩
          have hb1 := hb0.trans (k1.below w.heap.size hb0.size HSP.out)
          have HQ1 := Lib.hid t1
          clear C1 t1 k1 HQ0
          go_wp2_with fail
          go_roundw
          case rel => exact ⟨k + 1, g1, n1, by omega, by go_num, HB.out.next HB1.out (fun j h => by rw [HI1.out j h]; exact HB.out.free j h) (HK1.out) (HM1.out.le (by omega)), HQ1.out, hb1⟩
          case measure => simp [intOf]; omega
        · rw [E0.1, E0.2] at hn
          have HK := Lib.hid (Kind_is S P us _ _ f k hk64 wr sV.box sV.pg (2, false, 0) hn)
          have HE := Lib.hid E0
          have HB0 := Lib.hid HB.out.good
          have HM0 := Lib.hid HB.out.m
          clear sV hn E0
          go_wp2_with fail
          refine HK.out.mono ?_
          rintro e v0 ⟨rfl, B5⟩
          have hb0 := hbw.trans (B5.mono hbw.size)
          have HQ0 := Lib.hid (HQ.out.later B5)
          clear HK B5
          obtain ⟨g1, n1, q1, G1, K1, U1, I1, M1⟩ := one_turn (f := f) (m := m) 3 2 1 k hlt (HE.out.1) HE.out.2 HB0.out (by decide)
          have C1 := Lib.hid (Decommit_is S P (· = R) f [] okL_nil m (HM0.out.sm (by omega)) k 1 hk64 v0 HQ0.out)
          unfold Left at C1
          rw [q1] at C1
          have HB1 := Lib.hid G1
          have HK1 := Lib.hid K1
          have HU1 := Lib.hid U1
          have HI1 := Lib.hid I1
          have HM1 := Lib.hid (M1 _ HM0.out)
          clear q1 G1 K1 U1 I1 M1
          go_wp2_with fail
          refine C1.out.mono ?_
          rintro e v1 ⟨rfl, t1, k1⟩
          have hb1 := hb0.trans (k1.below w.heap.size hb0.size HSP.out)
          have HQ1 := Lib.hid t1
          clear C1 t1 k1 HQ0
          obtain ⟨g2, n2, q2, G2, K2, U2, I2, M2⟩ := one_turn (f := g1) (m := n1) 1 1 0 k hlt (HK1.out) HU1.out HB1.out (by decide)
          have C2 := Lib.hid (Release_is S P (· = R) g1 [] okL_nil n1 (HM1.out.sm (by omega)) k 1 hk64 v1 HQ1.out)
          unfold Left at C2
          rw [q2] at C2
          have HB2 := Lib.hid G2
          have HK2 := Lib.hid K2
          have HU2 := Lib.hid U2
          have HI2 := Lib.hid I2
          have HM2 := Lib.hid (M2 _ HM1.out)
          clear q2 G2 K2 U2 I2 M2
          go_wp2_with fail
          refine C2.out.mono ?_
          rintro e v2 ⟨rfl, t2, k2⟩
          have hb2 := hb1.trans (k2.below w.heap.size hb1.size HSP.out)
          have HQ2 := Lib.hid t2
          clear C2 t2 k2 HQ1
          go_wp2_with fail
          go_roundw
          case rel => exact ⟨k + 1, g2, n2, by omega, by go_num, HB.out.next HB2.out (fun j h => by rw [HI2.out j h, HI1.out j h]; exact HB.out.free j h) (HK2.out) (HM2.out.le (by omega)), HQ2.out, hb2⟩
          case measure => simp [intOf]; omega
        · rw [E0.1, E0.2] at hn
          have HK := Lib.hid (Kind_is S P us _ _ f k hk64 wr sV.box sV.pg (2, true, 0) hn)
          have HE := Lib.hid E0
          have HB0 := Lib.hid HB.out.good
          have HM0 := Lib.hid HB.out.m
          clear sV hn E0
          go_wp2_with fail
          refine HK.out.mono ?_
          rintro e v0 ⟨rfl, B5⟩
          have hb0 := hbw.trans (B5.mono hbw.size)
          have HQ0 := Lib.hid (HQ.out.later B5)
          clear HK B5
          obtain ⟨g1, n1, q1, G1, K1, U1, I1, M1⟩ := one_split (f := f) (m := m) k hlt (HB.out.first hlt HE.out.2) HE.out.2 HB0.out
          have C1 := Lib.hid (Split_is S P (· = R) f [] okL_nil m (HM0.out.sm (by omega)) k hk64 v0 HQ0.out)
          unfold Left at C1
          rw [q1] at C1
          have HB1 := Lib.hid G1
          have HK1 := Lib.hid K1
          have HU1 := Lib.hid U1
          have HI1 := Lib.hid I1
          have HM1 := Lib.hid (M1 _ HM0.out)
          clear q1 G1 K1 U1 I1 M1
          go_wp2_with fail
          refine C1.out.mono ?_
          rintro e v1 ⟨rfl, t1, k1⟩
          have hb1 := hb0.trans (k1.below w.heap.size hb0.size HSP.out)
          have HQ1 := Lib.hid t1
          clear C1 t1 k1 HQ0
          obtain ⟨g2, n2, q2, G2, K2, U2, I2, M2⟩ := one_turn (f := g1) (m := n1) 3 2 1 k hlt (HK1.out.trans HE.out.1) HU1.out HB1.out (by decide)
          have C2 := Lib.hid (Decommit_is S P (· = R) g1 [] okL_nil n1 (HM1.out.sm (by omega)) k 1 hk64 v1 HQ1.out)
          unfold Left at C2
          rw [q2] at C2
          have HB2 := Lib.hid G2
          have HK2 := Lib.hid K2
          have HU2 := Lib.hid U2
          have HI2 := Lib.hid I2
          have HM2 := Lib.hid (M2 _ HM1.out)
          clear q2 G2 K2 U2 I2 M2
          go_wp2_with fail
          refine C2.out.mono ?_
          rintro e v2 ⟨rfl, t2, k2⟩
          have hb2 := hb1.trans (k2.below w.heap.size hb1.size HSP.out)
          have HQ2 := Lib.hid t2
          clear C2 t2 k2 HQ1
          obtain ⟨g3, n3, q3, G3, K3, U3, I3, M3⟩ := one_turn (f := g2) (m := n2) 1 1 0 k hlt (HK2.out) HU2.out HB2.out (by decide)
          have C3 := Lib.hid (Release_is S P (· = R) g2 [] okL_nil n2 (HM2.out.sm (by omega)) k 1 hk64 v2 HQ2.out)
          unfold Left at C3
          rw [q3] at C3
          have HB3 := Lib.hid G3
          have HK3 := Lib.hid K3
          have HU3 := Lib.hid U3
          have HI3 := Lib.hid I3
          have HM3 := Lib.hid (M3 _ HM2.out)
          clear q3 G3 K3 U3 I3 M3
          go_wp2_with fail
          refine C3.out.mono ?_
          rintro e v3 ⟨rfl, t3, k3⟩
          have hb3 := hb2.trans (k3.below w.heap.size hb2.size HSP.out)
          have HQ3 := Lib.hid t3
          clear C3 t3 k3 HQ2
          go_wp2_with fail
          go_roundw
          case rel => exact ⟨k + 1, g3, n3, by omega, by go_num, HB.out.next HB3.out (fun j h => by rw [HI3.out j h, HI2.out j h, HI1.out j h]; exact HB.out.free j h) (HK3.out) (HM3.out.le (by omega)), HQ3.out, hb3⟩
          case measure => simp [intOf]; omega
        · rw [E0.1, E0.2] at hn
          have HK := Lib.hid (Kind_is S P us _ _ f k hk64 wr sV.box sV.pg (3, false, 0) hn)
          have HE := Lib.hid E0
          have HB0 := Lib.hid HB.out.good
          have HM0 := Lib.hid HB.out.m
          clear sV hn E0
          go_wp2_with fail
          refine HK.out.mono ?_
          rintro e v0 ⟨rfl, B5⟩
          have hb0 := hbw.trans (B5.mono hbw.size)
          have HQ0 := Lib.hid (HQ.out.later B5)
          clear HK B5
          obtain ⟨g1, n1, q1, G1, K1, U1, I1, M1⟩ := one_turn (f := f) (m := m) 4 3 1 k hlt (HE.out.1) HE.out.2 HB0.out (by decide)
          have C1 := Lib.hid (Unguard_is S P (· = R) f [] okL_nil m (HM0.out.sm (by omega)) k 1 hk64 v0 HQ0.out)
          unfold Left at C1
          rw [q1] at C1
          have HB1 := Lib.hid G1
          have HK1 := Lib.hid K1
          have HU1 := Lib.hid U1
          have HI1 := Lib.hid I1
          have HM1 := Lib.hid (M1 _ HM0.out)
          clear q1 G1 K1 U1 I1 M1
          go_wp2_with fail
          refine C1.out.mono ?_
          rintro e v1 ⟨rfl, t1, k1⟩
          have hb1 := hb0.trans (k1.below w.heap.size hb0.size HSP.out)
          have HQ1 := Lib.hid t1
          clear C1 t1 k1 HQ0
          obtain ⟨g2, n2, q2, G2, K2, U2, I2, M2⟩ := one_turn (f := g1) (m := n1) 1 1 0 k hlt (HK1.out) HU1.out HB1.out (by decide)
          have C2 := Lib.hid (Release_is S P (· = R) g1 [] okL_nil n1 (HM1.out.sm (by omega)) k 1 hk64 v1 HQ1.out)
          unfold Left at C2
          rw [q2] at C2
          have HB2 := Lib.hid G2
          have HK2 := Lib.hid K2
          have HU2 := Lib.hid U2
          have HI2 := Lib.hid I2
          have HM2 := Lib.hid (M2 _ HM1.out)
          clear q2 G2 K2 U2 I2 M2
          go_wp2_with fail
          refine C2.out.mono ?_
          rintro e v2 ⟨rfl, t2, k2⟩
          have hb2 := hb1.trans (k2.below w.heap.size hb1.size HSP.out)
          have HQ2 := Lib.hid t2
          clear C2 t2 k2 HQ1
          go_wp2_with fail
          go_roundw
          case rel => exact ⟨k + 1, g2, n2, by omega, by go_num, HB.out.next HB2.out (fun j h => by rw [HI2.out j h, HI1.out j h]; exact HB.out.free j h) (HK2.out) (HM2.out.le (by omega)), HQ2.out, hb2⟩
          case measure => simp [intOf]; omega
      · have hi1 : ¬ ((k : Int) < 1024) := by omega
        obtain rfl : k = 1024 := by omega
        obtain ⟨us, sV⟩ := HQ.out
        have HV := Lib.hid (Save_free S P us [] okL_nil _ _ f HB.out.all wr sV.box sV.pg sV.ru)
        clear sV
        go_wp2_with fail
        refine HV.out.mono ?_
        rintro e w5 ⟨u5, rfl, ho5, B5⟩
        have hb5 := hbw.trans (B5.mono hbw.size)
        clear HV
        obtain ⟨C, hC⟩ : ∃ C, ci m = C := ⟨_, rfl⟩
        obtain ⟨H, hH⟩ : ∃ C, ci (hf [] m) = C := ⟨_, rfl⟩
        rw [hC, hH]
        clear hC hH
        obtain ⟨W6, hW6⟩ : ∃ x, w5.alloc (.cells #[.slice none 0 0, .slice none 0 0, .slice none 0 0, .slice none 0 0, .int .i64 0, .int .i64 0, .int .i64 0, .int .i64 0, .int .i64 0, .int .i64 0, .int .i64 0, .int .i64 0, .int .i64 0, .int .i64 0, .int .i64 0, .int .i64 0, .int .i64 0, .int .i64 0] 47) = x := ⟨_, rfl⟩
        have hb6 : Below w5.heap.size w5 W6 := by rw [← hW6]; exact (Below.refl _ _).alloc (Nat.le_refl _) _
        have bN : VBox W6 w5.heap.size nilS nilS nilS nilS zer zer := by rw [← hW6]; exact VBox.new w5 nilS nilS nilS nilS zer zer
        have bM := bN.row nilS nilS nilS u5 C H
        have hone := vs_one nilS nilS nilS u5 C H rfl rfl rfl ho5
        have m0 : (W6.setRow w5.heap.size (vsA nilS nilS nilS u5 C H)).cell? ⟨w5.heap.size, 0, none⟩ = some (.slice none 0 0) := (bM.cell 0).trans rfl
        have m1 : (W6.setRow w5.heap.size (vsA nilS nilS nilS u5 C H)).cell? ⟨w5.heap.size, 1, none⟩ = some (.slice none 0 0) := (bM.cell 1).trans rfl
        have m2 : (W6.setRow w5.heap.size (vsA nilS nilS nilS u5 C H)).cell? ⟨w5.heap.size, 2, none⟩ = some (.slice none 0 0) := (bM.cell 2).trans rfl
        have hK7 : Below w.heap.size w (W6.setRow w5.heap.size (vsA nilS nilS nilS u5 C H)) := below_row (hb5.trans (hb6.mono hb5.size)) _ hb5.size _
        have HK7 := Lib.hid hK7
        have HH5 := Lib.hid hb5
        clear B5 hb5 hb6 hbw hB4 bM hK7
        go_wp2_with (first | rw [hW6] | refine wpList_store_row rfl 47 _ _ rfl w5.heap.size (vsA nilS nilS nilS u5 C H) rfl rfl 47 _ bN (vs_i _ _ _ _ _ _) rfl hone ?_)
        refine (HS.out _).mono ?_
        rintro e w8 ⟨rfl, B8⟩
        go_wp2_with fail
        go_ret
        exact ⟨rfl, HK7.out.trans (B8.mono HK7.out.size)⟩
end Go.Proofs.Ytjplihljmohpjaa
