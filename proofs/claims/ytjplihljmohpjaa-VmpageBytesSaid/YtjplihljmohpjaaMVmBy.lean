/- The law on bytes. -/
import Derived.Test.YtjplihljmohpjaaMVmBy0
namespace Go.Proofs.Ytjplihljmohpjaa
open Go.RowKit Go.Shelf
attribute [local go_sem] Oper.semAt_some

theorem turn_at {f : Pages} {m : Nat → Nat} (c : Nat) (x y : Int) (j : Nat) (hj : j < 1024) (hk : (f j).kd = x) (hh : (f j).hu = false) :
    ∃ g n, opP (cTurn c x y) f [] m (j : Int) 1 = (0, g, n) ∧ g = updP f j ⟨y, false, fun _ => 0⟩ ∧ ∀ a, MLe a m → MLe (a + 1) n :=
  ⟨_, _, turn_one c x y j hj hk hh, rfl, fun _ h => h.upd c⟩
theorem rd_new (f : Pages) (j k : Nat) (hj : j < 1024) (hk : k < 64) : rdB (updP f j ⟨2, false, fun _ => 0⟩) (64 * j) k = 0 ∧ rdQ (updP f j ⟨2, false, fun _ => 0⟩) (64 * j) k = false := by
  have e : rdE (updP f j ⟨2, false, fun _ => 0⟩) ((64 * j + k : Nat) : Int) = (0, 0) := by
    unfold rdE
    rw [if_neg (by omega), Int.toNat_natCast, show (64 * j + k) / 64 = j by omega, upd_at, if_pos rfl]
  unfold rdB rdQ
  rw [e]
  exact ⟨rfl, rfl⟩

set_option maxRecDepth 100000 in
set_option maxHeartbeats 16000000 in
/-- The law, of lists as they read. -/
theorem law_bytes (u : Value) (al : List Ac) (t b : Int) (ht : I64 t) (w : World) (hu : AcAt w u al) (hx : ∀ x ∈ al, AcOk w w.heap.size x) :
    Calls Try.prog 6 #[u, .int .i64 t, .int .u8 b] w fun e w' => e = .returned (.bool true) ∧ Below w.heap.size w w' := by
  obtain ⟨ua, uc, rfl⟩ := hu.form
  have hu64 := hu.len
  obtain ⟨r, hr⟩ : ∃ r, lgB [] al = r := ⟨_, rfl⟩
  have HL := Lib.hid (long_is nilS [] _ al r hr w (nil_at w) hu (fun x h => (hx x h).ru))
  have HS := Lib.hid shown_is
  obtain ⟨N, hN⟩ : ∃ N, al.length = N := ⟨_, rfl⟩
  rw [hN] at HL hu64 hu ⊢
  have HU := Lib.hid hu
  have HX := Lib.hid hx
  have HN := Lib.hid hN
  clear hu hx hr hN
  by_cases h30 : 30 < N
  · have hi1 : (30 : Int) < (N : Int) := by omega
    go_enter Try.func6, Try.ntmps6
    go_wp2_with fail
    refine (HS.out _).mono ?_
    rintro e w2 ⟨rfl, B2⟩
    go_wp2_with fail
    go_ret
    exact ⟨rfl, B2⟩
  have hi1 : ¬ (30 : Int) < (N : Int) := by omega
  cases r
  case true =>
    go_enter Try.func6, Try.ntmps6
    go_wp2_with fail
    refine HL.out.mono ?_
    rintro e w2 ⟨rfl, B2⟩
    go_wp2_with fail
    refine (HS.out _).mono ?_
    rintro e w3 ⟨rfl, B3⟩
    go_wp2_with fail
    go_ret
    exact ⟨rfl, B2.trans (B3.mono B2.size)⟩
  case false =>
    have HM := Lib.hid (fun W (hW : Below w.heap.size w W) => made_ok nilS [] okL_nil (.slice ua N uc) al (by rw [HN.out]; omega) W (nil_at W) (fun b h => by cases h) (HU.out.keep w.heap.size HU.out.own hW) (fun x h => (HX.out x h).later hW hW.size))
    go_enter Try.func6, Try.ntmps6
    go_wp2_with fail
    refine HL.out.mono ?_
    rintro e w2 ⟨rfl, B2⟩
    go_wp2_with fail
    refine (HM.out w2 B2).mono ?_
    rintro e w3 ⟨S, P, R, f0, L0, m0, rfl, hB, _, B3⟩
    have hB3 := B2.trans (B3.mono B2.size)
    have HP := Lib.hid (Plan_ok S P (· = R) f0 L0 m0 nilS [] okL_nil w3 hB.sys (nil_at w3))
    have HG := Lib.hid hB.good
    have HSP : Hid (∀ k, SP S P k → w.heap.size ≤ k) := by
      have h1 := hB.hS
      have h2 := hB.hP
      have h3 := B2.size
      rintro k (rfl | rfl) <;> omega
    clear hB HM HL
    go_wp2_with fail
    refine HP.out.mono ?_
    rintro e w4 ⟨rfl, s4, k4⟩
    have hB4 := hB3.trans (k4.below w.heap.size hB3.size HSP.out)
    have HS4 := Lib.hid s4
    clear HP s4 k4
    by_cases h0 : t < 0
    · go_wp2_with fail
      refine (HS.out _).mono ?_
      rintro e w5 ⟨rfl, B5⟩
      go_wp2_with fail
      go_ret
      exact ⟨rfl, hB4.trans (B5.mono hB4.size)⟩
    by_cases h1 : 65536 ≤ t
    · have hi2 : ¬ t < 0 := h0
      go_wp2_with fail
      refine (HS.out _).mono ?_
      rintro e w5 ⟨rfl, B5⟩
      go_wp2_with fail
      go_ret
      exact ⟨rfl, hB4.trans (B5.mono hB4.size)⟩
    obtain ⟨j, k0, htj, hj, hk0, _, _⟩ := addr_split (t := t) (by omega)
    obtain ⟨p, hp⟩ : ∃ p, j - 1 = p := ⟨_, rfl⟩
    obtain ⟨q, hq⟩ : ∃ q, min (j + 2) 1024 = q := ⟨_, rfl⟩
    obtain ⟨a, ha⟩ : ∃ a, 64 * p = a := ⟨_, rfl⟩
    obtain ⟨n, hn⟩ : ∃ n, 64 * (q - p) = n := ⟨_, rfl⟩
    obtain ⟨J, hJ⟩ : ∃ J : Int, (j : Int) = J := ⟨_, rfl⟩
    obtain ⟨A0, hA0⟩ : ∃ J : Int, (p : Int) = J := ⟨_, rfl⟩
    obtain ⟨Q0, hQ0⟩ : ∃ J : Int, (q : Int) = J := ⟨_, rfl⟩
    obtain ⟨A, hA⟩ : ∃ J : Int, (a : Int) = J := ⟨_, rfl⟩
    obtain ⟨E, hE⟩ : ∃ J : Int, ((a + n : Nat) : Int) = J := ⟨_, rfl⟩
    have hJ0 : 0 ≤ J ∧ J < 1024 := by omega
    have hn0 : 0 < n ∧ a + n ≤ 65536 := by omega
    have hdv : t.tdiv 64 = J := by rw [Int.tdiv_eq_ediv_of_nonneg (by omega)]; omega
    have hmx1 : max (J - 1) 0 = A0 := by omega
    have hmx2 : (if J - 1 < 0 then 0 else J - 1) = A0 := by split <;> omega
    have hmn1 : min (J + 2) 1024 = Q0 := by omega
    have hmn2 : (if J + 2 < 1024 then J + 2 else 1024) = Q0 := by split <;> omega
    have hml1 : A0 * 64 = A := by omega
    have hml2 : Q0 * 64 = E := by omega
    have hEA : E - A = (n : Int) := by omega
    have hA1 : 0 ≤ A ∧ A < 65536 := by omega
    have hE1 : 0 ≤ E ∧ E ≤ 65536 := by omega
    have hA2 : 0 ≤ A0 ∧ A0 < 1024 := by omega
    have hQ2 : 0 ≤ Q0 ∧ Q0 ≤ 1024 := by omega
    have HPQ := Lib.hid (And.intro hp (And.intro hq (And.intro ha (And.intro hn (And.intro htj (And.intro hJ hA))))))
    obtain ⟨us, sV⟩ := HS4.out
    have HT := Lib.hid (bytes_is S P us _ _ f0 a n hn0.2 w4 sV.box sV.pg)
    rw [hA, hE] at HT
    have HE2 := Lib.hid hE
    have H64 : Hid (I64 t) := ht
    clear hp hq ha hn htj hA0 hQ0 hE sV ht
    go_wp2_with fail
    refine HT.out.mono ?_
    rintro e w5 ⟨u1, q1, rfl, T1, B5⟩
    have hB5 := hB4.trans (B5.mono hB4.size)
    have HS5 := Lib.hid (HS4.out.later B5)
    obtain ⟨ec, hec⟩ : ∃ ec, (rdE f0 t).2 = ec := ⟨_, rfl⟩
    have HW := Lib.hid (Write_is S P (· = R) f0 [] (fun _ => 0) t b w5 HS5.out ec hec)
    have HEC := Lib.hid hec
    have HT1 := Lib.hid T1
    have hz45 := B5.size
    have hSP4 : Hid (S < w4.heap.size ∧ P < w4.heap.size) := by obtain ⟨v, s⟩ := HS4.out; exact ⟨s.box.lt, s.pg.lt⟩
    clear HT B5 hB4 T1 hec
    go_wp2_with fail
    refine HW.out.mono ?_
    rintro e w6 ⟨rfl, s6, k6⟩
    have hB6 := hB5.trans (k6.below w.heap.size hB5.size HSP.out)
    have HT6 := Lib.hid (HT1.out.keep k6 (fun x hx => by have := hSP4.out; rcases hx with h | h <;> omega))
    obtain ⟨f2, hf2⟩ : ∃ f2, wrF f0 t b = f2 := ⟨_, rfl⟩
    rw [hf2] at s6
    have HF2 := Lib.hid hf2
    have HS6 := Lib.hid s6
    obtain ⟨us6, sV6⟩ := s6
    have HT2 := Lib.hid (bytes_is S P us6 _ _ f2 a n hn0.2 w6 sV6.box sV6.pg)
    rw [HPQ.out.2.2.2.2.2.2, HE2.out] at HT2
    clear HW k6 HT1 hf2 sV6 hB5
    go_wp2_with fail
    refine HT2.out.mono ?_
    rintro e w7 ⟨u2, q2, rfl, T2, B7⟩
    have hB7 := hB6.trans (B7.mono hB6.size)
    have HS7 := Lib.hid (HS6.out.later B7)
    obtain ⟨g1, c1, d1, e1, rfl, rfl, r1, x1⟩ := (HT6.out.later B7).cells hn0.1
    obtain ⟨g2, c2, d2, e2, rfl, rfl, r2, x2⟩ := T2.cells hn0.1
    have HR1 := Lib.hid r1
    have HX1 := Lib.hid x1
    have HR2 := Lib.hid r2
    have HX2 := Lib.hid x2
    clear HT2 hB6 HT6 T2 B7 r1 x1 r2 x2
    go_wp2_with fail
    go_loopw [16] (fun i wr => ∃ (k : Nat), k ≤ n ∧ i = .int .i64 k ∧ Below w7.heap.size w7 wr) (fun i _ => n - (intOf i).toNat)
    case atStart => exact ⟨0, Nat.zero_le _, rfl, Below.refl _ _⟩
    case round =>
      obtain ⟨k, hk, rfl, hbw⟩ := hrel
      by_cases hlt : k < n
      · have hi1 : (k : Int) < (n : Int) := by omega
        obtain ⟨m1, m2, m3, m4⟩ := rd_wr f0 t b a k (by omega)
        rw [HF2.out] at m1 m2 m3
        rw [HEC.out] at m2 m3 m4
        have hza : ((a + k : Nat) : Int) = A + (k : Int) := by have := HPQ.out; omega
        rw [hza] at m2 m3 m4
        have a1 := cell_later hbw (HR1.out k hlt)
        have a2 := cell_later hbw (HR2.out k hlt)
        have a3 := cell_later hbw (HX1.out k hlt)
        have a4 := cell_later hbw (HX2.out k hlt)
        rw [m1] at a4
        obtain ⟨V, rfl⟩ : ∃ V, V = wr := ⟨_, rfl⟩
        have hk2 : (k : Int) < 65536 := by omega
        by_cases hat : A + (k : Int) = t
        · rw [m4 hat] at a3 a4
          by_cases h0 : ec = 0
          · subst h0
            rw [m2 hat rfl] at a2
            simp only [bne_self_eq_false] at a3 a4
            clear m1 m2 m3 m4 hza
            go_wp2_with fail
            go_quiet (fail)
            go_wp2_with fail
            go_roundw
            case rel => exact ⟨k + 1, by omega, by go_num, hbw.trans ⟨rfl, rfl, rfl, Nat.le_refl _, fun _ _ => rfl⟩⟩
            case measure => simp [intOf]; omega
          · rw [m3 (fun h => h0 h.2)] at a2
            have hq1 : (ec != 0) = true := by simpa using h0
            rw [hq1] at a3 a4
            have hq2 : (ec == 0) = false := by simpa using h0
            clear m1 m2 m3 m4 hza hq1 h0
            go_wp2_with fail
            go_quiet (fail)
            go_wp2_with fail
            go_roundw
            case rel => exact ⟨k + 1, by omega, by go_num, hbw.trans ⟨rfl, rfl, rfl, Nat.le_refl _, fun _ _ => rfl⟩⟩
            case measure => simp [intOf]; omega
        · rw [m3 (fun h => hat h.1)] at a2
          obtain ⟨x, hx⟩ : ∃ x, rdQ f0 a k = x := ⟨_, rfl⟩
          rw [hx] at a3 a4
          have hb1 : (A + (k : Int) == t) = false := by simpa using hat
          have hb2 : decide (A + (k : Int) = t) = false := by simpa using hat
          clear m1 m2 m3 m4 hza hx hat
          cases x
          · go_wp2_with fail
            go_quiet (fail)
            go_wp2_with fail
            go_roundw
            case rel => exact ⟨k + 1, by omega, by go_num, hbw.trans ⟨rfl, rfl, rfl, Nat.le_refl _, fun _ _ => rfl⟩⟩
            case measure => simp [intOf]; omega
          · go_wp2_with fail
            go_quiet (fail)
            go_wp2_with fail
            go_roundw
            case rel => exact ⟨k + 1, by omega, by go_num, hbw.trans ⟨rfl, rfl, rfl, Nat.le_refl _, fun _ _ => rfl⟩⟩
            case measure => simp [intOf]; omega
      · have hi1 : ¬ ((k : Int) < (n : Int)) := by omega
        obtain ⟨V, rfl⟩ : ∃ V, V = wr := ⟨_, rfl⟩
        have hB8 := hB7.trans (hbw.mono hB7.size)
        have HS8 := Lib.hid (HS7.out.later hbw)
        have hwk := wr_kd f0 t b j
        rw [HF2.out] at hwk
        have hkd := HG.out.knd j hj
        have hcm := HG.out.com j hj
        have hn2 := knE_at f2 j hj
        rw [hwk.1, hwk.2] at hn2
        have HJ : Hid ((j : Int) = J) := HPQ.out.2.2.2.2.2.1
        have hk64 : I64 (j : Int) := ⟨by omega, by omega⟩
        have HK64 := Lib.hid hk64
        have HM0 : Hid (MLe 0 (fun _ => 0)) := fun _ _ => Nat.le_refl _
        have HWK := Lib.hid hwk
        have five : ((f0 j).kd = 0 ∧ (f0 j).hu = false) ∨ ((f0 j).kd = 1 ∧ (f0 j).hu = false) ∨ ((f0 j).kd = 2 ∧ (f0 j).hu = false) ∨ ((f0 j).kd = 2 ∧ (f0 j).hu = true) ∨ ((f0 j).kd = 3 ∧ (f0 j).hu = false) := by
          cases hh : (f0 j).hu with
          | true => have := hcm hh; simp [this]
          | false =>
            have h4 : (f0 j).kd = 0 ∨ (f0 j).kd = 1 ∨ (f0 j).kd = 2 ∨ (f0 j).kd = 3 := by omega
            simpa using h4
        obtain ⟨us8, sV8⟩ := HS8.out
        clear hkd hcm hwk hbw hlt hk
        rcases five with E0 | E0 | E0 | E0 | E0
        · rw [E0.1, E0.2] at hn2
          have HK := Lib.hid (Kind_is S P us8 _ _ f2 (j : Int) hk64 V sV8.box sV8.pg (0, false, 0) hn2)
          rw [HJ.out] at HK
          have HE := Lib.hid (And.intro (HWK.out.1.trans E0.1) (HWK.out.2.trans E0.2))
          clear sV8 hn2 E0 hk64
          go_wp2_with fail
          refine HK.out.mono ?_
          rintro e v0 ⟨rfl, B9⟩
          have hb0 := hB8.trans (B9.mono hB8.size)
          have HQ0 := Lib.hid (HS8.out.later B9)
          clear HK B9
          go_wp2_with fail
          refine (HS.out _).mono ?_
          rintro e x9 ⟨rfl, B9⟩
          go_wp2_with fail
          go_ret
          exact ⟨rfl, hb0.trans (B9.mono hb0.size)⟩
        · rw [E0.1, E0.2] at hn2
          have HK := Lib.hid (Kind_is S P us8 _ _ f2 (j : Int) hk64 V sV8.box sV8.pg (1, false, 0) hn2)
          rw [HJ.out] at HK
          have HE := Lib.hid (And.intro (HWK.out.1.trans E0.1) (HWK.out.2.trans E0.2))
          clear sV8 hn2 E0 hk64
          go_wp2_with fail
          refine HK.out.mono ?_
          rintro e v0 ⟨rfl, B9⟩
          have hb0 := hB8.trans (B9.mono hB8.size)
          have HQ0 := Lib.hid (HS8.out.later B9)
          clear HK B9
          obtain ⟨g1, n1, q1, G1, M1⟩ := turn_at (f := f2) (m := (fun _ => 0)) 2 1 2 j hj (HE.out.1) (HE.out.2)
          have C1 := Lib.hid (Commit_is S P (· = R) f2 [] okL_nil (fun _ => 0) (HM0.out.sm (by decide)) (j : Int) 1 HK64.out v0 HQ0.out)
          unfold Left at C1
          rw [q1, HJ.out] at C1
          have HG1 := Lib.hid G1
          have HM1 := Lib.hid (M1 _ HM0.out)
          clear q1 G1 M1
          go_wp2_with fail
          refine C1.out.mono ?_
          rintro e v1 ⟨rfl, t1, k1⟩
          have hb1 := hb0.trans (k1.below w.heap.size hb0.size HSP.out)
          have HQ1 := Lib.hid t1
          clear C1 t1 k1
          obtain ⟨ut, sVt⟩ := HQ1.out
          have HB3 := Lib.hid (bytes_is S P ut _ _ g1 (64 * j) 64 (by omega) v1 sVt.box sVt.pg)
          obtain ⟨A3, hA3⟩ : ∃ x : Int, ((64 * j : Nat) : Int) = x := ⟨_, rfl⟩
          obtain ⟨E3, hE3⟩ : ∃ x : Int, ((64 * j + 64 : Nat) : Int) = x := ⟨_, rfl⟩
          rw [hA3, hE3] at HB3
          have hm3 : J * 64 = A3 := by have := HJ.out; omega
          have hm4 : (J + 1) * 64 = E3 := by have := HJ.out; omega
          clear sVt hA3 hE3
          go_wp2_with fail
          refine HB3.out.mono ?_
          rintro e x1 ⟨u3, q3, rfl, T3, B3⟩
          have hx1 := hb1.trans (B3.mono hb1.size)
          obtain ⟨g3, c3, d3, e3, rfl, rfl, r3, x3⟩ := T3.cells (by decide)
          have HR3 := Lib.hid r3
          have HX3 := Lib.hid x3
          clear HB3 T3 B3 r3 x3 hm3 hm4
          go_wp2_with fail
          go_loopw [21] (fun i wr => ∃ (k : Nat), k ≤ 64 ∧ i = .int .i64 k ∧ Below x1.heap.size x1 wr) (fun i _ => 64 - (intOf i).toNat)
          case atStart => exact ⟨0, Nat.zero_le _, rfl, Below.refl _ _⟩
          case round =>
            obtain ⟨k, hk, rfl, hbw⟩ := hrel
            by_cases hlt : k < 64
            · have hi1 : (k : Int) < 64 := by omega
              obtain ⟨y1, y2⟩ := rd_new f2 j k hj hlt
              rw [← HG1.out] at y1 y2
              have a1 := cell_later hbw (HR3.out k hlt)
              have a3 := cell_later hbw (HX3.out k hlt)
              rw [y1] at a1
              rw [y2] at a3
              clear y1 y2
              go_wp2_with fail
              go_roundw
              case rel => exact ⟨k + 1, by omega, by go_num, hbw⟩
              case measure => simp [intOf]; omega
            · have hi1 : ¬ ((k : Int) < 64) := by omega
              have hx2 := hx1.trans (hbw.mono hx1.size)
              go_wp2_with fail
              refine (HS.out _).mono ?_
              rintro e x9 ⟨rfl, B9⟩
              go_wp2_with fail
              go_ret
              exact ⟨rfl, hx2.trans (B9.mono hx2.size)⟩
        · rw [E0.1, E0.2] at hn2
          have HK := Lib.hid (Kind_is S P us8 _ _ f2 (j : Int) hk64 V sV8.box sV8.pg (2, false, 0) hn2)
          rw [HJ.out] at HK
          have HE := Lib.hid (And.intro (HWK.out.1.trans E0.1) (HWK.out.2.trans E0.2))
          clear sV8 hn2 E0 hk64
          go_wp2_with fail
          refine HK.out.mono ?_
          rintro e v0 ⟨rfl, B9⟩
          have hb0 := hB8.trans (B9.mono hB8.size)
          have HQ0 := Lib.hid (HS8.out.later B9)
          clear HK B9
          obtain ⟨g1, n1, q1, G1, M1⟩ := turn_at (f := f2) (m := (fun _ => 0)) 3 2 1 j hj (HE.out.1) (HE.out.2)
          have C1 := Lib.hid (Decommit_is S P (· = R) f2 [] okL_nil (fun _ => 0) (HM0.out.sm (by decide)) (j : Int) 1 HK64.out v0 HQ0.out)
          unfold Left at C1
          rw [q1, HJ.out] at C1
          have HG1 := Lib.hid G1
          have HM1 := Lib.hid (M1 _ HM0.out)
          clear q1 G1 M1
          go_wp2_with fail
          refine C1.out.mono ?_
          rintro e v1 ⟨rfl, t1, k1⟩
          have hb1 := hb0.trans (k1.below w.heap.size hb0.size HSP.out)
          have HQ1 := Lib.hid t1
          clear C1 t1 k1
          obtain ⟨g2, n2, q2, G2, M2⟩ := turn_at (f := g1) (m := n1) 2 1 2 j hj (by rw [HG1.out, upd_at]) (by rw [HG1.out, upd_at])
          have C2 := Lib.hid (Commit_is S P (· = R) g1 [] okL_nil n1 (HM1.out.sm (by decide)) (j : Int) 1 HK64.out v1 HQ1.out)
          unfold Left at C2
          rw [q2, HJ.out] at C2
          have HG2 := Lib.hid G2
          have HM2 := Lib.hid (M2 _ HM1.out)
          clear q2 G2 M2
          go_wp2_with fail
          refine C2.out.mono ?_
          rintro e v2 ⟨rfl, t2, k2⟩
          have hb2 := hb1.trans (k2.below w.heap.size hb1.size HSP.out)
          have HQ2 := Lib.hid t2
          clear C2 t2 k2
          obtain ⟨ut, sVt⟩ := HQ2.out
          have HB3 := Lib.hid (bytes_is S P ut _ _ g2 (64 * j) 64 (by omega) v2 sVt.box sVt.pg)
          obtain ⟨A3, hA3⟩ : ∃ x : Int, ((64 * j : Nat) : Int) = x := ⟨_, rfl⟩
          obtain ⟨E3, hE3⟩ : ∃ x : Int, ((64 * j + 64 : Nat) : Int) = x := ⟨_, rfl⟩
          rw [hA3, hE3] at HB3
          have hm3 : J * 64 = A3 := by have := HJ.out; omega
          have hm4 : (J + 1) * 64 = E3 := by have := HJ.out; omega
          clear sVt hA3 hE3
          go_wp2_with fail
          refine HB3.out.mono ?_
          rintro e x1 ⟨u3, q3, rfl, T3, B3⟩
          have hx1 := hb2.trans (B3.mono hb2.size)
          obtain ⟨g3, c3, d3, e3, rfl, rfl, r3, x3⟩ := T3.cells (by decide)
          have HR3 := Lib.hid r3
          have HX3 := Lib.hid x3
          clear HB3 T3 B3 r3 x3 hm3 hm4
          go_wp2_with fail
          go_loopw [21] (fun i wr => ∃ (k : Nat), k ≤ 64 ∧ i = .int .i64 k ∧ Below x1.heap.size x1 wr) (fun i _ => 64 - (intOf i).toNat)
          case atStart => exact ⟨0, Nat.zero_le _, rfl, Below.refl _ _⟩
          case round =>
            obtain ⟨k, hk, rfl, hbw⟩ := hrel
            by_cases hlt : k < 64
            · have hi1 : (k : Int) < 64 := by omega
              obtain ⟨y1, y2⟩ := rd_new g1 j k hj hlt
              rw [← HG2.out] at y1 y2
              have a1 := cell_later hbw (HR3.out k hlt)
              have a3 := cell_later hbw (HX3.out k hlt)
              rw [y1] at a1
              rw [y2] at a3
              clear y1 y2
              go_wp2_with fail
              go_roundw
              case rel => exact ⟨k + 1, by omega, by go_num, hbw⟩
              case measure => simp [intOf]; omega
            · have hi1 : ¬ ((k : Int) < 64) := by omega
              have hx2 := hx1.trans (hbw.mono hx1.size)
              go_wp2_with fail
              refine (HS.out _).mono ?_
              rintro e x9 ⟨rfl, B9⟩
              go_wp2_with fail
              go_ret
              exact ⟨rfl, hx2.trans (B9.mono hx2.size)⟩
        · rw [E0.1, E0.2] at hn2
          have HK := Lib.hid (Kind_is S P us8 _ _ f2 (j : Int) hk64 V sV8.box sV8.pg (2, true, 0) hn2)
          rw [HJ.out] at HK
          have HE := Lib.hid (And.intro (HWK.out.1.trans E0.1) (HWK.out.2.trans E0.2))
          clear sV8 hn2 E0 hk64
          go_wp2_with fail
          refine HK.out.mono ?_
          rintro e v0 ⟨rfl, B9⟩
          have hb0 := hB8.trans (B9.mono hB8.size)
          have HQ0 := Lib.hid (HS8.out.later B9)
          clear HK B9
          go_wp2_with fail
          refine (HS.out _).mono ?_
          rintro e x9 ⟨rfl, B9⟩
          go_wp2_with fail
          go_ret
          exact ⟨rfl, hb0.trans (B9.mono hb0.size)⟩
        · rw [E0.1, E0.2] at hn2
          have HK := Lib.hid (Kind_is S P us8 _ _ f2 (j : Int) hk64 V sV8.box sV8.pg (3, false, 0) hn2)
          rw [HJ.out] at HK
          have HE := Lib.hid (And.intro (HWK.out.1.trans E0.1) (HWK.out.2.trans E0.2))
          clear sV8 hn2 E0 hk64
          go_wp2_with fail
          refine HK.out.mono ?_
          rintro e v0 ⟨rfl, B9⟩
          have hb0 := hB8.trans (B9.mono hB8.size)
          have HQ0 := Lib.hid (HS8.out.later B9)
          clear HK B9
          go_wp2_with fail
          refine (HS.out _).mono ?_
          rintro e x9 ⟨rfl, B9⟩
          go_wp2_with fail
          go_ret
          exact ⟨rfl, hb0.trans (B9.mono hb0.size)⟩
end Go.Proofs.Ytjplihljmohpjaa
