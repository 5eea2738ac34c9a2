/- The reference: pages are changed. -/
import Derived.Test.YtnmeeddhagmjdaaVmS
namespace Go.Proofs.Ytnmeeddhagmjdaa
open Go.RowKit Go.Shelf
attribute [local go_sem] Oper.semAt_some
variable {W V : World} {R : Nat} {kd : Nat → Int} {hg : Nat → Bool} {bt : Nat → Nat → Int} {st : Array Value}

/-- The pages of a system. -/
structure Good (f : Pages) : Prop where
  grp : ∀ j, j < 1024 → (f j).hu = (f (16 * (j / 16))).hu
  com : ∀ j, j < 1024 → (f j).hu = true → (f j).kd = 2
  zer : ∀ j, j < 1024 → (f j).kd ≠ 2 → ∀ k, k < 64 → (f j).by' k = 0
  knd : ∀ j, j < 1024 → 0 ≤ (f j).kd ∧ (f j).kd ≤ 3
/-- Is none of n pages from a on of a huge page? -/
def nohB (hg : Nat → Bool) (a : Nat) : Nat → Bool
  | 0 => true
  | n + 1 => nohB hg a n && !hg ((a + n) / 16)
theorem nohB_cut {hg : Nat → Bool} {a k n : Nat} (hk : k < n) (h : hg ((a + k) / 16) = true) : nohB hg a n = false := by
  have : ∀ d, nohB hg a (k + 1 + d) = false := fun d => by
    induction d with
    | zero => show (nohB hg a k && !hg ((a + k) / 16)) = false; rw [h]; simp
    | succ d ih => show (nohB hg a (k + 1 + d) && _) = false; rw [ih, Bool.false_and]
  have h2 := this (n - (k + 1))
  rwa [show k + 1 + (n - (k + 1)) = n by omega] at h2
theorem posT {f : Pages} (hf : Good f) (x : Int) (a : Nat) : ∀ n, a + n ≤ 1024 → posE (chkT x) f (List.range' a n) = if (kndB (kdF f) x a n && nohB (hgF f) a n) = true then 0 else 9
  | 0, _ => rfl
  | n + 1, h => by
    rw [List.range'_concat, Nat.one_mul, posE_append, posT hf x a n (by omega)]
    have hg := hf.grp (a + n) (by omega)
    show (if (if _ then (0 : Int) else 9) ≠ 0 then _ else (if chkT x (f (a + n)) ≠ 0 then chkT x (f (a + n)) else 0)) = if ((kndB (kdF f) x a n && decide ((f (a + n)).kd = x)) && (nohB (hgF f) a n && !(f (16 * ((a + n) / 16))).hu)) = true then (0 : Int) else 9
    rw [← hg]
    unfold chkT
    cases kndB (kdF f) x a n <;> cases nohB (hgF f) a n <;> cases (f (a + n)).hu <;> by_cases e : (f (a + n)).kd = x <;> simp [e]
theorem nohB_all {hg : Nat → Bool} {a : Nat} : ∀ {n : Nat}, nohB hg a n = true → ∀ i, a ≤ i → i < a + n → hg (i / 16) = false
  | 0, _, i, h1, h2 => by omega
  | n + 1, h, i, h1, h2 => by
    have h3 : nohB hg a n = true ∧ (!hg ((a + n) / 16)) = true := by rw [← Bool.and_eq_true]; exact h
    by_cases e : i = a + n
    · subst e; simpa using h3.2
    · exact nohB_all h3.1 i h1 (by omega)
theorem mem_rng {a n i : Nat} : i ∈ List.range' a n ↔ a ≤ i ∧ i < a + n := by rw [List.mem_range'_1]
theorem chg_at (chg : Pg → Pg) (f : Pages) (a n i : Nat) : chgF chg f (List.range' a n) i = if a ≤ i ∧ i < a + n then chg (f i) else f i := by
  rw [chgF_at chg _ f i (List.nodup_range' ..)]
  by_cases h : a ≤ i ∧ i < a + n
  · rw [if_pos (mem_rng.2 h), if_pos h]
  · rw [if_neg (fun h2 => h (mem_rng.1 h2)), if_neg h]
/-- The reference's system has the pages f. -/
abbrev RfS (W : World) (R : Nat) (Y : Nat → Prop) (f : Pages) (L : List Ru) (m : Nat → Nat) (v : Value) : Prop := RfV W R Y (kdF f) (hgF f) (btF f) L m v
abbrev RLeft (R : Nat) (Y : Nat → Prop) (L : List Ru) (v : Value) (w : World) (r : Int × Pages × (Nat → Nat)) (e : Ending) (w' : World) : Prop := e = .returned (.int .i64 r.1) ∧ RfS w' R Y r.2.1 L r.2.2 v ∧ Keep (· = R) w w'
set_option maxRecDepth 100000 in
set_option maxHeartbeats 2000000 in
theorem Rchange_is (Y : Nat → Prop) (f : Pages) (hf : Good f) (L : List Ru) (hL : OkL L) (m : Nat → Nat) (hm : Sm m) (c : Nat) (hc7 : c < 7) (x y : Int) (v : Value) (a n : Int) (ha : I64 a) (w : World) (hs : RfS w R Y f L m v) :
    Calls Try.prog 78 #[.pointer (some ⟨R, 0, none⟩), .int .i64 a, .int .i64 n, .int .i64 x, .int .i64 y, .int .i64 (c : Int)] w (RLeft R Y L v w (opP (cTurn c x y) f L m a n)) := by
  obtain ⟨r, hr⟩ : ∃ r, opP (cTurn c x y) f L m a n = r := ⟨_, rfl⟩
  rw [hr]
  unfold opP at hr
  have HS := Lib.hid hs
  have ha1 := ha.1
  have ha2 := ha.2
  by_cases h1 : n < 1
  · obtain rfl : r = (7, f, m) := by rw [← hr, if_neg]; unfold areB; simp; omega
    clear hr ha
    go_enter Try.func78, Try.ntmps78
    go_wp2
    go_ret
    exact ⟨rfl, HS.out, Keep.refl _ _⟩
  · obtain ⟨pb, hpb⟩ : ∃ b, (decide (0 ≤ a) && decide (a < 1024)) = b := ⟨_, rfl⟩
    have HP := Lib.hid (Rpage_is a pb hpb w)
    cases pb
    · obtain rfl : r = (7, f, m) := by
        rw [← hr, if_neg]
        unfold areB
        simp at hpb ⊢
        omega
      clear hr ha hpb
      go_enter Try.func78, Try.ntmps78
      go_wp2_with fail
      refine HP.out.mono ?_
      rintro e w' ⟨rfl, rfl⟩
      go_wp2_with fail
      go_ret
      exact ⟨rfl, HS.out, Keep.refl _ _⟩
    · simp at hpb
      by_cases h2 : 1024 - a < n
      · obtain rfl : r = (7, f, m) := by rw [← hr, if_neg]; unfold areB; simp; omega
        clear hr ha
        go_enter Try.func78, Try.ntmps78
        go_wp2_with fail
        refine HP.out.mono ?_
        rintro e w' ⟨rfl, rfl⟩
        go_wp2_with fail
        go_ret
        exact ⟨rfl, HS.out, Keep.refl _ _⟩
      · obtain ⟨A, rfl⟩ : ∃ A : Nat, a = (A : Int) := ⟨a.toNat, by omega⟩
        obtain ⟨N, rfl⟩ : ∃ N : Nat, n = (N : Int) := ⟨n.toNat, by omega⟩
        have hAN : A + N ≤ 1024 := by omega
        rw [if_pos (areB_of (by omega) hAN), Int.toNat_natCast, Int.toNat_natCast] at hr
        unfold doA at hr
        rw [posT hf x A N hAN] at hr
        have HK := Lib.hid (Rkinds_is A N x hAN w hs.row)
        obtain ⟨kb, hkb⟩ : ∃ b, kndB (kdF f) x A N = b := ⟨_, rfl⟩
        rw [hkb] at HK hr
        cases kb
        · obtain rfl : r = (9, f, m) := by rw [← hr]; simp
          clear hr ha hpb hkb
          go_enter Try.func78, Try.ntmps78
          go_wp2_with fail
          refine HP.out.mono ?_
          rintro e w' ⟨rfl, rfl⟩
          go_wp2_with fail
          refine HK.out.mono ?_
          rintro e w' ⟨rfl, rfl⟩
          go_wp2_with fail
          go_ret
          exact ⟨rfl, HS.out, Keep.refl _ _⟩
        · rw [Bool.true_and] at hr
          have hr2 := hr
          have HR := Lib.hid hr
          have hal : Try.prog.arrayLen 87 = 64 := by kernel_rfl
          clear hr hr2 ha hpb hkb hs
          go_enter Try.func78, Try.ntmps78
          go_wp2_with fail
          refine HP.out.mono ?_
          rintro e w' ⟨rfl, rfl⟩
          go_wp2_with fail
          refine HK.out.mono ?_
          rintro e w' ⟨rfl, rfl⟩
          go_wp2_with fail
          go_loopw [13] (fun i wr => ∃ k : Nat, k ≤ N ∧ i = .int .i64 ((A + k : Nat) : Int) ∧ nohB (hgF f) A k = true ∧ w = wr) (fun i _ => A + N - (intOf i).toNat)
          case atStart => exact ⟨0, Nat.zero_le _, rfl, rfl, rfl⟩
          case round =>
            obtain ⟨k, hk, rfl, hkn, rfl⟩ := hrel
            have HKN := Lib.hid hkn
            obtain ⟨q, hq⟩ : ∃ q, A + k = q := ⟨_, rfl⟩
            have HQ := Lib.hid hq
            rw [hq]
            by_cases hlt : k < N
            · have g1 : (q : Int) < (A : Int) + (N : Int) := by omega
              obtain ⟨u, hu⟩ : ∃ u, q / 16 = u := ⟨_, rfl⟩
              have hu64 : u < 64 := by omega
              have hdiv : (q : Int).tdiv 16 = (u : Int) := by rw [Int.tdiv_eq_ediv_of_nonneg (by omega)]; omega
              have hcc := HS.out.row.ch u hu64
              have hu1 : (u : Int) < 64 := by omega
              obtain ⟨hb, hhb⟩ : ∃ b, hgF f u = b := ⟨_, rfl⟩
              rw [hhb] at hcc
              cases hb
              · have HK2 : Hid (nohB (hgF f) A (k + 1) = true) := by
                  show (nohB (hgF f) A k && !hgF f ((A + k) / 16)) = true
                  rw [hkn, hq, hu, hhb]; rfl
                clear hkn hq hu hhb
                go_wp2_with fail
                go_roundw
                case rel => exact ⟨k + 1, by omega, by rw [← Nat.add_assoc, HQ.out]; go_num, HK2.out, by trivial⟩
                case measure => simp [intOf]; omega
              · have HF : Hid (r = (9, f, m)) := by
                  unfold Hid
                  rw [← HR.out, nohB_cut hlt (by rw [hq, hu, hhb])]; simp
                clear hkn hq hu hhb
                go_wp2_with fail
                go_ret
                rw [HF.out]
                exact ⟨rfl, HS.out, Keep.refl _ _⟩
            · have g1 : ¬ (q : Int) < (A : Int) + (N : Int) := by omega
              obtain rfl : k = N := by omega
              have hr3 := HR.out
              rw [hkn] at hr3
              simp only [if_true, ne_eq, not_true, if_false] at hr3
              have HR3 := Lib.hid hr3
              clear hkn hq hr3
              go_wp2_with fail
              refine (Rrefusd_is Y L hL m hm c hc7 v w HS.out).mono ?_
              rintro e w2 ⟨rfl, s2, k2⟩
              obtain ⟨b, hb⟩ : ∃ b, refP L c (m c + 1) = b := ⟨_, rfl⟩
              rw [hb] at HR3 ⊢
              cases b
              · go_wp2_with fail
                refine (Rset_is A k y hAN w2 s2.row).mono ?_
                rintro e w3 ⟨rfl, s3, k3⟩
                go_wp2_with fail
                go_ret
                have h9 := HR3.out
                simp only [Bool.false_eq_true, if_false] at h9
                rw [← h9]
                refine ⟨rfl, s2.cells k3 (s3.congr (fun j hj => ?_) (fun g hg => ?_) (fun j hj i hi => ?_)), k2.trans k3⟩
                · show _ = (chgF (chgT y) f (List.range' A k) j).kd
                  rw [chg_at]; split <;> rfl
                · show (f (16 * g)).hu = (chgF (chgT y) f (List.range' A k) (16 * g)).hu
                  rw [chg_at]
                  split
                  · rename_i hin
                    have := nohB_all HKN.out (16 * g) hin.1 hin.2
                    rw [show 16 * g / 16 = g by omega] at this
                    exact this
                  · rfl
                · show _ = (chgF (chgT y) f (List.range' A k) j).by' i
                  rw [chg_at]; split <;> rfl
              · go_wp2_with fail
                go_ret
                have h9 := HR3.out
                simp only [if_true] at h9
                rw [← h9]
                exact ⟨rfl, s2, k2⟩
end Go.Proofs.Ytnmeeddhagmjdaa
