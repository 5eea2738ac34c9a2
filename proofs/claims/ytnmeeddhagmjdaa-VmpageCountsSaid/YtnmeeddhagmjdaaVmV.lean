/- The reference's calls, one by one. -/
import Derived.Test.YtnmeeddhagmjdaaVmU
namespace Go.Proofs.Ytnmeeddhagmjdaa
open Go.RowKit Go.Shelf
attribute [local go_sem] Oper.semAt_some
variable {R : Nat}
theorem grpB_of' {x : Nat} (hx : x < 1024) : grpB (x : Int) = decide (x % 16 = 0) := by
  unfold grpB
  rw [show areB (x : Int) 1 = true by unfold areB; simp; omega, Bool.true_and, Int.tmod_eq_emod_of_nonneg (by omega)]
  rw [Bool.eq_iff_iff]; simp; omega

set_option maxRecDepth 100000 in
theorem RReserve_is (Y : Nat → Prop) (f : Pages) (hf : Good f) (L : List Ru) (hL : OkL L) (m : Nat → Nat) (hm : Sm m) (v : Value) (a n : Int) (ha : I64 a) (w : World) (hs : RfS w R Y f L m v) :
    Calls Try.prog 40 #[.pointer (some ⟨R, 0, none⟩), .int .i64 a, .int .i64 n] w (RLeft R Y L v w (opP (cTurn 0 0 1) f L m a n)) := by
  have HC := Lib.hid (Rchange_is Y f hf L hL m hm 0 (by decide) 0 1 v a n ha w hs)
  clear hs hf
  go_enter Try.func40, Try.ntmps40
  go_wp2_with fail
  refine HC.out.mono ?_
  rintro e w2 ⟨rfl, h2, h3⟩
  go_wp2_with fail
  go_ret
  exact ⟨rfl, h2, h3⟩
set_option maxRecDepth 100000 in
theorem RRelease_is (Y : Nat → Prop) (f : Pages) (hf : Good f) (L : List Ru) (hL : OkL L) (m : Nat → Nat) (hm : Sm m) (v : Value) (a n : Int) (ha : I64 a) (w : World) (hs : RfS w R Y f L m v) :
    Calls Try.prog 41 #[.pointer (some ⟨R, 0, none⟩), .int .i64 a, .int .i64 n] w (RLeft R Y L v w (opP (cTurn 1 1 0) f L m a n)) := by
  have HC := Lib.hid (Rchange_is Y f hf L hL m hm 1 (by decide) 1 0 v a n ha w hs)
  clear hs hf
  go_enter Try.func41, Try.ntmps41
  go_wp2_with fail
  refine HC.out.mono ?_
  rintro e w2 ⟨rfl, h2, h3⟩
  go_wp2_with fail
  go_ret
  exact ⟨rfl, h2, h3⟩
set_option maxRecDepth 100000 in
theorem RCommit_is (Y : Nat → Prop) (f : Pages) (hf : Good f) (L : List Ru) (hL : OkL L) (m : Nat → Nat) (hm : Sm m) (v : Value) (a n : Int) (ha : I64 a) (w : World) (hs : RfS w R Y f L m v) :
    Calls Try.prog 42 #[.pointer (some ⟨R, 0, none⟩), .int .i64 a, .int .i64 n] w (RLeft R Y L v w (opP (cTurn 2 1 2) f L m a n)) := by
  have HC := Lib.hid (Rchange_is Y f hf L hL m hm 2 (by decide) 1 2 v a n ha w hs)
  clear hs hf
  go_enter Try.func42, Try.ntmps42
  go_wp2_with fail
  refine HC.out.mono ?_
  rintro e w2 ⟨rfl, h2, h3⟩
  go_wp2_with fail
  go_ret
  exact ⟨rfl, h2, h3⟩
set_option maxRecDepth 100000 in
theorem RDecommit_is (Y : Nat → Prop) (f : Pages) (hf : Good f) (L : List Ru) (hL : OkL L) (m : Nat → Nat) (hm : Sm m) (v : Value) (a n : Int) (ha : I64 a) (w : World) (hs : RfS w R Y f L m v) :
    Calls Try.prog 43 #[.pointer (some ⟨R, 0, none⟩), .int .i64 a, .int .i64 n] w (RLeft R Y L v w (opP (cTurn 3 2 1) f L m a n)) := by
  have HC := Lib.hid (Rchange_is Y f hf L hL m hm 3 (by decide) 2 1 v a n ha w hs)
  clear hs hf
  go_enter Try.func43, Try.ntmps43
  go_wp2_with fail
  refine HC.out.mono ?_
  rintro e w2 ⟨rfl, h2, h3⟩
  go_wp2_with fail
  go_ret
  exact ⟨rfl, h2, h3⟩
set_option maxRecDepth 100000 in
theorem RGuard_is (Y : Nat → Prop) (f : Pages) (hf : Good f) (L : List Ru) (hL : OkL L) (m : Nat → Nat) (hm : Sm m) (v : Value) (a n : Int) (ha : I64 a) (w : World) (hs : RfS w R Y f L m v) :
    Calls Try.prog 44 #[.pointer (some ⟨R, 0, none⟩), .int .i64 a, .int .i64 n, .bool true] w (RLeft R Y L v w (opP (cTurn 4 1 3) f L m a n)) := by
  have HC := Lib.hid (Rchange_is Y f hf L hL m hm 4 (by decide) 1 3 v a n ha w hs)
  clear hs hf
  go_enter Try.func44, Try.ntmps44
  go_wp2_with fail
  refine HC.out.mono ?_
  rintro e w2 ⟨rfl, h2, h3⟩
  go_wp2_with fail
  go_ret
  exact ⟨rfl, h2, h3⟩
set_option maxRecDepth 100000 in
theorem RUnguard_is (Y : Nat → Prop) (f : Pages) (hf : Good f) (L : List Ru) (hL : OkL L) (m : Nat → Nat) (hm : Sm m) (v : Value) (a n : Int) (ha : I64 a) (w : World) (hs : RfS w R Y f L m v) :
    Calls Try.prog 44 #[.pointer (some ⟨R, 0, none⟩), .int .i64 a, .int .i64 n, .bool false] w (RLeft R Y L v w (opP (cTurn 4 3 1) f L m a n)) := by
  have HC := Lib.hid (Rchange_is Y f hf L hL m hm 4 (by decide) 3 1 v a n ha w hs)
  clear hs hf
  go_enter Try.func44, Try.ntmps44
  go_wp2_with fail
  refine HC.out.mono ?_
  rintro e w2 ⟨rfl, h2, h3⟩
  go_wp2_with fail
  go_ret
  exact ⟨rfl, h2, h3⟩
set_option maxRecDepth 100000 in
set_option maxHeartbeats 2000000 in
theorem RJoin_is (Y : Nat → Prop) (f : Pages) (hf : Good f) (L : List Ru) (hL : OkL L) (m : Nat → Nat) (hm : Sm m) (v : Value) (a : Int) (w : World) (hs : RfS w R Y f L m v) :
    Calls Try.prog 46 #[.pointer (some ⟨R, 0, none⟩), .int .i64 a] w (RLeft R Y L v w (opG cJoin f L m a)) := by
  obtain ⟨r, hr⟩ : ∃ r, opG cJoin f L m a = r := ⟨_, rfl⟩
  rw [hr]
  unfold opG at hr
  have HS := Lib.hid hs
  have hal : Try.prog.arrayLen 87 = 64 := by kernel_rfl
  obtain ⟨pb, hpb⟩ : ∃ b, (decide (0 ≤ a) && decide (a < 1024)) = b := ⟨_, rfl⟩
  have HP := Lib.hid (Rpage_is a pb hpb w)
  cases pb
  · obtain rfl : r = (7, f, m) := by
      rw [← hr, if_neg]
      intro h
      obtain ⟨g, rfl, hg⟩ := grp_nat h
      simp at hpb
      omega
    clear hr hpb
    go_enter Try.func46, Try.ntmps46
    go_wp2_with fail
    refine HP.out.mono ?_
    rintro e w' ⟨rfl, rfl⟩
    go_wp2_with fail
    go_ret
    exact ⟨rfl, HS.out, Keep.refl _ _⟩
  · simp at hpb
    obtain ⟨q, hq⟩ : ∃ q, a.tmod 16 = q := ⟨_, rfl⟩
    have hq2 := hq
    rw [Int.tmod_eq_emod_of_nonneg hpb.1] at hq2
    by_cases h0 : q = 0
    · have hqb : (q != 0) = false := by simpa using h0
      obtain ⟨g, rfl⟩ : ∃ g : Nat, a = ((16 * g : Nat) : Int) := ⟨(a / 16).toNat, by omega⟩
      have hg : g < 64 := by omega
      rw [if_pos (by rw [grpB_of' (by omega)]; simp), Int.toNat_natCast] at hr
      unfold doA at hr
      rw [posJ hf hg] at hr
      have hdiv : ((16 * g : Nat) : Int).tdiv 16 = (g : Int) := by rw [Int.tdiv_eq_ediv_of_nonneg (by omega)]; omega
      have hcc := hs.row.ch g hg
      have hg1 : (g : Int) < 64 := by omega
      obtain ⟨T, hT⟩ : ∃ T, ((16 * g : Nat) : Int) = T := ⟨_, rfl⟩
      have HK := Lib.hid (Rkinds_is (16 * g) 16 2 (by omega) w hs.row)
      rw [hT] at HK HP hdiv hq hpb ⊢
      obtain ⟨hb, hhb⟩ : ∃ b, hgF f g = b := ⟨_, rfl⟩
      obtain ⟨kb, hkb⟩ : ∃ b, kndB (kdF f) 2 (16 * g) 16 = b := ⟨_, rfl⟩
      rw [hhb] at hcc hr
      rw [hkb] at HK hr
      have HR := Lib.hid hr
      have HHB := Lib.hid hhb
      clear hr hT hhb hkb hq2 hs
      cases kb
      · have HR2 : Hid (r = (9, f, m)) := by unfold Hid; rw [← HR.out]; simp
        go_enter Try.func46, Try.ntmps46
        go_wp2_with fail
        refine HP.out.mono ?_
        rintro e w' ⟨rfl, rfl⟩
        go_wp2_with fail
        refine HK.out.mono ?_
        rintro e w' ⟨rfl, rfl⟩
        go_wp2_with fail
        go_ret
        rw [HR2.out]
        exact ⟨rfl, HS.out, Keep.refl _ _⟩
      · cases hb
        · simp at HR
          go_enter Try.func46, Try.ntmps46
          go_wp2_with fail
          refine HP.out.mono ?_
          rintro e w' ⟨rfl, rfl⟩
          go_wp2_with fail
          refine HK.out.mono ?_
          rintro e w' ⟨rfl, rfl⟩
          go_wp2_with fail
          refine (Rrefusd_is Y L hL m hm 5 (by decide) v w HS.out).mono ?_
          rintro e w2 ⟨rfl, s2, k2⟩
          obtain ⟨rb, hrb⟩ : ∃ b, refP L 5 (m 5 + 1) = b := ⟨_, rfl⟩
          rw [hrb] at HR ⊢
          cases rb
          · have hc2 := s2.row.ch g hg
            have hf2 := s2.row.frozen (1024 + g)
            have hS3 := s2.row.setH g hg true
            go_wp2_with fail
            go_ret
            have h9 := HR.out
            simp only [Bool.false_eq_true, if_false] at h9
            rw [← h9]
            have k3 : Keep (· = R) w2 (w2.setCell ⟨R, 1024 + g, none⟩ (.bool true)) := (Keep.refl _ _).setCell _ _ (.inl rfl)
            refine ⟨rfl, s2.cells k3 (hS3.congr (fun j hj => ?_) (fun i hi => ?_) (fun j hj i hi => ?_)), k2.trans k3⟩
            · show _ = (chgF chgJ f (List.range' (16 * g) 16) j).kd
              rw [chg_at]; split <;> rfl
            · show _ = (chgF chgJ f (List.range' (16 * g) 16) (16 * i)).hu
              rw [chg_at]
              by_cases e : i = g
              · rw [if_pos e, if_pos (by omega)]; rfl
              · rw [if_neg e, if_neg (by omega)]
            · show _ = (chgF chgJ f (List.range' (16 * g) 16) j).by' i
              rw [chg_at]; split <;> rfl
          · go_wp2_with fail
            go_ret
            have h9 := HR.out
            simp only [if_true] at h9
            rw [← h9]
            exact ⟨rfl, s2, k2⟩
        · have HR2 : Hid (r = (8, f, m)) := by unfold Hid; rw [← HR.out]; simp
          go_enter Try.func46, Try.ntmps46
          go_wp2_with fail
          refine HP.out.mono ?_
          rintro e w' ⟨rfl, rfl⟩
          go_wp2_with fail
          refine HK.out.mono ?_
          rintro e w' ⟨rfl, rfl⟩
          go_wp2_with fail
          go_ret
          rw [HR2.out]
          exact ⟨rfl, HS.out, Keep.refl _ _⟩
    · have hqb : (q != 0) = true := by simpa using h0
      obtain rfl : r = (7, f, m) := by
        rw [← hr, if_neg]
        intro h
        obtain ⟨g, rfl, hg⟩ := grp_nat h
        omega
      clear hr hpb hq2
      go_enter Try.func46, Try.ntmps46
      go_wp2_with fail
      refine HP.out.mono ?_
      rintro e w' ⟨rfl, rfl⟩
      go_wp2_with fail
      go_ret
      exact ⟨rfl, HS.out, Keep.refl _ _⟩
set_option maxRecDepth 100000 in
set_option maxHeartbeats 2000000 in
theorem RSplit_is (Y : Nat → Prop) (f : Pages) (hf : Good f) (L : List Ru) (hL : OkL L) (m : Nat → Nat) (hm : Sm m) (v : Value) (a : Int) (w : World) (hs : RfS w R Y f L m v) :
    Calls Try.prog 47 #[.pointer (some ⟨R, 0, none⟩), .int .i64 a] w (RLeft R Y L v w (opG cSplit f L m a)) := by
  obtain ⟨r, hr⟩ : ∃ r, opG cSplit f L m a = r := ⟨_, rfl⟩
  rw [hr]
  unfold opG at hr
  have HS := Lib.hid hs
  have hal : Try.prog.arrayLen 87 = 64 := by kernel_rfl
  obtain ⟨pb, hpb⟩ : ∃ b, (decide (0 ≤ a) && decide (a < 1024)) = b := ⟨_, rfl⟩
  have HP := Lib.hid (Rpage_is a pb hpb w)
  cases pb
  · obtain rfl : r = (7, f, m) := by
      rw [← hr, if_neg]
      intro h
      obtain ⟨g, rfl, hg⟩ := grp_nat h
      simp at hpb
      omega
    clear hr hpb
    go_enter Try.func47, Try.ntmps47
    go_wp2_with fail
    refine HP.out.mono ?_
    rintro e w' ⟨rfl, rfl⟩
    go_wp2_with fail
    go_ret
    exact ⟨rfl, HS.out, Keep.refl _ _⟩
  · simp at hpb
    obtain ⟨q, hq⟩ : ∃ q, a.tmod 16 = q := ⟨_, rfl⟩
    have hq2 := hq
    rw [Int.tmod_eq_emod_of_nonneg hpb.1] at hq2
    by_cases h0 : q = 0
    · have hqb : (q != 0) = false := by simpa using h0
      obtain ⟨g, rfl⟩ : ∃ g : Nat, a = ((16 * g : Nat) : Int) := ⟨(a / 16).toNat, by omega⟩
      have hg : g < 64 := by omega
      rw [if_pos (by rw [grpB_of' (by omega)]; simp), Int.toNat_natCast] at hr
      unfold doA at hr
      rw [posS hf hg] at hr
      have hdiv : ((16 * g : Nat) : Int).tdiv 16 = (g : Int) := by rw [Int.tdiv_eq_ediv_of_nonneg (by omega)]; omega
      have hcc := hs.row.ch g hg
      have hg1 : (g : Int) < 64 := by omega
      obtain ⟨T, hT⟩ : ∃ T, ((16 * g : Nat) : Int) = T := ⟨_, rfl⟩
      have HK := Lib.hid (Rkinds_is (16 * g) 16 2 (by omega) w hs.row)
      rw [hT] at HK HP hdiv hq hpb ⊢
      obtain ⟨hb, hhb⟩ : ∃ b, hgF f g = b := ⟨_, rfl⟩
      obtain ⟨kb, hkb⟩ : ∃ b, kndB (kdF f) 2 (16 * g) 16 = b := ⟨_, rfl⟩
      rw [hhb] at hcc hr
      rw [hkb] at HK
      have HR := Lib.hid hr
      have HHB := Lib.hid hhb
      clear hr hT hhb hkb hq2 hs
      cases hb
      · have HR2 : Hid (r = (9, f, m)) := by unfold Hid; rw [← HR.out]; simp
        go_enter Try.func47, Try.ntmps47
        go_wp2_with fail
        refine HP.out.mono ?_
        rintro e w' ⟨rfl, rfl⟩
        go_wp2_with fail
        go_ret
        rw [HR2.out]
        exact ⟨rfl, HS.out, Keep.refl _ _⟩
      · simp at HR
        go_enter Try.func47, Try.ntmps47
        go_wp2_with fail
        refine HP.out.mono ?_
        rintro e w' ⟨rfl, rfl⟩
        go_wp2_with fail
        refine (Rrefusd_is Y L hL m hm 6 (by decide) v w HS.out).mono ?_
        rintro e w2 ⟨rfl, s2, k2⟩
        obtain ⟨rb, hrb⟩ : ∃ b, refP L 6 (m 6 + 1) = b := ⟨_, rfl⟩
        rw [hrb] at HR ⊢
        cases rb
        · have hc2 := s2.row.ch g hg
          have hf2 := s2.row.frozen (1024 + g)
          have hS3 := s2.row.setH g hg false
          go_wp2_with fail
          go_ret
          have h9 := HR.out
          simp only [Bool.false_eq_true, if_false] at h9
          rw [← h9]
          have k3 : Keep (· = R) w2 (w2.setCell ⟨R, 1024 + g, none⟩ (.bool false)) := (Keep.refl _ _).setCell _ _ (.inl rfl)
          refine ⟨rfl, s2.cells k3 (hS3.congr (fun j hj => ?_) (fun i hi => ?_) (fun j hj i hi => ?_)), k2.trans k3⟩
          · show _ = (chgF chgS f (List.range' (16 * g) 16) j).kd
            rw [chg_at]; split <;> rfl
          · show _ = (chgF chgS f (List.range' (16 * g) 16) (16 * i)).hu
            rw [chg_at]
            by_cases e : i = g
            · rw [if_pos e, if_pos (by omega)]; rfl
            · rw [if_neg e, if_neg (by omega)]
          · show _ = (chgF chgS f (List.range' (16 * g) 16) j).by' i
            rw [chg_at]; split <;> rfl
        · go_wp2_with fail
          go_ret
          have h9 := HR.out
          simp only [if_true] at h9
          rw [← h9]
          exact ⟨rfl, s2, k2⟩
    · have hqb : (q != 0) = true := by simpa using h0
      obtain rfl : r = (7, f, m) := by
        rw [← hr, if_neg]
        intro h
        obtain ⟨g, rfl, hg⟩ := grp_nat h
        omega
      clear hr hpb hq2
      go_enter Try.func47, Try.ntmps47
      go_wp2_with fail
      refine HP.out.mono ?_
      rintro e w' ⟨rfl, rfl⟩
      go_wp2_with fail
      go_ret
      exact ⟨rfl, HS.out, Keep.refl _ _⟩
end Go.Proofs.Ytnmeeddhagmjdaa
