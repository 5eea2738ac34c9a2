/- The reference: bytes, kinds, plans. -/
import Derived.Test.YtnmeeddhagmjdaaVmV
import Derived.Test.YtnmeeddhagmjdaaVmK
namespace Go.Proofs.Ytnmeeddhagmjdaa
open Go.RowKit Go.Shelf
attribute [local go_sem] Oper.semAt_some
variable {R : Nat} {kd : Nat → Int} {hg : Nat → Bool} {bt : Nat → Nat → Int} {st : Array Value}

set_option maxRecDepth 100000 in
theorem Rwhere_far (t : Int) (ht : t < 0 ∨ 65536 ≤ t) (w : World) (s : Value) :
    Calls Try.prog 81 #[s, .int .i64 t] w fun e w' => e = .returned (.tuple #[.int .i64 0, .int .i64 0, .int .i64 7]) ∧ w = w' := by
  by_cases h0 : t < 0
  · clear ht
    go_enter Try.func81, Try.ntmps81
    go_wp2_with fail
    go_ret3
    exact ⟨rfl, rfl⟩
  · have h1 : 65536 ≤ t := by omega
    clear ht
    go_enter Try.func81, Try.ntmps81
    go_wp2_with fail
    go_ret3
    exact ⟨rfl, rfl⟩
set_option maxRecDepth 100000 in
set_option maxHeartbeats 1000000 in
theorem Rwhere_is (j k : Nat) (hj : j < 1024) (hk : k < 64) (w : World) (hr : RAtS w R kd hg bt st) :
    Calls Try.prog 81 #[.pointer (some ⟨R, 0, none⟩), .int .i64 ((64 * j + k : Nat) : Int)] w fun e w' =>
      e = .returned (if kd j = 2 then .tuple #[.int .i64 (j : Int), .int .i64 (k : Int), .int .i64 0] else .tuple #[.int .i64 0, .int .i64 0, .int .i64 61]) ∧ w = w' := by
  have c1 := hr.ck j hj
  have hal : Try.prog.arrayLen 86 = 1024 := by kernel_rfl
  obtain ⟨hq1, hq2⟩ := addr_num j k hk
  obtain ⟨t, ht⟩ : ∃ t, ((64 * j + k : Nat) : Int) = t := ⟨_, rfl⟩
  rw [ht] at hq1 hq2 ⊢
  have ht1 : ¬ t < 0 := by omega
  have ht2 : ¬ 65536 ≤ t := by omega
  have hj1 : (j : Int) < 1024 := by omega
  generalize kd j = x at c1 ⊢
  clear ht hr
  by_cases hx : x = 2
  · subst hx
    rw [if_pos rfl]
    go_enter Try.func81, Try.ntmps81
    go_wp2_with fail
    go_ret3
    exact ⟨rfl, rfl⟩
  · rw [if_neg hx]
    have hx2 : (x != 2) = true := by simpa using hx
    go_enter Try.func81, Try.ntmps81
    go_wp2_with fail
    go_ret3
    exact ⟨rfl, rfl⟩
set_option maxRecDepth 100000 in
set_option maxHeartbeats 1000000 in
theorem RRead_is (f : Pages) (t : Int) (w : World) (hr : RAtS w R (kdF f) (hgF f) (btF f) st) (r : Int × Int) (hrd : rdE f t = r) :
    Calls Try.prog 49 #[.pointer (some ⟨R, 0, none⟩), .int .i64 t] w fun e w' => e = .returned (.tuple #[.int .u8 r.1, .int .i64 r.2]) ∧ w = w' := by
  unfold rdE at hrd
  by_cases h0 : t < 0 ∨ 65536 ≤ t
  · rw [if_pos h0] at hrd
    subst hrd
    have HM := Lib.hid (Rwhere_far t h0 w (.pointer (some ⟨R, 0, none⟩)))
    clear h0 hr
    go_enter Try.func49, Try.ntmps49
    go_wp2_with fail
    refine HM.out.mono ?_
    rintro e w' ⟨rfl, rfl⟩
    go_wp2_with fail
    go_ret2
    exact ⟨rfl, rfl⟩
  · rw [if_neg h0] at hrd
    obtain ⟨j, k, rfl, hj, hk, e1, e2⟩ := addr_split h0
    rw [e1, e2] at hrd
    have HM := Lib.hid (Rwhere_is j k hj hk w hr)
    have c2 := hr.cb j hj k hk
    have hj1 : (j : Int) < 1024 := by omega
    have hk1 : (k : Int) < 64 := by omega
    have hal2 : Try.prog.arrayLen 89 = 1024 := by kernel_rfl
    have hal3 : Try.prog.arrayLen 88 = 64 := by kernel_rfl
    clear h0 e1 e2 hr
    obtain ⟨t, ht⟩ : ∃ t, ((64 * j + k : Nat) : Int) = t := ⟨_, rfl⟩
    rw [ht] at HM ⊢
    clear ht
    by_cases hx : (f j).kd = 2
    · rw [if_pos hx] at hrd
      have hx' : kdF f j = 2 := hx
      rw [if_pos hx'] at HM
      subst hrd
      clear hx hx'
      go_enter Try.func49, Try.ntmps49
      go_wp2_with fail
      refine HM.out.mono ?_
      rintro e w' ⟨rfl, rfl⟩
      go_wp2_with fail
      go_ret2
      exact ⟨rfl, rfl⟩
    · rw [if_neg hx] at hrd
      have hx' : ¬ kdF f j = 2 := hx
      rw [if_neg hx'] at HM
      subst hrd
      clear hx hx' c2
      go_enter Try.func49, Try.ntmps49
      go_wp2_with fail
      refine HM.out.mono ?_
      rintro e w' ⟨rfl, rfl⟩
      go_wp2_with fail
      go_ret2
      exact ⟨rfl, rfl⟩
set_option maxRecDepth 100000 in
set_option maxHeartbeats 1000000 in
theorem RWrite_is (Y : Nat → Prop) (f : Pages) (L : List Ru) (m : Nat → Nat) (v : Value) (t b : Int) (w : World) (hs : RfS w R Y f L m v) (e : Int) (he : (rdE f t).2 = e) :
    Calls Try.prog 48 #[.pointer (some ⟨R, 0, none⟩), .int .i64 t, .int .u8 b] w fun x w' => x = .returned (.int .i64 e) ∧ RfS w' R Y (wrF f t b) L m v ∧ Keep (· = R) w w' := by
  have HS := Lib.hid hs
  unfold rdE at he
  obtain ⟨g, hg⟩ : ∃ g, wrF f t b = g := ⟨_, rfl⟩
  rw [hg]
  unfold wrF at hg
  by_cases h0 : t < 0 ∨ 65536 ≤ t
  · rw [if_pos h0] at he hg
    subst he; subst hg
    have HM := Lib.hid (Rwhere_far t h0 w (.pointer (some ⟨R, 0, none⟩)))
    clear h0
    go_enter Try.func48, Try.ntmps48
    go_wp2_with fail
    refine HM.out.mono ?_
    rintro e w' ⟨rfl, rfl⟩
    go_wp2_with fail
    go_ret
    exact ⟨rfl, HS.out, Keep.refl _ _⟩
  · rw [if_neg h0] at he hg
    obtain ⟨j, k, rfl, hj, hk, e1, e2⟩ := addr_split h0
    rw [e1, e2] at he hg
    have HM := Lib.hid (Rwhere_is j k hj hk w hs.row)
    have c2 := hs.row.cb j hj k hk
    have c3 := hs.row.frozen (1088 + j * 64 + k)
    have hj1 : (j : Int) < 1024 := by omega
    have hk1 : (k : Int) < 64 := by omega
    have hal2 : Try.prog.arrayLen 89 = 1024 := by kernel_rfl
    have hal3 : Try.prog.arrayLen 88 = 64 := by kernel_rfl
    clear h0 e1 e2 hs
    obtain ⟨t, ht⟩ : ∃ t, ((64 * j + k : Nat) : Int) = t := ⟨_, rfl⟩
    rw [ht] at HM ⊢
    clear ht
    by_cases hx : (f j).kd = 2
    · rw [if_pos hx] at he hg
      have hx' : kdF f j = 2 := hx
      rw [if_pos hx'] at HM
      subst he
      have HG := Lib.hid hg
      clear hx hx' hg
      go_enter Try.func48, Try.ntmps48
      go_wp2_with fail
      refine HM.out.mono ?_
      rintro e w' ⟨rfl, rfl⟩
      go_wp2_with fail
      go_ret
      have hK : Keep (· = R) w (w.setCell ⟨R, 1088 + j * 64 + k, none⟩ (.int .u8 b)) := (Keep.refl _ _).setCell _ _ (.inl rfl)
      have h9 := HS.out.row.setB j hj k hk b
      rw [← HG.out]
      refine ⟨rfl, HS.out.cells hK (h9.congr (fun i hi => ?_) (fun i hi => ?_) (fun i hi q hq => ?_)), hK⟩
      · show (f i).kd = (updP f j _ i).kd
        unfold updP; split
        · rename_i e; subst e; rfl
        · rfl
      · show (f (16 * i)).hu = (updP f j _ (16 * i)).hu
        unfold updP; split
        · rename_i e; rw [← e]
        · rfl
      · show (if i = j ∧ q = k then b else (f i).by' q) = (updP f j _ i).by' q
        unfold updP
        by_cases e : i = j
        · subst e
          by_cases e2 : q = k
          · simp [e2]
          · simp [e2]
        · simp [e]
    · rw [if_neg hx] at he hg
      have hx' : ¬ kdF f j = 2 := hx
      rw [if_neg hx'] at HM
      subst he; subst hg
      clear hx hx' c2
      go_enter Try.func48, Try.ntmps48
      go_wp2_with fail
      refine HM.out.mono ?_
      rintro e w' ⟨rfl, rfl⟩
      go_wp2_with fail
      go_ret
      exact ⟨rfl, HS.out, Keep.refl _ _⟩
theorem areB_page {a : Int} : areB a 1 = (decide (0 ≤ a) && decide (a < 1024)) := by
  unfold areB; rw [Bool.eq_iff_iff]; simp; omega
set_option maxRecDepth 100000 in
set_option maxHeartbeats 1000000 in
theorem RKind_is (f : Pages) (hf : Good f) (a : Int) (w : World) (hr : RAtS w R (kdF f) (hgF f) (btF f) st) (r : Int × Bool × Int) (hk : knE f a = r) :
    Calls Try.prog 50 #[.pointer (some ⟨R, 0, none⟩), .int .i64 a] w fun e w' => e = .returned (.tuple #[.int .i64 r.1, .bool r.2.1, .int .i64 r.2.2]) ∧ Below w.heap.size w w' := by
  unfold knE at hk
  obtain ⟨pb, hpb⟩ : ∃ b, (decide (0 ≤ a) && decide (a < 1024)) = b := ⟨_, rfl⟩
  have HP := Lib.hid (Rpage_is a pb hpb w)
  rw [areB_page, hpb] at hk
  cases pb
  · rw [if_neg (by simp)] at hk
    subst hk
    clear hpb hr
    go_enter Try.func50, Try.ntmps50
    go_wp2_with fail
    refine HP.out.mono ?_
    rintro e w' ⟨rfl, rfl⟩
    go_wp2_with fail
    go_ret3
    exact ⟨rfl, Below.refl _ _⟩
  · rw [if_pos rfl] at hk
    simp at hpb
    obtain ⟨j, rfl⟩ : ∃ j : Nat, a = (j : Int) := ⟨a.toNat, by omega⟩
    rw [Int.toNat_natCast] at hk
    have hj : j < 1024 := by omega
    have c1 := hr.ck j hj
    have c2 := hr.ch (j / 16) (by omega)
    rw [show hgF f (j / 16) = (f j).hu from (hf.grp j hj).symm] at c2
    have hal : Try.prog.arrayLen 86 = 1024 := by kernel_rfl
    have hal2 : Try.prog.arrayLen 87 = 64 := by kernel_rfl
    obtain ⟨u, hu⟩ : ∃ u, j / 16 = u := ⟨_, rfl⟩
    rw [hu] at c2
    have hdiv : (j : Int).tdiv 16 = (u : Int) := by rw [Int.tdiv_eq_ediv_of_nonneg (by omega)]; omega
    have hw : IntKind.i64.wrap (u : Int) = (u : Int) := by rw [IntKind.wrap_i64]; omega
    have d1 : decide ((j : Int) < 0) = false := by simp
    have d2 : decide ((1024 : Int) ≤ (j : Int)) = false := by simp; omega
    have d3 : decide ((u : Int) < 0) = false := by simp
    have d4 : decide ((64 : Int) ≤ (u : Int)) = false := by simp; omega
    have HK := Lib.hid hk
    have hj1 : (j : Int) < 1024 := by omega
    have hu1 : (u : Int) < 64 := by omega
    clear hk hu hpb hr hf
    go_enter Try.func50, Try.ntmps50
    go_wp2_with fail
    refine HP.out.mono ?_
    rintro e w' ⟨rfl, rfl⟩
    go_wp2_with fail
    go_quiet (fail)
    go_wp2_with fail
    go_ret3
    rw [← HK.out]
    exact ⟨rfl, below_drewN (Below.refl _ _) _⟩
end Go.Proofs.Ytnmeeddhagmjdaa
