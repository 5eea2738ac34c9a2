/- Bytes, kinds. -/
import Derived.Test.YtnmeeddhagmjdaaVmI
namespace Go.Proofs.Ytnmeeddhagmjdaa
open Go.RowKit Go.Shelf
attribute [local go_sem] Oper.semAt_some

set_option maxRecDepth 100000 in
theorem byteAt_no (s : Value) (t : Int) (w : World) (hs : Unmade w s) :
    Calls Try.prog 66 #[s, .int .i64 t] w fun e w' => e = .returned (.tuple #[.pointer none, .int .i64 1]) ∧ w = w' := by
  have HM := Lib.hid (made_no s w hs)
  clear hs
  go_enter Try.func66, Try.ntmps66
  go_wp2_with fail
  refine HM.out.mono ?_
  rintro e w' ⟨rfl, rfl⟩
  go_wp2_with fail
  go_ret2
  exact ⟨rfl, rfl⟩
set_option maxRecDepth 100000 in
theorem byteAt_far (S P : Nat) (v : Value) (c h : Nat → Int) (t : Int) (ht : t < 0 ∨ 65536 ≤ t) (w : World) (hs : SyBox w S P v c h) :
    Calls Try.prog 66 #[.pointer (some ⟨S, 0, none⟩), .int .i64 t] w fun e w' => e = .returned (.tuple #[.pointer none, .int .i64 7]) ∧ w = w' := by
  have HM := Lib.hid (made_yes S P v c h w hs)
  by_cases h0 : t < 0
  · clear ht
    go_enter Try.func66, Try.ntmps66
    go_wp2_with fail
    refine HM.out.mono ?_
    rintro e w' ⟨rfl, rfl⟩
    go_wp2_with fail
    go_ret2
    exact ⟨rfl, rfl⟩
  · have h1 : 65536 ≤ t := by omega
    clear ht
    go_enter Try.func66, Try.ntmps66
    go_wp2_with fail
    refine HM.out.mono ?_
    rintro e w' ⟨rfl, rfl⟩
    go_wp2_with fail
    go_ret2
    exact ⟨rfl, rfl⟩
theorem addr_num (j k : Nat) (hk : k < 64) : ((64 * j + k : Nat) : Int).tdiv 64 = (j : Int) ∧ ((64 * j + k : Nat) : Int).tmod 64 = (k : Int) := by
  rw [Int.tdiv_eq_ediv_of_nonneg (by omega), Int.tmod_eq_emod_of_nonneg (by omega)]
  omega
set_option maxRecDepth 100000 in
set_option maxHeartbeats 1000000 in
theorem byteAt_is (S P : Nat) (v : Value) (c h : Nat → Int) (f : Pages) (j k : Nat) (hj : j < 1024) (hk : k < 64) (w : World) (hs : SyBox w S P v c h) (hp : PgAt w P f) :
    Calls Try.prog 66 #[.pointer (some ⟨S, 0, none⟩), .int .i64 ((64 * j + k : Nat) : Int)] w fun e w' =>
      e = .returned (if (f j).kd = 2 then .tuple #[.pointer (some ⟨P, j * 66 + 2 + k, none⟩), .int .i64 0] else .tuple #[.pointer none, .int .i64 61]) ∧ w = w' := by
  have HM := Lib.hid (made_yes S P v c h w hs)
  have c0 := hs.pages
  have c1 := hp.kd j hj
  obtain ⟨hq1, hq2⟩ := addr_num j k hk
  obtain ⟨t, ht⟩ : ∃ t, ((64 * j + k : Nat) : Int) = t := ⟨_, rfl⟩
  rw [ht] at hq1 hq2 ⊢
  have ht1 : ¬ t < 0 := by omega
  have ht2 : ¬ 65536 ≤ t := by omega
  have hj1 : (j : Int) < 1024 := by omega
  have hk1 : (k : Int) < 64 := by omega
  generalize (f j).kd = x at c1 ⊢
  clear ht
  by_cases hx : x = 2
  · subst hx
    rw [if_pos rfl]
    go_enter Try.func66, Try.ntmps66
    go_wp2_with fail
    refine HM.out.mono ?_
    rintro e w' ⟨rfl, rfl⟩
    go_wp2_with fail
    go_ret2
    exact ⟨rfl, rfl⟩
  · rw [if_neg hx]
    have hx2 : (x != 2) = true := by simpa using hx
    go_enter Try.func66, Try.ntmps66
    go_wp2_with fail
    refine HM.out.mono ?_
    rintro e w' ⟨rfl, rfl⟩
    go_wp2_with fail
    go_ret2
    exact ⟨rfl, rfl⟩
/-- What Read answers. -/
def rdE (f : Pages) (t : Int) : Int × Int := if t < 0 ∨ 65536 ≤ t then (0, 7) else if (f (t.toNat / 64)).kd = 2 then ((f (t.toNat / 64)).by' (t.toNat % 64), 0) else (0, 61)
/-- What Write leaves. -/
def wrF (f : Pages) (t : Int) (b : Int) : Pages := if t < 0 ∨ 65536 ≤ t then f else if (f (t.toNat / 64)).kd = 2 then updP f (t.toNat / 64) { f (t.toNat / 64) with by' := fun k => if k = t.toNat % 64 then b else (f (t.toNat / 64)).by' k } else f
theorem addr_split {t : Int} (h : ¬ (t < 0 ∨ 65536 ≤ t)) : ∃ j k : Nat, t = ((64 * j + k : Nat) : Int) ∧ j < 1024 ∧ k < 64 ∧ t.toNat / 64 = j ∧ t.toNat % 64 = k := ⟨t.toNat / 64, t.toNat % 64, by omega, by omega, by omega, rfl, rfl⟩
set_option maxRecDepth 100000 in
theorem Read_no (s : Value) (t : Int) (w : World) (hs : Unmade w s) :
    Calls Try.prog 35 #[s, .int .i64 t] w fun e w' => e = .returned (.tuple #[.int .u8 0, .int .i64 1]) ∧ w = w' := by
  have HM := Lib.hid (byteAt_no s t w hs)
  clear hs
  go_enter Try.func35, Try.ntmps35
  go_wp2_with fail
  refine HM.out.mono ?_
  rintro e w' ⟨rfl, rfl⟩
  go_wp2_with fail
  go_ret2
  exact ⟨rfl, rfl⟩
set_option maxRecDepth 100000 in
theorem Read_is (S P : Nat) (v : Value) (c h : Nat → Int) (f : Pages) (t : Int) (w : World) (hs : SyBox w S P v c h) (hp : PgAt w P f) (r : Int × Int) (hr : rdE f t = r) :
    Calls Try.prog 35 #[.pointer (some ⟨S, 0, none⟩), .int .i64 t] w fun e w' => e = .returned (.tuple #[.int .u8 r.1, .int .i64 r.2]) ∧ w = w' := by
  unfold rdE at hr
  by_cases h0 : t < 0 ∨ 65536 ≤ t
  · rw [if_pos h0] at hr
    subst hr
    have HM := Lib.hid (byteAt_far S P v c h t h0 w hs)
    clear h0
    go_enter Try.func35, Try.ntmps35
    go_wp2_with fail
    refine HM.out.mono ?_
    rintro e w' ⟨rfl, rfl⟩
    go_wp2_with fail
    go_ret2
    exact ⟨rfl, rfl⟩
  · rw [if_neg h0] at hr
    obtain ⟨j, k, rfl, hj, hk, e1, e2⟩ := addr_split h0
    rw [e1, e2] at hr
    have HM := Lib.hid (byteAt_is S P v c h f j k hj hk w hs hp)
    have c2 := hp.byt j hj k hk
    clear h0 e1 e2
    obtain ⟨t, ht⟩ : ∃ t, 64 * j + k = t := ⟨_, rfl⟩
    rw [ht] at HM ⊢
    clear ht
    by_cases hx : (f j).kd = 2
    · rw [if_pos hx] at hr HM
      subst hr
      clear hx
      go_enter Try.func35, Try.ntmps35
      go_wp2_with fail
      refine HM.out.mono ?_
      rintro e w' ⟨rfl, rfl⟩
      go_wp2_with fail
      go_ret2
      exact ⟨rfl, rfl⟩
    · rw [if_neg hx] at hr HM
      subst hr
      clear hx c2
      go_enter Try.func35, Try.ntmps35
      go_wp2_with fail
      refine HM.out.mono ?_
      rintro e w' ⟨rfl, rfl⟩
      go_wp2_with fail
      go_ret2
      exact ⟨rfl, rfl⟩
set_option maxRecDepth 100000 in
theorem Write_no (s : Value) (t b : Int) (w : World) (hs : Unmade w s) :
    Calls Try.prog 25 #[s, .int .i64 t, .int .u8 b] w (NilE w) := by
  have HM := Lib.hid (byteAt_no s t w hs)
  clear hs
  go_enter Try.func25, Try.ntmps25
  go_wp2_with fail
  refine HM.out.mono ?_
  rintro e w' ⟨rfl, rfl⟩
  go_wp2_with fail
  go_ret
  exact ⟨rfl, Below.refl _ _⟩
set_option maxRecDepth 100000 in
theorem Write_is (S P : Nat) (X : Nat → Prop) (f : Pages) (L : List Ru) (m : Nat → Nat) (t b : Int) (w : World) (hs : Sys w S P X f L m) (e : Int) (he : (rdE f t).2 = e) :
    Calls Try.prog 25 #[.pointer (some ⟨S, 0, none⟩), .int .i64 t, .int .u8 b] w fun x w' => x = .returned (.int .i64 e) ∧ Sys w' S P X (wrF f t b) L m ∧ Keep (SP S P) w w' := by
  obtain ⟨v, s⟩ := hs
  have HS := Lib.hid s
  unfold rdE at he
  have HW := Lib.hid (show wrF f t b = wrF f t b from rfl)
  obtain ⟨g, hg⟩ : ∃ g, wrF f t b = g := ⟨_, rfl⟩
  rw [hg]
  unfold wrF at hg
  by_cases h0 : t < 0 ∨ 65536 ≤ t
  · rw [if_pos h0] at he hg
    subst he; subst hg
    have HM := Lib.hid (byteAt_far S P v _ _ t h0 w s.box)
    clear h0
    go_enter Try.func25, Try.ntmps25
    go_wp2_with fail
    refine HM.out.mono ?_
    rintro e w' ⟨rfl, rfl⟩
    go_wp2_with fail
    go_ret
    exact ⟨rfl, ⟨v, HS.out⟩, Keep.refl _ _⟩
  · rw [if_neg h0] at he hg
    obtain ⟨j, k, rfl, hj, hk, e1, e2⟩ := addr_split h0
    rw [e1, e2] at he hg
    have HM := Lib.hid (byteAt_is S P v _ _ f j k hj hk w s.box s.pg)
    have c2 := s.pg.byt j hj k hk
    have c3 := s.pg.frozen (j * 66 + 2 + k)
    clear h0 e1 e2 HW
    obtain ⟨t, ht⟩ : ∃ t, 64 * j + k = t := ⟨_, rfl⟩
    rw [ht] at HM ⊢
    clear ht
    by_cases hx : (f j).kd = 2
    · rw [if_pos hx] at he hg HM
      subst he
      have HG := Lib.hid hg
      clear hx hg
      go_enter Try.func25, Try.ntmps25
      go_wp2_with fail
      refine HM.out.mono ?_
      rintro e w' ⟨rfl, rfl⟩
      go_wp2_with fail
      go_ret
      have hK : Keep (· = P) w (w.setCell ⟨P, j * 66 + 2 + k, none⟩ (.int .u8 b)) := (Keep.refl _ _).setCell _ _ (.inl rfl)
      have h9 := HS.out.pg.setBy j hj k hk b
      rw [HG.out] at h9
      exact ⟨rfl, ⟨v, HS.out.pages hK h9⟩, hK.mono fun _ _ h => .inr h⟩
    · rw [if_neg hx] at he hg HM
      subst he; subst hg
      clear hx c2
      go_enter Try.func25, Try.ntmps25
      go_wp2_with fail
      refine HM.out.mono ?_
      rintro e w' ⟨rfl, rfl⟩
      go_wp2_with fail
      go_ret
      exact ⟨rfl, ⟨v, HS.out⟩, Keep.refl _ _⟩
end Go.Proofs.Ytnmeeddhagmjdaa
