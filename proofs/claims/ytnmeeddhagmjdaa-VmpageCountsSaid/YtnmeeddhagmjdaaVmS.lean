/- The reference's calls. -/
import Derived.Test.YtnmeeddhagmjdaaVmR
import Derived.Test.YtnmeeddhagmjdaaVmH
namespace Go.Proofs.Ytnmeeddhagmjdaa
open Go.RowKit Go.Shelf
attribute [local go_sem] Oper.semAt_some
variable {W V : World} {R : Nat} {kd : Nat → Int} {hg : Nat → Bool} {bt : Nat → Nat → Int} {st : Array Value}

theorem z64_one : zeros64.toArray.all (·.oneCell') = true := by kernel_rfl
theorem z64_i : (Try.prog.info? 88).map (·.size) = some zeros64.toArray.size := by kernel_rfl
set_option maxRecDepth 100000 in
set_option maxHeartbeats 600000 in
theorem Rset_is (a n : Nat) (x : Int) (han : a + n ≤ 1024) (w : World) (hr : RAtS w R kd hg bt st) : Calls Try.prog 97 #[.pointer (some ⟨R, 0, none⟩), .int .i64 (a : Int), .int .i64 (n : Int), .int .i64 x] w fun e w' => e = .returned (.tuple #[]) ∧
    RAtS w' R (fun i => if a ≤ i ∧ i < a + n then x else kd i) hg (fun i k => if a ≤ i ∧ i < a + n then 0 else bt i k) st ∧ Keep (· = R) w w' := by
  have HR := Lib.hid hr
  have hal : Try.prog.arrayLen 86 = 1024 := by kernel_rfl
  have hal2 : Try.prog.arrayLen 89 = 1024 := by kernel_rfl
  clear hr
  go_enter Try.func97, Try.ntmps97
  go_wp2_with fail
  go_loopw [8] (fun i wr => ∃ k : Nat, k ≤ n ∧ i = .int .i64 ((a + k : Nat) : Int) ∧ RAtS wr R (fun i => if a ≤ i ∧ i < a + k then x else kd i) hg (fun i j => if a ≤ i ∧ i < a + k then 0 else bt i j) st ∧ Keep (· = R) w wr) (fun i _ => a + n - (intOf i).toNat)
  case atStart => exact ⟨0, Nat.zero_le _, rfl, HR.out.congr (fun j _ => by rw [if_neg (by omega)]) (fun _ _ => rfl) (fun j _ i _ => by rw [if_neg (by omega)]), Keep.refl _ _⟩
  case round =>
    obtain ⟨k, hk, rfl, hat, hkp⟩ := hrel
    obtain ⟨q, hq⟩ : ∃ q, a + k = q := ⟨_, rfl⟩
    have HQ := Lib.hid hq
    rw [hq] at hat ⊢
    by_cases hlt : k < n
    · have h1 : (q : Int) < (a : Int) + (n : Int) := by omega
      have hq2 : (q : Int) < 1024 := by omega
      have hqn : q < 1024 := by omega
      have hc := hat.ck q hqn
      have hf := hat.frozen q
      have h2 := hat.setK q hqn x
      have ht := h2.there (1088 + q * 64) 64 (by omega)
      have hlen : zeros64.toArray.size = 64 := by kernel_rfl
      have h3 := h2.setZ q hqn
      have H3 : Hid (RAtS ((wr.setCell ⟨R, q, none⟩ (.int .i64 x)).setCells R (1088 + q * 64) zeros64) R (fun i => if a ≤ i ∧ i < a + (k + 1) then x else kd i) hg (fun i j => if a ≤ i ∧ i < a + (k + 1) then 0 else bt i j) st) :=
        h3.congr (fun j _ => by
          by_cases e : j = q
          · rw [if_pos e, if_pos (by omega)]
          · rw [if_neg e]
            by_cases e2 : a ≤ j ∧ j < q
            · rw [if_pos e2, if_pos (by omega)]
            · rw [if_neg e2, if_neg (by omega)]) (fun _ _ => rfl) (fun j _ i _ => by
          by_cases e : j = q
          · rw [if_pos e, if_pos (by omega)]
          · rw [if_neg e]
            by_cases e2 : a ≤ j ∧ j < q
            · rw [if_pos e2, if_pos (by omega)]
            · rw [if_neg e2, if_neg (by omega)])
      have HK : Hid (Keep (· = R) w ((wr.setCell ⟨R, q, none⟩ (.int .i64 x)).setCells R (1088 + q * 64) zeros64)) := Keep.setCells (q := (· = R)) R (.inl rfl) _ _ _ (hkp.setCell _ _ (.inl rfl))
      clear hq h3 h2 hat hkp
      go_wp2_with (refine wpList_store_mid rfl 88 _ _ rfl R (1088 + q * 64) zeros64.toArray rfl (by kernel_rfl) (by rw [hlen]; with_reducible exact ht) z64_i z64_one ?_)
      go_roundw
      case rel => exact ⟨k + 1, by omega, by rw [← Nat.add_assoc, HQ.out]; go_num, H3.out, HK.out⟩
      case measure => simp [intOf]; omega
    · have h1 : ¬ (q : Int) < (a : Int) + (n : Int) := by omega
      obtain rfl : k = n := by omega
      have HA := Lib.hid hat
      clear hat
      clear hq
      go_wp2_with fail
      go_end0
      have h9 := HA.out
      rw [← HQ.out] at h9
      exact ⟨rfl, h9, hkp⟩
abbrev kdF (f : Pages) : Nat → Int := fun j => (f j).kd
abbrev hgF (f : Pages) : Nat → Bool := fun g => (f (16 * g)).hu
abbrev btF (f : Pages) : Nat → Nat → Int := fun j k => (f j).by' k
/-- The reference's system: as SysV. -/
structure RfV (W : World) (R : Nat) (Y : Nat → Prop) (kd : Nat → Int) (hg : Nat → Bool) (bt : Nat → Nat → Int) (L : List Ru) (m : Nat → Nat) (v : Value) : Prop where
  row : RAtS W R kd hg bt (stA v (ci m) (ci (hf L m)))
  ru : RAt W v (toI L)
  own : ∀ b, obk v = some b → b ≠ R ∧ ¬ Y b
  far : ∀ b, Y b → b ≠ R
theorem RfV.keep {W V : World} {R : Nat} {Y : Nat → Prop} {L : List Ru} {m : Nat → Nat} {v : Value} (s : RfV W R Y kd hg bt L m v) {q : Nat → Prop} (hb : Keep q W V) (hq : ∀ k, q k → Y k) : RfV V R Y kd hg bt L m v :=
  ⟨s.row.keep hb (fun h => s.far R (hq R h) rfl), s.ru.keep hb (fun b hb2 hqb => (s.own b hb2).2 (hq b hqb)), s.own, s.far⟩
theorem RfV.later {W V : World} {R : Nat} {Y : Nat → Prop} {L : List Ru} {m : Nat → Nat} {v : Value} (s : RfV W R Y kd hg bt L m v) (hb : Below W.heap.size W V) : RfV V R Y kd hg bt L m v := ⟨s.row.later hb, s.ru.later hb, s.own, s.far⟩
theorem RfV.cells {W V : World} {R : Nat} {Y : Nat → Prop} {L : List Ru} {m : Nat → Nat} {v : Value} (s : RfV W R Y kd hg bt L m v) (hb : Keep (· = R) W V) {kd' : Nat → Int} {hg' : Nat → Bool} {bt' : Nat → Nat → Int} (h : RAtS V R kd' hg' bt' (stA v (ci m) (ci (hf L m)))) : RfV V R Y kd' hg' bt' L m v := ⟨h, s.ru.keep hb (fun b hb2 e => (s.own b hb2).1 e), s.own, s.far⟩
set_option maxRecDepth 100000 in
set_option maxHeartbeats 4000000 in
theorem Rrefusd_is (Y : Nat → Prop) (L : List Ru) (hL : OkL L) (m : Nat → Nat) (hm : Sm m) (c : Nat) (hc7 : c < 7) (v : Value) (w : World) (hs : RfV w R Y kd hg bt L m v) :
    Calls Try.prog 80 #[.pointer (some ⟨R, 0, none⟩), .int .i64 (c : Int)] w fun e w' => e = .returned (.bool (refP L c (m c + 1))) ∧ RfV w' R Y kd hg bt L (updN m c (m c + 1)) v ∧ Keep (· = R) w w' := by
  have hrg := hs.row.range (stA_size _ _ _)
  have HN := Lib.hid (RNext_ok v L hL (ci m) (ci (hf L m)) (csF_hf L m fun k hk => by have := hm k hk; omega) c (m c) hc7 rfl (by have := hm c hc7; omega) w hs.ru)
  go_enter Try.func80, Try.ntmps80
  go_wp2_with (refine wpList_load_mid rfl 45 _ rfl R 66624 rfl (stA v (ci m) (ci (hf L m))).toList _ hrg Try.underlying45 rfl sy_i ?_)
  refine HN.out.mono ?_
  rintro e w1 ⟨rfl, B1⟩
  rw [ci_upd, nxH_hf]
  obtain ⟨W2, hW2⟩ : ∃ x, w1.alloc (.cells #[.slice none 0 0, .int .i64 0, .int .i64 0, .int .i64 0, .int .i64 0, .int .i64 0, .int .i64 0, .int .i64 0, .int .i64 0, .int .i64 0, .int .i64 0, .int .i64 0, .int .i64 0, .int .i64 0, .int .i64 0] 45) = x := ⟨_, rfl⟩
  have hb2 : Below w1.heap.size w1 W2 := by rw [← hW2]; exact (Below.refl _ _).alloc (Nat.le_refl _) _
  have sN : SBox W2 w1.heap.size (.slice none 0 0) zer zer := by rw [← hW2]; exact SBox.new w1 (.slice none 0 0) zer zer
  have hB2 := B1.trans (hb2.mono B1.size)
  have hu1 := hs.ru.one
  have sM := sN.row v (ci (updN m c (m c + 1))) (ci (hf L (updN m c (m c + 1))))
  have hB3 := below_row hB2 w1.heap.size B1.size (stA v (ci (updN m c (m c + 1))) (ci (hf L (updN m c (m c + 1)))))
  have s3 := hs.later hB3
  have htR := s3.row.there 66624 15 (by omega)
  have hone : (stA v (ci (updN m c (m c + 1))) (ci (hf L (updN m c (m c + 1))))).all (·.oneCell') = true := stA_one v hu1 _ _
  go_wp2_with (first | rw [hW2] | refine wpList_store_row rfl 45 _ _ rfl w1.heap.size (stA v (ci (updN m c (m c + 1))) (ci (hf L (updN m c (m c + 1))))) rfl rfl 45 _ sN (st_i _ _ _) rfl hone ?_ | refine wpList_load_row rfl 45 _ rfl w1.heap.size rfl 45 _ (0, 0) _ sM Try.underlying45 rfl (st_i _ _ _) ?_ | refine wpList_store_mid rfl 45 _ _ rfl R 66624 (stA v (ci (updN m c (m c + 1))) (ci (hf L (updN m c (m c + 1))))) rfl rfl htR (st_i _ _ _) hone ?_)
  go_ret
  have hK1 : Keep (· = R) (W2.setRow w1.heap.size (stA v (ci (updN m c (m c + 1))) (ci (hf L (updN m c (m c + 1)))))) ((W2.setRow w1.heap.size (stA v (ci (updN m c (m c + 1))) (ci (hf L (updN m c (m c + 1)))))).setCells R 66624 (stA v (ci (updN m c (m c + 1))) (ci (hf L (updN m c (m c + 1))))).toList) := Keep.setCells (q := (· = R)) R (.inl rfl) _ _ _ (Keep.refl _ _)
  refine ⟨rfl, ⟨s3.row.putS _ (stA_size _ _ _), s3.ru.keep hK1 (fun b hb2 e => (s3.own b hb2).1 e), s3.own, s3.far⟩, (Keep.of_below hB3).trans hK1⟩
end Go.Proofs.Ytnmeeddhagmjdaa
