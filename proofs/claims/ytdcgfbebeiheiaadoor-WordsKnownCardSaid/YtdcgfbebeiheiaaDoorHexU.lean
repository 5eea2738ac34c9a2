/- Hexadecimal forms, read: both ways' walks. -/
import Derived.Test.YtdcgfbebeiheiaaDoorHexP
namespace Go.Proofs.YtdcgfbebeiheiaaDoor
open Go.RowKit

/-- The byte whose form these two are; 1000: there is none. -/
def tgB (a b : UInt8) : Nat := if dvB (a.toNat : Int) = 16 ∨ dvB (b.toNat : Int) = 16 then 1000 else 16 * dvB (a.toNat : Int) + dvB (b.toNat : Int)
theorem tg_lt (a b : UInt8) : tgB a b < 256 ∨ tgB a b = 1000 := by
  have ha := dvB_le (a.toNat : Int)
  have hb := dvB_le (b.toNat : Int)
  unfold tgB
  split <;> omega
theorem un_two (a b : UInt8) (r : List UInt8) (h : tgB a b < 256) : unhB (a :: b :: r) = (unhB r).map (UInt8.ofNat (tgB a b) :: ·) := by
  unfold tgB at h ⊢
  split at h
  · omega
  · rename_i hn
    rw [unhB, if_neg hn, if_neg hn]
theorem un_bad (a b : UInt8) (r : List UInt8) (h : tgB a b = 1000) : unhB (a :: b :: r) = none := by
  unfold tgB at h
  split at h
  · rename_i hn
    rw [unhB, if_pos hn]
  · have ha := dvB_le (a.toNat : Int)
    have hb := dvB_le (b.toNat : Int)
    omega
theorem tg_hit (a b : UInt8) (m : Nat) (hm : m < 256) : (hx (m / 16) = a ∧ hx (m % 16) = b) ↔ tgB a b = m := by
  constructor
  · rintro ⟨rfl, rfl⟩
    unfold tgB
    rw [dv_hx _ (by omega), dv_hx _ (by omega), if_neg (by omega)]
    omega
  · intro h
    unfold tgB at h
    have ha := dvB_le (a.toNat : Int)
    have hb := dvB_le (b.toNat : Int)
    split at h
    · omega
    · have e1 : m / 16 = dvB (a.toNat : Int) := by omega
      have e2 : m % 16 = dvB (b.toNat : Int) := by omega
      rw [e1, e2]
      exact ⟨hx_dv a (by omega), hx_dv b (by omega)⟩
theorem drop_two (s : ByteArray) (p : Nat) (h : p + 1 < s.size) : s.data.toList.drop p = s[p] :: s[p + 1] :: s.data.toList.drop (p + 2) := by
  rw [drop_get s p (by omega), drop_get s (p + 1) h]

set_option maxRecDepth 100000 in
set_option maxHeartbeats 8000000 in
theorem ParseHex_any (s : ByteArray) (w : World) (hs : s.size ≤ maxLen) (hgd : Gd w) :
    Calls Tryd.prog 24 #[.string s] w fun e w' => ∃ v, e = .returned (.tuple #[v, .int .i64 (unhexE s.data.toList).2]) ∧ BytesAt w' v (unhexE s.data.toList).1 ∧ Below w.heap.size w w' := by
  have hsz : s.size = s.data.toList.length := Lib.size_eq s
  have hnil : BytesAt w (.slice none 0 0) [] := ⟨none, 0, rfl, Nat.le_refl _, Nat.zero_le _, fun h => by cases h⟩
  unfold maxLen at hs
  by_cases h2 : 200 < s.size
  · have hd : Hid (unhexE s.data.toList = ([], 3)) := by unfold Hid unhexE; rw [if_pos (by omega)]
    clear hsz
    go_enter Tryd.func24, Tryd.ntmps24
    go_wp2
    go_ret2
    rw [hd.out]
    exact ⟨_, rfl, hnil, Below.refl _ _⟩
  by_cases hodd : s.size % 2 = 1
  · have hd : Hid (unhexE s.data.toList = ([], 6)) := by unfold Hid unhexE; rw [if_neg (by omega), if_pos (by omega)]
    have q1 : ((s.size : Int) % 2 != 0) = true := by simp; omega
    clear hsz hodd
    go_enter Tryd.func24, Tryd.ntmps24
    go_wp2
    go_ret2
    rw [hd.out]
    exact ⟨_, rfl, hnil, Below.refl _ _⟩
  have hd : Hid (unhexE s.data.toList = match unhB s.data.toList with | some r => (r, 0) | none => ([], 6)) := by unfold Hid unhexE; rw [if_neg (by omega), if_neg (by omega)]; cases unhB s.data.toList <;> rfl
  have q1 : ((s.size : Int) % 2 != 0) = false := by simp; omega
  obtain ⟨i0, hi, hz0, hz1, hz2⟩ := info_parts Tryd.infoU8
  obtain ⟨n, hn⟩ : ∃ n, s.size / 2 = n := ⟨_, rfl⟩
  have hn2 : s.size = 2 * n := by omega
  obtain ⟨w1, hmk, hown, hgr⟩ := run_make_own (P := Tryd.prog) w w.heap.size 38 5 i0 _ 1 Tryd.underlying38 hi hz0 hz1 .i64 .i64 n (by rw [hz2]; omega) (by unfold maxLen; omega) (Nat.le_refl _)
  have hc2 : (s.size : Int) / 2 = (n : Int) := by omega
  have hB1 : Below w.heap.size w w1 := (Below.refl w.heap.size w).grown hgr (Nat.le_refl _) (fun k e => by cases e)
  have Hhi := Lib.hid hi
  have Hz0 := Lib.hid hz0
  have Hz1 := Lib.hid hz1
  have Hz2 := Lib.hid hz2
  have HN2 := Lib.hid hn2
  clear hi hz0 hz1 hz2 hn hgr hnil hsz hodd hn2
  go_enter Tryd.func24, Tryd.ntmps24
  go_wp2_with fail
  clear hmk
  go_loopw [4, 5] (fun o i wr => ∃ (p : Nat) (bs : List UInt8), p ≤ s.size ∧ i = .int .i64 p ∧ wr.ownsRow w.heap.size 5 1 o bs.length (rowU bs) ∧ Hid (p % 2 = 0) ∧ Hid (bs.length ≤ p) ∧ Hid (unhB s.data.toList = (unhB (s.data.toList.drop p)).map (bs ++ ·)) ∧ Below w.heap.size w wr) (fun _ i _ => s.size - (intOf i).toNat)
  case atStart => exact ⟨0, [], Nat.zero_le _, rfl, hown, rfl, Nat.le_refl _, by unfold Hid; rw [List.drop_zero]; cases unhB s.data.toList <;> rfl, hB1⟩
  case round =>
    clear hown hB1
    obtain ⟨p, bs, hp, rfl, hr, HE, HL, HR, hB⟩ := hrel
    by_cases hlt : p < s.size
    · have hlt2 : p + 1 < s.size := by have := HE.out; have := HN2.out; omega
      have hdr := Lib.hid (drop_two s p hlt2)
      have htg := tg_lt s[p] s[p + 1]
      have hle1 := dvB_le (s[p].toNat : Int)
      have hle2 := dvB_le (s[p + 1].toNat : Int)
      have hdef : Hid (tgB s[p] s[p + 1] = if dvB (s[p].toNat : Int) = 16 ∨ dvB (s[p + 1].toNat : Int) = 16 then 1000 else 16 * dvB (s[p].toNat : Int) + dvB (s[p + 1].toNat : Int)) := rfl
      have hU := Lib.hid (un_two s[p] s[p + 1] (s.data.toList.drop (p + 2)))
      have hV := Lib.hid (un_bad s[p] s[p + 1] (s.data.toList.drop (p + 2)))
      have hpi : (p : Int) < (s.size : Int) := by omega
      have hw1 : IntKind.i64.wrap ((p : Int) + 1) = (p : Int) + 1 := IntWalk.i64_in _ (by omega)
      have hw2 : (0 : Int) ≤ (p : Int) + 1 := by omega
      have hw3 : ((p : Int) + 1).toNat = p + 1 := by omega
      have hw4 : (p : Int) + 1 < (s.size : Int) := by omega
      have hGr := hgd.later hB
      have hDV1 := fun n => digitValue_any (s[p].toNat : Int) (wr.drewN n) (hGr.drewN n)
      have hDV2 := fun n => digitValue_any (s[p + 1].toNat : Int) (wr.drewN n) (hGr.drewN n)
      obtain ⟨T, hT⟩ : ∃ T, tgB s[p] s[p + 1] = T := ⟨_, rfl⟩
      rw [hT] at htg hdef hU hV
      obtain ⟨u, hu⟩ : ∃ u, dvB (s[p].toNat : Int) = u := ⟨_, rfl⟩
      obtain ⟨l, hl⟩ : ∃ l, dvB (s[p + 1].toNat : Int) = l := ⟨_, rfl⟩
      rw [hu] at hle1 hdef hDV1
      rw [hl] at hle2 hdef hDV2
      have HD1 := Lib.hid hDV1
      have HD2 := Lib.hid hDV2
      clear hT hu hl hDV1 hDV2
      by_cases hbad : u = 16 ∨ l = 16
      · have hd2 : Hid (unhexE s.data.toList = ([], 6)) := by
          unfold Hid; rw [hd.out, HR.out, hdr.out, hV.out (by rw [hdef.out, if_pos hbad])]; rfl
        have hnil : BytesAt w (.slice none 0 0) [] := ⟨none, 0, rfl, Nat.le_refl _, Nat.zero_le _, fun h => by cases h⟩
        go_wp2_with fail
        go_quiet ((first | (go_at_call 46; with_reducible exact Calls.quiet_of_same ((HD1.out _).mono fun _ _ ⟨h1, h2⟩ => ⟨h1, h2.symm⟩)) | (go_at_call 46; with_reducible exact Calls.quiet_of_same ((HD2.out _).mono fun _ _ ⟨h1, h2⟩ => ⟨h1, h2.symm⟩))))
        by_cases hu : u = 16
        · have q2 : ((u : Int) == 16) = true := by simp [hu]
          clear hbad hu
          go_wp2_with fail
          go_ret2
          rw [hd2.out]
          exact ⟨_, rfl, ⟨none, 0, rfl, Nat.le_refl _, Nat.zero_le _, fun h => by cases h⟩, below_drewN hB _⟩
        · have q2 : ((u : Int) == 16) = false := by simp; omega
          have q3 : ((l : Int) == 16) = true := by simp; omega
          clear hbad hu
          go_wp2_with fail
          go_ret2
          rw [hd2.out]
          exact ⟨_, rfl, ⟨none, 0, rfl, Nat.le_refl _, Nat.zero_le _, fun h => by cases h⟩, below_drewN hB _⟩
      · have q2 : ((u : Int) == 16) = false := by simp; omega
        have q3 : ((l : Int) == 16) = false := by simp; omega
        have hTv : T = 16 * u + l := by rw [hdef.out, if_neg hbad]
        have hT2 : T < 256 := by omega
        have hor := or16 ⟨u, by omega⟩ ⟨l, by omega⟩
        simp only at hor
        rw [← hTv] at hor
        have hwT : IntKind.u8.wrap (T : Int) = (T : Int) := wrap_small _ (by omega) (by omega)
        obtain ⟨m, hm⟩ : ∃ m, bs.length = m := ⟨_, rfl⟩
        have hml : m ≤ 1000 := by have := HL.out; omega
        rw [hm] at hr
        have HM := Lib.hid hm
        have hTN : Hid ((UInt8.ofNat T).toNat = T) := by unfold Hid; rw [UInt8.toNat_ofNat']; omega
        have hnx : Hid (unhB s.data.toList = (unhB (s.data.toList.drop (p + 2))).map ((bs ++ [UInt8.ofNat T]) ++ ·)) := by
          unfold Hid
          rw [HR.out, hdr.out, hU.out hT2, Option.map_map]
          congr 1
          funext y
          simp
        have hu15 : (u : Int) ≤ 15 := by omega
        have hl15 : (l : Int) ≤ 15 := by omega
        clear hbad hTv hm
        go_wp2_with fail
        go_quiet ((first | (go_at_call 46; with_reducible exact Calls.quiet_of_same ((HD1.out _).mono fun _ _ ⟨h1, h2⟩ => ⟨h1, h2.symm⟩)) | (go_at_call 46; with_reducible exact Calls.quiet_of_same ((HD2.out _).mono fun _ _ ⟨h1, h2⟩ => ⟨h1, h2.symm⟩))))
        rename_i nq
        obtain ⟨wq, hwq⟩ : ∃ wq, wr.drewN nq = wq := ⟨_, rfl⟩
        have hBq : Below w.heap.size w wq := by rw [← hwq]; exact below_drewN hB _
        have hrq : wq.ownsRow w.heap.size 5 1 u4 m (rowU bs) := by rw [← hwq]; exact hr
        rw [hwq]
        clear hwq
        have hr4 := hrq.alloc (.cells #[.int .u8 (T : Int)] 5)
        have HR4 := Lib.hid hr4
        have HNW2 := Lib.hid (cell_one_new wq (.int .u8 (T : Int)) 5)
        have HN1 : Hid (∀ x ∈ [Value.int .u8 (T : Int)], x.oneCell' = true) := by intro x hx; simp at hx; subst hx; rfl
        have hm1 : m + 1 ≤ maxLen := by unfold maxLen; omega
        have hm2 : (m + 1) * 1 ≤ 140737488355328 := by omega
        have HK3 : Hid (w.heap.size ≤ (wq.alloc (.cells #[.int .u8 (T : Int)] 5)).heap.size) := by unfold Hid; have := hBq.size; simp; omega
        clear hr4
        go_wp2_with (at_builtin; refine wpList_append_own _ rfl _ _ 38 rfl w.heap.size 5 i0 (.int .u8 0) 1 1 Tryd.underlying38 Hhi.out Hz0.out Hz1.out Hz2.out rfl (by decide) _ _ _ rfl HR4.out ⟨wq.heap.size, 0, none⟩ 1 1 [.int .u8 (T : Int)] rfl rfl HNW2.out HN1.out hm1 hm2 HK3.out ?_; intro v' w4 hown' hgrow _)
        have HO := Lib.hid hown'
        have hB5 := (hBq.alloc hBq.size (.cells #[.int .u8 (T : Int)] 5)).grown hgrow (by have := hBq.size; simp; omega) (fun j e => (hrq.lt j e).1)
        clear hown' hgrow
        go_wp2
        go_roundw
        case rel => exact ⟨p + 2, bs ++ [UInt8.ofNat T], by omega, by go_num, by rw [rowU_snoc, hTN.out, List.length_append, List.length_singleton, HM.out]; exact HO.out, by unfold Hid; have := HE.out; omega, by unfold Hid; rw [List.length_append, List.length_singleton]; have := HL.out; omega, hnx, hB5⟩
        case measure => simp [intOf]; omega
    · have hpi : ¬ (p : Int) < (s.size : Int) := by omega
      have hdn : s.data.toList.drop p = [] := List.drop_eq_nil_of_le (by rw [← Lib.size_eq]; omega)
      have hd2 : Hid (unhexE s.data.toList = (bs, 0)) := by unfold Hid; rw [hd.out, HR.out, hdn]; simp [unhB]
      obtain ⟨va, vc, rfl⟩ := ownsRow_form hr
      obtain ⟨m, hm⟩ : ∃ m, bs.length = m := ⟨_, rfl⟩
      have hrb := BytesAt.of_row hr
      rw [hm] at hrb ⊢
      have HRB := Lib.hid hrb
      clear hdn hm hr hrb
      go_wp2_with fail
      go_ret2
      rw [hd2.out]
      exact ⟨_, rfl, HRB.out, hB⟩
end Go.Proofs.YtdcgfbebeiheiaaDoor
