/- Hexadecimal forms, read the other way: its walk. -/
import Derived.Test.YtdcgfbebeiheiaaDoorHexU
namespace Go.Proofs.YtdcgfbebeiheiaaDoor
open Go.RowKit

theorem pair_list (s : ByteArray) (p : Nat) (h : p + 1 < s.size) : (s.extract p (p + 2)).data.toList = [s[p], s[p + 1]] := by
  rw [Lib.extract_data, show p + 2 - p = 2 by omega, drop_two s p h]; rfl
/-- What stands behind the first m numbers. -/
def gotB (T m : Nat) : List UInt8 := if T < m then [UInt8.ofNat T] else []
theorem got_hit (T : Nat) : gotB T (T + 1) = [UInt8.ofNat T] ∧ gotB T T = [] := ⟨if_pos (by omega), if_neg (by omega)⟩
theorem got_miss (T m : Nat) (h : ¬ T = m) : gotB T (m + 1) = gotB T m := by
  unfold gotB
  by_cases h1 : T < m
  · rw [if_pos h1, if_pos (by omega)]
  · rw [if_neg h1, if_neg (by omega)]

set_option maxRecDepth 100000 in
set_option maxHeartbeats 8000000 in
theorem refParseHex_any (s : ByteArray) (w : World) (hs : s.size ≤ maxLen) :
    Calls Tryd.prog 25 #[.string s] w fun e w' => ∃ v, e = .returned (.tuple #[v, .int .i64 (unhexE s.data.toList).2]) ∧ BytesAt w' v (unhexE s.data.toList).1 ∧ Below w.heap.size w w' := by
  have hsz : s.size = s.data.toList.length := Lib.size_eq s
  have hnil : BytesAt w (.slice none 0 0) [] := ⟨none, 0, rfl, Nat.le_refl _, Nat.zero_le _, fun h => by cases h⟩
  unfold maxLen at hs
  by_cases h2 : 200 < s.size
  · have hd : Hid (unhexE s.data.toList = ([], 3)) := by unfold Hid unhexE; rw [if_pos (by omega)]
    clear hsz
    go_enter Tryd.func25, Tryd.ntmps25
    go_wp2
    go_ret2
    rw [hd.out]
    exact ⟨_, rfl, hnil, Below.refl _ _⟩
  by_cases hodd : s.size % 2 = 1
  · have hd : Hid (unhexE s.data.toList = ([], 6)) := by unfold Hid unhexE; rw [if_neg (by omega), if_pos (by omega)]
    have q1 : ((s.size : Int) % 2 != 0) = true := by simp; omega
    clear hsz hodd
    go_enter Tryd.func25, Tryd.ntmps25
    go_wp2
    go_ret2
    rw [hd.out]
    exact ⟨_, rfl, hnil, Below.refl _ _⟩
  have hd : Hid (unhexE s.data.toList = match unhB s.data.toList with | some r => (r, 0) | none => ([], 6)) := by unfold Hid unhexE; rw [if_neg (by omega), if_neg (by omega)]; cases unhB s.data.toList <;> rfl
  have q1 : ((s.size : Int) % 2 != 0) = false := by simp; omega
  obtain ⟨i0, hi, hz0, hz1, hz2⟩ := info_parts Tryd.infoU8
  have hev : Hid (s.size % 2 = 0) := by unfold Hid; omega
  have Hhi := Lib.hid hi
  have Hz0 := Lib.hid hz0
  have Hz1 := Lib.hid hz1
  have Hz2 := Lib.hid hz2
  clear hi hz0 hz1 hz2 hnil hsz hodd
  go_enter Tryd.func25, Tryd.ntmps25
  go_wp2_with fail
  go_loopw [4, 5] (fun o i wr => ∃ (p : Nat) (bs : List UInt8), p ≤ s.size ∧ i = .int .i64 p ∧ wr.ownsRow w.heap.size 5 1 o bs.length (rowU bs) ∧ Hid (p % 2 = 0) ∧ Hid (bs.length ≤ p) ∧ Hid (unhB s.data.toList = (unhB (s.data.toList.drop p)).map (bs ++ ·)) ∧ Below w.heap.size w wr) (fun _ i _ => s.size - (intOf i).toNat)
  case atStart => exact ⟨0, [], Nat.zero_le _, rfl, World.ownsRow_nil _ _ _ _, rfl, Nat.le_refl _, by unfold Hid; rw [List.drop_zero]; cases unhB s.data.toList <;> rfl, Below.refl _ _⟩
  case round =>
    obtain ⟨p, bs, hp, rfl, hr, HE, HL, HR, hB⟩ := hrel
    obtain ⟨wo, rfl⟩ : ∃ wo : World, wo = wr := ⟨_, rfl⟩
    by_cases hlt : p < s.size
    · have hlt2 : p + 1 < s.size := by have := HE.out; have := hev.out; omega
      have hdr := Lib.hid (drop_two s p hlt2)
      have htg := tg_lt s[p] s[p + 1]
      have hU := Lib.hid (un_two s[p] s[p + 1] (s.data.toList.drop (p + 2)))
      have hV := Lib.hid (un_bad s[p] s[p + 1] (s.data.toList.drop (p + 2)))
      have hG := Lib.hid (tg_hit s[p] s[p + 1])
      have HP := Lib.hid (pair_list s p hlt2)
      have hpi : (p : Int) < (s.size : Int) := by omega
      have hw1 : IntKind.i64.wrap ((p : Int) + 2) = (p : Int) + 2 := IntWalk.i64_in _ (by omega)
      have hw2 : (p : Int) ≤ (p : Int) + 2 := by omega
      have hw3 : ((p : Int) + 2).toNat = p + 2 := by omega
      have hw4 : (p : Int) + 2 ≤ (s.size : Int) := by omega
      have hw5 : (0 : Int) ≤ (p : Int) + 2 := by omega
      obtain ⟨T, hT⟩ : ∃ T, tgB s[p] s[p + 1] = T := ⟨_, rfl⟩
      rw [hT] at htg hU hV hG
      obtain ⟨Y, hY⟩ : ∃ Y, s.extract p (p + 2) = Y := ⟨_, rfl⟩
      rw [hY] at HP
      have HY := Lib.hid hY
      have hbl : bs.length ≤ 1000 := by have := HL.out; omega
      clear hT hY
      go_wp2_with fail
      go_loopw [4, 6, 7] (fun o f i wr => ∃ (m : Nat), m ≤ 256 ∧ i = .int .i64 m ∧ f = .bool (decide (T < m)) ∧ wr.ownsRow w.heap.size 5 1 o (bs ++ gotB T m).length (rowU (bs ++ gotB T m)) ∧ Below w.heap.size w wr) (fun _ _ i _ => 256 - (intOf i).toNat)
      case atStart => exact ⟨0, Nat.zero_le _, rfl, by simp, by simpa [gotB] using hr, hB⟩
      case round =>
        clear hr hB
        obtain ⟨m, hm, rfl, rfl, hr, hB⟩ := hrel
        by_cases hmlt : m < 256
        · have hmi : (m : Int) < 256 := by omega
          obtain ⟨hi, hhi⟩ : ∃ x, m / 16 = x := ⟨_, rfl⟩
          obtain ⟨lo, hlo⟩ : ∃ x, m % 16 = x := ⟨_, rfl⟩
          have hi16 : hi < 16 := by omega
          have lo16 : lo < 16 := by omega
          have a1 : Int.tdiv (m : Int) 16 = (hi : Int) := by rw [Int.tdiv_eq_ediv_of_nonneg (by omega)]; omega
          have a2 : Int.tmod (m : Int) 16 = (lo : Int) := by rw [Int.tmod_eq_emod_of_nonneg (by omega)]; omega
          have a3 : (m : Int) / 16 = (hi : Int) := by omega
          have a4 : (m : Int) % 16 = (lo : Int) := by omega
          have a5 : IntKind.u8.wrap (hi : Int) = (hi : Int) := wrap_small _ (by omega) (by omega)
          have a6 : IntKind.u8.wrap (lo : Int) = (lo : Int) := wrap_small _ (by omega) (by omega)
          have a7 : IntKind.i64.wrap (hi : Int) = (hi : Int) := IntWalk.i64_in _ (by omega)
          have a8 : IntKind.i64.wrap (lo : Int) = (lo : Int) := IntWalk.i64_in _ (by omega)
          have hs1 : (⟨#[hx hi]⟩ : ByteArray).size = 1 := rfl
          have hs2 : (⟨#[hx lo]⟩ : ByteArray).size = 1 := rfl
          obtain ⟨X, hX⟩ : ∃ X : ByteArray, (⟨#[hx hi]⟩ : ByteArray) ++ ⟨#[hx lo]⟩ = X := ⟨_, rfl⟩
          have hXl : X.data.toList = [hx hi, hx lo] := by rw [← hX, cat_list]; rfl
          have hr1 : ∀ w' : World, (Op.stringOp .add ⟨#[hx hi]⟩ ⟨#[hx lo]⟩).run Tryd.prog w' = .ok (.string X) w' := fun w' => by
            rw [← hX]
            exact run_string_add_sum w' _ _ (by rw [hs1, hs2]; decide)
          have heq : (X.toList == Y.toList) = decide (T = m) := by
            rw [Lib.toList_data, Lib.toList_data, hXl, HP.out, Bool.eq_iff_iff, beq_iff_eq, decide_eq_true_eq, ← hG.out m hmlt, hhi, hlo]
            simp
          have HN1 := Lib.hid (nibble_any hi hi16)
          have HN2 := Lib.hid (nibble_any lo lo16)
          have hb9 : (gotB T m).length ≤ 1 := by unfold gotB; split <;> simp
          have hy : ∀ w' : World, (s.extract p (p + 2)) = Y := fun _ => HY.out
          clear hX hXl hs1 hs2 hhi hlo hi16 lo16 hy
          by_cases hTm : T = m
          · have he1 : (X.toList == Y.toList) = true := by rw [heq]; exact decide_eq_true hTm
            have hYy := HY.out
            have g9 := got_hit T
            rw [hTm] at g9
            have G1 := Lib.hid g9.1
            have G2 := Lib.hid g9.2
            have hd1 : decide (T < m + 1) = true := decide_eq_true (by omega)
            have hTN : Hid ((UInt8.ofNat m).toNat = m) := by unfold Hid; rw [UInt8.toNat_ofNat']; omega
            have hu8 : IntKind.u8.wrap (m : Int) = (m : Int) := wrap_small _ (by omega) (by omega)
            have hTH := Lib.hid hTm
            rw [hTH.out, G2.out, List.append_nil] at hr
            obtain ⟨n, hn⟩ : ∃ n, bs.length = n := ⟨_, rfl⟩
            rw [hn] at hr hbl
            have HM := Lib.hid hn
            clear heq g9 hTm hn
            go_wp2_with fail
            go_quiet ((first | (go_at_call 45; with_reducible exact Calls.quiet_of_same ((HN1.out _).mono fun _ _ ⟨h1, h2⟩ => ⟨h1, h2.symm⟩)) | (go_at_call 45; with_reducible exact Calls.quiet_of_same ((HN2.out _).mono fun _ _ ⟨h1, h2⟩ => ⟨h1, h2.symm⟩))))
            rename_i nq
            obtain ⟨wq, hwq⟩ : ∃ wq, wr.drewN nq = wq := ⟨_, rfl⟩
            have hBq : Below w.heap.size w wq := by rw [← hwq]; exact below_drewN hB _
            have hrq : wq.ownsRow w.heap.size 5 1 u4 n (rowU bs) := by rw [← hwq]; exact hr
            rw [hwq]
            clear hwq hr hB
            have HR4 := Lib.hid (hrq.alloc (.cells #[.int .u8 (m : Int)] 5))
            have HNW2 := Lib.hid (cell_one_new wq (.int .u8 (m : Int)) 5)
            have HN9 : Hid (∀ x ∈ [Value.int .u8 (m : Int)], x.oneCell' = true) := by intro x hx; simp at hx; subst hx; rfl
            have hm1 : n + 1 ≤ maxLen := by unfold maxLen; omega
            have hm2 : (n + 1) * 1 ≤ 140737488355328 := by omega
            have HK3 : Hid (w.heap.size ≤ (wq.alloc (.cells #[.int .u8 (m : Int)] 5)).heap.size) := by unfold Hid; have := hBq.size; simp; omega
            go_wp2_with (at_builtin; refine wpList_append_own _ rfl _ _ 38 rfl w.heap.size 5 i0 (.int .u8 0) 1 1 Tryd.underlying38 Hhi.out Hz0.out Hz1.out Hz2.out rfl (by decide) _ _ _ rfl HR4.out ⟨wq.heap.size, 0, none⟩ 1 1 [.int .u8 (m : Int)] rfl rfl HNW2.out HN9.out hm1 hm2 HK3.out ?_; intro v' w4 hown' hgrow _)
            have HO := Lib.hid hown'
            have hB5 := (hBq.alloc hBq.size (.cells #[.int .u8 (m : Int)] 5)).grown hgrow (by have := hBq.size; simp; omega) (fun j e => (hrq.lt j e).1)
            clear hown' hgrow
            go_wp2
            go_roundw
            case rel => exact ⟨m + 1, by omega, by go_num, by rw [hd1], by rw [hTH.out, G1.out, rowU_snoc, hTN.out, List.length_append, List.length_singleton, HM.out]; exact HO.out, hB5⟩
            case measure => simp [intOf]; omega
          · have he1 : (X.toList == Y.toList) = false := by rw [heq]; exact decide_eq_false hTm
            have hYy := HY.out
            have G1 := Lib.hid (got_miss T m hTm)
            have hd1 : decide (T < m + 1) = decide (T < m) := by rw [decide_eq_decide]; omega
            have HD1 := Lib.hid hd1
            clear heq hTm hd1
            go_wp2_with fail
            go_quiet ((first | (go_at_call 45; with_reducible exact Calls.quiet_of_same ((HN1.out _).mono fun _ _ ⟨h1, h2⟩ => ⟨h1, h2.symm⟩)) | (go_at_call 45; with_reducible exact Calls.quiet_of_same ((HN2.out _).mono fun _ _ ⟨h1, h2⟩ => ⟨h1, h2.symm⟩))))
            go_wp2_with fail
            go_roundw
            case rel => exact ⟨m + 1, by omega, by go_num, by rw [HD1.out], by rw [G1.out]; exact hr, below_drewN hB _⟩
            case measure => simp [intOf]; omega
        · have hm256 : m = 256 := by omega
          have hmi : ¬ (m : Int) < 256 := by omega
          clear hmlt
          subst hm256
          rcases htg with hT2 | hT2
          · have hd1 : decide (T < 256) = true := decide_eq_true hT2
            have hnx : Hid (unhB s.data.toList = (unhB (s.data.toList.drop (p + 2))).map ((bs ++ gotB T 256) ++ ·)) := by
              unfold Hid
              rw [HR.out, hdr.out, hU.out hT2, Option.map_map]
              have e : gotB T 256 = [UInt8.ofNat T] := if_pos hT2
              rw [e]
              congr 1
              funext y
              simp
            have hgl : Hid ((bs ++ gotB T 256).length ≤ p + 2) := by
              have : (gotB T 256).length ≤ 1 := by unfold gotB; split <;> simp
              unfold Hid; rw [List.length_append]; have := HL.out; omega
            rw [hd1]
            go_wp2_with fail
            go_roundw
            case rel => exact ⟨p + 2, bs ++ gotB T 256, by omega, by go_num, hr, by unfold Hid; have := HE.out; omega, hgl, hnx, hB⟩
            case measure => simp [intOf]; omega
          · have hd1 : decide (T < 256) = false := decide_eq_false (by omega)
            have hd2 : Hid (unhexE s.data.toList = ([], 6)) := by
              unfold Hid; rw [hd.out, HR.out, hdr.out, hV.out hT2]; rfl
            rw [hd1]
            go_wp2_with fail
            go_ret2
            rw [hd2.out]
            exact ⟨_, rfl, ⟨none, 0, rfl, Nat.le_refl _, Nat.zero_le _, fun h => by cases h⟩, hB⟩
    · have hpi : ¬ (p : Int) < (s.size : Int) := by omega
      have hdn : s.data.toList.drop p = [] := List.drop_eq_nil_of_le (by rw [← Lib.size_eq]; omega)
      have hd2 : Hid (unhexE s.data.toList = (bs, 0)) := by unfold Hid; rw [hd.out, HR.out, hdn]; simp [unhB]
      obtain ⟨va, vc, rfl⟩ := ownsRow_form hr
      obtain ⟨m, hm⟩ : ∃ m, bs.length = m := ⟨_, rfl⟩
      have hrb := BytesAt.of_row hr
      rw [hm] at hrb ⊢
      have HRB := Lib.hid hrb
      clear hdn hm hr hrb
      go_wp2_with fail
      go_ret2
      rw [hd2.out]
      exact ⟨_, rfl, HRB.out, hB⟩
end Go.Proofs.YtdcgfbebeiheiaaDoor
