/- Hexadecimal forms: both ways' walks. -/
import Derived.Test.YtdcgfbebeiheiaaDoorHexM
import Derived.Laws.BitsAllLaws
import Derived.Laws.MakeOwn
import Derived.IntWalk
namespace Go.Proofs.YtdcgfbebeiheiaaDoor
open Go.RowKit

theorem Tryd.infoU8 : (Tryd.prog.info? 5).map (fun i => (i.zero, i.size, i.bytes)) = some (some (.int .u8 0), 1, 1) := by kernel_rfl

/-- The string of such a slice. -/
theorem conv_any {W : World} {v : Value} {l : List UInt8} (h : BytesAt W v l) : (convert 38 9 v).run Tryd.prog W = .ok (.string ⟨l.toArray⟩) W := by
  obtain ⟨a, cap, rfl, h1, h2, h3⟩ := h
  rcases Nat.eq_zero_or_pos l.length with h0 | h0
  · have hl : l = [] := List.eq_nil_of_length_eq_zero h0
    subst hl
    rw [run_convert_bytes_string _ _ _ 5 _ _ _ Tryd.underlying38 Tryd.underlying5 Tryd.underlying9]
    cases a with
    | none => rfl
    | some a => exact (run_bytesToString (P := Tryd.prog) W a 0 cap [] (run_loadCells_list W a [] (fun j v hj => by simp at hj))).trans rfl
  · obtain ⟨b, off, rfl, hc⟩ := h3 h0
    exact run_convert_bytes_back (P := Tryd.prog) W _ _ 5 ⟨b, off, none⟩ cap l Tryd.underlying38 Tryd.underlying5 Tryd.underlying9 (fun j hj => by
      have e : (⟨b, off, none⟩ : Addr).add j = ⟨b, off + j, none⟩ := by unfold Addr.add; split <;> simp_all
      rw [e]; exact hc j hj)

theorem and15 (c : UInt8) : bits .and .u8 (c.toNat : Int) 15 = ((c.toNat % 16 : Nat) : Int) := by
  have h := u8_and_nat c.toNat 15 c.toNat_lt (by decide)
  rw [show (15 : Nat) = 2 ^ 4 - 1 from rfl, Nat.and_two_pow_sub_one_eq_mod] at h
  exact h
theorem or16 : ∀ u v : Fin 16, bits .or .i64 ((u.val : Int) * 16) (v.val : Int) = ((16 * u.val + v.val : Nat) : Int) := by decide +kernel

theorem keep_cell2 {W B : World} {base : Nat} {e : TypeId} {size n : Nat} {v : Value} {xs : List Value} {a : Addr} {u : Value} (hg : W.grownBy B v.ownBlock) (hr : W.ownsRow base e size v n xs) (hlt : a.block < base) (hq : W.cell? a = some u) : B.cell? a = some u := by
  have h0 := World.block_lt_of_cell? _ _ hq
  have h1 := hg.block a.block h0 (fun e => by have := (hr.lt a.block e.symm).1; omega)
  rw [World.cell?_of_block (w := W) h1]
  exact hq

set_option maxRecDepth 100000 in
set_option maxHeartbeats 8000000 in
theorem Hex_any (v : Value) (l : List UInt8) (w : World) (h : BytesAt w v l) (hgd : Gd w) :
    Calls Tryd.prog 22 #[v] w fun e w' => e = .returned (.tuple #[.string ⟨(hexE l).1.toArray⟩, .int .i64 (hexE l).2]) ∧ Below w.heap.size w w' := by
  have h0 := h
  obtain ⟨a, cap, rfl, hlc, hcm, hcell⟩ := h
  obtain ⟨n, hn⟩ : ∃ n, l.length = n := ⟨_, rfl⟩
  have HN := Lib.hid hn
  rw [hn] at hlc ⊢
  clear h0
  have hcm2 : n ≤ 9223372036854775807 := by unfold maxLen at hcm; omega
  by_cases h5 : 100 < n
  · have hd : Hid (hexE l = ([], 3)) := by unfold Hid hexE; rw [if_pos (by omega)]
    clear hn
    go_enter Tryd.func22, Tryd.ntmps22
    go_wp2
    go_ret2
    rw [hd.out]
    exact ⟨rfl, Below.refl _ _⟩
  have hd : Hid (hexE l = (hexL l, 0)) := by unfold Hid hexE; rw [if_neg (by omega)]
  obtain ⟨i0, hi, hz0, hz1, hz2⟩ := info_parts Tryd.infoU8
  obtain ⟨w1, hmk, hown, hgr⟩ := run_make_own (P := Tryd.prog) w w.heap.size 38 5 i0 _ 1 Tryd.underlying38 hi hz0 hz1 .i64 .i64 (2 * n) (by rw [hz2]; omega) (by unfold maxLen; omega) (Nat.le_refl _)
  have hc2 : ((2 * n : Nat) : Int) = 2 * (n : Int) := by omega
  rw [hc2] at hmk
  have hB1 : Below w.heap.size w w1 := (Below.refl w.heap.size w).grown hgr (Nat.le_refl _) (fun k e => by cases e)
  have HC := Lib.hid hcell
  have Hhi := Lib.hid hi
  have Hz0 := Lib.hid hz0
  have Hz1 := Lib.hid hz1
  have Hz2 := Lib.hid hz2
  clear hcell hi hz0 hz1 hz2 hn hc2 hgr
  go_enter Tryd.func22, Tryd.ntmps22
  go_wp2_with fail
  clear hmk
  go_loopw [4, 16] (fun o i wr => ∃ (k : Nat), k ≤ n ∧ i = .int .i64 k ∧ wr.ownsRow w.heap.size 5 1 o (2 * k) (rowU (hexL (l.take k))) ∧ Below w.heap.size w wr) (fun _ i _ => n - (intOf i).toNat)
  case atStart => exact ⟨0, Nat.zero_le _, rfl, hown, hB1⟩
  case round =>
    clear hown hB1
    obtain ⟨k, hk, rfl, hr, hB⟩ := hrel
    by_cases hlt : k < n
    · have hkl : k < l.length := by rw [HN.out]; exact hlt
      obtain ⟨b, off, rfl, hc⟩ := HC.out (by rw [HN.out]; omega)
      obtain ⟨c, hcc⟩ : ∃ c, l[k] = c := ⟨_, rfl⟩
      have hck := hc k hkl
      rw [hcc] at hck
      have hcw := cell_later hB hck
      have hki : (k : Int) < (n : Int) := by omega
      have hcb := c.toNat_lt
      have hrow : Hid (rowU (hexL (l.take (k + 1))) = rowU (hexL (l.take k)) ++ [.int .u8 (hexB (c.toNat / 16)), .int .u8 (hexB (c.toNat % 16))]) := by
        unfold Hid
        rw [List.take_succ_eq_append_getElem hkl, hexL_snoc, hcc]
        have e1 := hx_val (c.toNat / 16) (by omega)
        have e2 := hx_val (c.toNat % 16) (by omega)
        unfold rowU
        rw [List.map_append, ← e1, ← e2]; rfl
      have hand := and15 c
      obtain ⟨hi, hhi⟩ : ∃ x, c.toNat / 16 = x := ⟨_, rfl⟩
      obtain ⟨lo, hlo⟩ : ∃ x, c.toNat % 16 = x := ⟨_, rfl⟩
      rw [hhi, hlo] at hrow
      rw [hlo] at hand
      have d1 : (c.toNat : Int) / 16 = (hi : Int) := by omega
      have hi16 : hi < 16 := by omega
      have lo16 : lo < 16 := by omega
      have g1 := (hgd.dig hi hi16)
      have g2 := (hgd.dig lo lo16)
      have gl := World.block_lt_of_cell? _ _ g1
      have q1 := cell_later hB g1
      have q2 := cell_later hB g2
      obtain ⟨X, hX⟩ : ∃ X, hexB hi = X := ⟨_, rfl⟩
      obtain ⟨Y, hY⟩ : ∃ Y, hexB lo = Y := ⟨_, rfl⟩
      rw [hX] at q1 hrow
      rw [hY] at q2 hrow
      have gl2 : 0 < w.heap.size := gl
      have i1 : (hi : Int) < 16 := by omega
      have i2 : (lo : Int) < 16 := by omega
      have i3 : (0 : Int) ≤ (hi : Int) := by omega
      have i4 : (0 : Int) ≤ (lo : Int) := by omega
      have hr2 := (hr.alloc (.cells #[.int .u8 X, .int .u8 Y] 5)).drew
      have hnews := cell_two_new wr (.int .u8 X) (.int .u8 Y) 5
      have hk1 : 2 * k + 2 ≤ maxLen := by unfold maxLen; omega
      have hk2 : (2 * k + 2) * 1 ≤ 140737488355328 := by omega
      have hk3 : w.heap.size ≤ (wr.alloc (.cells #[.int .u8 X, .int .u8 Y] 5)).drew.heap.size := by have := hB.size; simp; omega
      have HNW2 : Hid (∀ j u, [Value.int .u8 X, Value.int .u8 Y][j]? = some u → (wr.alloc (.cells #[.int .u8 X, .int .u8 Y] 5)).drew.cell? ((⟨wr.heap.size, 0, none⟩ : Addr).add j) = some u) := hnews
      have HN1 : Hid (∀ u ∈ [Value.int .u8 X, Value.int .u8 Y], u.oneCell' = true) := by intro u hu; simp at hu; rcases hu with rfl | rfl <;> rfl
      have HR2 := Lib.hid hr2
      have HK3 := Lib.hid hk3
      have Q1 := Lib.hid q1
      have Q2 := Lib.hid q2
      clear hr2 hnews hk3 hcc hc hck hhi hlo g1 g2 hX hY
      go_wp2_with fail
      first | go_region_held_law (fun w' => w'.cell? ⟨0, hi, none⟩ = some (.int .u8 X) ∧ w'.cell? ⟨0, lo, none⟩ = some (.int .u8 Y)) (first | exact ⟨keep_cell hgrow HR2.out gl2 Q1.out, keep_cell hgrow HR2.out gl2 Q2.out⟩ | go_keep) (first | (refine step_append_lies (hgd := rfl) (t := 38) (ho := rfl) (base := w.heap.size) (e := 5) (i := i0) (z := .int .u8 0) (size := 1) (bytes := 1) (ht := Tryd.underlying38) (hi := Hhi.out) (hz := Hz0.out) (hsize := Hz1.out) (hby := Hz2.out) (hzs := rfl) (hsz := by decide) (v := u4) (n := 2 * k) (hs := rfl) (hown := HR2.out) (ad := ⟨wr.heap.size, 0, none⟩) (m := 2) (c := 2) (news := [.int .u8 X, .int .u8 Y]) (hx := rfl) (hl := rfl) (hnews := HNW2.out) (h1 := HN1.out) (hm := by decide) (h63 := hk1) (hbytes := hk2) (hbase := HK3.out) (hH := rfl) (h := ?_); intro g cap' w4 hown hgrow _ _)) | fail
      have HO := Lib.hid hown
      have hB4 := ((hB.alloc hB.size (.cells #[.int .u8 X, .int .u8 Y] 5)).drew).grown hgrow HK3.out (fun j e => (HR2.out.lt j e).1)
      clear hown hgrow
      go_wp2
      go_roundw
      case rel => exact ⟨k + 1, by omega, by go_num, by rw [hrow.out, show 2 * (k + 1) = 2 * k + 2 from by omega]; exact HO.out, hB4⟩
      case measure => simp [intOf]; omega
    · have hE : Hid (l.take k = l) := List.take_of_length_le (by rw [HN.out]; omega)
      have hkn : k = n := by omega
      have hki : ¬ (k : Int) < (n : Int) := by omega
      rw [hE.out, hkn, show 2 * n = (hexL l).length from by rw [hexL_len, HN.out]] at hr
      have hcv := conv_any (BytesAt.of_row hr)
      have HCV := Lib.hid hcv
      clear hkn hcv
      go_wp2_with fail
      rw [HCV.out]
      go_wp2_with fail
      go_ret2
      rw [hd.out]
      exact ⟨rfl, hB⟩
end Go.Proofs.YtdcgfbebeiheiaaDoor
