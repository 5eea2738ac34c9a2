/- The law of hexadecimal forms: its walk. -/
import Derived.Test.YtdcgfbebeiheiaaDoorShown
import Derived.Test.YtdcgfbebeiheiaaDoorHexV
namespace Go.Proofs.YtdcgfbebeiheiaaDoor
open Go.RowKit

set_option maxRecDepth 100000 in
set_option maxHeartbeats 2000000 in
theorem refHex_of (v : Value) (l : List UInt8) (w : World) (h : BytesAt w v l) :
    Calls Tryd.prog 23 #[v] w fun e w' => e = .returned (.tuple #[.string ⟨(hexE l).1.toArray⟩, .int .i64 (hexE l).2]) ∧ Below w.heap.size w w' := by
  obtain ⟨a, cap, rfl, h1, h2, h3⟩ := h
  rcases Nat.eq_zero_or_pos l.length with h0 | h0
  · have hl : l = [] := List.eq_nil_of_length_eq_zero h0
    subst hl
    have hd : Hid (hexE [] = ([], 0)) := rfl
    rw [hd.out]
    clear h0 h3
    simp only [List.length_nil]
    go_enter Tryd.func23, Tryd.ntmps23
    go_wp2
    refine wp_loop_once ?_
    go_wp2
    go_ret2
    exact ⟨rfl, Below.refl _ _⟩
  · obtain ⟨b, off, rfl, hc⟩ := h3 h0
    exact refHex_any b off cap l h1 h2 w hc

theorem Hex_f (v : Value) (l : List UInt8) (a : BA) (e : Int) (w : World) (h : BytesAt w v l) (hw : Gd w) (he : hexE l = (a.data.toList, e)) :
    Calls Tryd.prog 22 #[v] w fun x w' => x = .returned (.tuple #[.string a, .int .i64 e]) ∧ Below w.heap.size w w' := by
  have h1 := Hex_any v l w h hw
  rw [he] at h1
  rw [show (⟨(a.data.toList, e).1.toArray⟩ : BA) = a from Lib.mk_data a] at h1
  exact h1
theorem refHex_f (v : Value) (l : List UInt8) (a : BA) (e : Int) (w : World) (h : BytesAt w v l) (he : hexE l = (a.data.toList, e)) :
    Calls Tryd.prog 23 #[v] w fun x w' => x = .returned (.tuple #[.string a, .int .i64 e]) ∧ Below w.heap.size w w' := by
  have h1 := refHex_of v l w h
  rw [he] at h1
  rw [show (⟨(a.data.toList, e).1.toArray⟩ : BA) = a from Lib.mk_data a] at h1
  exact h1
theorem ParseHex_f (s : BA) (r : List UInt8) (e : Int) (w : World) (hs : s.size ≤ maxLen) (hw : Gd w) (he : unhexE s.data.toList = (r, e)) :
    Calls Tryd.prog 24 #[.string s] w fun x w' => ∃ v, x = .returned (.tuple #[v, .int .i64 e]) ∧ BytesAt w' v r ∧ Below w.heap.size w w' := by
  have h1 := ParseHex_any s w hs hw
  rw [he] at h1
  exact h1
theorem refParseHex_f (s : BA) (r : List UInt8) (e : Int) (w : World) (hs : s.size ≤ maxLen) (he : unhexE s.data.toList = (r, e)) :
    Calls Tryd.prog 25 #[.string s] w fun x w' => ∃ v, x = .returned (.tuple #[v, .int .i64 e]) ∧ BytesAt w' v r ∧ Below w.heap.size w w' := by
  have h1 := refParseHex_any s w hs
  rw [he] at h1
  exact h1
theorem BytesAt.form {W : World} {v : Value} {l : List UInt8} (h : BytesAt W v l) : ∃ a cap, v = .slice a l.length cap := by
  obtain ⟨a, cap, rfl, _⟩ := h; exact ⟨a, cap, rfl⟩

set_option maxRecDepth 100000 in
set_option maxHeartbeats 8000000 in
theorem law_hex (v : Value) (l : List UInt8) (s : BA) (w : World) (hgd : Gd w) (hv : BytesAt w v l) (hs : s.size ≤ maxLen) :
    Calls Tryd.prog 7 #[v, .string s] w fun e w' => e = .returned (.bool true) ∧ Below w.heap.size w w' := by
  have hs' := hs
  unfold maxLen at hs'
  have hll : l.length ≤ 9223372036854775807 := by obtain ⟨_, _, _, h1, h2, _⟩ := hv; unfold maxLen at h2; omega
  obtain ⟨va, vc, rfl⟩ := hv.form
  obtain ⟨n, hn⟩ : ∃ n, l.length = n := ⟨_, rfl⟩
  rw [hn] at hv hll ⊢
  clear hn
  by_cases h3 : 300 < n
  · go_enter Tryd.func7, Tryd.ntmps7
    go_wp2_with (first | (go_at_call 10; refine (shown_any _ hgd).mono ?_; rintro e w1 ⟨rfl, hB⟩))
    go_ret
    exact ⟨rfl, hB⟩
  by_cases h6 : 600 < s.size
  · go_enter Tryd.func7, Tryd.ntmps7
    go_wp2_with (first | (go_at_call 10; refine (shown_any _ hgd).mono ?_; rintro e w1 ⟨rfl, hB⟩))
    go_ret
    exact ⟨rfl, hB⟩
  obtain ⟨a, e1, ha⟩ : ∃ (a : BA) (e1 : Int), hexE l = (a.data.toList, e1) := ⟨⟨(hexE l).1.toArray⟩, (hexE l).2, rfl⟩
  obtain ⟨r, g1, hr⟩ : ∃ (r : List UInt8) (g1 : Int), unhexE s.data.toList = (r, g1) := ⟨_, _, rfl⟩
  have HA := Lib.hid ha
  have HR := Lib.hid hr
  have HU : Hid (e1 = 0 → unhexE a.data.toList = (l, 0)) := fun h => by
    have := unhex_hex l (by rw [HA.out]; exact h)
    rw [HA.out] at this; exact this
  have HQ : Hid (g1 = 0 → hexE r = (s.data.toList, 0)) := fun h => by
    have := hex_unhex s.data.toList (by rw [HR.out]; exact h)
    rw [HR.out] at this; exact this
  have has : Hid (a.size ≤ maxLen) := by
    unfold Hid
    have h := congrArg (fun x => x.1.length) HA.out
    simp only at h
    rw [← Lib.size_eq] at h
    rw [← h]
    unfold hexE maxLen
    split
    · exact Nat.zero_le _
    · rw [hexL_len]; omega
  obtain ⟨R, hRB⟩ : ∃ R : BA, (⟨r.toArray⟩ : BA) = R := ⟨_, rfl⟩
  obtain ⟨B, hBB⟩ : ∃ B : BA, (⟨l.toArray⟩ : BA) = B := ⟨_, rfl⟩
  have HRB := Lib.hid hRB
  have HBB := Lib.hid hBB
  clear ha hr hRB hBB hs'
  go_enter Tryd.func7, Tryd.ntmps7
  go_wp2_with fail
  refine (Hex_f _ l a e1 _ hv hgd HA.out).mono ?_
  rintro e w1 ⟨rfl, hB1⟩
  have hv1 := hv.later hB1
  go_wp2_with fail
  refine (refHex_f _ l a e1 _ hv1 HA.out).mono ?_
  rintro e w2 ⟨rfl, hB2⟩
  have b2 := hB1.trans (hB2.mono hB1.size)
  have hv2 := hv1.later hB2
  clear hB1 hB2 hv hv1
  go_wp2_with fail
  refine (ParseHex_f s r g1 _ hs (hgd.later b2) HR.out).mono ?_
  rintro e w3 ⟨v3, rfl, hr3, hB3⟩
  have b3 := b2.trans (hB3.mono b2.size)
  have hv3 := hv2.later hB3
  obtain ⟨a3, c3, rfl⟩ := hr3.form
  clear b2 hB3 hv2
  go_wp2_with fail
  refine (refParseHex_f s r g1 _ hs HR.out).mono ?_
  rintro e w4 ⟨v4, rfl, hr4, hB4⟩
  have b4 := b3.trans (hB4.mono b3.size)
  have hv4 := hv3.later hB4
  have hr3b := hr3.later hB4
  obtain ⟨a4, c4, rfl⟩ := hr4.form
  clear b3 hB4 hv3 hr3
  have cv3 := conv_any hr3b
  have cv4 := conv_any hr4
  rw [HRB.out] at cv3 cv4
  have hgd4 := hgd.later b4
  by_cases he : e1 = 0
  · have hu := HU.out he
    have HUu := Lib.hid hu
    clear HU hu
    subst he
    go_wp2_with fail
    all_goals first | (exfalso; simp_all; done) | skip
    refine (ParseHex_f a l 0 _ has.out hgd4 HUu.out).mono ?_
    rintro e w5 ⟨v5, rfl, hl5, hB5⟩
    have b5 := b4.trans (hB5.mono b4.size)
    have hv5 := hv4.later hB5
    have hr5 := hr3b.later hB5
    obtain ⟨a5, c5, rfl⟩ := hl5.form
    have hgd5 := hgd.later b5
    clear b4 hB5 hv4 hr3b hr4 cv3 cv4 hgd4
    have cw1 := conv_any hl5
    have cw2 := conv_any hv5
    rw [HBB.out] at cw1 cw2
    by_cases hg : g1 = 0
    · have hq := HQ.out hg
      have HQq := Lib.hid hq
      clear HQ hq
      subst hg
      go_wp2_with fail
      all_goals first | (exfalso; simp_all; done) | skip
      refine (Hex_f _ r s 0 _ hr5 hgd5 HQq.out).mono ?_
      rintro e w6 ⟨rfl, hB6⟩
      have b6 := b5.trans (hB6.mono b5.size)
      clear b5 hB6 hv5 hr5 hl5 cw1 cw2 hgd5
      go_wp2_with (first | (go_at_call 10; refine (shown_any _ (hgd.later b6)).mono ?_; rintro e w7 ⟨rfl, hB7⟩))
      all_goals first | (exfalso; simp_all; done) | skip
      go_ret
      exact ⟨rfl, b6.trans (hB7.mono b6.size)⟩
    · have hg1 : (g1 == 0) = false := by simp [hg]
      clear HQ hg
      go_wp2_with (first | (go_at_call 10; refine (shown_any _ hgd5).mono ?_; rintro e w7 ⟨rfl, hB7⟩))
      all_goals first | (exfalso; simp_all; done) | skip
      go_ret
      exact ⟨rfl, b5.trans (hB7.mono b5.size)⟩
  · have he1 : (e1 == 0) = false := by simp [he]
    clear HU he
    by_cases hg : g1 = 0
    · have hq := HQ.out hg
      have HQq := Lib.hid hq
      clear HQ hq
      subst hg
      go_wp2_with fail
      all_goals first | (exfalso; simp_all; done) | skip
      refine (Hex_f _ r s 0 _ hr3b hgd4 HQq.out).mono ?_
      rintro e w6 ⟨rfl, hB6⟩
      have b6 := b4.trans (hB6.mono b4.size)
      clear b4 hB6 hv4 hr4 hr3b cv3 cv4 hgd4
      go_wp2_with (first | (go_at_call 10; refine (shown_any _ (hgd.later b6)).mono ?_; rintro e w7 ⟨rfl, hB7⟩))
      all_goals first | (exfalso; simp_all; done) | skip
      go_ret
      exact ⟨rfl, b6.trans (hB7.mono b6.size)⟩
    · have hg1 : (g1 == 0) = false := by simp [hg]
      clear HQ hg
      go_wp2_with (first | (go_at_call 10; refine (shown_any _ hgd4).mono ?_; rintro e w7 ⟨rfl, hB7⟩))
      all_goals first | (exfalso; simp_all; done) | skip
      go_ret
      exact ⟨rfl, b4.trans (hB7.mono b4.size)⟩
end Go.Proofs.YtdcgfbebeiheiaaDoor
