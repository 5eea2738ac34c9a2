/- fitting: the spans of a set in which there is a place. -/
import Derived.Test.YtgljfiihaehedaaFit0
namespace Go.Proofs.Ytgljfiihaehedaa
open Go.RowKit Go.Shelf
attribute [local go_sem] Oper.semAt_some

def fits (m al : Nat) (x : Sp) : Bool := decide (algn x.1 al + m ≤ x.1 + x.2)
theorem filter_take (f : Sp → Bool) (L : List Sp) (k : Nat) (x : Sp) (h : L[k]? = some x) : (L.take (k + 1)).filter f = (L.take k).filter f ++ (if f x = true then [x] else []) := by
  rw [List.take_add_one, h]; simp [List.filter_append, List.filter_cons]
theorem algn_le (p al : Nat) (h : p ≤ 1024) (h1 : al ≤ 1024) : algn p al ≤ 2047 := by
  unfold algn; have := Nat.div_mul_le_self (p + al - 1) al; omega
theorem toI_snoc' (l : List Sp) (x : Sp) : toI (l ++ [x]) = toI l ++ [((x.1 : Int), (x.2 : Int))] := by unfold toI; rw [List.map_append, List.map_singleton]

set_option maxRecDepth 100000 in
set_option maxHeartbeats 4000000 in
theorem fitting_ok (L : List Sp) (hL : SetL 0 L) (m al : Nat) (hm1 : 1 ≤ m) (hm2 : m ≤ 1024) (hal : alB (al : Int) = true) (F : List Sp) (hF : L.filter (fits m al) = F) (c : Int) (hcF : (if F = [] then (4 : Int) else 0) = c) (v : Value) (w : World) (h : SAt w v (toI L)) :
    Calls Try.prog 63 #[v, .int .i64 m, .int .i64 al] w fun e w' => ∃ u, e = .returned (.tuple #[u, .int .i64 c]) ∧ SAt w' u (toI F) ∧ Below w.heap.size w w' := by
  have HC := Lib.hid (chkS_set hL)
  have HF := Lib.hid (fit_nat L hL.val)
  have h64 := len64 h
  obtain ⟨al', hq, ha1, ha2⟩ := alB_nat hal
  have hqq : al' = al := by omega
  subst hqq
  have HAB := Lib.hid hal
  have HAI : Hid (I64 (al' : Int)) := by unfold Hid I64; omega
  obtain ⟨n, hn⟩ : ∃ n, L.length = n := ⟨_, rfl⟩
  have HN := Lib.hid hn
  have HL := Lib.hid hL
  have HFF := Lib.hid hF
  have HCF := Lib.hid hcF
  have hn2 : n ≤ 2000 := by rw [← hn]; exact set_len hL
  have d1 : decide ((m : Int) < 1) = false := by simp; omega
  have d2 : decide ((1024 : Int) < (m : Int)) = false := by simp; omega
  obtain ⟨va, vc, rfl⟩ := h.form
  rw [toI_len, hn] at h h64
  rw [toI_len, hn]
  clear hn hal hq hF hL hcF
  go_enter Try.func63, Try.ntmps63
  go_wp2_with fail
  refine (Check_is _ (toI L) HF.out (by rw [toI_len, HN.out]; exact h64) 0 HC.out _ h).mono ?_
  rintro e w1 ⟨rfl, B1⟩
  have h1 := h.later B1
  go_wp2_with fail
  refine (validAlign_is (al' : Int) HAI.out true HAB.out _).mono ?_
  rintro e w2 ⟨rfl, B2⟩
  have B12 := B1.trans (B2.mono B1.size)
  have h2 := h1.later B2
  clear B1 B2 h1 h
  go_wp2_with fail
  obtain ⟨i0, hi, hz0, hz1, hz2⟩ := info_parts Try.infoSp
  have Hhi := Lib.hid hi
  have Hz0 := Lib.hid hz0
  have Hz1 := Lib.hid hz1
  have Hz2 := Lib.hid hz2
  clear hi hz0 hz1 hz2
  go_loopw [9, 30] (fun v i wr => ∃ (k : Nat) (acc : List Sp), k ≤ n ∧ i = .int .i64 k ∧ SOwn wr w2.heap.size v (toI acc) ∧ Hid ((L.take k).filter (fits m al') = acc) ∧ Below w2.heap.size w2 wr) (fun _ i _ => n - (intOf i).toNat)
  case atStart => exact ⟨0, [], Nat.zero_le _, rfl, World.ownsRow_nil _ _ _ _, rfl, Below.refl _ _⟩
  case round =>
    obtain ⟨k, acc, hk, rfl, hO, HA, hB⟩ := hrel
    by_cases hlt : k < n
    · obtain ⟨⟨a, b'⟩, hx⟩ : ∃ x, L[k]? = some x := ⟨_, List.getElem?_eq_getElem (by rw [HN.out]; exact hlt)⟩
      have vx := (HL.out.val) _ (List.mem_of_getElem? hx)
      obtain ⟨bs, offs, rfl, _, k1, k2⟩ := (h2.later hB).at k _ (toI_some hx)
      simp only at vx k1 k2
      have hi1 : (k : Int) < (n : Int) := by omega
      have va1 : (a : Int) + (b' : Int) ≤ 1024 := by omega
      have hft := filter_take (fits m al') L k _ hx
      rw [HA.out] at hft
      have HEX : Hid (∀ w, Calls Try.prog 52 #[.agg #[.int .i64 (a : Int), .int .i64 (b' : Int)]] w fun e w' => e = .returned (.int .i64 ((a : Int) + (b' : Int))) ∧ Below w.heap.size w w') := fun w => end_is ((a : Int), (b' : Int)) a b' rfl vx.2 w
      obtain ⟨g, hg⟩ : ∃ g, algn a al' = g := ⟨_, rfl⟩
      have hgl : g ≤ 2047 := by rw [← hg]; exact algn_le a al' (by omega) ha2
      have HAL : Hid (∀ w, Calls Try.prog 64 #[.int .i64 (a : Int), .int .i64 (al' : Int)] w fun e w' => e = .returned (.int .i64 (g : Nat)) ∧ Below w.heap.size w w') := fun w => by have := aligned_is a al' (by omega) ha1 ha2 w; rw [hg] at this; exact this
      have HG := Lib.hid hg
      have hlen2 : acc.length ≤ 2000 := by
        rw [← HA.out]
        refine Nat.le_trans (List.length_filter_le _ _) ?_
        rw [List.length_take]; omega
      have hBs := hB.size
      obtain ⟨wX, hwX⟩ : ∃ x, wr.alloc (.cells #[.int .i64 (a : Int), .int .i64 (b' : Int)] 31) = x := ⟨_, rfl⟩
      have hBX : Below wr.heap.size wr wX := by rw [← hwX]; exact (Below.refl _ _).alloc (Nat.le_refl _) _
      have bX : XBox wX wr.heap.size ((a : Int), (b' : Int)) := by rw [← hwX]; exact XBox.new wr ((a : Int), (b' : Int))
      have jO : SOwn wX w2.heap.size _ (toI acc) := World.ownsRow.kept hO (grown_of_below hBX) (Classical.em _)
      have hDX : Below wr.heap.size wr wX := hBX
      have HWX := Lib.hid hwX
      have x0 := bX.c0
      have x1 := bX.c1
      have xl := bX.lt
      have hxs : wX.heap.size = wr.heap.size + 1 := by rw [← hwX]; simp
      simp only at x0 x1
      have hgs : (g : Int) + (m : Int) ≤ 3071 := by omega
      have hwr : IntKind.i64.wrap ((g : Int) + (m : Int)) = (g : Int) + (m : Int) := IntWalk.i64_in _ (by omega)
      obtain ⟨r, hr⟩ : ∃ r, decide (g + m ≤ a + b') = r := ⟨_, rfl⟩
      have HR := Lib.hid hr
      have hr2 : decide ((g : Int) + (m : Int) ≤ (a : Int) + (b' : Int)) = r := by rw [← hr]; apply decide_eq_decide.2; omega
      have hfr : fits m al' (a, b') = r := by unfold fits; simp only; rw [hg]; exact hr
      rw [hfr] at hft
      have HFT := Lib.hid hft
      obtain ⟨n2, hn3⟩ : ∃ n2, (toI acc).length = n2 := ⟨_, rfl⟩
      have HN2 := Lib.hid hn3
      have hn4 : n2 ≤ 2000 := by rw [← hn3, toI_len]; exact hlen2
      obtain ⟨fa, fc, rfl⟩ := SOwn.form hO
      unfold SOwn at jO
      rw [hn3] at jO ⊢
      clear hx hwX hft hfr hr hg hn3 hO hlen2
      cases r
      · go_wp2_with fail
        rw [HWX.out]
        first | go_region_held3 (fun w' => (w'.cell? ⟨wr.heap.size, 0, none⟩ = some (.int .i64 (a : Int)) ∧ w'.cell? ⟨wr.heap.size, 1, none⟩ = some (.int .i64 (b' : Int)))) (first | exact ⟨x0, x1⟩ | exact ⟨u0, u1⟩ | exact ⟨s0, s1⟩) (first | (go_at_call 64; ((with_reducible refine (HAL.out _).mono ?_); rintro e v1 ⟨rfl, B1'⟩; have B1 : Below wX.heap.size wX v1 := ⟨B1'.os, B1'.tape, B1'.output, B1'.size, B1'.block⟩; have D1 := hDX.trans (B1.mono hDX.size); have bX1 := bX.later B1; have u0 := bX1.c0; have u1 := bX1.c1; have jO1 := World.ownsRow.kept jO (grown_of_below B1) (Classical.em _); simp only at u0 u1)) | (go_at_call 52; ((with_reducible refine (HEX.out _).mono ?_); rintro e v2 ⟨rfl, B2'⟩; have B2 : Below v1.heap.size v1 v2 := ⟨B2'.os, B2'.tape, B2'.output, B2'.size, B2'.block⟩; have D2 := D1.trans (B2.mono D1.size); have bX2 := bX1.later B2; have s0 := bX2.c0; have s1 := bX2.c1; have jO2 := World.ownsRow.kept jO1 (grown_of_below B2) (Classical.em _); simp only at s0 s1))) | fail
        go_wp2
        go_roundw
        case rel => exact ⟨k + 1, acc, by omega, by go_num, by unfold SOwn; rw [HN2.out]; exact jO2, by unfold Hid; rw [HFT.out]; simp, hB.trans (D2.mono hBs)⟩
        case measure => simp [intOf]; omega
      · go_wp2_with fail
        rw [HWX.out]
        first | go_region_held3 (fun w' => (w'.cell? ⟨wr.heap.size, 0, none⟩ = some (.int .i64 (a : Int)) ∧ w'.cell? ⟨wr.heap.size, 1, none⟩ = some (.int .i64 (b' : Int)))) (first | exact ⟨x0, x1⟩ | exact ⟨u0, u1⟩ | exact ⟨s0, s1⟩) (first | (go_at_call 64; ((with_reducible refine (HAL.out _).mono ?_); rintro e v1 ⟨rfl, B1'⟩; have B1 : Below wX.heap.size wX v1 := ⟨B1'.os, B1'.tape, B1'.output, B1'.size, B1'.block⟩; have D1 := hDX.trans (B1.mono hDX.size); have bX1 := bX.later B1; have u0 := bX1.c0; have u1 := bX1.c1; have jO1 := World.ownsRow.kept jO (grown_of_below B1) (Classical.em _); simp only at u0 u1)) | (go_at_call 52; ((with_reducible refine (HEX.out _).mono ?_); rintro e v2 ⟨rfl, B2'⟩; have B2 : Below v1.heap.size v1 v2 := ⟨B2'.os, B2'.tape, B2'.output, B2'.size, B2'.block⟩; have D2 := D1.trans (B2.mono D1.size); have bX2 := bX1.later B2; have s0 := bX2.c0; have s1 := bX2.c1; have jO2 := World.ownsRow.kept jO1 (grown_of_below B2) (Classical.em _); simp only at s0 s1))) | fail
        have hDY : Below w2.heap.size w2 v2 := hB.trans (D2.mono hBs)
        have hro := jO2.alloc (.cells #[.int .i64 (a : Int), .int .i64 (b' : Int)] 31)
        have HRO := Lib.hid hro
        have HC1 := Lib.hid (cell_two_new v2 (.int .i64 (a : Int)) (.int .i64 (b' : Int)) 31)
        have hvs := hDY.size
        clear hro jO jO1 jO2 u0 u1 x0 x1
        go_wp2_with (at_builtin; refine wpList_append_own _ rfl _ _ 22 rfl w2.heap.size 31 i0 (.agg #[.int .i64 0, .int .i64 0]) 2 16 Try.underlying22 Hhi.out Hz0.out Hz1.out Hz2.out rfl (by decide) _ _ _ rfl HRO.out ⟨v2.heap.size, 0, none⟩ 1 1 [.int .i64 (a : Int), .int .i64 (b' : Int)] rfl rfl ?c1 ?c2 ?c3 ?c4 ?c5 ?_)
        case c1 => exact HC1.out
        case c2 => intro u hu; simp at hu; rcases hu with rfl | rfl <;> rfl
        case c3 => unfold maxLen; omega
        case c4 => omega
        case c5 => simp; omega
        intro v' w3 hown hgrow _
        obtain ⟨va', vc', rfl⟩ := own_form2 hown
        have hB4 := (hDY.alloc hDY.size (.cells #[.int .i64 (a : Int), .int .i64 (b' : Int)] 31)).grown hgrow (by simp; omega) (fun j e => (HRO.out.lt j e).1)
        have HO := Lib.hid hown
        clear hown hgrow
        go_wp2
        go_roundw
        case rel =>
          refine ⟨k + 1, acc ++ [(a, b')], by omega, by go_num, ?_, by unfold Hid; rw [HFT.out]; simp, hB4⟩
          unfold SOwn
          rw [toI_snoc', List.length_append, HN2.out, rowS_snoc]
          exact HO.out
        case measure => simp [intOf]; omega
    · have hi1 : ¬ ((k : Int) < (n : Int)) := by omega
      have hkn : k = n := by omega
      have hfa : acc = F := by rw [← HA.out, hkn, ← HN.out, List.take_length]; exact HFF.out
      subst hfa
      obtain ⟨n2, hn3⟩ : ∃ n2, (toI acc).length = n2 := ⟨_, rfl⟩
      have HN2 := Lib.hid hn3
      have hn4 : n2 ≤ 2000 := by
        rw [← hn3, toI_len, ← HA.out]
        refine Nat.le_trans (List.length_filter_le _ _) ?_
        rw [List.length_take]; omega
      have hs := SOwn.at hO
      obtain ⟨fa, fc, rfl⟩ := SOwn.form hO
      have HS := Lib.hid hs
      rw [hn3] at hs ⊢
      clear hkn
      by_cases h0 : n2 = 0
      · have hd : ((n2 : Int) == 0) = true := by simp; exact h0
        have H0 := Lib.hid h0
        have he : acc = [] := by have := HN2.out; rw [toI_len, h0] at this; exact List.eq_nil_of_length_eq_zero this
        have hc4 : (4 : Int) = c := by rw [← HCF.out, if_pos he]
        subst hc4
        have HE := Lib.hid he
        clear h0 hn3 he
        go_wp2
        go_ret2
        rw [HE.out]
        exact ⟨_, rfl, nil_at _, B12.trans (hB.mono B12.size)⟩
      · have hd : ((n2 : Int) == 0) = false := by simp; exact h0
        have H0 := Lib.hid h0
        have he : acc ≠ [] := fun e => by subst e; exact H0.out HN2.out.symm
        have hc4 : (0 : Int) = c := by rw [← HCF.out, if_neg he]
        subst hc4
        clear h0 hn3 he
        go_wp2
        go_ret2
        have hs := HS.out
        rw [HN2.out] at hs
        exact ⟨_, rfl, hs, B12.trans (hB.mono B12.size)⟩
end Go.Proofs.Ytgljfiihaehedaa
