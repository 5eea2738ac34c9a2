/- join: the set of the pages that are in one of the lists. -/
import Derived.Test.YtgljfiihaehedaaConcat
import Derived.Test.YtgljfiihaehedaaSort
import Derived.Test.YtgljfiihaehedaaGaps
namespace Go.Proofs.Ytgljfiihaehedaa
open Go.RowKit
attribute [local go_sem] Oper.semAt_some

theorem toI_snoc (l : List Sp) (x : Sp) : toI (l ++ [x]) = toI l ++ [((x.1 : Int), (x.2 : Int))] := by unfold toI; rw [List.map_append, List.map_singleton]
theorem own_storeS {W : World} {base : Nat} {e : TypeId} {g k cap : Nat} {pre : List SpI} {r : SpI} (h : W.ownsRow base e 2 (.slice (some ⟨g, 0, none⟩) (k + 1) cap) (k + 1) (rowS (pre ++ [r]))) (hk : pre.length = k) (c : Int) :
    (W.setCell ⟨g, k * 2 + 1, none⟩ (.int .i64 c)).ownsRow base e 2 (.slice (some ⟨g, 0, none⟩) (k + 1) cap) (k + 1) (rowS (pre ++ [(r.1, c)])) ∧ W.frozen? ⟨g, k * 2 + 1, none⟩ = false ∧ base ≤ g := by
  obtain ⟨hl, ⟨hv, _⟩ | ⟨g', cap', cur, hv, hb, hg, h1, h2, h3, ht⟩⟩ := h
  · cases hv
  · cases hv
    refine ⟨⟨by rw [rowS_len] at hl ⊢; simpa using hl, .inr ⟨g, cap, cur.setIfInBounds (k * 2 + 1) (.int .i64 c), rfl, hb, heap_setCell_same W g _ cur e _ hg, h1, h2, by simpa using h3, ?_⟩⟩, by simp [World.frozen?, hg], hb⟩
    rw [Array.toList_setIfInBounds, List.take_set, ht, rowS_snoc, rowS_snoc, List.set_append_right _ _ (by rw [rowS_len]; omega), rowS_len, show k * 2 + 1 - 2 * pre.length = 1 by omega]
    rfl
theorem unI {l : List SpI} {F : List Sp} (h : (toI F).Perm l) : ∃ S : List Sp, l = toI S ∧ F.Perm S := by
  refine ⟨l.map fun x => (x.1.toNat, x.2.toNat), ?_, ?_⟩
  · unfold toI
    rw [List.map_map]
    have : ∀ x ∈ l, ((fun x : Sp => ((x.1 : Int), (x.2 : Int))) ∘ fun x : SpI => (x.1.toNat, x.2.toNat)) x = x := fun x hx => by
      have h1 := h.mem_iff.2 hx
      unfold toI at h1
      obtain ⟨y, _, rfl⟩ := List.mem_map.1 h1
      rfl
    conv => lhs; rw [← List.map_id l]
    exact List.map_congr_left fun x hx => (this x hx).symm
  · have h2 := h.map fun x : SpI => (x.1.toNat, x.2.toNat)
    have e : (toI F).map (fun x : SpI => (x.1.toNat, x.2.toNat)) = F := by
      unfold toI
      rw [List.map_map]
      conv => rhs; rw [← List.map_id F]
      exact List.map_congr_left fun x _ => rfl
    rw [e] at h2
    exact h2

set_option maxRecDepth 100000 in
set_option maxHeartbeats 4000000 in
theorem join_is (v : Value) (vs : List Value) (Ls : List (List Sp)) (hlen : Ls.length = vs.length) (h2 : vs.length ≤ 2) (hs : ∀ l ∈ Ls, l.length ≤ 2000 ∧ ValL l) (w : World) (hv : VAt w v vs) (hat : ∀ (j : Nat) (x : Value) (l : List Sp), vs[j]? = some x → Ls[j]? = some l → SAt w x (toI l)) :
    Calls Try.prog 48 #[v] w fun e w' => ∃ u M, e = .returned u ∧ SOwn w' w.heap.size u (toI M) ∧ SetL 0 M ∧ (∀ p, inS M p = inS Ls.flatten p) ∧ Below w.heap.size w w' := by
  have hc := Concat_is v vs (Ls.map toI) (by simpa using hlen) h2 (fun l hl => by obtain ⟨m, hm, rfl⟩ := List.mem_map.1 hl; rw [toI_len]; have := (hs m hm).1; omega) w hv (fun j x l hx hl => by
    rw [List.getElem?_map] at hl
    cases hq : Ls[j]? with
    | none => rw [hq] at hl; cases hl
    | some m => rw [hq] at hl; cases hl; exact hat j x m hx hq)
  have hfl : (Ls.map toI).flatten = toI Ls.flatten := by unfold toI; rw [List.map_flatten]
  rw [hfl] at hc
  have hval : ValL Ls.flatten := fun x hx => by
    obtain ⟨l, hl, hx⟩ := List.mem_flatten.1 hx
    exact (hs l hl).2 x hx
  have hl4 : Ls.flatten.length ≤ 4000 := by
    have h1 := sumL_le (Ls.map toI) (fun l hl => by obtain ⟨m, hm, rfl⟩ := List.mem_map.1 hl; rw [toI_len]; have := (hs m hm).1; omega)
    have h3 : ∀ (A : List (List Sp)), (∀ l ∈ A, l.length ≤ 2000) → A.flatten.length ≤ 2000 * A.length := by
      intro A
      induction A with
      | nil => intro _; simp
      | cons a r ih =>
        intro h
        have h4 := h a (by simp)
        have h5 := ih (fun l hl => h l (by simp [hl]))
        rw [List.flatten_cons, List.length_append, List.length_cons]; omega
    have h6 := h3 Ls (fun l hl => (hs l hl).1)
    rw [hlen] at h6
    omega
  obtain ⟨F, hF⟩ : ∃ F, Ls.flatten = F := ⟨_, rfl⟩
  rw [hF] at hc hval hl4 ⊢
  have HCO := Lib.hid hc
  obtain ⟨b, off, cap, rfl, hcv⟩ := hv
  clear hc hat hs hfl hF hcv hlen
  go_enter Try.func48, Try.ntmps48
  go_wp2_with fail
  refine HCO.out.mono ?_
  rintro e w1 ⟨u, rfl, hu, B1⟩
  obtain ⟨ua, uc, rfl⟩ := SOwn.form hu
  go_wp2_with fail
  refine (sort_is w.heap.size _ (toI F) (by rw [toI_len]; omega) _ hu).mono ?_
  rintro e w2 ⟨rfl, l', hl', hperm, hsrt, B2⟩
  obtain ⟨S, rfl, hFS⟩ := unI hperm
  have hlS : S.length = F.length := hFS.length_eq.symm
  rw [toI_len] at hl' ⊢
  rw [← hlS] at hl' ⊢ hl4
  obtain ⟨n, hn⟩ : ∃ n, S.length = n := ⟨_, rfl⟩
  have HN := Lib.hid hn
  have hvS : ValL S := fun x hx => hval x (hFS.mem_iff.2 hx)
  have hsS : ∀ (i j : Nat) (x y : Sp), i < j → S[i]? = some x → S[j]? = some y → x.1 ≤ y.1 := fun i j x y hij hx hy => by
    have := hsrt i j _ _ hij (toI_some hx) (toI_some hy)
    simp only at this; omega
  have HSS := Lib.hid hsS
  have HPM := Lib.hid hFS
  have B12 := B1.trans B2
  rw [hn] at hl' hl4 ⊢
  clear hperm hsrt hFS hlS hn hsS hu B1 B2 HCO
  go_wp2_with fail
  obtain ⟨i0, hi, hz0, hz1, hz2⟩ := info_parts Try.infoSp
  have Hhi := Lib.hid hi
  have Hz0 := Lib.hid hz0
  have Hz1 := Lib.hid hz1
  have Hz2 := Lib.hid hz2
  clear hi hz0 hz1 hz2
  go_loopw [4, 14] (fun v i wr => ∃ (k : Nat) (acc : List Sp), k ≤ n ∧ i = .int .i64 k ∧ SOwn wr w2.heap.size v (toI acc) ∧ JInv (S.take k) acc ∧ Hid (∀ y x, acc.getLast? = some y → S[k]? = some x → y.1 ≤ x.1) ∧ Below w2.heap.size w2 wr) (fun _ i _ => n - (intOf i).toNat)
  case atStart => exact ⟨0, [], Nat.zero_le _, rfl, World.ownsRow_nil _ _ _ _, JInv.start, (fun y x h _ => by simp at h), Below.refl _ _⟩
  case round =>
    obtain ⟨k, acc, hk, rfl, hO, hJ, HLS, hB⟩ := hrel
    by_cases hlt : k < n
    · obtain ⟨⟨a, b'⟩, hx⟩ : ∃ x, S[k]? = some x := ⟨_, List.getElem?_eq_getElem (by rw [HN.out]; exact hlt)⟩
      have vx := hvS _ (List.mem_of_getElem? hx)
      obtain ⟨bs, offs, rfl, _, k1, k2⟩ := (hl'.later hB).at k _ (toI_some hx)
      simp only at vx k1 k2
      have hi1 : (k : Int) < (n : Int) := by omega
      have va1 : (a : Int) + (b' : Int) ≤ 1024 := by omega
      have hst := hJ.step (x := (a, b')) vx (fun y hy => HLS.out y _ hy hx)
      have htk : S.take (k + 1) = S.take k ++ [(a, b')] := by rw [List.take_add_one, hx]; rfl
      rw [← htk] at hst
      have HST := Lib.hid hst
      have HNX : Hid (∀ y x, (joinStep acc (a, b')).getLast? = some y → S[k + 1]? = some x → y.1 ≤ x.1) := fun y x hy hx2 => Nat.le_trans (hst.2 y hy) (HSS.out k (k + 1) _ _ (by omega) hx hx2)
      have HEX : Hid (∀ w, Calls Try.prog 52 #[.agg #[.int .i64 (a : Int), .int .i64 (b' : Int)]] w fun e w' => e = .returned (.int .i64 ((a : Int) + (b' : Int))) ∧ Below w.heap.size w w') := fun w => end_is ((a : Int), (b' : Int)) a b' rfl vx.2 w
      have hlen := hJ.len
      have hlen2 : acc.length ≤ 4000 := by rw [List.length_take] at hlen; omega
      have hBs := hB.size
      obtain ⟨wX, hwX⟩ : ∃ x, wr.alloc (.cells #[.int .i64 (a : Int), .int .i64 (b' : Int)] 31) = x := ⟨_, rfl⟩
      have hBX : Below wr.heap.size wr wX := by rw [← hwX]; exact (Below.refl _ _).alloc (Nat.le_refl _) _
      have bX : XBox wX wr.heap.size ((a : Int), (b' : Int)) := by rw [← hwX]; exact XBox.new wr ((a : Int), (b' : Int))
      have jO : SOwn wX w2.heap.size _ (toI acc) := World.ownsRow.kept hO (grown_of_below hBX) (Classical.em _)
      have hDX := hB.trans (hBX.mono hBs)
      have HWX := Lib.hid hwX
      have x0 := bX.c0
      have x1 := bX.c1
      have xl := bX.lt
      have hxs : wX.heap.size = wr.heap.size + 1 := by rw [← hwX]; simp
      simp only at x0 x1
      have HLX : Hid (∀ y, acc.getLast? = some y → y.1 ≤ a) := fun y hy => HLS.out y _ hy hx
      clear hst htk hx hwX hlen
      cases hla : acc.getLast? with
      | none =>
        have he : acc = [] := List.getLast?_eq_none_iff.1 hla
        subst he
        replace hO : wr.ownsRow w2.heap.size 31 2 _ 0 [] := hO
        obtain ⟨va, vc, rfl⟩ := own_form2 hO
        have HJ0 : Hid (joinStep [] (a, b') = [(a, b')]) := rfl
        clear hla
        go_wp2_with fail
        rw [HWX.out]
        go_quiet (fail)
        generalize hwY : World.drewN wX _ = wY
        have hYs : wY.heap.size = wr.heap.size + 1 := by rw [← hwY]; exact hxs
        have hBY : Below w2.heap.size w2 wY := by rw [← hwY]; exact below_drewN hDX _
        have hOY : wY.ownsRow w2.heap.size 31 2 (.slice va 0 vc) 0 [] := by rw [← hwY]; exact jO
        have y0 : wY.cell? ⟨wr.heap.size, 0, none⟩ = some (.int .i64 (a : Int)) := by rw [← hwY]; exact x0
        have y1 : wY.cell? ⟨wr.heap.size, 1, none⟩ = some (.int .i64 (b' : Int)) := by rw [← hwY]; exact x1
        have hr2 := hOY.alloc (.cells #[.int .i64 (a : Int), .int .i64 (b' : Int)] 31)
        have HR2 := Lib.hid hr2
        have hc1 := cell_two_new wY (.int .i64 (a : Int)) (.int .i64 (b' : Int)) 31
        rw [hYs] at hc1
        have HC1 := Lib.hid hc1
        clear hwY hr2 hc1 hO jO x0 x1
        go_wp2_with (at_builtin; refine wpList_append_own _ rfl _ _ 22 rfl w2.heap.size 31 i0 (.agg #[.int .i64 0, .int .i64 0]) 2 16 Try.underlying22 Hhi.out Hz0.out Hz1.out Hz2.out rfl (by decide) _ _ _ rfl HR2.out ⟨wr.heap.size + 1, 0, none⟩ 1 1 [.int .i64 (a : Int), .int .i64 (b' : Int)] rfl rfl ?c1 ?c2 ?c3 ?c4 ?c5 ?_)
        case c1 => exact HC1.out
        case c2 => intro u hu; simp at hu; rcases hu with rfl | rfl <;> rfl
        case c3 => unfold maxLen; omega
        case c4 => omega
        case c5 => have := hBY.size; simp; omega
        intro v' w3 hown hgrow _
        obtain ⟨va', vc', rfl⟩ := own_form2 hown
        have hB4 := (hBY.alloc hBY.size (.cells #[.int .i64 (a : Int), .int .i64 (b' : Int)] 31)).grown hgrow (by have := hBY.size; simp; omega) (fun j e => (HR2.out.lt j e).1)
        have HO := Lib.hid hown
        have hJn := HST.out.1
        have hNn := HNX.out
        rw [HJ0.out] at hJn hNn
        have HJn := Lib.hid hJn
        have HNn := Lib.hid hNn
        clear hown hgrow hJn hNn
        go_wp2
        go_roundw
        case rel => exact ⟨k + 1, [(a, b')], by omega, by go_num, HO.out, HJn.out, HNn.out, hB4⟩
        case measure => simp [intOf]; omega
      | some y =>
        obtain ⟨pre, rfl⟩ := List.getLast?_eq_some_iff.1 hla
        obtain ⟨yp, yq⟩ := y
        have vy := hJ.set.val (yp, yq) (by simp)
        simp only at vy
        obtain ⟨m, hm⟩ : ∃ m, pre.length = m := ⟨_, rfl⟩
        have hmL : (toI (pre ++ [(yp, yq)])).length = m + 1 := by rw [toI_len, List.length_append, hm]; rfl
        have hym : (toI (pre ++ [(yp, yq)]))[m]? = some ((yp : Int), (yq : Int)) := toI_some (show (pre ++ [(yp, yq)])[m]? = some (yp, yq) by rw [← hm]; simp)
        obtain ⟨va, vc, rfl⟩ := own_form2 hO
        have hat0 := SOwn.at jO
        have jO2 := jO
        unfold SOwn at jO2
        rw [hmL] at hat0 jO2 ⊢
        obtain ⟨g, go, hgv, hgl, r1, r2⟩ := hat0.at m _ hym
        subst hgv
        have hgo : go = 0 := by
          obtain ⟨_, ⟨hv, _⟩ | ⟨g', c', cur, hv, _⟩⟩ := jO2
          · cases hv
          · cases hv; rfl
        subst hgo
        rw [Nat.zero_add] at r1 r2
        simp only at r1 r2
        have hm4 : m ≤ 4000 := by rw [List.length_append] at hlen2; simp at hlen2; omega
        have vy1 : (yp : Int) + (yq : Int) ≤ 1024 := by omega
        have hi5 : (m : Int) < (m : Int) + 1 := by omega
        have HEY : Hid (∀ w, Calls Try.prog 52 #[.agg #[.int .i64 (yp : Int), .int .i64 (yq : Int)]] w fun e w' => e = .returned (.int .i64 ((yp : Int) + (yq : Int))) ∧ Below w.heap.size w w') := fun w => end_is ((yp : Int), (yq : Int)) yp yq rfl vy.2 w
        have HML := Lib.hid hmL
        have HPL := Lib.hid hm
        have HLA := Lib.hid hla
        clear hmL hm hla hym hat0
        by_cases hgt : yp + yq < a
        · have HJ1 : Hid (joinStep (pre ++ [(yp, yq)]) (a, b') = pre ++ [(yp, yq)] ++ [(a, b')]) := by unfold Hid joinStep; rw [HLA.out]; simp only; rw [if_pos hgt]
          have hgt1 : (yp : Int) + (yq : Int) < (a : Int) := by omega
          have hgd : decide ((yp : Int) + (yq : Int) < (a : Int)) = true := by simpa using hgt1
          have hmn : decide ((m : Int) < 0) = false := by simp
          clear hgt
          go_wp2_with fail
          rw [HWX.out]
          first | go_region_held3 (fun w' => w'.cell? ⟨wr.heap.size, 0, none⟩ = some (.int .i64 (a : Int)) ∧ w'.cell? ⟨g, m * 2, none⟩ = some (.int .i64 (yp : Int)) ∧ w'.cell? ⟨g, m * 2 + 1, none⟩ = some (.int .i64 (yq : Int))) (first | exact ⟨x0, r1, r2⟩ | exact ⟨s0, s1, s2⟩) (first | (go_at_call 52; ((with_reducible refine (HEY.out _).mono ?_); rintro e w3 ⟨rfl, hB3'⟩; have hB3 : Below wX.heap.size wX w3 := ⟨hB3'.os, hB3'.tape, hB3'.output, hB3'.size, hB3'.block⟩; have bX3 := bX.later hB3; have s0 := bX3.c0; have s3 := bX3.c1; have s1 := cell_later hB3 r1; have s2 := cell_later hB3 r2; simp only at s0 s3))) | fail
          all_goals
            have hO3 : w3.ownsRow w2.heap.size 31 2 (.slice (some ⟨g, 0, none⟩) (m + 1) vc) (m + 1) (rowS (toI (pre ++ [(yp, yq)]))) := World.ownsRow.kept jO2 (grown_of_below hB3) (Classical.em _)
            have hB33 : Below w2.heap.size w2 w3 := hDX.trans (hB3.mono hDX.size)
            have hr2 := hO3.alloc (.cells #[.int .i64 (a : Int), .int .i64 (b' : Int)] 31)
            have HR2 := Lib.hid hr2
            have HC1 := Lib.hid (cell_two_new w3 (.int .i64 (a : Int)) (.int .i64 (b' : Int)) 31)
            clear hr2 hO3 x0 x1 r1 r2 s1 s2
            go_wp2_with (at_builtin; refine wpList_append_own _ rfl _ _ 22 rfl w2.heap.size 31 i0 (.agg #[.int .i64 0, .int .i64 0]) 2 16 Try.underlying22 Hhi.out Hz0.out Hz1.out Hz2.out rfl (by decide) _ _ _ rfl HR2.out ⟨w3.heap.size, 0, none⟩ 1 1 [.int .i64 (a : Int), .int .i64 (b' : Int)] rfl rfl ?c1 ?c2 ?c3 ?c4 ?c5 ?_)
            case c1 => exact HC1.out
            case c2 => intro u hu; simp at hu; rcases hu with rfl | rfl <;> rfl
            case c3 => unfold maxLen; omega
            case c4 => omega
            case c5 => have := hB33.size; simp; omega
            intro v' w4 hown hgrow _
            obtain ⟨va', vc', rfl⟩ := own_form2 hown
            have hB4 := (hB33.alloc hB33.size (.cells #[.int .i64 (a : Int), .int .i64 (b' : Int)] 31)).grown hgrow (by have := hB33.size; simp; omega) (fun j e => (HR2.out.lt j e).1)
            have HO := Lib.hid hown
            have hJn := HST.out.1
            have hNn := HNX.out
            rw [HJ1.out] at hJn hNn
            have HJn := Lib.hid hJn
            have HNn := Lib.hid hNn
            clear hown hgrow hJn hNn
            go_wp2
            go_roundw
            case rel =>
              refine ⟨k + 1, pre ++ [(yp, yq)] ++ [(a, b')], by omega, by go_num, ?_, HJn.out, HNn.out, hB4⟩
              have e1 : toI (pre ++ [(yp, yq)] ++ [(a, b')]) = toI (pre ++ [(yp, yq)]) ++ [((a : Int), (b' : Int))] := by unfold toI; rw [List.map_append, List.map_singleton]
              unfold SOwn
              rw [e1, List.length_append, HML.out, rowS_snoc]
              exact HO.out
            case measure => simp [intOf]; omega
        · have hyx : yp ≤ a := HLX.out _ HLA.out
          obtain ⟨mx, hmx⟩ : ∃ z, max yq (a + b' - yp) = z := ⟨_, rfl⟩
          have HJ1 : Hid (joinStep (pre ++ [(yp, yq)]) (a, b') = pre ++ [(yp, mx)]) := by unfold Hid joinStep; rw [HLA.out]; simp only; rw [if_neg hgt, List.dropLast_concat, hmx]
          have hgt1 : ¬ ((yp : Int) + (yq : Int) < (a : Int)) := by omega
          have hgd : decide ((yp : Int) + (yq : Int) < (a : Int)) = false := by simpa using hgt1
          have hmn : decide ((m : Int) < 0) = false := by simp
          have hwd : IntKind.i64.wrap ((a : Int) + (b' : Int) - (yp : Int)) = (a : Int) + (b' : Int) - (yp : Int) := IntWalk.i64_in _ (by omega)
          have hif : (if (yq : Int) < (a : Int) + (b' : Int) - (yp : Int) then (a : Int) + (b' : Int) - (yp : Int) else (yq : Int)) = (mx : Int) := by split <;> omega
          have hmx2 : max (yq : Int) ((a : Int) + (b' : Int) - (yp : Int)) = (mx : Int) := by omega
          clear hgt hmx
          go_wp2_with fail
          rw [HWX.out]
          first | go_region_held3 (fun w' => w'.cell? ⟨wr.heap.size, 0, none⟩ = some (.int .i64 (a : Int)) ∧ w'.cell? ⟨g, m * 2, none⟩ = some (.int .i64 (yp : Int)) ∧ w'.cell? ⟨g, m * 2 + 1, none⟩ = some (.int .i64 (yq : Int))) (first | exact ⟨x0, r1, r2⟩ | exact ⟨s0, s1, s2⟩) (first | (go_at_call 52; ((with_reducible refine (HEY.out _).mono ?_); rintro e w3 ⟨rfl, hB3'⟩; have hB3 : Below wX.heap.size wX w3 := ⟨hB3'.os, hB3'.tape, hB3'.output, hB3'.size, hB3'.block⟩; have bX3 := bX.later hB3; have s0 := bX3.c0; have s3 := bX3.c1; have s1 := cell_later hB3 r1; have s2 := cell_later hB3 r2; simp only at s0 s3))) | fail
          have jO3 : w3.ownsRow w2.heap.size 31 2 (.slice (some ⟨g, 0, none⟩) (m + 1) vc) (m + 1) (rowS (toI pre ++ [((yp : Int), (yq : Int))])) := by
            have h := World.ownsRow.kept jO2 (grown_of_below hB3) (Classical.em _)
            rw [toI_snoc] at h
            exact h
          have hplen : (toI pre).length = m := by rw [toI_len]; exact HPL.out
          go_wp2_with fail
          first | go_region_with ((go_at_call 52; refine (HEX.out _).mono ?_; rintro e w4 ⟨rfl, hB4'⟩; have hB4 : Below w3.heap.size w3 w4 := ⟨hB4'.os, hB4'.tape, hB4'.output, hB4'.size, hB4'.block⟩; have u1 := cell_later hB4 s1; have u2 := cell_later hB4 s2; have hO4 := World.ownsRow.kept jO3 (grown_of_below hB4) (Classical.em _); have hfz := (own_storeS hO4 hplen 0).2.1)) | fail
          all_goals
            obtain ⟨s5, _, hbg⟩ := own_storeS hO4 hplen (mx : Int)
            have hB44 : Below w2.heap.size w2 w4 := hDX.trans ((hB3.mono hDX.size).trans (hB4.mono (Nat.le_trans hDX.size hB3.size)))
            have hJn := HST.out.1
            have hNn := HNX.out
            rw [HJ1.out] at hJn hNn
            have HJn := Lib.hid hJn
            have HNn := Lib.hid hNn
            have HS5 := Lib.hid s5
            clear hJn hNn s5 hO4 hfz
            go_wp2
            go_roundw
            case rel =>
              refine ⟨k + 1, pre ++ [(yp, mx)], by omega, by go_num, ?_, HJn.out, HNn.out, hB44.setCell hbg _⟩
              unfold SOwn
              rw [toI_snoc, List.length_append, toI_len, HPL.out]
              exact HS5.out
            case measure => simp [intOf]; omega
    · have hkn : k = n := by omega
      have hset := hJ.set
      have hpg := hJ.pages
      rw [hkn, ← HN.out, List.take_length] at hpg
      obtain ⟨va, vc, rfl⟩ := own_form2 hO
      have HP := Lib.hid hpg
      have HSt := Lib.hid hset
      have HO := Lib.hid hO
      clear hpg hset hO hkn
      go_wp2
      go_ret
      exact ⟨_, acc, rfl, own_base HO.out B12.size, HSt.out, fun p => by rw [HP.out]; exact (inS_perm HPM.out p).symm, B12.trans (hB.mono B12.size)⟩
end Go.Proofs.Ytgljfiihaehedaa
