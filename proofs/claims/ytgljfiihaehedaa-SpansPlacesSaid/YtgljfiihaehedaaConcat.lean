/- slices.Grow, slices.Concat. -/
import Derived.Test.YtgljfiihaehedaaGap1
import Derived.Test.YtgljfiihaehedaaShelf
import Derived.Maps.AppendAt
import Derived.Deep.AppendLies
import Derived.Laws.AppendOwnNone
namespace Go.Proofs.Ytgljfiihaehedaa
open Go.RowKit
attribute [local go_sem] Oper.semAt_some

set_option maxRecDepth 100000 in
set_option maxHeartbeats 1000000 in
theorem Grow_is (n : Nat) (hn : n ≤ 4000000) (w : World) :
    Calls Try.prog 83 #[.slice none 0 0, .int .i64 n] w fun e w' => ∃ u, e = .returned u ∧ w'.ownsRow w.heap.size 31 2 u 0 [] ∧ Below w.heap.size w w' := by
  by_cases h0 : n = 0
  · subst h0
    go_enter Try.func83, Try.ntmps83
    go_wp2
    go_ret
    exact ⟨_, rfl, World.ownsRow_nil _ _ _ _, Below.refl _ _⟩
  · obtain ⟨i0, hi, hz0, hz1, hz2⟩ := info_parts Try.infoSp
    have hcon := Any8.slices_Grow_grow Try.growSp i0 _ hi hz0 (by rw [hz1]; decide) none 0 0 n [] w (Nat.le_refl _) (by omega) (by rw [hz2]; omega) (by omega) (by simp) (fun _ => rfl) (fun a h => by cases h)
    change Calls Try.prog 83 _ _ _ at hcon
    refine hcon.mono ?_
    rintro e w' ⟨rfl, rfl⟩
    have hge := grownCap_ge w n 0 (Try.growSp_ren.t 25)
    refine ⟨_, rfl, World.ownsRow_made w.drew _ _ (Nat.le_refl _) (grownCap_le_maxLen w _ _ _ (by unfold maxLen; omega)) ?_, (Below.refl _ w).drew.alloc (Nat.le_refl _) _⟩
    simp [Builtin.zeroCells, Value.cells]
    omega

theorem rowS_cells {W : World} {b o : Nat} {l : List SpI} (hc : ∀ (j : Nat) (x : SpI), l[j]? = some x → W.cell? ⟨b, o + j * 2, none⟩ = some (.int .i64 x.1) ∧ W.cell? ⟨b, o + j * 2 + 1, none⟩ = some (.int .i64 x.2)) : ∀ j u, (rowS l)[j]? = some u → W.cell? ((⟨b, o, none⟩ : Addr).add j) = some u := by
  intro j u hu
  have hj : j < 2 * l.length := by have := (List.getElem?_eq_some_iff.1 hu).1; rwa [rowS_len] at this
  obtain ⟨x, hx⟩ : ∃ x, l[j / 2]? = some x := ⟨_, List.getElem?_eq_getElem (by omega)⟩
  obtain ⟨r1, r2⟩ := rowS_at l (j / 2) x hx
  obtain ⟨k1, k2⟩ := hc (j / 2) x hx
  rcases Nat.mod_two_eq_zero_or_one j with h0 | h0
  · rw [show 2 * (j / 2) = j by omega, hu] at r1
    rw [show o + j / 2 * 2 = o + j by omega] at k1
    rw [show (Addr.add ⟨b, o, none⟩ j) = ⟨b, o + j, none⟩ by simp [Addr.add], k1, ← r1]
  · rw [show 2 * (j / 2) + 1 = j by omega, hu] at r2
    rw [show o + j / 2 * 2 + 1 = o + j by omega] at k2
    rw [show (Addr.add ⟨b, o, none⟩ j) = ⟨b, o + j, none⟩ by simp [Addr.add], k2, ← r2]
theorem rowS_one (l : List SpI) : ∀ u ∈ rowS l, u.oneCell' = true := by
  intro u hu
  unfold rowS at hu
  obtain ⟨x, _, hx⟩ := List.mem_flatMap.1 hu
  simp at hx
  rcases hx with rfl | rfl <;> rfl
/-- A slice value that reads as a list of slices. -/
def VAt (W : World) (v : Value) (vs : List Value) : Prop := ∃ b off cap, v = .slice (some ⟨b, off, none⟩) vs.length cap ∧ ∀ (j : Nat) (x : Value), vs[j]? = some x → W.cell? ⟨b, off + j, none⟩ = some x
theorem VAt.later {w w' : World} {v : Value} {vs : List Value} (h : VAt w v vs) (hb : Below w.heap.size w w') : VAt w' v vs := by
  obtain ⟨b, off, cap, rfl, hc⟩ := h
  exact ⟨b, off, cap, rfl, fun j x hx => cell_later hb (hc j x hx)⟩
def sumL (ls : List (List SpI)) : Nat := (ls.map List.length).sum
theorem sumL_snoc (ls : List (List SpI)) (k : Nat) (l : List SpI) (h : ls[k]? = some l) : sumL (ls.take (k + 1)) = sumL (ls.take k) + l.length := by
  unfold sumL; rw [List.take_add_one, h]; simp
theorem sumL_le (ls : List (List SpI)) (h : ∀ l ∈ ls, l.length ≤ 100000) : sumL ls ≤ 100000 * ls.length := by
  induction ls with
  | nil => simp [sumL]
  | cons a r ih =>
    have h1 := h a (by simp)
    have h2 := ih (fun l hl => h l (by simp [hl]))
    unfold sumL at h2 ⊢
    rw [List.map_cons, List.sum_cons, List.length_cons]; omega
theorem flat_snoc (ls : List (List SpI)) (k : Nat) (l : List SpI) (h : ls[k]? = some l) : (ls.take (k + 1)).flatten = (ls.take k).flatten ++ l := by
  rw [List.take_add_one, h]; simp
theorem flat_len (ls : List (List SpI)) : ls.flatten.length = sumL ls := by unfold sumL; rw [List.length_flatten]

set_option maxRecDepth 100000 in
set_option maxHeartbeats 4000000 in
theorem Concat_is (v : Value) (vs : List Value) (ls : List (List SpI)) (hlen : ls.length = vs.length) (h2 : vs.length ≤ 2) (hs : ∀ l ∈ ls, l.length ≤ 100000) (w : World) (hv : VAt w v vs) (hat : ∀ (j : Nat) (x : Value) (l : List SpI), vs[j]? = some x → ls[j]? = some l → SAt w x l) :
    Calls Try.prog 74 #[v] w fun e w' => ∃ u, e = .returned u ∧ SOwn w' w.heap.size u ls.flatten ∧ Below w.heap.size w w' := by
  obtain ⟨b, off, cap, rfl, hc⟩ := hv
  obtain ⟨n, hn⟩ : ∃ n, vs.length = n := ⟨_, rfl⟩
  have HN := Lib.hid hn
  rw [hn] at h2 ⊢
  clear hn
  go_enter Try.func74, Try.ntmps74
  go_wp2_with fail
  have hL : ∀ k, sumL (ls.take k) ≤ 200000 := fun k => by
    have h3 := sumL_le (ls.take k) (fun l hl => hs l (List.mem_of_mem_take hl))
    have h4 : (ls.take k).length ≤ 2 := by rw [List.length_take, hlen, HN.out]; omega
    omega
  have HL := Lib.hid hL
  clear hL
  have pick : ∀ k, k < n → ∃ x l, vs[k]? = some x ∧ ls[k]? = some l := fun k hk => ⟨_, _, List.getElem?_eq_getElem (by rw [HN.out]; exact hk), List.getElem?_eq_getElem (by rw [hlen, HN.out]; exact hk)⟩
  have PK := Lib.hid pick
  have HLN : Hid (ls.length = n) := hlen.trans HN.out
  have HAT := Lib.hid hat
  have HC := Lib.hid hc
  clear pick hlen hat hc
  go_loop [3, 11] (fun z i => ∃ k : Nat, k ≤ n ∧ i = .int .i64 k ∧ z = .int .i64 (sumL (ls.take k) : Nat)) (fun _ i => n - (intOf i).toNat)
  case atStart => exact ⟨0, Nat.zero_le _, rfl, rfl⟩
  case round =>
    obtain ⟨k, hk, rfl, rfl⟩ := hrel
    by_cases hlt : k < n
    · obtain ⟨x, l, hx, hl⟩ := PK.out k hlt
      have hcell := HC.out k x hx
      obtain ⟨a, c, rfl⟩ := (HAT.out k x l hx hl).form
      have hsn := sumL_snoc ls k l hl
      have b1 := HL.out (k + 1)
      obtain ⟨s0, hs0⟩ : ∃ z, sumL (ls.take k) = z := ⟨_, rfl⟩
      obtain ⟨ll, hll⟩ : ∃ z, l.length = z := ⟨_, rfl⟩
      rw [hs0, hll] at hsn
      rw [hll] at hcell
      rw [hsn] at b1
      rw [hs0]
      have HS := Lib.hid hsn
      have hi1 : (k : Int) < (n : Int) := by omega
      clear hsn hx hl hs0 hll
      go_wp2
      go_round
      case rel => exact ⟨k + 1, by omega, by go_num, by rw [HS.out]; go_num⟩
      case measure => simp [intOf]; omega
    · have hkn : k = n := by omega
      have hsz : sumL (ls.take k) = sumL ls := by rw [hkn, ← HLN.out, List.take_length]
      have b1 := HL.out k
      obtain ⟨s0, hs0⟩ : ∃ z, sumL (ls.take k) = z := ⟨_, rfl⟩
      rw [hs0] at b1 hsz
      rw [hs0]
      have HSZ := Lib.hid hsz
      clear hsz hs0 hkn
      go_wp2_with fail
      refine (Grow_is s0 (by omega) _).mono ?_
      rintro e w1 ⟨u, rfl, hu, B1⟩
      obtain ⟨ua, uc, rfl⟩ := own_form2 hu
      go_wp2_with fail
      obtain ⟨i0, hi, hz0, hz1, hz2⟩ := info_parts Try.infoSp
      have Hhi := Lib.hid hi
      have Hz0 := Lib.hid hz0
      have Hz1 := Lib.hid hz1
      have Hz2 := Lib.hid hz2
      clear hi hz0 hz1 hz2
      go_loopw [6, 27] (fun v i wr => ∃ j : Nat, j ≤ n ∧ i = .int .i64 j ∧ SOwn wr w.heap.size v (ls.take j).flatten ∧ Below w.heap.size w wr) (fun _ i _ => n - (intOf i).toNat)
      case atStart => exact ⟨0, Nat.zero_le _, rfl, hu, B1⟩
      case round =>
        obtain ⟨j, hj, rfl, hO, hB⟩ := hrel
        by_cases hlt2 : j < n
        · obtain ⟨x, l, hx, hl⟩ := PK.out j hlt2
          have hcell := cell_later hB (HC.out j x hx)
          have hfl := flat_snoc ls j l hl
          have hln := HL.out (j + 1)
          rw [← flat_len, hfl, List.length_append] at hln
          obtain ⟨va, vc, rfl⟩ := own_form2 hO
          have hi1 : (j : Int) < (n : Int) := by omega
          have hsz := hB.size
          have HF := Lib.hid hfl
          have hx0 := HAT.out j x l hx hl
          clear hfl hx hl
          obtain ⟨m, hm⟩ : ∃ m, (ls.take j).flatten.length = m := ⟨_, rfl⟩
          rw [hm] at hln
          have hO2 : wr.ownsRow w.heap.size 31 2 (.slice va m vc) m (rowS (ls.take j).flatten) := by rw [← hm]; exact hO
          have HM := Lib.hid hm
          have HO := Lib.hid hO2
          rw [hm]
          clear hO hO2 hm
          rcases hx0 with ⟨rfl, rfl⟩ | ⟨b2, o2, c2, rfl, h1, h2', hcs⟩
          · go_wp2_with (at_builtin; refine wpList_append_own_none rfl _ _ 22 rfl w.heap.size 31 i0 2 Try.underlying22 Hhi.out _ _ _ rfl HO.out rfl ?_)
            go_roundw
            case rel => exact ⟨j + 1, by omega, by go_num, by rw [HF.out, List.append_nil]; unfold SOwn; rw [HM.out]; exact HO.out, hB⟩
            case measure => simp [intOf]; omega
          · have hcr := rowS_cells (fun jj xx hxx => ⟨cell_later hB (hcs jj xx hxx).1, cell_later hB (hcs jj xx hxx).2⟩)
            have HCR := Lib.hid hcr
            obtain ⟨ll, hll⟩ : ∃ z, l.length = z := ⟨_, rfl⟩
            rw [hll] at hcell hln
            have HLL := Lib.hid hll
            clear hcr hll hcs
            go_wp2_with (at_builtin; refine wpList_append_own _ rfl _ _ 22 rfl w.heap.size 31 i0 (.agg #[.int .i64 0, .int .i64 0]) 2 16 Try.underlying22 Hhi.out Hz0.out Hz1.out Hz2.out rfl (by decide) _ _ _ rfl HO.out ⟨b2, o2, none⟩ ll c2 (rowS l) rfl ?c0 ?c1 ?c2 ?c3 ?c4 ?c5 ?_)
            case c0 => rw [rowS_len, HLL.out, Nat.mul_comm]
            case c1 => exact HCR.out
            case c2 => exact rowS_one l
            case c3 => unfold maxLen; omega
            case c4 => omega
            case c5 => exact hsz
            intro v' w2 hown hgrow _
            obtain ⟨va', vc', rfl⟩ := own_form2 hown
            have hB4 := hB.grown hgrow hsz (fun k e => (HO.out.lt k e).1)
            have HO2 := Lib.hid hown
            clear hown hgrow
            go_wp2
            go_roundw
            case rel => exact ⟨j + 1, by omega, by go_num, by unfold SOwn; rw [HF.out, List.length_append, HM.out, HLL.out, rowS_app]; exact HO2.out, hB4⟩
            case measure => simp [intOf]; omega
        · have hjn : j = n := by omega
          rw [hjn, ← HLN.out, List.take_length] at hO
          obtain ⟨va, vc, rfl⟩ := own_form2 hO
          have HO := Lib.hid hO
          clear hO hjn
          go_wp2
          go_ret
          exact ⟨_, rfl, HO.out, hB⟩
end Go.Proofs.Ytgljfiihaehedaa
