/- The iterator of Pieces. -/
import Derived.Test.YtgljfiihaehedaaCons
import Derived.Test.YtgljfiihaehedaaGaps
import Derived.Test.YtgljfiihaehedaaPcM
namespace Go.Proofs.Ytgljfiihaehedaa
open Go.RowKit Go.Shelf
attribute [local go_sem] Oper.semAt_some

abbrev Pc := { x : Sp // 1 ≤ x.2 ∧ x.1 + x.2 ≤ 1024 }
def encP (x : Pc) : Array Value := #[.agg #[.int .i64 (x.1.1 : Nat), .int .i64 (x.1.2 : Nat)]]

theorem pcL_cons (z : Nat) (x : Sp) (L : List Sp) : pcL z (x :: L) = pcS z (x.1 + x.2) x.1 ++ pcL z L := by unfold pcL; rw [List.flatMap_cons]
theorem pcL_len (z : Nat) : ∀ {L : List Sp} {a : Nat}, SetL a L → a ≤ 1025 → 1 ≤ z → (pcL z L).length + a ≤ 1025
  | [], _, _, h, _ => by unfold pcL; simpa using h
  | x :: L, a, h, _, hz => by
    obtain ⟨h1, h2, h3, h4⟩ := h
    have := pcL_len z h4 (by omega) hz
    have h5 := pcS_len z (x.1 + x.2) x.2 x.1 hz (by omega)
    rw [pcL_cons, List.length_append]; omega
theorem mixed : Try.prog.follows .mixedOrders = true := by kernel_rfl

set_option maxRecDepth 100000 in
set_option maxHeartbeats 4000000 in
theorem it_in (n : Nat) (hn : 2 ≤ n) (l BK BA : Nat) (L : List Sp) (hL : SetL 0 L) (z : Nat) (hz1 : 1 ≤ z) (hz2 : z ≤ 1024) (u : Value) (J Jx : List Pc → World → Prop) (W0 : World) (G : World → Prop) (fr : World → Nat → Prop) (Kp : World → World → Prop) (hC : Cons G fr Kp) (hG : G W0) (hfA : fr W0 BA) (hfu : L ≠ [] → ∀ k, u.ownBlock = some k → fr W0 k)
    (hJ : OwnFrom W0.heap.size J)
    (hY : ∀ (pre : List Pc) x W, J pre W → pre.length < 1025 → YieldAt Fence.wide (n - 1) Try.prog l (encP x) W fun e W' =>
      (e = .returned (.bool true) ∧ J (pre ++ [x]) W' ∧ Kp W W' ∧ KeepsFrom W0.heap.size W W') ∨ (e = .returned (.bool false) ∧ Jx (pre ++ [x]) W' ∧ KeepsFrom W0.heap.size W W'))
    (hbK : Boxed W0 BK 22 u) (hu : SAt W0 u (toI L)) (hbA : Boxed W0 BA 3 (.int .i64 z)) (h0 : J [] W0) :
    CallsIn Fence.wide n Try.prog 72 #[.func (.yield l) #[] #[], .pointer (some ⟨BK, 0, none⟩), .pointer (some ⟨BA, 0, none⟩)] W0 fun e W' => (∃ v, e = .returned v) ∧
      ((∃ ys, ys.map Subtype.val = pcL z L ∧ J ys W') ∨ (∃ pre : List Pc, pre.map Subtype.val <+: pcL z L ∧ Jx pre W')) := by
  obtain ⟨ua, uc, rfl⟩ := hu.form
  refine callsIn_of_wp Try.func72 rfl trivial ?_ rfl
  simp only [Try.ntmps72, List.size_toArray, List.length_cons, List.length_nil, Nat.reduceAdd, Nat.reduceSub, Array.replicate_succ, Array.replicate_zero, List.push_toArray, List.append_toArray, List.nil_append, List.cons_append]
  have n1 : 1 ≤ n := by omega
  have n2 : 1 ≤ n - 1 := by omega
  have hf1 := wide_fn 52
  have qK := hbK.cell
  have hlen := pcL_len z hL (by omega) hz1
  obtain ⟨m, hm⟩ : ∃ m, L.length = m := ⟨_, rfl⟩
  have HM := Lib.hid hm
  have hm2 : m ≤ 2000 := by have := hL.len (by omega); omega
  rw [toI_len, hm] at hu hfu hbK qK
  have hmL : 0 < m → L ≠ [] := fun h0 h1 => by rw [h1] at hm; simp at hm; omega
  have hbl0 : ∀ k, (Value.slice ua m uc).ownBlock = some k → 0 < m → k < W0.heap.size := fun k hk h0 => SAt.own_lt (l := toI L) hu (fun h1 => hmL h0 (by have := congrArg List.length h1; rw [toI_len] at this; exact List.eq_nil_of_length_eq_zero (by simpa using this))) k hk
  have hmx := mixed
  gi_wp2_with fail
  clear qK hbK hm
  gi_loopw [10] (fun v wr => ∃ (k : Nat) (pre : List Pc), v = .int .i64 k ∧ k ≤ m ∧ J pre wr ∧ G wr ∧ fr wr BA ∧ (∀ k, (Value.slice ua m uc).ownBlock = some k → 0 < m → fr wr k) ∧ Boxed wr BA 3 (.int .i64 z) ∧ SAt wr (.slice ua m uc) (toI L) ∧ W0.heap.size ≤ wr.heap.size ∧ Hid (pre.map Subtype.val ++ pcL z (L.drop k) = pcL z L)) (fun v _ => m - (intOf v).toNat)
  case atStart => exact ⟨0, [], rfl, Nat.zero_le _, h0, hG, hfA, fun k hk hm0 => hfu (hmL hm0) k hk, hbA, hu, Nat.le_refl _, rfl⟩
  case round =>
    clear hu hbA h0 hG hfA hfu
    obtain ⟨k, pre, rfl, hk, hJs, hG, hfA, hfu, hbA, hu, hsz, HP⟩ := hrel
    by_cases hlt : k < m
    · obtain ⟨x, hx⟩ : ∃ x, L[k]? = some x := ⟨_, List.getElem?_eq_getElem (by rw [HM.out]; exact hlt)⟩
      have hxl := hL.val x (List.mem_of_getElem? hx)
      have hdr : L.drop k = x :: L.drop (k + 1) := by
        rw [List.drop_eq_getElem_cons (by rw [HM.out]; exact hlt)]
        rw [List.getElem?_eq_getElem (by rw [HM.out]; exact hlt)] at hx
        cases hx; rfl
      obtain ⟨p0, q0⟩ := x
      obtain ⟨b, off, rfl, hbl, k1, k2⟩ := hu.at k _ (toI_some hx)
      simp only at k1 k2 hxl
      have hne : toI L ≠ [] := fun h1 => by have := congrArg List.length h1; rw [toI_len, HM.out] at this; simp at this; omega
      have hi1 : (k : Int) < (m : Int) := by omega
      have HP1 : Hid (pre.map Subtype.val ++ (pcS z (p0 + q0) p0 ++ pcL z (L.drop (k + 1))) = pcL z L) := by
        have h1 := HP.out
        rw [hdr, pcL_cons] at h1
        exact h1
      clear HP hdr hx
      gi_wp2_with fail
      obtain ⟨WX, hWX⟩ : ∃ x, wr.alloc (.cells #[.int .i64 (p0 : Int), .int .i64 (q0 : Int)] 31) = x := ⟨_, rfl⟩
      have hBX : Below wr.heap.size wr WX := by rw [← hWX]; exact (Below.refl _ _).alloc (Nat.le_refl _) _
      have bX : XBox WX wr.heap.size ((p0 : Int), (q0 : Int)) := by rw [← hWX]; exact XBox.new wr ((p0 : Int), (q0 : Int))
      rw [hWX]
      have jX : J pre WX := by rw [← hWX]; exact (ownFrom_up hJ hsz).alloc _ hJs
      have aX : Boxed WX BA 3 (.int .i64 z) := hbA.kept (grown_of_below hBX) (by simp)
      have uX := hu.later hBX
      have sX : W0.heap.size ≤ WX.heap.size := Nat.le_trans hsz hBX.size
      have gX := hC.gb hBX hG
      have fX : fr WX wr.heap.size := by rw [← hWX]; exact hC.new _ hG
      have fA := hC.fb hBX hbA.lt hG hfA
      have fu : fr WX b := hC.fb hBX hbl hG (hfu b rfl (by omega))
      obtain ⟨X, hX⟩ : ∃ X, wr.heap.size = X := ⟨_, rfl⟩
      rw [hX] at bX hsz fX
      rw [hX]
      clear hWX hBX hu hbA hJs hX k1 k2 hbl
      gi_loopw [6] (fun v wi => ∃ (a : Nat) (pri : List Pc), v = .int .i64 a ∧ p0 ≤ a ∧ a ≤ p0 + q0 ∧ J pri wi ∧ G wi ∧ fr wi X ∧ fr wi BA ∧ fr wi b ∧ Boxed wi BA 3 (.int .i64 z) ∧ SAt wi (.slice (some ⟨b, off, none⟩) m uc) (toI L) ∧ W0.heap.size ≤ wi.heap.size ∧ XBox wi X ((p0 : Int), (q0 : Int)) ∧ Hid (pri.map Subtype.val ++ (pcS z (p0 + q0) a ++ pcL z (L.drop (k + 1))) = pcL z L)) (fun v _ => 1024 - (intOf v).toNat)
      case atStart => exact ⟨p0, pre, rfl, Nat.le_refl _, by omega, jX, gX, fX, fA, fu, aX, uX, sX, bX, HP1⟩
      case round =>
        clear jX aX uX sX bX HP1 gX fX fA fu hG hfA hfu
        obtain ⟨a, pri, rfl, ha1, ha2, hJs, gW, fX, fA, fu, hbA, hu, hsz, bX, HP⟩ := hrel
        have x0 := bX.c0
        have x1 := bX.c1
        have qz := hbA.cell
        have hXl := bX.lt
        have hAl := hbA.lt
        have hbw := SAt.own_lt hu hne b rfl
        simp only at x0 x1
        by_cases hae : a < p0 + q0
        · have hae1 : (a : Int) < (p0 : Int) + (q0 : Int) := by omega
          gi_wp2_with fail
          refine (callsIn_wide.2 (end_is ((p0 : Int), (q0 : Int)) p0 q0 rfl hxl.2 _)).mono ?_
          rintro e1 W1 ⟨rfl, hB1⟩
          have tX := bX.later hB1
          have tA : Boxed W1 BA 3 (.int .i64 z) := hbA.kept (grown_of_below hB1) (by simp)
          have tU := hu.later hB1
          have tJ := hJ _ _ _ none hJs (grown_of_below hB1) (fun _ e => by cases e)
          have tG := hC.gb hB1 gW
          have tfX := hC.fb hB1 hXl gW fX
          have tfA := hC.fb hB1 hAl gW fA
          have tfu := hC.fb hB1 hbw gW fu
          have tS := Nat.le_trans hsz hB1.size
          clear x0 x1 qz bX hbA hu hJs hsz hB1 hXl hAl hbw gW fX fA fu
          have x0 := tX.c0
          have x1 := tX.c1
          have qz := tA.cell
          have hXl := tX.lt
          have hAl := tA.lt
          have hbw := SAt.own_lt tU hne b rfl
          simp only at x0 x1
          obtain ⟨e, he⟩ : ∃ x, pcTo z (p0 + q0) a = x := ⟨_, rfl⟩
          have he1 := pcTo_gt hz1 hae
          have he2 := pcTo_le z (p0 + q0) a
          rw [he] at he1 he2
          have HS0 := HP.out
          rw [pcS_step hz1 hae, he] at HS0
          have hmod : a % z ≤ a := Nat.mod_le _ _
          have hmod2 : a % z < z := Nat.mod_lt _ (by omega)
          obtain ⟨r, hr⟩ : ∃ r, a % z = r := ⟨_, rfl⟩
          have hr2 : (a : Int) % (z : Int) = (r : Int) := by rw [← hr]; rfl
          have hr3 : Int.tmod (a : Int) (z : Int) = (r : Int) := by rw [Int.tmod_eq_emod_of_nonneg (by omega)]; exact hr2
          rw [hr] at hmod hmod2
          have he3 : min (p0 + q0) (a - r + z) = e := by rw [← he, ← hr]; rfl
          have hm1 : min ((p0 : Int) + (q0 : Int)) ((a : Int) - (r : Int) + (z : Int)) = (e : Int) := by omega
          have hz0 : (z : Int) ≠ 0 := by omega
          have hf2 : ∀ l, (Fence.wide.inRound l).fn 52 := fun l => hf1
          clear he hr
          gi_wp2_with fail
          rename_i Q3 K3 hK3
          have HK : ∀ W2, Below W1.heap.size W1 W2 → K3 { tmps := #[.func (.yield l) #[] #[], .pointer (some ⟨BK, 0, none⟩), .pointer (some ⟨BA, 0, none⟩), undef, undef, .pointer (some ⟨X, 0, none⟩), .int .i64 (a : Int), .int .i64 (e : Int), .slice (some ⟨b, off, none⟩) m uc, .int .i64 (m : Int), .int .i64 (k : Int), .bool true, .pointer (some ⟨b, off + k * 2, none⟩), .agg #[.int .i64 (p0 : Int), .int .i64 (q0 : Int)], .pointer (some ⟨X, 0, none⟩), .int .i64 (p0 : Int), .int .i64 (a : Int), .agg #[.int .i64 (p0 : Int), .int .i64 (q0 : Int)], .int .i64 ((p0 : Int) + (q0 : Int)), .bool true, .agg #[.int .i64 (p0 : Int), .int .i64 (q0 : Int)], .int .i64 ((p0 : Int) + (q0 : Int)), .int .i64 (a : Int), .int .i64 (a : Int), .int .i64 (z : Int), .int .i64 (r : Int), .int .i64 ((a : Int) - (r : Int)), .int .i64 (z : Int), .int .i64 ((a : Int) - (r : Int) + (z : Int)), .int .i64 (e : Int), u30, u31, u32, u33, u34, u35, u36, u37, u38, u39], defers := [] } W2 := by
            intro W2 hB3
            have vX := tX.later hB3
            have vA : Boxed W2 BA 3 (.int .i64 z) := tA.kept (grown_of_below hB3) (by simp)
            have vU := tU.later hB3
            have vJ := hJ _ _ _ none tJ (grown_of_below hB3) (fun _ e => by cases e)
            have vS := Nat.le_trans tS hB3.size
            have vG := hC.gb hB3 tG
            have vfX := hC.fb hB3 hXl tG tfX
            have vfA := hC.fb hB3 hAl tG tfA
            have vfu := hC.fb hB3 hbw tG tfu
            have hx1 : 1 ≤ ((a, e - a) : Sp).2 ∧ ((a, e - a) : Sp).1 + ((a, e - a) : Sp).2 ≤ 1024 := by simp only; omega
            have HS : Hid ((pri ++ [(⟨(a, e - a), hx1⟩ : Pc)]).map Subtype.val ++ (pcS z (p0 + q0) e ++ pcL z (L.drop (k + 1))) = pcL z L) := by
              unfold Hid
              rw [List.map_append, List.map_singleton, List.append_assoc]
              exact HS0
            have hpl : pri.length < 1025 := by
              have h1 := congrArg List.length HS.out
              simp at h1
              omega
            obtain ⟨fn, tmps, assign, body, hy, hR⟩ := hY pri ⟨(a, e - a), hx1⟩ W2 vJ hpl
            dsimp only [encP] at hy
            rw [show ((e - a : Nat) : Int) = (e : Int) - (a : Int) by omega] at hy
            clear tX tA tU tJ tS x0 x1 qz hXl hAl hB3 tG tfX tfA tfu hbw
            apply hK3
            gi_wp2_with fail
            refine hR.mono ?_
            rintro e2 W3 (⟨rfl, hJ2, hk2, hF2⟩ | ⟨rfl, hJx2, _⟩)
            · have yX : XBox W3 X ((p0 : Int), (q0 : Int)) := (hC.kf vG hk2 vfX vX rfl).1
              have yA : Boxed W3 BA 3 (.int .i64 z) := (hC.kf vG hk2 vfA vA rfl).1
              have yU := vU.keep (hC.kc vG hk2) (fun _ k hk => by simp [Value.ownBlock] at hk; subst hk; exact vfu)
              have yS := Nat.le_trans vS hF2.size
              have yG := hC.kg vG hk2
              have yfX := (hC.kf vG hk2 vfX vX rfl).2
              have yfA := (hC.kf vG hk2 vfA vA rfl).2
              obtain ⟨ob, hob1, hob2⟩ := SAt.own_cells vU hne b rfl
              have yfu := (hC.kf vG hk2 vfu hob1 hob2).2
              gi_wp2
              go_roundw
              case rel => exact ⟨e, _, rfl, by omega, he2, hJ2, yG, yfX, yfA, yfu, yA, yU, yS, yX, HS⟩
              case measure => simp [intOf]; omega
            · gi_wp2
              refine bodyPost_ret (results_none rfl _ _ _) rfl ?_
              exact ⟨⟨_, rfl⟩, .inr ⟨_, ⟨_, HS.out⟩, hJx2⟩⟩
          gi_region_with_o (gi_at_call 52; refine (callsIn_wide.2 (end_is ((p0 : Int), (q0 : Int)) p0 q0 rfl hxl.2 _)).mono ?_; rintro e1 W2 ⟨rfl, hB2⟩; have hB3 : Below W1.heap.size W1 W2 := ⟨hB2.os, hB2.tape, hB2.output, hB2.size, hB2.block⟩; have qz2 := cell_later hB3 qz; clear hB2)
          all_goals
            have hw1 : IntKind.i64.wrap ((a : Int) - (r : Int)) = (a : Int) - (r : Int) := IntWalk.i64_in _ (by omega)
            have hw2 : IntKind.i64.wrap ((a : Int) - (r : Int) + (z : Int)) = (a : Int) - (r : Int) + (z : Int) := IntWalk.i64_in _ (by omega)
            have hw : (if ((a : Int) - (r : Int)) + (z : Int) < (p0 : Int) + (q0 : Int) then ((a : Int) - (r : Int)) + (z : Int) else (p0 : Int) + (q0 : Int)) = (e : Int) := by split <;> omega
            have hk := HK W2 hB3
            rw [hw1, hw2, hw]
            exact hk
        · have haq : a = p0 + q0 := by omega
          have hae1 : ¬ (a : Int) < (p0 : Int) + (q0 : Int) := by omega
          have h1 := HP.out
          rw [pcS_end (by omega), List.nil_append] at h1
          have HP2 : Hid (pri.map Subtype.val ++ pcL z (L.drop (k + 1)) = pcL z L) := h1
          clear h1
          gi_wp2_with fail
          refine (callsIn_wide.2 (end_is ((p0 : Int), (q0 : Int)) p0 q0 rfl hxl.2 _)).mono ?_
          rintro e1 W1 ⟨rfl, hB1⟩
          have tA : Boxed W1 BA 3 (.int .i64 z) := hbA.kept (grown_of_below hB1) (by simp)
          have tU := hu.later hB1
          have tJ := hJ _ _ _ none hJs (grown_of_below hB1) (fun _ e => by cases e)
          have tG := hC.gb hB1 gW
          have tfX := hC.fb hB1 hXl gW fX
          have tfA := hC.fb hB1 hAl gW fA
          have tfu := hC.fb hB1 hbw gW fu
          have tS := Nat.le_trans hsz hB1.size
          gi_wp2
          go_roundw
          case rel => exact ⟨k + 1, pri, by go_num, by omega, tJ, tG, tfA, fun j hj _ => by simp [Value.ownBlock] at hj; subst hj; exact tfu, tA, tU, tS, HP2⟩
          case measure => simp [intOf]; omega
    · have hi1 : ¬ ((k : Int) < (m : Int)) := by omega
      have h1 := HP.out
      rw [List.drop_of_length_le (by rw [HM.out]; omega)] at h1
      have h2 : pcL z ([] : List Sp) = [] := rfl
      rw [h2, List.append_nil] at h1
      have HP2 : Hid (pre.map Subtype.val = pcL z L) := h1
      clear h1
      gi_wp2
      go_end0
      exact ⟨⟨_, rfl⟩, .inl ⟨pre, HP2.out, hJs⟩⟩

theorem it_g (n : Nat) (hn : 2 ≤ n) (BK BA : Nat) (L : List Sp) (hL : SetL 0 L) (z : Nat) (hz1 : 1 ≤ z) (hz2 : z ≤ 1024) (u : Value) (G : World → Prop) (fr : World → Nat → Prop) (Kp : World → World → Prop) (hC : Cons G fr Kp) (w : World) (hG : G w) (hfA : fr w BA) (hfu : L ≠ [] → ∀ k, u.ownBlock = some k → fr w k)
    (hbK : Boxed w BK 22 u) (hu : SAt w u (toI L)) (hbA : Boxed w BA 3 (.int .i64 z)) :
    SeqG Fence.wide n Try.prog 72 #[.pointer (some ⟨BK, 0, none⟩), .pointer (some ⟨BA, 0, none⟩)] encP (fun _ => Kp) (fun ys => ys.map Subtype.val = pcL z L) (fun pre => pre.map Subtype.val <+: pcL z L) 1025 w := by
  intro l J Jx W hW hJ _ hY h0
  refine it_in n hn l BK BA L hL z hz1 hz2 u J Jx W G fr Kp hC (hC.gb hW hG) (hC.fb hW hbA.lt hG hfA) (fun hne k hk => hC.fb hW ?_ hG (hfu hne k hk)) hJ hY (hbK.kept (grown_of_below hW) (by simp)) (hu.later hW) (hbA.kept (grown_of_below hW) (by simp)) h0
  exact SAt.own_lt hu (fun h1 => hne (List.eq_nil_of_length_eq_zero (by rw [← toI_len, h1]; rfl))) k hk
end Go.Proofs.Ytgljfiihaehedaa
