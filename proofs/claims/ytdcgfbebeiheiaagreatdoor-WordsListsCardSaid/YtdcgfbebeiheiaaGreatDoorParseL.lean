/- ParseList. -/
import Derived.Test.YtdcgfbebeiheiaaGreatDoorParse
namespace Go.Proofs.YtdcgfbebeiheiaaGreatDoor
open Go.RowKit

theorem Tryz.infoInt : (Tryz.prog.info? 3).map (fun i => (i.zero, i.size, i.bytes)) = some (some (.int .i64 0), 1, 8) := by kernel_rfl
def lastI (i : I3) : Int := i.1 + (i.2.1 - 1) * i.2.2
def bigI (i : I3) : Bool := decide (9999 < lastI i)
def totI : List I3 → Int
  | [] => 0
  | i :: l => i.2.1 + totI l
def expI (i : I3) : List Int := (List.range i.2.1.toNat).map fun m : Nat => i.1 + (m : Int) * i.2.2
def expL (l : List I3) : List Int := l.flatMap expI
def parseB (s : BA) : List Int × Int :=
  if 2500 < s.size then ([], 3) else if (itemsB s).2 = false then ([], 6) else if (itemsB s).1.any bigI then ([], 7) else if 500 < totI (itemsB s).1 then ([], 3) else (expL (itemsB s).1, 0)
def rowZ (l : List Int) : List Value := l.map (Value.int .i64)
def BdI (l : List I3) : Prop := l.length ≤ 5000 ∧ ∀ i ∈ l, 0 ≤ i.1 ∧ i.1 ≤ 10000 ∧ 1 ≤ i.2.1 ∧ i.2.1 ≤ 10001 ∧ 0 ≤ i.2.2 ∧ i.2.2 ≤ 1

theorem rowI_get : ∀ (l : List I3) (k : Nat) (h : k < l.length), (rowI l)[k * 3]? = some (.int .i64 l[k].1) ∧ (rowI l)[k * 3 + 1]? = some (.int .i64 l[k].2.1) ∧ (rowI l)[k * 3 + 2]? = some (.int .i64 l[k].2.2)
  | [], k, h => by cases h
  | i :: l, 0, _ => ⟨rfl, rfl, rfl⟩
  | i :: l, k + 1, h => by
    have ih := rowI_get l k (by simpa using h)
    have e : ∀ j, (rowI (i :: l))[(k + 1) * 3 + j]? = (rowI l)[k * 3 + j]? := fun j => by
      rw [show (k + 1) * 3 + j = 3 + (k * 3 + j) from by omega]
      show ([Value.int .i64 i.1, .int .i64 i.2.1, .int .i64 i.2.2] ++ rowI l)[3 + (k * 3 + j)]? = _
      rw [List.getElem?_append_right (by simp)]
      simp
    refine ⟨(e 0).trans ih.1, (e 1).trans ih.2.1, (e 2).trans ih.2.2⟩

theorem totI_drop (l : List I3) (k : Nat) (h : k < l.length) : totI (l.drop k) = l[k].2.1 + totI (l.drop (k + 1)) := by rw [List.drop_eq_getElem_cons h]; rfl

theorem rowZ_snoc (l : List Int) (x : Int) : rowZ (l ++ [x]) = rowZ l ++ [.int .i64 x] := by simp [rowZ]
theorem ownsRow_base {W : World} {base base' : Nat} {e : TypeId} {size n : Nat} {v : Value} {xs : List Value} (h : W.ownsRow base e size v n xs) (hb : base' ≤ base) : W.ownsRow base' e size v n xs := by
  obtain ⟨h1, h2 | ⟨g, cap, cur, h2, h3, h4⟩⟩ := h
  · exact ⟨h1, .inl h2⟩
  · exact ⟨h1, .inr ⟨g, cap, cur, h2, Nat.le_trans hb h3, h4⟩⟩
theorem ne_own {W : World} {B : Nat} {cs : Array Value} {t e : TypeId} {f : Nat × Nat} {base size n : Nat} {v : Value} {xs : List Value} (hb : W.heap[B]? = some (.cells cs t f)) (hte : t ≠ e) (hr : W.ownsRow base e size v n xs) : some B ≠ v.ownBlock := by
  rcases hr.2 with ⟨rfl, _⟩ | ⟨g, cap, cur, rfl, _, hg, _⟩
  · simp [Value.ownBlock]
  · intro h
    have h' : B = g := by simpa [Value.ownBlock] using h
    subst h'
    rw [hb] at hg
    cases hg
    exact hte rfl
theorem totI_nonneg : ∀ (l : List I3), (∀ i ∈ l, 0 ≤ i.2.1) → 0 ≤ totI l
  | [], _ => by decide
  | i :: l, h => by have := h i List.mem_cons_self; have := totI_nonneg l (fun j hj => h j (List.mem_cons_of_mem _ hj)); unfold totI; omega
theorem totI_take : ∀ (l : List I3) (k : Nat), totI l = totI (l.take k) + totI (l.drop k)
  | [], k => by simp [totI]
  | i :: l, 0 => by simp [totI]
  | i :: l, k + 1 => by have := totI_take l k; simp only [List.take_succ_cons, List.drop_succ_cons, totI]; omega
theorem expL_length : ∀ (l : List I3), (∀ i ∈ l, 0 ≤ i.2.1) → ((expL l).length : Int) = totI l
  | [], _ => rfl
  | i :: l, h => by
    have h0 := h i List.mem_cons_self
    have ih := expL_length l (fun j hj => h j (List.mem_cons_of_mem _ hj))
    have : expL (i :: l) = expI i ++ expL l := by simp [expL]
    rw [this, List.length_append]
    have h2 : (expI i).length = i.2.1.toNat := by simp [expI]
    unfold totI
    omega
theorem expL_len (l : List I3) (h : ∀ i ∈ l, 0 ≤ i.2.1) (k : Nat) (hk : k < l.length) : ((expL (l.take k)).length : Int) + l[k].2.1 ≤ totI l := by
  rw [expL_length _ (fun i hi => h i (List.mem_of_mem_take hi)), totI_take l k, totI_drop l k hk]
  have := totI_nonneg (l.drop (k + 1)) (fun i hi => h i (List.mem_of_mem_drop hi))
  omega
theorem box3 {W : World} {B : Nat} {a b c : Value} {t : TypeId} (h : W.heap[B]? = some (.cells #[a, b, c] t (0, 0))) :
    W.cell? ⟨B, 0, none⟩ = some a ∧ W.cell? ⟨B, 1, none⟩ = some b ∧ W.cell? ⟨B, 2, none⟩ = some c ∧ W.frozen? ⟨B, 0, none⟩ = false := by
  refine ⟨?_, ?_, ?_, ?_⟩ <;> simp [World.cell?, World.frozen?, h]

set_option maxRecDepth 100000 in
set_option maxHeartbeats 4000000 in
theorem ParseList_any (s : BA) (hs : s.size ≤ maxLen) (w : World) (hgd : Gd w) (hbd : s.size ≤ 2500 → BdI (itemsB s).1) :
    Calls Tryz.prog 10 #[.string s] w fun e w' => ∃ v, e = .returned (.tuple #[v, .int .i64 (parseB s).2]) ∧ w'.ownsRow w.heap.size 3 1 v (parseB s).1.length (rowZ (parseB s).1) ∧ Below w.heap.size w w' := by
  unfold maxLen at hs
  by_cases h25 : 2500 < s.size
  · have hd : Hid (parseB s = ([], 3)) := by unfold Hid parseB; rw [if_pos h25]
    go_enter Tryz.func10, Tryz.ntmps10
    go_wp2
    go_ret2
    rw [hd.out]
    exact ⟨_, rfl, World.ownsRow_nil _ _ _ _, Below.refl _ _⟩
  cases hok : (itemsB s).2
  · have hd : Hid (parseB s = ([], 6)) := by unfold Hid parseB; rw [if_neg h25, if_pos hok]
    go_enter Tryz.func10, Tryz.ntmps10
    go_wp2_with (go_at_call 24; refine (parseItems_any s (by omega) _ hgd).mono ?_; rintro e w1 ⟨v, rfl, hrow, hB⟩)
    go_ret2
    rw [hd.out]
    exact ⟨_, rfl, World.ownsRow_nil _ _ _ _, hB⟩
  have hd : Hid (parseB s = if (itemsB s).1.any bigI then ([], 7) else if 500 < totI (itemsB s).1 then ([], 3) else (expL (itemsB s).1, 0)) := by unfold Hid parseB; rw [if_neg h25, if_neg (by rw [hok]; decide)]
  obtain ⟨hl5, hbd⟩ := hbd (by omega)
  obtain ⟨i0, hi, hz0, hz1, hz2⟩ := info_parts Tryz.infoInt
  go_enter Tryz.func10, Tryz.ntmps10
  go_wp2_with fail
  refine (parseItems_any s (by omega) _ hgd).mono ?_
  rintro e w1 ⟨v, rfl, hrow, hB⟩
  obtain ⟨l, hl⟩ : ∃ l, (itemsB s).1 = l := ⟨_, rfl⟩
  rw [hl] at hrow hd hl5 hbd
  obtain ⟨a, cap, rfl⟩ := ownsRow_formI hrow
  have HI : Hid (∀ k (h : k < l.length), ∃ g, a = some ⟨g, 0, none⟩ ∧ g < w1.heap.size ∧ w1.cell? ⟨g, k * 3, none⟩ = some (.int .i64 l[k].1) ∧ w1.cell? ⟨g, k * 3 + 1, none⟩ = some (.int .i64 l[k].2.1) ∧ w1.cell? ⟨g, k * 3 + 2, none⟩ = some (.int .i64 l[k].2.2)) := by
    intro k h
    rcases hrow.2 with ⟨_, h0⟩ | ⟨g, cap', cur, hv, _⟩
    · omega
    · simp only [Value.slice.injEq] at hv
      obtain ⟨rfl, _, rfl⟩ := hv
      have hg := rowI_get l k h
      exact ⟨g, rfl, (hrow.lt g rfl).2, (hrow.cellAt _ (by omega)).trans hg.1, (hrow.cellAt _ (by omega)).trans hg.2.1, (hrow.cellAt _ (by omega)).trans hg.2.2⟩
  rw [hok]
  clear hrow hl hok
  have HBd := Lib.hid hbd
  clear hbd
  go_wp2_with fail
  go_loopw [6, 25] (fun t i wr => ∃ (k : Nat) (T : Int), k ≤ l.length ∧ i = .int .i64 k ∧ t = .int .i64 T ∧ 0 ≤ T ∧ T ≤ 10001 * (k : Int) ∧ Hid (totI l = T + totI (l.drop k)) ∧ Hid (l.any bigI = (l.drop k).any bigI) ∧ Below w1.heap.size w1 wr) (fun _ i _ => l.length - (intOf i).toNat)
  case atStart => exact ⟨0, 0, Nat.zero_le _, rfl, rfl, by decide, by decide, by unfold Hid; simp, rfl, Below.refl _ _⟩
  case round =>
    obtain ⟨k, T, hk, rfl, rfl, hT0, hT1, HT, HA, hBr⟩ := hrel
    by_cases hlt : k < l.length
    · obtain ⟨g, rfl, hg, c0, c1, c2⟩ := HI.out k hlt
      have r0 := (hBr.cell (p := ⟨g, k * 3, none⟩) hg).trans c0
      have r1 := (hBr.cell (p := ⟨g, k * 3 + 1, none⟩) hg).trans c1
      have r2 := (hBr.cell (p := ⟨g, k * 3 + 2, none⟩) hg).trans c2
      have hbk := HBd.out _ (List.getElem_mem hlt)
      obtain ⟨hb1, hb2, hb3, hb4, hb5, hb6⟩ := hbk
      obtain ⟨P, hP⟩ : ∃ x, l[k].1 = x := ⟨_, rfl⟩
      obtain ⟨Q, hQ⟩ : ∃ x, l[k].2.1 = x := ⟨_, rfl⟩
      obtain ⟨R, hR⟩ : ∃ x, l[k].2.2 = x := ⟨_, rfl⟩
      have hlast : Hid (lastI l[k] = P + (Q - 1) * R) := by unfold Hid lastI; rw [hP, hQ, hR]
      have hcount : Hid (l[k].2.1 = Q) := hQ
      rw [hP] at r0 hb1 hb2
      rw [hQ] at r1 hb3 hb4
      rw [hR] at r2 hb5 hb6
      clear hP hQ hR c0 c1 c2
      have hdr : Hid (l.drop k = l[k] :: l.drop (k + 1)) := List.drop_eq_getElem_cons hlt
      by_cases hbig : 9999 < P + (Q - 1) * R
      · have hbg : Hid (bigI l[k] = true) := by unfold Hid bigI; rw [hlast.out]; exact decide_eq_true hbig
        go_wp2_with (go_at_call 25; refine (last_any _ _ _ _ (by omega) (by omega) (by omega) (by omega) (by omega) (by omega)).mono ?_; rintro e w2 ⟨rfl, hB2⟩)
        go_ret2
        have hd2 : parseB s = ([], 7) := by rw [hd.out, if_pos]; rw [HA.out, hdr.out, List.any_cons, hbg.out]; rfl
        rw [hd2]
        exact ⟨_, rfl, World.ownsRow_nil _ _ _ _, ((hB.trans (hBr.mono hB.size)).alloc (by have := hB.size; have := hBr.size; omega) _).trans (hB2.mono (by have := hB.size; have := hBr.size; simp; omega))⟩
      · have hbg : Hid (bigI l[k] = false) := by unfold Hid bigI; rw [hlast.out]; exact decide_eq_false hbig
        go_wp2_with fail
        refine (last_any _ _ _ _ (by omega) (by omega) (by omega) (by omega) (by omega) (by omega)).mono ?_
        rintro e w2 ⟨rfl, hB2⟩
        obtain ⟨q0, q1, q2⟩ := cell_new3 wr (.int .i64 P) (.int .i64 Q) (.int .i64 R) 56
        have q1' := cell_later hB2 q1
        clear q0 q1 q2
        go_wp2
        go_roundw
        case rel => exact ⟨k + 1, T + Q, by omega, by go_num, rfl, by omega, by omega, by unfold Hid; rw [HT.out, totI_drop l k hlt, hcount.out]; omega, by unfold Hid; rw [HA.out, hdr.out, List.any_cons, hbg.out]; rfl, (hBr.alloc hBr.size _).trans (hB2.mono (by have := hBr.size; simp; omega))⟩
        case measure => simp [intOf]; omega
    · have hTT : Hid (totI l = T) := by unfold Hid; rw [HT.out, List.drop_eq_nil_of_le (by omega)]; simp [totI]
      have hAA : Hid (l.any bigI = false) := by unfold Hid; rw [HA.out, List.drop_eq_nil_of_le (by omega)]; rfl
      clear HT HA
      by_cases h500 : 500 < T
      · go_wp2_with fail
        go_ret2
        have hd2 : parseB s = ([], 3) := by rw [hd.out, if_neg (by rw [hAA.out]; decide), if_pos (by rw [hTT.out]; exact h500)]
        rw [hd2]
        exact ⟨_, rfl, World.ownsRow_nil _ _ _ _, hB.trans (hBr.mono hB.size)⟩
      · have hd2 : Hid (parseB s = (expL l, 0)) := by unfold Hid; rw [hd.out, if_neg (by rw [hAA.out]; decide), if_neg (by rw [hTT.out]; exact h500)]
        obtain ⟨M, rfl⟩ : ∃ m : Nat, T = (m : Int) := ⟨T.toNat, by omega⟩
        have hBr' := hB.trans (hBr.mono hB.size)
        obtain ⟨w3, hmk, hown, hgr⟩ := run_make_own (P := Tryz.prog) (w := wr) w1.heap.size 22 3 i0 (.int .i64 0) 1 Tryz.underlying22 hi hz0 hz1 .i64 .i64 M (by rw [hz2]; omega) (by unfold maxLen; omega) hBr.size
        have hs01 : w.heap.size ≤ w1.heap.size := hB.size
        have hB3 : Below w.heap.size w w3 := hBr'.grown hgr hBr'.size (fun k e => by cases e)
        have hB31 : Below w1.heap.size w1 w3 := hBr.grown hgr hBr.size (fun k e => by cases e)
        have Hhi := Lib.hid hi
        have Hz0 := Lib.hid hz0
        have Hz1 := Lib.hid hz1
        have Hz2 := Lib.hid hz2
        clear hi hz0 hz1 hz2 hBr hgr
        go_wp2_with fail
        go_loopw [9, 43] (fun v i wr => ∃ (k : Nat), k ≤ l.length ∧ i = .int .i64 k ∧ wr.ownsRow w1.heap.size 3 1 v (expL (l.take k)).length (rowZ (expL (l.take k))) ∧ Below w.heap.size w wr ∧ Below w1.heap.size w1 wr) (fun _ i _ => l.length - (intOf i).toNat)
        case atStart => exact ⟨0, Nat.zero_le _, rfl, hown, hB3, hB31⟩
        case round =>
          obtain ⟨k, hk, rfl, hr, hBw, hB1w⟩ := hrel
          by_cases hlt : k < l.length
          · obtain ⟨g, rfl, hg, c0, c1, c2⟩ := HI.out k hlt
            have r0 := (hB1w.cell (p := ⟨g, k * 3, none⟩) hg).trans c0
            have r1 := (hB1w.cell (p := ⟨g, k * 3 + 1, none⟩) hg).trans c1
            have r2 := (hB1w.cell (p := ⟨g, k * 3 + 2, none⟩) hg).trans c2
            obtain ⟨hb1, hb2, hb3, hb4, hb5, hb6⟩ := HBd.out _ (List.getElem_mem hlt)
            obtain ⟨P, hP⟩ : ∃ x, l[k].1 = x := ⟨_, rfl⟩
            obtain ⟨Q, hQ⟩ : ∃ x, l[k].2.1 = x := ⟨_, rfl⟩
            obtain ⟨R, hR⟩ : ∃ x, l[k].2.2 = x := ⟨_, rfl⟩
            have HX : Hid (l[k] = (P, Q, R)) := by unfold Hid; rw [← hP, ← hQ, ← hR]
            rw [hP] at r0 hb1 hb2
            rw [hQ] at r1 hb3 hb4
            rw [hR] at r2 hb5 hb6
            clear hP hQ hR c0 c1 c2
            have hE : Hid (expL (l.take (k + 1)) = expL (l.take k) ++ expI l[k]) := by
              unfold Hid expL; rw [List.take_succ_eq_append_getElem hlt, List.flatMap_append]; simp
            have hlen : Hid ((expL (l.take k)).length + Q.toNat ≤ 500) := by
              have h1 := expL_len l (fun i hi => by have := HBd.out i hi; omega) k hlt
              have h2 : l[k].2.1 = Q := by rw [HX.out]
              have h3 := hTT.out
              unfold Hid
              omega
            obtain ⟨L, hL⟩ : ∃ L, expL (l.take k) = L := ⟨_, rfl⟩
            rw [hL] at hr
            have HL := Lib.hid hL
            clear hL
            have hQ0 : (0 : Int) ≤ Q := by omega
            obtain ⟨wo, hwo⟩ : ∃ x, wr.alloc (.cells #[.int .i64 P, .int .i64 Q, .int .i64 R] 56) = x := ⟨_, rfl⟩
            obtain ⟨B, hB⟩ : ∃ x, wr.heap.size = x := ⟨_, rfl⟩
            have hbox : wo.heap[B]? = some (.cells #[.int .i64 P, .int .i64 Q, .int .i64 R] 56 (0, 0)) := by rw [← hwo, ← hB]; exact World.alloc_heap_new wr _
            have hro : wo.ownsRow w1.heap.size 3 1 u9 L.length (rowZ L) := by rw [← hwo]; exact hr.alloc _
            have hBo : Below w.heap.size w wo := by rw [← hwo]; exact hBw.alloc hBw.size _
            have hB1o : Below w1.heap.size w1 wo := by rw [← hwo]; exact hB1w.alloc hB1w.size _
            have HW := Lib.hid hwo
            have HBB := Lib.hid hB
            clear hB hwo hr hBw hB1w hB3 hB31 hown
            go_wp2_with fail
            rw [HW.out, HBB.out]
            go_loopw [9, 49] (fun v i wx => ∃ m : Nat, (m : Int) ≤ Q ∧ i = .int .i64 m ∧ wx.ownsRow w1.heap.size 3 1 v (L.length + m) (rowZ (L ++ (expI (P, Q, R)).take m)) ∧ wx.heap[B]? = some (.cells #[.int .i64 P, .int .i64 Q, .int .i64 R] 56 (0, 0)) ∧ Below w.heap.size w wx ∧ Below w1.heap.size w1 wx) (fun _ i _ => Q.toNat - (intOf i).toNat)
            case atStart => exact ⟨0, by omega, rfl, by simpa using hro, hbox, hBo, hB1o⟩
            case round =>
              clear hro hbox hBo hB1o
              obtain ⟨m, hm, rfl, hr, hbox, hBw, hB1w⟩ := hrel
              obtain ⟨k0, k1, k2, kf⟩ := box3 hbox
              by_cases hmq : (m : Int) < Q
              · have hmul : 0 ≤ (m : Int) * R ∧ (m : Int) * R ≤ 10001 := by
                  rcases (show R = 0 ∨ R = 1 by omega) with rfl | rfl <;> omega
                obtain ⟨hmul1, hmul2⟩ := hmul
                have hlm : L.length + m < 500 := by have := hlen.out; rw [HL.out] at this; omega
                have hEx : Hid ((expI (P, Q, R)).take (m + 1) = (expI (P, Q, R)).take m ++ [P + (m : Int) * R]) := by
                  unfold Hid expI
                  rw [List.take_succ_eq_append_getElem (by simp; omega)]
                  simp
                have hr1 := hr.alloc (.cells #[.int .i64 (P + (m : Int) * R)] 3)
                go_wp2_with (at_builtin; refine wpList_append_own _ rfl _ _ 22 rfl w1.heap.size 3 i0 (.int .i64 0) 1 8 Tryz.underlying22 Hhi.out Hz0.out Hz1.out Hz2.out rfl (by decide) _ _ _ rfl hr1 ⟨wr.heap.size, 0, none⟩ 1 1 [.int .i64 (P + (m : Int) * R)] rfl rfl ?c1 ?c2 ?c3 ?c4 ?c5 ?_)
                case c1 => exact cell_one_new _ _ _
                case c2 => intro u hu; simp at hu; subst hu; rfl
                case c3 => unfold maxLen; omega
                case c4 => omega
                case c5 => have := hB1w.size; simp; omega
                intro v' w4 hown' hgrow _
                have hltB : B < wr.heap.size := (Array.getElem?_eq_some_iff.1 hbox).1
                have hbox' : w4.heap[B]? = some (.cells #[.int .i64 P, .int .i64 Q, .int .i64 R] 56 (0, 0)) := (hgrow.block B (by simp; omega) (ne_own hbox (by decide) hr)).trans ((Below.heap_alloc _ _ _ hltB).trans hbox)
                have hBw' := (hBw.alloc hBw.size (.cells #[.int .i64 (P + (m : Int) * R)] 3)).grown hgrow (by have := hBw.size; simp; omega) (fun j e => Nat.le_trans hs01 (hr.lt j e).1)
                have hB1w' := (hB1w.alloc hB1w.size (.cells #[.int .i64 (P + (m : Int) * R)] 3)).grown hgrow (by have := hB1w.size; simp; omega) (fun j e => (hr.lt j e).1)
                have HO := Lib.hid hown'
                have HB2 := Lib.hid hbox'
                clear hown' hbox' hgrow hr1
                go_wp2
                go_roundw
                case rel => exact ⟨m + 1, by omega, by go_num, by rw [hEx.out, ← List.append_assoc, rowZ_snoc]; exact HO.out, HB2.out, hBw', hB1w'⟩
                case measure => simp [intOf]; omega
              · have hmQ : m = Q.toNat := by omega
                have hall : (expI (P, Q, R)).take m = expI (P, Q, R) := List.take_of_length_le (by simp [expI]; omega)
                have hxl : (expI (P, Q, R)).length = m := by simp [expI]; omega
                have HA2 := Lib.hid hall
                have HX2 := Lib.hid hxl
                have hE2 : Hid (expL (l.take (k + 1)) = L ++ expI (P, Q, R)) := by unfold Hid; rw [hE.out, HL.out, HX.out]
                clear hall hxl hmQ
                go_wp2
                go_roundw
                case rel => exact ⟨k + 1, by omega, by go_num, by rw [hE2.out, List.length_append, HX2.out, ← HA2.out]; exact hr, hBw, hB1w⟩
                case measure => simp [intOf]; omega
          · have hE : Hid (expL (l.take k) = expL l) := by unfold Hid; rw [List.take_of_length_le (by omega)]
            rw [hE.out] at hr
            go_wp2_with fail
            go_ret2
            rw [hd2.out]
            exact ⟨_, rfl, ownsRow_base hr hs01, hBw⟩
end Go.Proofs.YtdcgfbebeiheiaaGreatDoor
