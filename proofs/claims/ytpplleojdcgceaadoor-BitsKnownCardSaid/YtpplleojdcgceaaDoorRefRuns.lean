/- The other way's runs. -/
import Derived.Test.YtpplleojdcgceaaDoorRefRunsM
import Derived.Test.YtpplleojdcgceaaDoorRefFinds
import Derived.Test.YtpplleojdcgceaaDoorRuns
import Derived.Test.YtpplleojdcgceaaDoorTurnsM
namespace Go.Proofs.YtpplleojdcgceaaDoor
open Go.RowKit Go.Shelf
attribute [local go_sem] Oper.semAt_some

theorem run_cells0 {W : World} {base : Nat} {e : TypeId} {a : Option Addr} {n cap : Nat} {L : List (Nat × Nat)} (h : W.ownsRow base e 2 (.slice a n cap) n (rowR L)) (i : Nat) (hi : i < n) (r : Nat × Nat) (hr : L[i]? = some r) :
    ∃ g, a = some ⟨g, 0, none⟩ ∧ W.cell? ⟨g, i * 2, none⟩ = some (.int .i64 (r.1 : Int)) ∧ W.cell? ⟨g, i * 2 + 1, none⟩ = some (.int .i64 (r.2 : Int)) := by
  obtain ⟨r1, r2⟩ := rowR_at L i r hr
  obtain ⟨_, ⟨_, rfl⟩ | ⟨g, cap', cur, hv, _, hg, _, _, _, ht⟩⟩ := h
  · omega
  · cases hv
    refine ⟨g, rfl, ?_, ?_⟩
    · rw [← ht, List.getElem?_take, if_pos (by omega)] at r1
      simp only [World.cell?, hg]
      rw [Nat.mul_comm]; simpa using r1
    · rw [← ht, List.getElem?_take, if_pos (by omega)] at r2
      simp only [World.cell?, hg]
      rw [Nat.mul_comm]; simpa using r2
theorem rowR_len (l : List (Nat × Nat)) : (rowR l).length = 2 * l.length := by
  induction l with
  | nil => rfl
  | cons x l ih => show (rowR l).length + 1 + 1 = _; rw [ih, List.length_cons]; omega
theorem own_store {W : World} {base : Nat} {e : TypeId} {g k cap : Nat} {pre : List (Nat × Nat)} {r : Nat × Nat} (h : W.ownsRow base e 2 (.slice (some ⟨g, 0, none⟩) (k + 1) cap) (k + 1) (rowR (pre ++ [r]))) (hk : pre.length = k) (c : Nat) :
    (W.setCell ⟨g, k * 2 + 1, none⟩ (.int .i64 (c : Int))).ownsRow base e 2 (.slice (some ⟨g, 0, none⟩) (k + 1) cap) (k + 1) (rowR (pre ++ [(r.1, c)])) ∧ W.frozen? ⟨g, k * 2 + 1, none⟩ = false ∧ base ≤ g := by
  obtain ⟨hl, ⟨hv, _⟩ | ⟨g', cap', cur, hv, hb, hg, h1, h2, h3, ht⟩⟩ := h
  · cases hv
  · cases hv
    refine ⟨⟨by rw [rowR_len] at hl ⊢; simpa using hl, .inr ⟨g, cap, cur.setIfInBounds (k * 2 + 1) (.int .i64 (c : Int)), rfl, hb, heap_setCell_same W g _ cur e _ hg, h1, h2, by simpa using h3, ?_⟩⟩, by simp [World.frozen?, hg], hb⟩
    rw [Array.toList_setIfInBounds, List.take_set, ht, rowR_snoc, rowR_snoc, List.set_append_right _ _ (by rw [rowR_len]; omega), rowR_len, show k * 2 + 1 - 2 * pre.length = 1 by omega]
    rfl
theorem own_last {W : World} {base : Nat} {e : TypeId} {o : Value} {L : List (Nat × Nat)} {r : Nat × Nat} (h : W.ownsRow base e 2 o L.length (rowR L)) (hl : L.getLast? = some r) :
    ∃ pre g cap, L = pre ++ [r] ∧ o = .slice (some ⟨g, 0, none⟩) (pre.length + 1) cap ∧ W.cell? ⟨g, pre.length * 2 + 1, none⟩ = some (.int .i64 (r.2 : Int)) := by
  obtain ⟨pre, rfl⟩ := List.getLast?_eq_some_iff.1 hl
  rw [List.length_append, List.length_singleton] at h
  obtain ⟨g, cap, rfl⟩ := ownsRow_succ h
  obtain ⟨g', hg', _, h2⟩ := run_cells0 h pre.length (by omega) r (by simp)
  cases hg'
  exact ⟨pre, g, cap, rfl, rfl, h2⟩

set_option maxRecDepth 100000 in
set_option maxHeartbeats 4000000 in
theorem refruns_in (b n : Nat) (a : Option Addr) (cap : Nat) (ws : List Nat) (on : Bool) (hn4 : n ≤ 4096) (w : World) (hu : w.ownsRow b 4 1 (.slice a n cap) n (bitL ws n)) :
    Calls Tryd.prog 66 #[.slice a n cap, .bool on] w fun e w' => ∃ u, e = .returned u ∧ w'.ownsRow w.heap.size 53 2 u (refR ws on n).length (rowR (refR ws on n)) ∧ Below w.heap.size w w' := by
  obtain ⟨i0, hi, hz0, hz1, hz2⟩ := info_parts Tryd.infoRun
  have Hhi := Lib.hid hi
  have Hz0 := Lib.hid hz0
  have Hz1 := Lib.hid hz1
  have Hz2 := Lib.hid hz2
  clear hi hz0 hz1 hz2
  go_enter Tryd.func66, Tryd.ntmps66
  go_wp2_with fail
  go_loopw [5, 6] (fun o i wr => ∃ m : Nat, m ≤ n ∧ i = .int .i64 m ∧ wr.ownsRow w.heap.size 53 2 o (refR ws on m).length (rowR (refR ws on m)) ∧ Below w.heap.size w wr) (fun _ i _ => n - (intOf i).toNat)
  case atStart => exact ⟨0, Nat.zero_le _, rfl, World.ownsRow_nil _ _ _ _, Below.refl _ _⟩
  case round =>
    obtain ⟨m, hm, rfl, hr, hB⟩ := hrel
    by_cases hlt : m < n
    · have hum := hu.kept (grown_of_below hB) (Classical.em _)
      obtain ⟨g, rfl, hcell⟩ := own_at hum m hlt _ (bitL_at ws n m hlt)
      obtain ⟨b2, hb⟩ : ∃ b, btW ws m = b := ⟨_, rfl⟩
      rw [hb] at hcell
      have hi1 : (m : Int) < (n : Int) := by omega
      have hsn : refR ws on (m + 1) = if b2 = on then addR (refR ws on m) m else refR ws on m := by rw [← hb]; rfl
      have hlen := refR_len ws on m
      by_cases hbo : b2 = on
      · rw [if_pos hbo] at hsn
        cases hl : (refR ws on m).getLast? with
        | none =>
          have he : refR ws on m = [] := List.getLast?_eq_none_iff.1 hl
          have HS : Hid (refR ws on (m + 1) = [(m, m + 1)]) := by unfold Hid; rw [hsn]; unfold addR; rw [hl]
          rw [he] at hr
          obtain ⟨oa, oc, rfl⟩ := ownsRow_formR hr
          clear hsn hb hl he
          subst hbo
          cases b2
          all_goals
            have hr2 := hr.alloc (.cells #[.int .i64 (m : Int), .int .i64 ((m : Int) + 1)] 53)
            have HR2 := Lib.hid hr2
            have hsz := hB.size
            clear hr2
            go_wp2_with (at_builtin; refine wpList_append_own _ rfl _ _ 41 rfl w.heap.size 53 i0 (.agg #[.int .i64 0, .int .i64 0]) 2 16 Tryd.underlying41 Hhi.out Hz0.out Hz1.out Hz2.out rfl (by decide) _ _ _ rfl HR2.out ⟨wr.heap.size, 0, none⟩ 1 1 [.int .i64 (m : Int), .int .i64 ((m : Int) + 1)] rfl rfl ?c1 ?c2 ?c3 ?c4 ?c5 ?_)
            case c1 => exact cell_two_new wr _ _ _
            case c2 => intro u hu; simp at hu; rcases hu with rfl | rfl <;> rfl
            case c3 => first | (simp only [List.length_nil]; unfold maxLen; omega) | (unfold maxLen; omega)
            case c4 => first | (simp only [List.length_nil]; omega) | omega
            case c5 => simp; omega
            intro v' w1 hown hgrow _
            have hB4 := (hB.alloc hB.size (.cells #[.int .i64 (m : Int), .int .i64 ((m : Int) + 1)] 53)).grown hgrow (by simp; omega) (fun j e => (HR2.out.lt j e).1)
            have HO := Lib.hid hown
            clear hown hgrow
            go_wp2
            go_roundw
            case rel =>
              refine ⟨m + 1, by omega, by go_num, ?_, hB4⟩
              rw [HS.out]
              exact HO.out
            case measure => simp [intOf]; omega
        | some r =>
          obtain ⟨pre, g', cap', he, rfl, hc2⟩ := own_last hr hl
          rw [he, List.length_append, List.length_singleton] at hr
          have hpl : pre.length + 1 ≤ m := by rw [he, List.length_append, List.length_singleton] at hlen; exact hlen
          obtain ⟨s1, s2, s3⟩ := own_store hr rfl (m + 1)
          have hp1 : (pre.length : Int) < (pre.length : Int) + 1 := by omega
          by_cases hrm : r.2 = m
          · have HS : Hid (refR ws on (m + 1) = pre ++ [(r.1, m + 1)]) := by unfold Hid; rw [hsn]; unfold addR; rw [hl]; simp only; rw [if_pos hrm, he, List.dropLast_concat]
            rw [hrm] at hc2
            have hB4 : Below w.heap.size w (wr.setCell ⟨g', pre.length * 2 + 1, none⟩ (.int .i64 ((m + 1 : Nat) : Int))) := hB.setCell s3 _
            have S1 := Lib.hid s1
            have HB4 := Lib.hid hB4
            clear hsn hb hl he s1 hB4 hrm
            subst hbo
            cases b2
            all_goals
              go_wp2
              have e1 : ((m + 1 : Nat) : Int) = (m : Int) + 1 := by omega
              have hS1 := S1.out
              have hB5 := HB4.out
              rw [e1] at hS1 hB5
              refine ⟨⟨m + 1, by omega, by go_num, ?_, hB5⟩, by simp [intOf]; omega⟩
              rw [HS.out, List.length_append, List.length_singleton]
              exact hS1
          · have HS : Hid (refR ws on (m + 1) = pre ++ [r] ++ [(m, m + 1)]) := by unfold Hid; rw [hsn]; unfold addR; rw [hl]; simp only; rw [if_neg hrm, he]
            have hrm1 : ((r.2 : Int) == (m : Int)) = false := by simp; omega
            clear hsn hb hl he s1 hrm
            subst hbo
            cases b2
            all_goals
              have hr2 := hr.alloc (.cells #[.int .i64 (m : Int), .int .i64 ((m : Int) + 1)] 53)
              have HR2 := Lib.hid hr2
              have hsz := hB.size
              clear hr2
              go_wp2_with (at_builtin; refine wpList_append_own _ rfl _ _ 41 rfl w.heap.size 53 i0 (.agg #[.int .i64 0, .int .i64 0]) 2 16 Tryd.underlying41 Hhi.out Hz0.out Hz1.out Hz2.out rfl (by decide) _ _ _ rfl HR2.out ⟨wr.heap.size, 0, none⟩ 1 1 [.int .i64 (m : Int), .int .i64 ((m : Int) + 1)] rfl rfl ?c1 ?c2 ?c3 ?c4 ?c5 ?_)
              case c1 => exact cell_two_new wr _ _ _
              case c2 => intro u hu; simp at hu; rcases hu with rfl | rfl <;> rfl
              case c3 => first | (simp only [List.length_nil]; unfold maxLen; omega) | (unfold maxLen; omega)
              case c4 => first | (simp only [List.length_nil]; omega) | omega
              case c5 => simp; omega
              intro v' w1 hown hgrow _
              have hB4 := (hB.alloc hB.size (.cells #[.int .i64 (m : Int), .int .i64 ((m : Int) + 1)] 53)).grown hgrow (by simp; omega) (fun j e => (HR2.out.lt j e).1)
              have HO := Lib.hid hown
              clear hown hgrow
              go_wp2
              go_roundw
              case rel =>
                refine ⟨m + 1, by omega, by go_num, ?_, hB4⟩
                rw [HS.out]
                rw [rowR_snoc, List.length_append, List.length_append, List.length_singleton, List.length_singleton]
                exact HO.out
              case measure => simp [intOf]; omega
      · have HS : Hid (refR ws on (m + 1) = refR ws on m) := by unfold Hid; rw [hsn, if_neg hbo]
        obtain ⟨oa, oc, rfl⟩ := ownsRow_formR hr
        clear hb hsn
        cases b2 <;> cases on
        all_goals first | (exact absurd rfl hbo) | skip
        all_goals
          clear hbo
          go_wp2
          refine ⟨⟨m + 1, by omega, by go_num, by rw [HS.out]; exact hr, hB⟩, by simp [intOf]; omega⟩
    · have hmn : m = n := by omega
      subst hmn
      obtain ⟨oa, oc, rfl⟩ := ownsRow_formR hr
      go_wp2
      go_ret
      exact ⟨_, rfl, hr, hB⟩

set_option maxRecDepth 100000 in
set_option maxHeartbeats 1000000 in
theorem RefRuns_ok (n : Nat) (v : Value) (on : Bool) (ws : List Nat) (hf : Fit64 ws) (w : World) (h : WAt w v ws) (hc : checkB n ws = 0) :
    Calls Tryd.prog 33 #[bv n v, .bool on] w fun e w' => ∃ u, e = .returned (.tuple #[u, .int .i64 0]) ∧ w'.ownsRow w.heap.size 53 2 u (runsL ws on 0 n).length (rowR (runsL ws on 0 n)) ∧ Below w.heap.size w w' := by
  obtain ⟨n', hn', hn4, hlen⟩ := check_ok hc
  obtain rfl : n = n' := by omega
  obtain ⟨wA, hwA⟩ : ∃ wA, w.alloc (.cells #[.int .i64 (n : Int), v] 24) = wA := ⟨_, rfl⟩
  have hAB : Below w.heap.size w wA := by rw [← hwA]; exact (Below.refl _ _).alloc (Nat.le_refl _) _
  have bA : BBox wA w.heap.size n v := by rw [← hwA]; exact BBox.new w n v
  have hA := h.later hAB
  have HW := Lib.hid hwA
  have HC := Lib.hid hc
  have hl : n ≤ 64 * ws.length := by omega
  have HL := Lib.hid hl
  clear hwA hc hn' hlen hl
  go_enter Tryd.func33, Tryd.ntmps33
  go_wp2_with fail
  rw [HW.out]
  refine (RefCheck_is n v ws hf _ hA 0 HC.out).mono ?_
  rintro e w1 ⟨rfl, hB1⟩
  have x0 := (bA.later hB1).c0
  have x1 := (bA.later hB1).c1
  go_wp2_with fail
  refine (RefList_any n v ws hf hn4 HL.out w1 (hA.later hB1)).mono ?_
  rintro e w2 ⟨u, rfl, hu, hB2⟩
  obtain ⟨a, cap, rfl⟩ := own_form hu
  have D2 := hAB.trans ((hB1.trans (hB2.mono hB1.size)).mono hAB.size)
  clear x0 x1
  go_wp2_with fail
  refine (refruns_in _ n a cap ws on hn4 w2 hu).mono ?_
  rintro e w3 ⟨o, rfl, ho, hB3⟩
  rw [refR_runs] at ho
  obtain ⟨oa, oc, rfl⟩ := ownsRow_formR ho
  go_wp2
  go_ret2
  exact ⟨_, rfl, own_down ho D2.size, D2.trans (hB3.mono D2.size)⟩

set_option maxRecDepth 100000 in
theorem RefRuns_bad (N : Int) (v : Value) (on : Bool) (ws : List Nat) (hf : Fit64 ws) (w : World) (h : WAt w v ws) (c : Int) (hc : checkB N ws = c) (h0 : c ≠ 0) :
    Calls Tryd.prog 33 #[bv N v, .bool on] w fun e w' => e = .returned (.tuple #[.slice none 0 0, .int .i64 c]) ∧ Below w.heap.size w w' := by
  obtain ⟨wA, hwA⟩ : ∃ wA, w.alloc (.cells #[.int .i64 N, v] 24) = wA := ⟨_, rfl⟩
  have hAB : Below w.heap.size w wA := by rw [← hwA]; exact (Below.refl _ _).alloc (Nat.le_refl _) _
  have hA := h.later hAB
  have HW := Lib.hid hwA
  have HC := Lib.hid hc
  have hq : (c != 0) = true := by simp [h0]
  clear hwA hc h0
  go_enter Tryd.func33, Tryd.ntmps33
  go_wp2_with fail
  rw [HW.out]
  refine (RefCheck_is N v ws hf _ hA c HC.out).mono ?_
  rintro e w1 ⟨rfl, hB⟩
  go_wp2
  go_ret2
  exact ⟨rfl, hAB.trans (hB.mono hAB.size)⟩

set_option maxRecDepth 100000 in
set_option maxHeartbeats 1000000 in
theorem SameRuns_eq (b1 b2 : Nat) (u1 u2 : Value) (L : List (Nat × Nat)) (hL : L.length ≤ 5000) (w : World) (h1 : w.ownsRow b1 53 2 u1 L.length (rowR L)) (h2 : w.ownsRow b2 53 2 u2 L.length (rowR L)) :
    Calls Tryd.prog 34 #[u1, u2] w fun e w' => e = .returned (.bool true) ∧ Below w.heap.size w w' := by
  obtain ⟨a1, c1, rfl⟩ := ownsRow_formR h1
  obtain ⟨a2, c2, rfl⟩ := ownsRow_formR h2
  obtain ⟨n, hn⟩ : ∃ n, L.length = n := ⟨_, rfl⟩
  rw [hn] at h1 h2 hL
  rw [hn]
  go_enter Tryd.func34, Tryd.ntmps34
  go_wp2_with fail
  go_loopw [5] (fun i wr => ∃ (m d : Nat), m ≤ n ∧ i = .int .i64 m ∧ wr = w.drewN d) (fun i _ => n - (intOf i).toNat)
  case atStart => exact ⟨0, 0, Nat.zero_le _, rfl, rfl⟩
  case round =>
    obtain ⟨m, d, hm, rfl, rfl⟩ := hrel
    by_cases hlt : m < n
    · obtain ⟨⟨p, e⟩, hpe⟩ : ∃ r, L[m]? = some r := ⟨_, List.getElem?_eq_getElem (by omega)⟩
      obtain ⟨g1, rfl, k1, k2⟩ := run_cells0 h1 m hlt _ hpe
      obtain ⟨g2, rfl, k3, k4⟩ := run_cells0 h2 m hlt _ hpe
      have hi1 : (m : Int) < (n : Int) := by omega
      clear hpe
      go_wp2_with fail
      go_quiet (fail)
      go_wp2
      refine ⟨⟨m + 1, _, by omega, by go_num, rfl⟩, by simp [intOf]; omega⟩
    · have hi1 : ¬ ((m : Int) < (n : Int)) := by omega
      go_wp2
      go_ret
      exact ⟨rfl, below_drewN (Below.refl _ _) _⟩
end Go.Proofs.YtpplleojdcgceaaDoor
