/- The helpers of the statements: lists that are compared, fields that are copied. -/
import Derived.Test.YtdcgfbebeiheiaaGreatDoorParseL
import Derived.Test.YtdcgfbebeiheiaaGreatDoorSplit
import Derived.Deep.QuietTactic
import Derived.BigQuiet
import Derived.Deep.RegionHeldLaw
import Derived.Deep.AppendLies
namespace Go.Proofs.YtdcgfbebeiheiaaGreatDoor
open Go.RowKit

def IntsAt (W : World) (v : Value) (l : List Int) : Prop :=
  (v = .slice none 0 0 ∧ l = []) ∨ ∃ b off cap, v = .slice (some ⟨b, off, none⟩) l.length cap ∧ ∀ j : Nat, j < l.length → W.cell? ⟨b, off + j, none⟩ = some (.int .i64 (l[j]?.getD 0))
theorem IntsAt.form {W : World} {v : Value} {l : List Int} (h : IntsAt W v l) : ∃ a cap, v = .slice a l.length cap := by
  rcases h with ⟨rfl, rfl⟩ | ⟨b, off, cap, rfl, _⟩
  · exact ⟨_, _, rfl⟩
  · exact ⟨_, _, rfl⟩
theorem IntsAt.at {W : World} {a : Option Addr} {n cap : Nat} {l : List Int} (h : IntsAt W (.slice a n cap) l) (k : Nat) (hk : k < l.length) : ∃ b off, a = some ⟨b, off, none⟩ ∧ W.cell? ⟨b, off + k, none⟩ = some (.int .i64 (l[k]?.getD 0)) := by
  rcases h with ⟨_, rfl⟩ | ⟨b, off, cap', hv, hc⟩
  · simp at hk
  · cases hv; exact ⟨b, off, rfl, hc k hk⟩
theorem IntsAt.later {w w' : World} {v : Value} {l : List Int} (h : IntsAt w v l) (hb : Below w.heap.size w w') : IntsAt w' v l := by
  rcases h with h | ⟨b, off, cap, rfl, hc⟩
  · exact .inl h
  · exact .inr ⟨b, off, cap, rfl, fun j hj => cell_later hb (hc j hj)⟩

theorem dec_cons {α : Type} [DecidableEq α] (a b : α) (x y : List α) : decide (a :: x = b :: y) = (decide (a = b) && decide (x = y)) := by
  rw [Bool.eq_iff_iff]; simp

set_option maxRecDepth 100000 in
set_option maxHeartbeats 2000000 in
theorem ints_any (v1 v2 : Value) (l1 l2 : List Int) (w : World) (h1 : IntsAt w v1 l1) (h2 : IntsAt w v2 l2) (hm1 : l1.length ≤ 9223372036854775807) :
    Calls Tryz.prog 12 #[v1, v2] w fun e w' => e = .returned (.bool (decide (l1 = l2))) ∧ Below w.heap.size w w' := by
  obtain ⟨a1, c1, rfl⟩ := h1.form
  obtain ⟨a2, c2, rfl⟩ := h2.form
  by_cases hl : l1.length = l2.length
  case neg =>
    have hq : ((l1.length : Int) != (l2.length : Int)) = true := by simp; omega
    have hne : Hid (decide (l1 = l2) = false) := by unfold Hid; simp; intro h; exact hl (by rw [h])
    clear hl
    go_enter Tryz.func12, Tryz.ntmps12
    go_wp2
    go_ret
    rw [hne.out]
    exact ⟨rfl, Below.refl _ _⟩
  have hq : ((l1.length : Int) != (l2.length : Int)) = false := by simp [hl]
  have HL := Lib.hid hl
  clear hl
  go_enter Tryz.func12, Tryz.ntmps12
  go_wp2_with fail
  go_loopw [5] (fun i wr => ∃ (k : Nat), k ≤ l1.length ∧ i = .int .i64 k ∧ Hid (decide (l1 = l2) = decide (l1.drop k = l2.drop k)) ∧ Below w.heap.size w wr) (fun i _ => l1.length - (intOf i).toNat)
  case atStart => exact ⟨0, Nat.zero_le _, rfl, rfl, Below.refl _ _⟩
  case round =>
    obtain ⟨k, hk, rfl, HR, hB⟩ := hrel
    by_cases hlt : k < l1.length
    · obtain ⟨b1, o1, rfl, q1⟩ := (h1.later hB).at k hlt
      obtain ⟨b2, o2, rfl, q2⟩ := (h2.later hB).at k (by have := HL.out; omega)
      have hlt2 : k < l2.length := by have := HL.out; omega
      have hi1 : (k : Int) < (l1.length : Int) := by omega
      have hi2 : (k : Int) < (l2.length : Int) := by omega
      have e1 : l1[k]?.getD 0 = l1[k] := by simp [hlt]
      have e2 : l2[k]?.getD 0 = l2[k] := by simp [hlt2]
      rw [e1] at q1
      rw [e2] at q2
      clear e1 e2
      have hd1 : Hid (l1.drop k = l1[k] :: l1.drop (k + 1)) := List.drop_eq_getElem_cons hlt
      have hd2 : Hid (l2.drop k = l2[k] :: l2.drop (k + 1)) := List.drop_eq_getElem_cons hlt2
      by_cases he : l1[k] = l2[k]
      · have hne : (l1[k] != l2[k]) = false := by simp [he]
        have HE := Lib.hid he
        clear he
        go_wp2_with fail
        go_quiet (fail)
        go_wp2
        go_roundw
        case rel => exact ⟨k + 1, by omega, by go_num, by unfold Hid; rw [HR.out, hd1.out, hd2.out, dec_cons, decide_eq_true HE.out]; rfl, below_drewN hB _⟩
        case measure => simp [intOf]; omega
      · have hne : (l1[k] != l2[k]) = true := by simp [he]
        have HE := Lib.hid he
        clear he
        go_wp2_with fail
        go_quiet (fail)
        go_wp2
        go_ret
        exact ⟨ret_bool (by rw [HR.out, hd1.out, hd2.out, dec_cons, decide_eq_false HE.out]; rfl), below_drewN hB _⟩
    · have h0 : Hid (l1.drop k = []) := List.drop_eq_nil_of_le (by omega)
      have h0' : Hid (l2.drop k = []) := List.drop_eq_nil_of_le (by have := HL.out; omega)
      go_wp2
      go_ret
      exact ⟨ret_bool (by rw [HR.out, h0.out, h0'.out]; simp), hB⟩

abbrev Fd := Bool × List UInt8
/-- A slice value that reads as a list of fields, of whichever of the two types. -/
def FieldsAt (W : World) (v : Value) (l : List Fd) : Prop :=
  (v = .slice none 0 0 ∧ l = []) ∨ ∃ b off cap, v = .slice (some ⟨b, off, none⟩) l.length cap ∧ ∀ (j : Nat) (h : j < l.length), W.cell? ⟨b, off + j * 2, none⟩ = some (.bool l[j].1) ∧ W.cell? ⟨b, off + j * 2 + 1, none⟩ = some (.string ⟨l[j].2.toArray⟩)
theorem FieldsAt.form {W : World} {v : Value} {l : List Fd} (h : FieldsAt W v l) : ∃ a cap, v = .slice a l.length cap := by
  rcases h with ⟨rfl, rfl⟩ | ⟨b, off, cap, rfl, _⟩
  · exact ⟨_, _, rfl⟩
  · exact ⟨_, _, rfl⟩
theorem FieldsAt.at {W : World} {a : Option Addr} {n cap : Nat} {l : List Fd} (h : FieldsAt W (.slice a n cap) l) (k : Nat) (hk : k < l.length) : ∃ b off, a = some ⟨b, off, none⟩ ∧ W.cell? ⟨b, off + k * 2, none⟩ = some (.bool l[k].1) ∧ W.cell? ⟨b, off + k * 2 + 1, none⟩ = some (.string ⟨l[k].2.toArray⟩) := by
  rcases h with ⟨_, rfl⟩ | ⟨b, off, cap', hv, hc⟩
  · simp at hk
  · cases hv; exact ⟨b, off, rfl, hc k hk⟩
theorem FieldsAt.later {w w' : World} {v : Value} {l : List Fd} (h : FieldsAt w v l) (hb : Below w.heap.size w w') : FieldsAt w' v l := by
  rcases h with h | ⟨b, off, cap, rfl, hc⟩
  · exact .inl h
  · exact .inr ⟨b, off, cap, rfl, fun j hj => ⟨cell_later hb (hc j hj).1, cell_later hb (hc j hj).2⟩⟩
theorem rowF_get : ∀ (l : List Fd) (k : Nat) (h : k < l.length), (rowF l)[k * 2]? = some (.bool l[k].1) ∧ (rowF l)[k * 2 + 1]? = some (.string ⟨l[k].2.toArray⟩)
  | [], k, h => by cases h
  | i :: l, 0, _ => ⟨rfl, rfl⟩
  | i :: l, k + 1, h => by
    have ih := rowF_get l k (by simpa using h)
    have e : ∀ j, (rowF (i :: l))[(k + 1) * 2 + j]? = (rowF l)[k * 2 + j]? := fun j => by
      rw [show (k + 1) * 2 + j = 2 + (k * 2 + j) from by omega]
      show ([Value.bool i.1, .string ⟨i.2.toArray⟩] ++ rowF l)[2 + (k * 2 + j)]? = _
      rw [List.getElem?_append_right (by simp)]
      simp
    exact ⟨(e 0).trans ih.1, (e 1).trans ih.2⟩
theorem FieldsAt.of_row {W : World} {base : Nat} {e : TypeId} {v : Value} {l : List Fd} (h : W.ownsRow base e 2 v l.length (rowF l)) : FieldsAt W v l := by
  obtain ⟨a, cap, rfl⟩ := ownsRow_form h
  rcases h.2 with ⟨h1, h2⟩ | ⟨g, cap', cur, hv, _⟩
  · exact .inl ⟨h1, List.eq_nil_of_length_eq_zero h2⟩
  · simp only [Value.slice.injEq] at hv
    obtain ⟨rfl, _, rfl⟩ := hv
    exact .inr ⟨g, 0, cap, rfl, fun j hj => by
      have := rowF_get l j hj
      rw [Nat.zero_add]
      exact ⟨(h.cellAt _ (by omega)).trans this.1, (h.cellAt _ (by omega)).trans this.2⟩⟩
theorem IntsAt.of_row {W : World} {base : Nat} {e : TypeId} {v : Value} {l : List Int} (h : W.ownsRow base e 1 v l.length (rowZ l)) : IntsAt W v l := by
  obtain ⟨a, cap, rfl⟩ := ownsRow_form h
  rcases h.2 with ⟨h1, h2⟩ | ⟨g, cap', cur, hv, _⟩
  · exact .inl ⟨h1, List.eq_nil_of_length_eq_zero h2⟩
  · simp only [Value.slice.injEq] at hv
    obtain ⟨rfl, _, rfl⟩ := hv
    exact .inr ⟨g, 0, cap, rfl, fun j hj => by
      rw [Nat.zero_add, h.cellAt _ (by omega)]
      simp [rowZ, hj]⟩

set_option maxRecDepth 100000 in
set_option maxHeartbeats 2000000 in
theorem alike_any (v1 v2 : Value) (l1 l2 : List Fd) (w : World) (h1 : FieldsAt w v1 l1) (h2 : FieldsAt w v2 l2) (hm1 : l1.length ≤ 9223372036854775807) :
    Calls Tryz.prog 15 #[v1, v2] w fun e w' => e = .returned (.bool (decide (l1 = l2))) ∧ Below w.heap.size w w' := by
  obtain ⟨a1, c1, rfl⟩ := h1.form
  obtain ⟨a2, c2, rfl⟩ := h2.form
  by_cases hl : l1.length = l2.length
  case neg =>
    have hq : ((l1.length : Int) != (l2.length : Int)) = true := by simp; omega
    have hne : Hid (decide (l1 = l2) = false) := by unfold Hid; simp; intro h; exact hl (by rw [h])
    clear hl
    go_enter Tryz.func15, Tryz.ntmps15
    go_wp2
    go_ret
    rw [hne.out]
    exact ⟨rfl, Below.refl _ _⟩
  have hq : ((l1.length : Int) != (l2.length : Int)) = false := by simp [hl]
  have HL := Lib.hid hl
  clear hl
  go_enter Tryz.func15, Tryz.ntmps15
  go_wp2_with fail
  go_loopw [5] (fun i wr => ∃ (k : Nat), k ≤ l1.length ∧ i = .int .i64 k ∧ Hid (decide (l1 = l2) = decide (l1.drop k = l2.drop k)) ∧ Below w.heap.size w wr) (fun i _ => l1.length - (intOf i).toNat)
  case atStart => exact ⟨0, Nat.zero_le _, rfl, rfl, Below.refl _ _⟩
  case round =>
    obtain ⟨k, hk, rfl, HR, hB⟩ := hrel
    by_cases hlt : k < l1.length
    · obtain ⟨b1, o1, rfl, q1, q1'⟩ := (h1.later hB).at k hlt
      have hlt2 : k < l2.length := by have := HL.out; omega
      obtain ⟨b2, o2, rfl, q2, q2'⟩ := (h2.later hB).at k hlt2
      have hi1 : (k : Int) < (l1.length : Int) := by omega
      have hi2 : (k : Int) < (l2.length : Int) := by omega
      have hd1 : Hid (l1.drop k = l1[k] :: l1.drop (k + 1)) := List.drop_eq_getElem_cons hlt
      have hd2 : Hid (l2.drop k = l2[k] :: l2.drop (k + 1)) := List.drop_eq_getElem_cons hlt2
      obtain ⟨x1, hx1⟩ : ∃ x, l1[k] = x := ⟨_, rfl⟩
      obtain ⟨x2, hx2⟩ : ∃ x, l2[k] = x := ⟨_, rfl⟩
      rw [hx1] at q1 q1'
      rw [hx2] at q2 q2'
      have HX1 := Lib.hid hx1
      have HX2 := Lib.hid hx2
      clear hx1 hx2
      by_cases he : x1 = x2
      · subst he
        go_wp2_with fail
        go_quiet (fail)
        go_wp2
        go_roundw
        case rel => exact ⟨k + 1, by omega, by go_num, by unfold Hid; rw [HR.out, hd1.out, hd2.out, dec_cons, HX1.out, HX2.out, decide_eq_true rfl]; rfl, below_drewN hB _⟩
        case measure => simp [intOf]; omega
      · have HNE := Lib.hid he
        obtain ⟨p1, s1⟩ := x1
        obtain ⟨p2, s2⟩ := x2
        by_cases hp : p1 = p2
        · subst hp
          have hss : (s1 == s2) = false := by
            rw [beq_eq_false_iff_ne]
            intro h; exact he (by rw [h])
          clear he
          go_wp2_with fail
          go_quiet (fail)
          go_wp2
          go_ret
          exact ⟨ret_bool (by rw [HR.out, hd1.out, hd2.out, dec_cons, HX1.out, HX2.out, decide_eq_false HNE.out]; rfl), below_drewN hB _⟩
        · have hpp : (p1 == p2) = false := by simpa using hp
          clear he hp
          go_wp2_with fail
          go_quiet (fail)
          go_wp2
          go_ret
          exact ⟨ret_bool (by rw [HR.out, hd1.out, hd2.out, dec_cons, HX1.out, HX2.out, decide_eq_false HNE.out]; rfl), below_drewN hB _⟩
    · have h0 : Hid (l1.drop k = []) := List.drop_eq_nil_of_le (by omega)
      have h0' : Hid (l2.drop k = []) := List.drop_eq_nil_of_le (by have := HL.out; omega)
      go_wp2
      go_ret
      exact ⟨ret_bool (by rw [HR.out, h0.out, h0'.out]; simp), hB⟩

theorem keep_cell {W B : World} {base : Nat} {e : TypeId} {size n : Nat} {v : Value} {xs : List Value} {o : Obj} {a : Addr} {u : Value} (hg : (W.alloc o).drew.grownBy B v.ownBlock) (hr : (W.alloc o).drew.ownsRow base e size v n xs) (hlt : a.block < base) (hq : W.cell? a = some u) : B.cell? a = some u := by
  have h0 := World.block_lt_of_cell? _ _ hq
  have h1 := hg.block a.block (by show a.block < (W.alloc o).heap.size; simp; omega) (fun e => by have := (hr.lt a.block e.symm).1; omega)
  have h2 : (W.alloc o).drew.heap[a.block]? = W.heap[a.block]? := Below.heap_alloc W o a.block h0
  rw [World.cell?_of_block (w := W) (h1.trans h2)]
  exact hq
theorem Tryz.infoRef : (Tryz.prog.info? 49).map (fun i => (i.zero, i.size, i.bytes)) = some (some (.agg #[.bool false, .string ⟨#[]⟩]), 2, 24) := by kernel_rfl

set_option maxRecDepth 100000 in
set_option maxHeartbeats 4000000 in
theorem fields_any (v1 : Value) (l1 : List Fd) (w : World) (h1 : FieldsAt w v1 l1) (hm1 : l1.length ≤ 100000) :
    Calls Tryz.prog 16 #[v1] w fun e w' => ∃ v, e = .returned v ∧ w'.ownsRow w.heap.size 49 2 v l1.length (rowF l1) ∧ Below w.heap.size w w' := by
  obtain ⟨a1, c1, rfl⟩ := h1.form
  obtain ⟨i0, hi, hz0, hz1, hz2⟩ := info_parts Tryz.infoRef
  have Hhi := Lib.hid hi
  have Hz0 := Lib.hid hz0
  have Hz1 := Lib.hid hz1
  have Hz2 := Lib.hid hz2
  clear hi hz0 hz1 hz2
  go_enter Tryz.func16, Tryz.ntmps16
  go_wp2_with fail
  go_loopw [3, 4] (fun v i wr => ∃ (k : Nat), k ≤ l1.length ∧ i = .int .i64 k ∧ wr.ownsRow w.heap.size 49 2 v k (rowF (l1.take k)) ∧ Below w.heap.size w wr) (fun _ i _ => l1.length - (intOf i).toNat)
  case atStart => exact ⟨0, Nat.zero_le _, rfl, World.ownsRow_nil _ _ _ _, Below.refl _ _⟩
  case round =>
    obtain ⟨k, hk, rfl, hr, hB⟩ := hrel
    by_cases hlt : k < l1.length
    · obtain ⟨b1, o1, rfl, q0, q0'⟩ := h1.at k hlt
      have b1lt := World.block_lt_of_cell? _ _ q0
      have q1 := cell_later hB q0
      have q1' := cell_later hB q0'
      clear q0 q0'
      have hi1 : (k : Int) < (l1.length : Int) := by omega
      obtain ⟨P, hP⟩ : ∃ x, l1[k].1 = x := ⟨_, rfl⟩
      obtain ⟨S, hS⟩ : ∃ x, l1[k].2 = x := ⟨_, rfl⟩
      rw [hP] at q1
      rw [hS] at q1'
      have hrow : Hid (rowF (l1.take (k + 1)) = rowF (l1.take k) ++ [.bool P, .string ⟨S.toArray⟩]) := by
        unfold Hid; rw [List.take_succ_eq_append_getElem hlt, rowF_snoc, ← hP, ← hS]; rfl
      clear hP hS
      go_wp2_with fail
      have hr2 := (hr.alloc (.cells #[.bool P, .string ⟨S.toArray⟩] 49)).drew
      have hnews := cell_two_new wr (.bool P) (.string ⟨S.toArray⟩) 49
      have hk1 : k + 1 ≤ maxLen := by unfold maxLen; omega
      have hk2 : (k + 1) * 24 ≤ 140737488355328 := by omega
      have hk3 : w.heap.size ≤ (wr.alloc (.cells #[.bool P, .string ⟨S.toArray⟩] 49)).drew.heap.size := by have := hB.size; simp; omega
      have HNW2 : Hid (∀ j u, [Value.bool P, Value.string ⟨S.toArray⟩][j]? = some u → (wr.alloc (.cells #[.bool P, .string ⟨S.toArray⟩] 49)).drew.cell? ((⟨wr.heap.size, 0, none⟩ : Addr).add j) = some u) := hnews
      have HN1 : Hid (∀ u ∈ [Value.bool P, Value.string ⟨S.toArray⟩], u.oneCell' = true) := by intro u hu; simp at hu; rcases hu with rfl | rfl <;> rfl
      have HR2 := Lib.hid hr2
      have HK3 := Lib.hid hk3
      clear hr2 hnews hk3
      have hb1 : b1 < w.heap.size := b1lt
      have Q1 := Lib.hid q1
      have Q2 := Lib.hid q1'
      first | go_region_held_law (fun w' => w'.cell? ⟨b1, o1 + k * 2, none⟩ = some (.bool P) ∧ w'.cell? ⟨b1, o1 + k * 2 + 1, none⟩ = some (.string ⟨S.toArray⟩)) (first | exact ⟨keep_cell hgrow HR2.out hb1 Q1.out, keep_cell hgrow HR2.out hb1 Q2.out⟩ | go_keep) (first | (refine step_append_lies (hgd := rfl) (t := 34) (ho := rfl) (base := w.heap.size) (e := 49) (i := i0) (z := .agg #[.bool false, .string ⟨#[]⟩]) (size := 2) (bytes := 24) (ht := Tryz.underlying34) (hi := Hhi.out) (hz := Hz0.out) (hsize := Hz1.out) (hby := Hz2.out) (hzs := rfl) (hsz := by decide) (v := u3) (n := k) (hs := rfl) (hown := HR2.out) (ad := ⟨wr.heap.size, 0, none⟩) (m := 1) (c := 1) (news := [.bool P, .string ⟨S.toArray⟩]) (hx := rfl) (hl := rfl) (hnews := HNW2.out) (h1 := HN1.out) (hm := by decide) (h63 := hk1) (hbytes := hk2) (hbase := HK3.out) (hH := rfl) (h := ?_); intro g cap' w4 hown hgrow _ _)) | fail
      have HO := Lib.hid hown
      have hB4 := ((hB.alloc hB.size (.cells #[.bool P, .string ⟨S.toArray⟩] 49)).drew).grown hgrow HK3.out (fun j e => (HR2.out.lt j e).1)
      clear hown hgrow
      go_wp2
      go_roundw
      case rel => exact ⟨k + 1, by omega, by go_num, by rw [hrow.out]; exact HO.out, hB4⟩
      case measure => simp [intOf]; omega
    · have hE : Hid (l1.take k = l1) := List.take_of_length_le (by omega)
      have hkk : k = l1.length := by omega
      rw [hE.out, hkk] at hr
      clear hkk
      go_wp2
      go_ret
      exact ⟨_, rfl, hr, hB⟩
end Go.Proofs.YtdcgfbebeiheiaaGreatDoor
