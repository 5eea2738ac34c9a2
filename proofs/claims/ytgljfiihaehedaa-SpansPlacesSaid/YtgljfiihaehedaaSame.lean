/- The other way's Same. -/
import Derived.Test.YtgljfiihaehedaaBase
import Derived.Laws.StructEq
namespace Go.Proofs.Ytgljfiihaehedaa
open Go.RowKit
attribute [local go_sem] Oper.semAt_some

theorem stood_sp : Try.prog.stoodInHeld 31 = false := by kernel_rfl
theorem guard_sp : Try.prog.eqGuardType Try.prog.depth 31 = false := by kernel_rfl
theorem under_sp : Try.prog.underlying 31 = some (.struct (Try.prog.fieldsOf 31)) := by kernel_rfl
theorem fields_sp : ∃ f g : Field, (Try.prog.fieldsOf 31).toList = [f, g] ∧ f.name ≠ "_" ∧ g.name ≠ "_" ∧ f.type = 3 ∧ g.type = 3 ∧ f.offset = 0 ∧ g.offset = 1 :=
  ⟨⟨"Page", 3, 0, false, "", "", 0⟩, ⟨"Pages", 3, 1, false, "", "", 8⟩, by kernel_rfl, by decide, by decide, rfl, rfl, rfl, rfl⟩
theorem neq_sp (a b a2 b2 : Int) (w : World) : (Go.binOp .neq 31 (.agg #[.int .i64 a, .int .i64 b]) (.agg #[.int .i64 a2, .int .i64 b2])).run Try.prog w = Result.ok (.bool (!(a == a2 && b == b2))) w := by
  obtain ⟨f, g, hfs, n1, n2, t1, t2, o1, o2⟩ := fields_sp
  rw [run_neq_struct, run_equalIn_agg w 9999 _ _ _ under_sp stood_sp, hfs]
  simp [Op.eqFields, n1, n2, t1, t2, o1, o2, go_sem]
  by_cases h1 : a = a2 <;> by_cases h2 : b = b2 <;> simp [h1, h2]

set_option maxRecDepth 100000 in
set_option maxHeartbeats 1000000 in
theorem Same_is (l m : List SpI) (r : Bool) (hr : decide (l = m) = r) (hl : l.length ≤ 9223372036854775807) (u v : Value) (w : World) (h : SAt w u l) (h2 : SAt w v m) :
    Calls Try.prog 17 #[u, v] w fun e w' => e = .returned (.bool r) ∧ Below w.heap.size w w' := by
  obtain ⟨ua, uc, rfl⟩ := h.form
  obtain ⟨va, vc, rfl⟩ := h2.form
  obtain ⟨n, hn⟩ : ∃ n, l.length = n := ⟨_, rfl⟩
  obtain ⟨k2, hk2⟩ : ∃ n, m.length = n := ⟨_, rfl⟩
  have HN := Lib.hid hn
  have HM := Lib.hid hk2
  have HR := Lib.hid hr
  rw [hn] at h hl ⊢
  rw [hk2] at h2 ⊢
  clear hn hk2 hr
  by_cases hne : n = k2
  · subst hne
    go_enter Try.func17, Try.ntmps17
    go_wp2_with fail
    go_loopw [5] (fun i wr => ∃ (k d : Nat), k ≤ n ∧ i = .int .i64 k ∧ wr = w.drewN d ∧ Hid (l.take k = m.take k)) (fun i _ => n - (intOf i).toNat)
    case atStart => exact ⟨0, 0, Nat.zero_le _, rfl, rfl, rfl⟩
    case round =>
      obtain ⟨k, d, hk, rfl, rfl, HV⟩ := hrel
      by_cases hlt : k < n
      · obtain ⟨⟨a, b⟩, hx⟩ : ∃ x, l[k]? = some x := ⟨_, List.getElem?_eq_getElem (by rw [HN.out]; exact hlt)⟩
        obtain ⟨⟨a2, b2⟩, hy⟩ : ∃ x, m[k]? = some x := ⟨_, List.getElem?_eq_getElem (by rw [HM.out]; exact hlt)⟩
        obtain ⟨b1, o1, rfl, _, k1, k2⟩ := h.at k _ hx
        obtain ⟨b3, o3, rfl, _, k3, k4⟩ := h2.at k _ hy
        have hi1 : (k : Int) < (n : Int) := by omega
        have HX := Lib.hid hx
        have HY := Lib.hid hy
        simp only at k1 k2 k3 k4
        have HG := guard_sp
        have HNE := fun w => neq_sp a b a2 b2 w
        clear hx hy
        by_cases he : a = a2 ∧ b = b2
        · obtain ⟨rfl, rfl⟩ := he
          have HN0 : ∀ w, (Go.binOp .neq 31 (.agg #[.int .i64 a, .int .i64 b]) (.agg #[.int .i64 a, .int .i64 b])).run Try.prog w = Result.ok (.bool false) w := fun w => by rw [HNE]; simp
          clear HNE
          go_wp2_with fail
          go_quiet (fail)
          go_wp2
          refine ⟨⟨k + 1, _, by omega, by go_num, rfl, ?_⟩, by simp [intOf]; omega⟩
          unfold Hid
          rw [List.take_add_one, List.take_add_one, HX.out, HY.out, HV.out]
        · have HN0 : ∀ w, (Go.binOp .neq 31 (.agg #[.int .i64 a, .int .i64 b]) (.agg #[.int .i64 a2, .int .i64 b2])).run Try.prog w = Result.ok (.bool true) w := fun w => by
            rw [HNE]
            have : (a == a2 && b == b2) = false := by simpa using he
            rw [this]; rfl
          have HE := Lib.hid he
          clear HNE he
          go_wp2_with fail
          go_quiet (fail)
          go_wp2
          go_ret
          exact ⟨ret_bool (by rw [← HR.out]; symm; simp; intro e; subst e; have := HX.out.symm.trans HY.out; simp at this; exact HE.out this), below_drewN (below_drewN (Below.refl _ _) _) _⟩
      · have hi1 : ¬ ((k : Int) < (n : Int)) := by omega
        have hkn : k = n := by omega
        have HK := Lib.hid hkn
        clear hkn
        go_wp2
        go_ret
        exact ⟨ret_bool (by rw [← HR.out]; have h3 := HV.out; rw [HK.out, List.take_of_length_le (by rw [HN.out]; omega), List.take_of_length_le (by rw [HM.out]; omega)] at h3; simp [h3]), below_drewN (Below.refl _ _) _⟩
  · have hd : ((n : Int) != (k2 : Int)) = true := by simp; omega
    have H1 := Lib.hid hne
    clear hne
    go_enter Try.func17, Try.ntmps17
    go_wp2
    go_ret
    exact ⟨ret_bool (by rw [← HR.out]; symm; simp; intro e; exact H1.out (by rw [← HN.out, ← HM.out, e])), Below.refl _ _⟩
end Go.Proofs.Ytgljfiihaehedaa
