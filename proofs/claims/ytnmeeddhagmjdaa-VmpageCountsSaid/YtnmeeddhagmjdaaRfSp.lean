/- The reference: SamePlan, SameState, of what is equal. -/
import Derived.Test.YtnmeeddhagmjdaaRfEq
import Derived.Test.YtnmeeddhagmjdaaRfRn
namespace Go.Proofs.Ytnmeeddhagmjdaa
open Go.RowKit Go.Shelf
attribute [local go_sem] Oper.semAt_some

theorem SBox.cells0 {W : World} {b : Nat} {v : Value} {c h : Nat → Int} (s : SBox W b v c h) : W.cell? ⟨b, 0, none⟩ = some v ∧ (W.cell? ⟨b, 1, none⟩ = some (.int .i64 (c 0)) ∧ W.cell? ⟨b, 2, none⟩ = some (.int .i64 (c 1)) ∧ W.cell? ⟨b, 3, none⟩ = some (.int .i64 (c 2)) ∧ W.cell? ⟨b, 4, none⟩ = some (.int .i64 (c 3)) ∧ W.cell? ⟨b, 5, none⟩ = some (.int .i64 (c 4)) ∧ W.cell? ⟨b, 6, none⟩ = some (.int .i64 (c 5)) ∧ W.cell? ⟨b, 7, none⟩ = some (.int .i64 (c 6))) ∧
    (W.cell? ⟨b, 8, none⟩ = some (.int .i64 (h 0)) ∧ W.cell? ⟨b, 9, none⟩ = some (.int .i64 (h 1)) ∧ W.cell? ⟨b, 10, none⟩ = some (.int .i64 (h 2)) ∧ W.cell? ⟨b, 11, none⟩ = some (.int .i64 (h 3)) ∧ W.cell? ⟨b, 12, none⟩ = some (.int .i64 (h 4)) ∧ W.cell? ⟨b, 13, none⟩ = some (.int .i64 (h 5)) ∧ W.cell? ⟨b, 14, none⟩ = some (.int .i64 (h 6))) :=
  ⟨s.cell 0, ⟨s.cell 1, s.cell 2, s.cell 3, s.cell 4, s.cell 5, s.cell 6, s.cell 7⟩, s.cell 8, s.cell 9, s.cell 10, s.cell 11, s.cell 12, s.cell 13, s.cell 14⟩
theorem eqF (xs : Array Value) : ∀ (fs : List Field), (∀ f ∈ fs, f.type = 3 ∧ ∃ x : Int, ∀ W, (part f.type xs f.offset).run Try.prog W = .ok (.int .i64 x) W) → ∀ w, (Op.eqFields 9999 xs xs fs).run Try.prog w = .ok true w
  | [], _, w => by simp [Op.eqFields]
  | f :: fs, h, w => by
    obtain ⟨ht, x, hx⟩ := h f (by simp)
    have ih := eqF xs fs (fun g hg => h g (by simp [hg]))
    have hi : ∀ W, (Op.equalIn 9999 f.type (.int .i64 x) (.int .i64 x)).run Try.prog W = .ok true W := fun W => by rw [ht, run_equalIn_int W 9998 3 .i64 .i64 x x Try.underlying3]; simp
    simp only [Op.eqFields, Sem.run_ite, Sem.run_bind, hx, hi, Result.andThen_ok, ih]
    simp
set_option maxRecDepth 100000 in
theorem neqR (a b c d : Int) (w : World) : (Go.binOp .neq 134 (.agg #[.int .i64 a, .int .i64 b, .int .i64 c, .int .i64 d]) (.agg #[.int .i64 a, .int .i64 b, .int .i64 c, .int .i64 d])).run Try.prog w = Result.ok (.bool false) w := by
  have ht : Try.prog.underlying 134 = some (.struct (Try.prog.fieldsOf 134)) := by kernel_rfl
  have hp : Try.prog.stoodInHeld 134 = false := by kernel_rfl
  obtain ⟨f0, f1, f2, f3, hu, o0, o1, o2, o3, t0, t1, t2, t3⟩ : ∃ f0 f1 f2 f3 : Field, Try.prog.underlying 134 = some (.struct #[f0, f1, f2, f3]) ∧ f0.offset = 0 ∧ f1.offset = 1 ∧ f2.offset = 2 ∧ f3.offset = 3 ∧ f0.type = 3 ∧ f1.type = 3 ∧ f2.type = 3 ∧ f3.type = 3 :=
    ⟨_, _, _, _, Try.underlying134, rfl, rfl, rfl, rfl, rfl, rfl, rfl, rfl⟩
  have hf : Try.prog.fieldsOf 134 = #[f0, f1, f2, f3] := by
    have := ht.symm.trans hu
    simpa using this
  rw [run_neq_struct, run_equalIn_agg w 9999 134 _ _ ht hp, hf, eqF]
  · rfl
  · intro f hm
    simp at hm
    rcases hm with rfl | rfl | rfl | rfl
    · exact ⟨t0, a, fun W => by rw [t0, o0]; kernel_rfl⟩
    · exact ⟨t1, b, fun W => by rw [t1, o1]; kernel_rfl⟩
    · exact ⟨t2, c, fun W => by rw [t2, o2]; kernel_rfl⟩
    · exact ⟨t3, d, fun W => by rw [t3, o3]; kernel_rfl⟩
theorem eqA7 (c : Nat → Int) (w : World) : (Go.binOp .eql 43 (.agg (arr c)) (.agg (arr c))).run Try.prog w = Result.ok (.bool true) w := by
  rw [run_eql_struct, eq7 c 9999 (fun x W => by rw [run_equalIn_int W 9998 3 .i64 .i64 x x Try.underlying3]; simp) w]; rfl
set_option maxRecDepth 100000 in
set_option maxHeartbeats 2000000 in
theorem SamePlan_is (v u : Value) (l : List RlI) (w : World) (hv : RAt w v l) (hu : RAt w u l) :
    Calls Try.prog 70 #[.agg #[v], .agg #[u]] w fun e w' => e = .returned (.bool true) ∧ Below w.heap.size w w' := by
  have hl64 := hv.len
  obtain ⟨va, vc, rfl⟩ := hv.form
  obtain ⟨ua, uc, rfl⟩ := hu.form
  obtain ⟨n, hn⟩ : ∃ n, l.length = n := ⟨_, rfl⟩
  have HN := Lib.hid hn
  rw [hn] at hv hu hl64 ⊢
  clear hn
  obtain ⟨WL, hWL⟩ : ∃ x, (w.alloc (.cells #[.slice va n vc] 24)).alloc (.cells #[.slice ua n uc] 24) = x := ⟨_, rfl⟩
  have hb : Below w.heap.size w WL := by rw [← hWL]; exact ((Below.refl _ _).alloc (Nat.le_refl _) _).alloc (by simp) _
  have b1 : Boxed WL w.heap.size 24 (.slice va n vc) := by rw [← hWL]; exact (Boxed.new w _ _).alloc _
  have b2 : Boxed WL (w.heap.size + 1) 24 (.slice ua n uc) := by
    rw [← hWL]
    have := Boxed.new (w.alloc (.cells #[.slice va n vc] 24)) 24 (.slice ua n uc)
    rw [World.size_alloc] at this
    exact this
  have q1 := b1.cell
  have q2 := b2.cell
  have hvL := hv.later hb
  have huL := hu.later hb
  have hne := neqR
  go_enter Try.func70, Try.ntmps70
  go_wp2_with fail
  try rw [hWL]
  clear hWL
  go_loopw [5] (fun i wr => ∃ k : Nat, k ≤ n ∧ i = .int .i64 k ∧ Below WL.heap.size WL wr) (fun i _ => n - (intOf i).toNat)
  case atStart => exact ⟨0, Nat.zero_le _, rfl, Below.refl _ _⟩
  case round =>
    obtain ⟨k, hk, rfl, hB⟩ := hrel
    have p1 := cell_later hB q1
    have p2 := cell_later hB q2
    by_cases hlt : k < n
    · obtain ⟨x, hx⟩ : ∃ x, l[k]? = some x := ⟨_, List.getElem?_eq_getElem (by rw [HN.out]; exact hlt)⟩
      obtain ⟨b1, o1, rfl, _, k1, k2, k3, k4⟩ := hvL.at k _ hx
      obtain ⟨b2, o2, rfl, _, j1, j2, j3, j4⟩ := huL.at k _ hx
      replace k1 := cell_later hB k1
      replace k2 := cell_later hB k2
      replace k3 := cell_later hB k3
      replace k4 := cell_later hB k4
      replace j1 := cell_later hB j1
      replace j2 := cell_later hB j2
      replace j3 := cell_later hB j3
      replace j4 := cell_later hB j4
      have hi1 : (k : Int) < (n : Int) := by omega
      have hk0 : decide ((k : Int) < 0) = false := by simp
      have hk7 : decide ((n : Int) ≤ (k : Int)) = false := by simp; omega
      clear hx
      go_wp2_with fail
      go_quiet (fail)
      go_wp2_with fail
      go_roundw
      case rel => exact ⟨k + 1, by omega, by go_num, below_drewN hB _⟩
      case measure => simp [intOf]; omega
    · have hi1 : ¬ ((k : Int) < (n : Int)) := by omega
      go_wp2
      go_ret
      exact ⟨rfl, hb.trans (hB.mono hb.size)⟩
set_option maxRecDepth 100000 in
set_option maxHeartbeats 2000000 in
theorem SameState_is (v u : Value) (c h : Nat → Int) (l : List RlI) (w : World) (hv : RAt w v l) (hu : RAt w u l) :
    Calls Try.prog 30 #[stV v c h, stV u c h] w fun e w' => e = .returned (.bool true) ∧ Below w.heap.size w w' := by
  obtain ⟨WL, hWL⟩ : ∃ x, (w.alloc (.cells (stA v c h) 45)).alloc (.cells (stA u c h) 45) = x := ⟨_, rfl⟩
  have hb : Below w.heap.size w WL := by rw [← hWL]; exact ((Below.refl _ _).alloc (Nat.le_refl _) _).alloc (by simp) _
  have s1 : SBox WL w.heap.size v c h := by rw [← hWL]; exact (SBox.new w v c h).alloc _
  have s2 : SBox WL (w.heap.size + 1) u c h := by
    rw [← hWL]
    have := SBox.new (w.alloc (.cells (stA v c h) 45)) u c h
    rw [World.size_alloc] at this
    exact this
  have q1 := s1.v
  have q2 := s2.v
  have HS := Lib.hid (SamePlan_is v u l WL (hv.later hb) (hu.later hb))
  have hec := eqA7 c
  have heh := eqA7 h
  go_enter Try.func30, Try.ntmps30
  go_wp2_with fail
  try rw [hWL]
  refine HS.out.mono ?_
  rintro e w1 ⟨rfl, B1⟩
  obtain ⟨z0, ⟨z1, z2, z3, z4, z5, z6, z7⟩, z8, z9, z10, z11, z12, z13, z14⟩ := (s1.later B1).cells0
  obtain ⟨y0, ⟨y1, y2, y3, y4, y5, y6, y7⟩, y8, y9, y10, y11, y12, y13, y14⟩ := (s2.later B1).cells0
  clear hWL
  go_wp2_with fail
  go_ret
  exact ⟨rfl, hb.trans (B1.mono hb.size)⟩
end Go.Proofs.Ytnmeeddhagmjdaa
