/- The example of the document. -/
import Derived.Test.YtnmeeddhagmjdaaVmL
import Derived.Test.YtnmeeddhagmjdaaRfSp
import Derived.Laws.StructEq
namespace Go.Proofs.Ytnmeeddhagmjdaa
open Go.RowKit Go.Shelf
attribute [local go_sem] Oper.semAt_some

def sm0 : Nat → Nat := fun _ => 0
def sf1 : Pages := chgF (chgT 1) freeF (List.range' 0 4)
def sm1 : Nat → Nat := updN sm0 0 (sm0 0 + 1)
def sf2 : Pages := chgF (chgT 2) sf1 (List.range' 1 2)
def sm2 : Nat → Nat := updN sm1 2 (sm1 2 + 1)
def sf4 : Pages := wrF sf2 64 7
def sf5 : Pages := chgF (chgT 3) sf4 (List.range' 0 1)
def sm5 : Nat → Nat := updN sm2 4 (sm2 4 + 1)
def sf6 : Pages := chgF (chgT 1) sf5 (List.range' 1 2)
def sm6 : Nat → Nat := updN sm5 3 (sm5 3 + 1)
def sf7 : Pages := chgF (chgT 2) sf6 (List.range' 1 1)
def sm7 : Nat → Nat := updN sm6 2 (sm6 2 + 1)
theorem sR1 : opP (cTurn 0 0 1) freeF [] sm0 0 4 = (0, sf1, sm1) := by kernel_rfl
theorem sR2 : opP (cTurn 2 1 2) sf1 [] sm1 1 2 = (0, sf2, sm2) := by kernel_rfl
theorem sR3 : opP (cTurn 2 1 2) sf2 [] sm2 0 2 = (9, sf2, sm2) := by kernel_rfl
theorem sR4 : (rdE sf2 64).2 = 0 := by kernel_rfl
theorem sD1 : rdE sf4 64 = (7, 0) := by kernel_rfl
theorem sD2 : rdE sf4 65 = (0, 0) := by kernel_rfl
theorem sD3 : rdE sf4 63 = (0, 61) := by kernel_rfl
theorem sR5 : opP (cTurn 4 1 3) sf4 [] sm2 0 1 = (0, sf5, sm5) := by kernel_rfl
theorem sR6 : opP (cTurn 1 1 0) sf5 [] sm5 0 4 = (9, sf5, sm5) := by kernel_rfl
theorem sR7 : opP (cTurn 3 2 1) sf5 [] sm5 1 2 = (0, sf6, sm6) := by kernel_rfl
theorem sR8 : opP (cTurn 2 1 2) sf6 [] sm6 1 1 = (0, sf7, sm7) := by kernel_rfl
theorem sD4 : rdE sf7 64 = (0, 0) := by kernel_rfl
theorem sC : cnV sf7 (List.range' 0 1024) = v5 1020 2 1 1 0 := by kernel_rfl
theorem sm_all (m : Nat → Nat) (h : (List.range 7).all (fun k => decide (m k < 49708)) = true) : Sm m := fun k hk => by simpa using List.all_eq_true.1 h k (List.mem_range.2 hk)
theorem sS0 : Sm sm0 := sm_all _ (by decide)
theorem sS1 : Sm sm1 := sm_all _ (by decide)
theorem sS2 : Sm sm2 := sm_all _ (by decide)
theorem sS5 : Sm sm5 := sm_all _ (by decide)
theorem sS6 : Sm sm6 := sm_all _ (by decide)
theorem okL_nil : OkL [] := ⟨Nat.zero_le _, fun r hr => by cases hr⟩
theorem i64_of {x : Int} (h1 : -9223372036854775808 ≤ x) (h2 : x ≤ 9223372036854775807) : I64 x := ⟨h1, h2⟩
theorem eq5 (a b c d e : Int) (w : World) : (Go.binOp .eql 67 (.agg #[.int .i64 a, .int .i64 b, .int .i64 c, .int .i64 d, .int .i64 e]) (.agg #[.int .i64 a, .int .i64 b, .int .i64 c, .int .i64 d, .int .i64 e])).run Try.prog w = Result.ok (.bool true) w := by
  have ht : Try.prog.underlying 67 = some (.struct (Try.prog.fieldsOf 67)) := by kernel_rfl
  have hp : Try.prog.stoodInHeld 67 = false := by kernel_rfl
  obtain ⟨f0, f1, f2, f3, f4, hu, o0, o1, o2, o3, o4, t0, t1, t2, t3, t4⟩ : ∃ f0 f1 f2 f3 f4 : Field, Try.prog.underlying 67 = some (.struct #[f0, f1, f2, f3, f4]) ∧ f0.offset = 0 ∧ f1.offset = 1 ∧ f2.offset = 2 ∧ f3.offset = 3 ∧ f4.offset = 4 ∧ f0.type = 3 ∧ f1.type = 3 ∧ f2.type = 3 ∧ f3.type = 3 ∧ f4.type = 3 :=
    ⟨_, _, _, _, _, Try.underlying67, rfl, rfl, rfl, rfl, rfl, rfl, rfl, rfl, rfl, rfl⟩
  have hf : Try.prog.fieldsOf 67 = #[f0, f1, f2, f3, f4] := by
    have := ht.symm.trans hu
    simpa using this
  rw [run_eql_struct, run_equalIn_agg w 9999 67 _ _ ht hp, hf, eqF]
  · rfl
  · intro f hm
    simp at hm
    rcases hm with rfl | rfl | rfl | rfl | rfl
    · exact ⟨t0, a, fun W => by rw [t0, o0]; kernel_rfl⟩
    · exact ⟨t1, b, fun W => by rw [t1, o1]; kernel_rfl⟩
    · exact ⟨t2, c, fun W => by rw [t2, o2]; kernel_rfl⟩
    · exact ⟨t3, d, fun W => by rw [t3, o3]; kernel_rfl⟩
    · exact ⟨t4, e, fun W => by rw [t4, o4]; kernel_rfl⟩

abbrev noX : Nat → Prop := fun _ => False
set_option maxRecDepth 100000 in
set_option maxHeartbeats 8000000 in
theorem shown_is (w : World) : Calls Try.prog 12 #[] w fun e w' => e = .returned (.bool true) ∧ Below w.heap.size w w' := by
  have H0 := Lib.hid (New_ok (.slice none 0 0) [] okL_nil noX w (fun b h => h.elim) (nil_at w))
  go_enter Try.func12, Try.ntmps12
  go_wp2_with fail
  refine H0.out.mono ?_
  rintro e w0 ⟨S, P, rfl, hS, hP, s0, B0⟩
  clear H0
  have HSP : Hid (∀ k, SP S P k → w.heap.size ≤ k) := by rintro k (rfl | rfl) <;> assumption
  have C1 := Lib.hid (Reserve_is S P noX freeF [] okL_nil sm0 sS0 0 4 (i64_of (by decide) (by decide)) w0 s0)
  unfold Left at C1
  rw [sR1] at C1
  go_wp2_with fail
  refine C1.out.mono ?_
  rintro e w1 ⟨rfl, s1, k1⟩
  have B1 := B0.trans (k1.below w.heap.size B0.size HSP.out)
  clear C1 k1 s0 B0
  have C2 := Lib.hid (Commit_is S P noX sf1 [] okL_nil sm1 sS1 1 2 (i64_of (by decide) (by decide)) w1 s1)
  unfold Left at C2
  rw [sR2] at C2
  go_wp2_with fail
  refine C2.out.mono ?_
  rintro e w2 ⟨rfl, s2, k2⟩
  have B2 := B1.trans (k2.below w.heap.size B1.size HSP.out)
  clear C2 k2 s1 B1
  have C3 := Lib.hid (Commit_is S P noX sf2 [] okL_nil sm2 sS2 0 2 (i64_of (by decide) (by decide)) w2 s2)
  unfold Left at C3
  rw [sR3] at C3
  go_wp2_with fail
  refine C3.out.mono ?_
  rintro e w3 ⟨rfl, s3, k3⟩
  have B3 := B2.trans (k3.below w.heap.size B2.size HSP.out)
  clear C3 k3 s2 B2
  have C4 := Lib.hid (Write_is S P noX sf2 [] sm2 64 7 w3 s3 0 sR4)
  go_wp2_with fail
  refine C4.out.mono ?_
  rintro e w4 ⟨rfl, s4, k4⟩
  have B4 := B3.trans (k4.below w.heap.size B3.size HSP.out)
  rw [show wrF sf2 64 7 = sf4 from rfl] at s4
  clear C4 k4 s3 B3
  obtain ⟨v4, t4⟩ := s4
  have D0 := Lib.hid (Read_is S P v4 _ _ sf4 64 w4 t4.box t4.pg _ sD1)
  go_wp2_with fail
  refine D0.out.mono ?_
  rintro e w' ⟨rfl, rfl⟩
  clear D0
  have D1 := Lib.hid (Read_is S P v4 _ _ sf4 65 w4 t4.box t4.pg _ sD2)
  go_wp2_with fail
  refine D1.out.mono ?_
  rintro e w' ⟨rfl, rfl⟩
  clear D1
  have D2 := Lib.hid (Read_is S P v4 _ _ sf4 63 w4 t4.box t4.pg _ sD3)
  go_wp2_with fail
  refine D2.out.mono ?_
  rintro e w' ⟨rfl, rfl⟩
  clear D2
  have s4 : Sys w4 S P noX sf4 [] sm2 := ⟨v4, t4⟩
  clear t4
  have C5 := Lib.hid (Guard_is S P noX sf4 [] okL_nil sm2 sS2 0 1 (i64_of (by decide) (by decide)) w4 s4)
  unfold Left at C5
  rw [sR5] at C5
  go_wp2_with fail
  refine C5.out.mono ?_
  rintro e w5 ⟨rfl, s5, k5⟩
  have B5 := B4.trans (k5.below w.heap.size B4.size HSP.out)
  clear C5 k5 s4 B4
  have C6 := Lib.hid (Release_is S P noX sf5 [] okL_nil sm5 sS5 0 4 (i64_of (by decide) (by decide)) w5 s5)
  unfold Left at C6
  rw [sR6] at C6
  go_wp2_with fail
  refine C6.out.mono ?_
  rintro e w6 ⟨rfl, s6, k6⟩
  have B6 := B5.trans (k6.below w.heap.size B5.size HSP.out)
  clear C6 k6 s5 B5
  have C7 := Lib.hid (Decommit_is S P noX sf5 [] okL_nil sm5 sS5 1 2 (i64_of (by decide) (by decide)) w6 s6)
  unfold Left at C7
  rw [sR7] at C7
  go_wp2_with fail
  refine C7.out.mono ?_
  rintro e w7 ⟨rfl, s7, k7⟩
  have B7 := B6.trans (k7.below w.heap.size B6.size HSP.out)
  clear C7 k7 s6 B6
  have C8 := Lib.hid (Commit_is S P noX sf6 [] okL_nil sm6 sS6 1 1 (i64_of (by decide) (by decide)) w7 s7)
  unfold Left at C8
  rw [sR8] at C8
  go_wp2_with fail
  refine C8.out.mono ?_
  rintro e w8 ⟨rfl, s8, k8⟩
  have B8 := B7.trans (k8.below w.heap.size B7.size HSP.out)
  clear C8 k8 s7 B7
  obtain ⟨v8, t8⟩ := s8
  have D8 := Lib.hid (Read_is S P v8 _ _ sf7 64 w8 t8.box t8.pg _ sD4)
  go_wp2_with fail
  refine D8.out.mono ?_
  rintro e w' ⟨rfl, rfl⟩
  clear D8
  have C9 := Lib.hid (Counts_is S P v8 _ _ sf7 w8 t8.box t8.pg)
  rw [sC] at C9
  go_wp2_with fail
  refine C9.out.mono ?_
  rintro e w9 ⟨rfl, B9⟩
  have B10 := B8.trans (B9.mono B8.size)
  clear C9 t8
  have heq := eq5 1020 2 1 1 0
  go_wp2_with fail
  go_ret
  exact ⟨rfl, B10.alloc B10.size _⟩
end Go.Proofs.Ytnmeeddhagmjdaa
