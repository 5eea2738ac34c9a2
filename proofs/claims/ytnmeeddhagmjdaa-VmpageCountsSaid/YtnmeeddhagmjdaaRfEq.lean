/- Arrays of seven numbers are compared. -/
import Derived.Test.YtnmeeddhagmjdaaRfNx
import Derived.Laws.StructEq
namespace Go.Proofs.Ytnmeeddhagmjdaa
open Go.RowKit Go.Shelf
attribute [local go_sem] Oper.semAt_some

theorem part7 (c : Nat → Int) (k : Nat) (hk : k < 7) (W : World) : (part 3 (arr c) k).run Try.prog W = .ok (.int .i64 (c k)) W := by
  rcases k7 hk with rfl | rfl | rfl | rfl | rfl | rfl | rfl <;> kernel_rfl
theorem eq7 (c : Nat → Int) (D : Nat) (hi : ∀ (x : Int) W, (Op.equalIn D 3 (.int .i64 x) (.int .i64 x)).run Try.prog W = .ok true W) (w : World) : (Op.equalIn (D + 1) 43 (.agg (arr c)) (.agg (arr c))).run Try.prog w = .ok true w := by
  have hz : ∀ W, (Go.sizeOf 3).run Try.prog W = .ok 1 W := Try.sizeOf3
  have hp := fun k hk W => part7 c k hk W
  have p0 := hp 0 (by decide)
  have p1 := hp 1 (by decide)
  have p2 := hp 2 (by decide)
  have p3 := hp 3 (by decide)
  have p4 := hp 4 (by decide)
  have p5 := hp 5 (by decide)
  have p6 := hp 6 (by decide)
  simp only [Op.equalIn, Sem.run_bind, run_underlying Try.underlying43, Result.andThen_ok, hz]
  simp only [Std.Legacy.Range.forIn_eq_forIn_range', Std.Legacy.Range.size, Nat.sub_zero, Nat.add_sub_cancel, Nat.div_one, List.range'_succ, List.range'_zero, List.forIn_cons, List.forIn_nil]
  simp [p0, p1, p2, p3, p4, p5, p6, hi]
theorem neq7 (c : Nat → Int) (w : World) : (Go.binOp .neq 43 (.agg (arr c)) (.agg (arr c))).run Try.prog w = Result.ok (.bool false) w := by
  rw [run_neq_struct, eq7 c 9999 (fun x W => by rw [run_equalIn_int W 9998 3 .i64 .i64 x x Try.underlying3]; simp) w]; rfl
end Go.Proofs.Ytnmeeddhagmjdaa
