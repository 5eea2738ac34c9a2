/- The other calls of a system. -/
import Derived.Test.YtnmeeddhagmjdaaVmH
namespace Go.Proofs.Ytnmeeddhagmjdaa
open Go.RowKit Go.Shelf
attribute [local go_sem] Oper.semAt_some

set_option maxRecDepth 100000 in
theorem Release_is (S P : Nat) (X : Nat → Prop) (f : Pages) (L : List Ru) (hL : OkL L) (m : Nat → Nat) (hm : Sm m) (a n : Int) (ha : I64 a) (w : World) (hs : Sys w S P X f L m) :
    Calls Try.prog 34 #[.pointer (some ⟨S, 0, none⟩), .int .i64 a, .int .i64 n] w (Left S P X L w (opP (cTurn 1 1 0) f L m a n)) := by
  have hSP : ∀ k, SP S P k → k < w.heap.size := by
    obtain ⟨v, s⟩ := hs
    rintro k (rfl | rfl)
    · exact s.box.lt
    · exact s.pg.lt
  go_enter Try.func34, Try.ntmps34
  go_wp2_with fail
  refine (turn_is 1 1 0 w).mono ?_
  rintro e w1 ⟨rfl, b1, b2, B1⟩
  go_wp2_with fail
  refine (onPages_is S P X f L hL m hm (cTurn 1 1 0) (by decide) _ a n ha w1 (hs.later B1) (callv_turn S P 1 1 0 _ _ w1 b1 b2 (fun h => by have := hSP _ h; omega) (fun h => by have := hSP _ h; omega))).mono ?_
  rintro e w2 ⟨rfl, h2, h3⟩
  go_wp2_with fail
  go_ret
  exact ⟨rfl, h2, (Keep.of_below B1).trans h3⟩
set_option maxRecDepth 100000 in
theorem Release_no (s : Value) (a n : Int) (w : World) (hs : Unmade w s) :
    Calls Try.prog 34 #[s, .int .i64 a, .int .i64 n] w (NilE w) := by
  have HS := Lib.hid hs
  clear hs
  go_enter Try.func34, Try.ntmps34
  go_wp2_with fail
  refine (turn_is 1 1 0 w).mono ?_
  rintro e w1 ⟨rfl, b1, b2, B1⟩
  go_wp2_with fail
  refine (onPages_no s 1 _ _ a n w1 (HS.out.later B1)).mono ?_
  rintro e w2 ⟨rfl, B2⟩
  go_wp2_with fail
  go_ret
  exact ⟨rfl, B1.trans (B2.mono B1.size)⟩
set_option maxRecDepth 100000 in
theorem Commit_is (S P : Nat) (X : Nat → Prop) (f : Pages) (L : List Ru) (hL : OkL L) (m : Nat → Nat) (hm : Sm m) (a n : Int) (ha : I64 a) (w : World) (hs : Sys w S P X f L m) :
    Calls Try.prog 28 #[.pointer (some ⟨S, 0, none⟩), .int .i64 a, .int .i64 n] w (Left S P X L w (opP (cTurn 2 1 2) f L m a n)) := by
  have hSP : ∀ k, SP S P k → k < w.heap.size := by
    obtain ⟨v, s⟩ := hs
    rintro k (rfl | rfl)
    · exact s.box.lt
    · exact s.pg.lt
  go_enter Try.func28, Try.ntmps28
  go_wp2_with fail
  refine (turn_is 2 1 2 w).mono ?_
  rintro e w1 ⟨rfl, b1, b2, B1⟩
  go_wp2_with fail
  refine (onPages_is S P X f L hL m hm (cTurn 2 1 2) (by decide) _ a n ha w1 (hs.later B1) (callv_turn S P 2 1 2 _ _ w1 b1 b2 (fun h => by have := hSP _ h; omega) (fun h => by have := hSP _ h; omega))).mono ?_
  rintro e w2 ⟨rfl, h2, h3⟩
  go_wp2_with fail
  go_ret
  exact ⟨rfl, h2, (Keep.of_below B1).trans h3⟩
set_option maxRecDepth 100000 in
theorem Commit_no (s : Value) (a n : Int) (w : World) (hs : Unmade w s) :
    Calls Try.prog 28 #[s, .int .i64 a, .int .i64 n] w (NilE w) := by
  have HS := Lib.hid hs
  clear hs
  go_enter Try.func28, Try.ntmps28
  go_wp2_with fail
  refine (turn_is 2 1 2 w).mono ?_
  rintro e w1 ⟨rfl, b1, b2, B1⟩
  go_wp2_with fail
  refine (onPages_no s 2 _ _ a n w1 (HS.out.later B1)).mono ?_
  rintro e w2 ⟨rfl, B2⟩
  go_wp2_with fail
  go_ret
  exact ⟨rfl, B1.trans (B2.mono B1.size)⟩
set_option maxRecDepth 100000 in
theorem Decommit_is (S P : Nat) (X : Nat → Prop) (f : Pages) (L : List Ru) (hL : OkL L) (m : Nat → Nat) (hm : Sm m) (a n : Int) (ha : I64 a) (w : World) (hs : Sys w S P X f L m) :
    Calls Try.prog 27 #[.pointer (some ⟨S, 0, none⟩), .int .i64 a, .int .i64 n] w (Left S P X L w (opP (cTurn 3 2 1) f L m a n)) := by
  have hSP : ∀ k, SP S P k → k < w.heap.size := by
    obtain ⟨v, s⟩ := hs
    rintro k (rfl | rfl)
    · exact s.box.lt
    · exact s.pg.lt
  go_enter Try.func27, Try.ntmps27
  go_wp2_with fail
  refine (turn_is 3 2 1 w).mono ?_
  rintro e w1 ⟨rfl, b1, b2, B1⟩
  go_wp2_with fail
  refine (onPages_is S P X f L hL m hm (cTurn 3 2 1) (by decide) _ a n ha w1 (hs.later B1) (callv_turn S P 3 2 1 _ _ w1 b1 b2 (fun h => by have := hSP _ h; omega) (fun h => by have := hSP _ h; omega))).mono ?_
  rintro e w2 ⟨rfl, h2, h3⟩
  go_wp2_with fail
  go_ret
  exact ⟨rfl, h2, (Keep.of_below B1).trans h3⟩
set_option maxRecDepth 100000 in
theorem Decommit_no (s : Value) (a n : Int) (w : World) (hs : Unmade w s) :
    Calls Try.prog 27 #[s, .int .i64 a, .int .i64 n] w (NilE w) := by
  have HS := Lib.hid hs
  clear hs
  go_enter Try.func27, Try.ntmps27
  go_wp2_with fail
  refine (turn_is 3 2 1 w).mono ?_
  rintro e w1 ⟨rfl, b1, b2, B1⟩
  go_wp2_with fail
  refine (onPages_no s 3 _ _ a n w1 (HS.out.later B1)).mono ?_
  rintro e w2 ⟨rfl, B2⟩
  go_wp2_with fail
  go_ret
  exact ⟨rfl, B1.trans (B2.mono B1.size)⟩
set_option maxRecDepth 100000 in
theorem Guard_is (S P : Nat) (X : Nat → Prop) (f : Pages) (L : List Ru) (hL : OkL L) (m : Nat → Nat) (hm : Sm m) (a n : Int) (ha : I64 a) (w : World) (hs : Sys w S P X f L m) :
    Calls Try.prog 33 #[.pointer (some ⟨S, 0, none⟩), .int .i64 a, .int .i64 n, .bool true] w (Left S P X L w (opP (cTurn 4 1 3) f L m a n)) := by
  have hSP : ∀ k, SP S P k → k < w.heap.size := by
    obtain ⟨v, s⟩ := hs
    rintro k (rfl | rfl)
    · exact s.box.lt
    · exact s.pg.lt
  go_enter Try.func33, Try.ntmps33
  go_wp2_with fail
  refine (turn_is 4 1 3 w).mono ?_
  rintro e w1 ⟨rfl, b1, b2, B1⟩
  go_wp2_with fail
  refine (onPages_is S P X f L hL m hm (cTurn 4 1 3) (by decide) _ a n ha w1 (hs.later B1) (callv_turn S P 4 1 3 _ _ w1 b1 b2 (fun h => by have := hSP _ h; omega) (fun h => by have := hSP _ h; omega))).mono ?_
  rintro e w2 ⟨rfl, h2, h3⟩
  go_wp2_with fail
  go_ret
  exact ⟨rfl, h2, (Keep.of_below B1).trans h3⟩
set_option maxRecDepth 100000 in
theorem Guard_no (s : Value) (a n : Int) (w : World) (hs : Unmade w s) :
    Calls Try.prog 33 #[s, .int .i64 a, .int .i64 n, .bool true] w (NilE w) := by
  have HS := Lib.hid hs
  clear hs
  go_enter Try.func33, Try.ntmps33
  go_wp2_with fail
  refine (turn_is 4 1 3 w).mono ?_
  rintro e w1 ⟨rfl, b1, b2, B1⟩
  go_wp2_with fail
  refine (onPages_no s 4 _ _ a n w1 (HS.out.later B1)).mono ?_
  rintro e w2 ⟨rfl, B2⟩
  go_wp2_with fail
  go_ret
  exact ⟨rfl, B1.trans (B2.mono B1.size)⟩
set_option maxRecDepth 100000 in
theorem Unguard_is (S P : Nat) (X : Nat → Prop) (f : Pages) (L : List Ru) (hL : OkL L) (m : Nat → Nat) (hm : Sm m) (a n : Int) (ha : I64 a) (w : World) (hs : Sys w S P X f L m) :
    Calls Try.prog 33 #[.pointer (some ⟨S, 0, none⟩), .int .i64 a, .int .i64 n, .bool false] w (Left S P X L w (opP (cTurn 4 3 1) f L m a n)) := by
  have hSP : ∀ k, SP S P k → k < w.heap.size := by
    obtain ⟨v, s⟩ := hs
    rintro k (rfl | rfl)
    · exact s.box.lt
    · exact s.pg.lt
  go_enter Try.func33, Try.ntmps33
  go_wp2_with fail
  refine (turn_is 4 3 1 w).mono ?_
  rintro e w1 ⟨rfl, b1, b2, B1⟩
  go_wp2_with fail
  refine (onPages_is S P X f L hL m hm (cTurn 4 3 1) (by decide) _ a n ha w1 (hs.later B1) (callv_turn S P 4 3 1 _ _ w1 b1 b2 (fun h => by have := hSP _ h; omega) (fun h => by have := hSP _ h; omega))).mono ?_
  rintro e w2 ⟨rfl, h2, h3⟩
  go_wp2_with fail
  go_ret
  exact ⟨rfl, h2, (Keep.of_below B1).trans h3⟩
set_option maxRecDepth 100000 in
theorem Unguard_no (s : Value) (a n : Int) (w : World) (hs : Unmade w s) :
    Calls Try.prog 33 #[s, .int .i64 a, .int .i64 n, .bool false] w (NilE w) := by
  have HS := Lib.hid hs
  clear hs
  go_enter Try.func33, Try.ntmps33
  go_wp2_with fail
  refine (turn_is 4 3 1 w).mono ?_
  rintro e w1 ⟨rfl, b1, b2, B1⟩
  go_wp2_with fail
  refine (onPages_no s 4 _ _ a n w1 (HS.out.later B1)).mono ?_
  rintro e w2 ⟨rfl, B2⟩
  go_wp2_with fail
  go_ret
  exact ⟨rfl, B1.trans (B2.mono B1.size)⟩
set_option maxRecDepth 100000 in
set_option maxHeartbeats 2000000 in
theorem Join_is (S P : Nat) (X : Nat → Prop) (f : Pages) (L : List Ru) (hL : OkL L) (m : Nat → Nat) (hm : Sm m) (a : Int) (ha : I64 a) (w : World) (hs : Sys w S P X f L m) :
    Calls Try.prog 45 #[.pointer (some ⟨S, 0, none⟩), .int .i64 a] w (Left S P X L w (opG cJoin f L m a)) := by
  go_enter Try.func45, Try.ntmps45
  go_wp2_with fail
  refine (join_is w).mono ?_
  rintro e w1 ⟨rfl, B1⟩
  go_wp2_with fail
  refine (onGroup_is S P X f L hL m hm cJoin (by decide) _ a ha w1 (hs.later B1) (callv_join S P w1)).mono ?_
  rintro e w2 ⟨rfl, h2, h3⟩
  go_wp2_with fail
  go_ret
  exact ⟨rfl, h2, (Keep.of_below B1).trans h3⟩
set_option maxRecDepth 100000 in
theorem Join_no (s : Value) (a : Int) (w : World) (hs : Unmade w s) :
    Calls Try.prog 45 #[s, .int .i64 a] w (NilE w) := by
  have HS := Lib.hid hs
  clear hs
  go_enter Try.func45, Try.ntmps45
  go_wp2_with fail
  refine (join_is w).mono ?_
  rintro e w1 ⟨rfl, B1⟩
  go_wp2_with fail
  refine (onGroup_no s 5 _ _ a w1 (HS.out.later B1)).mono ?_
  rintro e w2 ⟨rfl, B2⟩
  go_wp2_with fail
  go_ret
  exact ⟨rfl, B1.trans (B2.mono B1.size)⟩
set_option maxRecDepth 100000 in
set_option maxHeartbeats 2000000 in
theorem Split_is (S P : Nat) (X : Nat → Prop) (f : Pages) (L : List Ru) (hL : OkL L) (m : Nat → Nat) (hm : Sm m) (a : Int) (ha : I64 a) (w : World) (hs : Sys w S P X f L m) :
    Calls Try.prog 32 #[.pointer (some ⟨S, 0, none⟩), .int .i64 a] w (Left S P X L w (opG cSplit f L m a)) := by
  go_enter Try.func32, Try.ntmps32
  go_wp2_with fail
  refine (split_is w).mono ?_
  rintro e w1 ⟨rfl, B1⟩
  go_wp2_with fail
  refine (onGroup_is S P X f L hL m hm cSplit (by decide) _ a ha w1 (hs.later B1) (callv_split S P w1)).mono ?_
  rintro e w2 ⟨rfl, h2, h3⟩
  go_wp2_with fail
  go_ret
  exact ⟨rfl, h2, (Keep.of_below B1).trans h3⟩
set_option maxRecDepth 100000 in
theorem Split_no (s : Value) (a : Int) (w : World) (hs : Unmade w s) :
    Calls Try.prog 32 #[s, .int .i64 a] w (NilE w) := by
  have HS := Lib.hid hs
  clear hs
  go_enter Try.func32, Try.ntmps32
  go_wp2_with fail
  refine (split_is w).mono ?_
  rintro e w1 ⟨rfl, B1⟩
  go_wp2_with fail
  refine (onGroup_no s 6 _ _ a w1 (HS.out.later B1)).mono ?_
  rintro e w2 ⟨rfl, B2⟩
  go_wp2_with fail
  go_ret
  exact ⟨rfl, B1.trans (B2.mono B1.size)⟩
end Go.Proofs.Ytnmeeddhagmjdaa
