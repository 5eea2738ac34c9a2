/- shown: some calls return what the document says of them. -/
import Derived.Test.YtdcgfbebeiheiaaGreatDoorLaw
import Derived.Test.YtdcgfbebeiheiaaGreatDoorList
import Derived.KernelRfl
namespace Go.Proofs.YtdcgfbebeiheiaaGreatDoor
open Go.RowKit

theorem Split_f (s : BA) (l : List Fd) (err : Int) (he : splitB s = (l, err)) (hs0 : s.size ≤ maxLen) (w : World) (hgd : Gd w) :
    Calls Tryz.prog 13 #[.string s] w fun e w' => ∃ v, e = .returned (.tuple #[v, .int .i64 err]) ∧ FieldsAt w' v l ∧ Below w.heap.size w w' :=
  (Split_any s hs0 w hgd).mono fun _ _ ⟨v, h1, h2, h3⟩ => by rw [he] at h1 h2; exact ⟨v, h1, FieldsAt.of_row h2, h3⟩
theorem ParseList_i (s : BA) (l : List Int) (err : Int) (he : parseB s = (l, err)) (hs0 : s.size ≤ maxLen) (hbd : s.size ≤ 2500 → BdI (itemsB s).1) (w : World) (hgd : Gd w) :
    Calls Tryz.prog 10 #[.string s] w fun e w' => ∃ v, e = .returned (.tuple #[v, .int .i64 err]) ∧ IntsAt w' v l ∧ Below w.heap.size w w' :=
  (ParseList_any s hs0 w hgd hbd).mono fun _ _ ⟨v, h1, h2, h3⟩ => by rw [he] at h1 h2; exact ⟨v, h1, IntsAt.of_row h2, h3⟩
theorem List_i (b : Nat) (zs : List Int) (n cap : Nat) (t : BA) (err : Int) (hn : n = zs.length) (he : listA zs = (t, err)) (hcap : n ≤ cap) (hcap2 : cap ≤ maxLen) (w : World) (hgd : Gd w)
    (hc : ∀ j : Nat, j < zs.length → w.cell? ⟨b, j, none⟩ = some (.int .i64 (zs[j]?.getD 0))) :
    Calls Tryz.prog 8 #[.slice (some ⟨b, 0, none⟩) n cap] w fun e w' => e = .returned (.tuple #[.string t, .int .i64 err]) ∧ Below w.heap.size w w' := by
  subst hn
  exact (List_any b 0 cap zs hcap hcap2 w hgd (fun j hj => by rw [Nat.zero_add]; exact hc j hj)).mono fun _ _ ⟨h1, h2⟩ => by rw [he] at h1; exact ⟨h1, h2⟩
theorem fields_f (v1 : Value) (l1 : List Fd) (w : World) (h1 : FieldsAt w v1 l1) (hm1 : l1.length ≤ 100000) :
    Calls Tryz.prog 16 #[v1] w fun e w' => ∃ v, e = .returned v ∧ FieldsAt w' v l1 ∧ Below w.heap.size w w' :=
  (fields_any v1 l1 w h1 hm1).mono fun _ _ ⟨v, h1, h2, h3⟩ => ⟨v, h1, FieldsAt.of_row h2, h3⟩

theorem ev1 : listA [1, 2, 3, 7] = (⟨#[49, 45, 51, 44, 55]⟩, 0) := by kernel_rfl
theorem ev2 : listA [1, 2, 3, 3, 3] = (⟨#[49, 44, 50, 44, 51, 120, 51]⟩, 0) := by kernel_rfl
theorem ev3 : parseB ⟨#[53, 45, 55, 44, 50, 120, 57]⟩ = ([5, 6, 7, 9, 9], 0) := by kernel_rfl
theorem ev3i : (itemsB ⟨#[53, 45, 55, 44, 50, 120, 57]⟩).1 = [(5, 3, 1), (9, 2, 0)] := by kernel_rfl
theorem ev4 : quoteB [115, 97, 121, 32, 34, 97, 34] = ([34, 115, 97, 121, 32, 34, 34, 97, 34, 34, 34], 0) := by kernel_rfl
theorem ev5 : splitB ⟨#[99, 114, 101, 97, 116, 101, 32, 34, 109, 97, 105, 110, 32, 97, 114, 101, 110, 97, 34, 32, 49]⟩ = ([(false, [99, 114, 101, 97, 116, 101]), (true, [109, 97, 105, 110, 32, 97, 114, 101, 110, 97]), (false, [49])], 0) := by kernel_rfl
theorem ev3b : BdI (itemsB ⟨#[53, 45, 55, 44, 50, 120, 57]⟩).1 := by
  rw [ev3i]
  refine ⟨by decide, fun i hi => ?_⟩
  simp only [List.mem_cons, List.mem_nil_iff, or_false] at hi
  rcases hi with rfl | rfl <;> decide

theorem Quote_q (w : World) (hgd : Gd w) : Calls Tryz.prog 21 #[.string ⟨#[115, 97, 121, 32, 34, 97, 34]⟩] w fun e w' => e = .returned (.tuple #[.string ⟨#[34, 115, 97, 121, 32, 34, 34, 97, 34, 34, 34]⟩, .int .i64 0]) ∧ Below w.heap.size w w' :=
  (Quote_any ⟨#[115, 97, 121, 32, 34, 97, 34]⟩ w hgd (by decide)).mono fun _ _ ⟨h1, h2⟩ => by
    rw [show (⟨#[115, 97, 121, 32, 34, 97, 34]⟩ : ByteArray).data.toList = [115, 97, 121, 32, 34, 97, 34] from rfl, ev4] at h1
    exact ⟨h1, h2⟩

set_option maxRecDepth 100000 in
set_option maxHeartbeats 4000000 in
theorem shown_any (w : World) (hgd : Gd w) : Calls Tryz.prog 7 #[] w fun e w' => e = .returned (.bool true) ∧ Below w.heap.size w w' := by
  go_enter Tryz.func7, Tryz.ntmps7
  go_wp2_with fail
  have b1 : Below w.heap.size w (w.alloc (.cells #[.int .i64 1, .int .i64 2, .int .i64 3, .int .i64 7] 3)) := (Below.refl _ _).alloc (Nat.le_refl _) _
  refine (List_i w.heap.size [1, 2, 3, 7] 4 4 _ _ rfl ev1 (by decide) (by decide) _ (hgd.later b1) (fun j hj => by
    simp only [List.length_cons, List.length_nil] at hj
    rcases (show j = 0 ∨ j = 1 ∨ j = 2 ∨ j = 3 by omega) with rfl | rfl | rfl | rfl <;> simp)).mono ?_
  rintro e w1 ⟨rfl, hB1⟩
  have b2 := b1.trans (hB1.mono b1.size)
  clear b1 hB1
  go_wp2_with fail
  have b3 := b2.alloc b2.size (.cells #[.int .i64 1, .int .i64 2, .int .i64 3, .int .i64 3, .int .i64 3] 3)
  refine (List_i w1.heap.size [1, 2, 3, 3, 3] 5 5 _ _ rfl ev2 (by decide) (by decide) _ (hgd.later b3) (fun j hj => by
    simp only [List.length_cons, List.length_nil] at hj
    rcases (show j = 0 ∨ j = 1 ∨ j = 2 ∨ j = 3 ∨ j = 4 by omega) with rfl | rfl | rfl | rfl | rfl <;> simp)).mono ?_
  rintro e w2 ⟨rfl, hB2⟩
  have b4 := b3.trans (hB2.mono b3.size)
  clear b2 b3 hB2
  go_wp2_with fail
  refine (ParseList_i _ _ _ ev3 (by decide) (fun _ => ev3b) _ (hgd.later b4)).mono ?_
  rintro e w3 ⟨v3, rfl, hv3, hB3⟩
  have b5 := b4.trans (hB3.mono b4.size)
  clear b4 hB3
  obtain ⟨a3, c3, rfl⟩ := hv3.form
  go_wp2_with fail
  refine (Quote_q _ (hgd.later b5)).mono ?_
  rintro e w4 ⟨rfl, hB4⟩
  have b6 := b5.trans (hB4.mono b5.size)
  have hv4 := hv3.later hB4
  clear b5 hB4 hv3
  go_wp2_with fail
  refine (Split_f _ _ _ ev5 (by decide) _ (hgd.later b6)).mono ?_
  rintro e w5 ⟨v5, rfl, hv5, hB5⟩
  have b7 := b6.trans (hB5.mono b6.size)
  have hv6 := hv4.later hB5
  clear b6 hB5 hv4
  obtain ⟨a5, c5, rfl⟩ := hv5.form
  go_wp2_with fail
  have b8 := b7.alloc b7.size (.cells #[.int .i64 5, .int .i64 6, .int .i64 7, .int .i64 9, .int .i64 9] 3)
  have hal : Below w5.heap.size w5 (w5.alloc (.cells #[.int .i64 5, .int .i64 6, .int .i64 7, .int .i64 9, .int .i64 9] 3)) := (Below.refl _ _).alloc (Nat.le_refl _) _
  have hv7 := hv6.later hal
  have hv8 := hv5.later hal
  have hlit : IntsAt (w5.alloc (.cells #[.int .i64 5, .int .i64 6, .int .i64 7, .int .i64 9, .int .i64 9] 3)) (.slice (some ⟨w5.heap.size, 0, none⟩) 5 5) [5, 6, 7, 9, 9] := .inr ⟨w5.heap.size, 0, 5, rfl, fun j hj => by
    simp only [List.length_cons, List.length_nil] at hj
    rcases (show j = 0 ∨ j = 1 ∨ j = 2 ∨ j = 3 ∨ j = 4 by omega) with rfl | rfl | rfl | rfl | rfl <;> simp⟩
  refine (ints_any _ _ [5, 6, 7, 9, 9] [5, 6, 7, 9, 9] _ hv7 hlit (by decide)).mono ?_
  rintro e w6 ⟨rfl, hB6⟩
  rw [show decide (([5, 6, 7, 9, 9] : List Int) = [5, 6, 7, 9, 9]) = true from by decide]
  have b9 := b8.trans (hB6.mono b8.size)
  have hv9 := hv8.later hB6
  clear hv7 hv8 hlit hal hv6 hv5 b8 b7 hB6
  go_wp2_with fail
  refine (fields_f _ _ _ hv9 (by decide)).mono ?_
  rintro e w7 ⟨v7, rfl, hv10, hB7⟩
  have b10 := b9.trans (hB7.mono b9.size)
  obtain ⟨a7, c7, rfl⟩ := hv10.form
  clear hv9 b9 hB7
  go_wp2_with fail
  have b11 := b10.alloc b10.size (.cells #[.bool false, .string ⟨#[99, 114, 101, 97, 116, 101]⟩, .bool true, .string ⟨#[109, 97, 105, 110, 32, 97, 114, 101, 110, 97]⟩, .bool false, .string ⟨#[49]⟩] 49)
  have hal : Below w7.heap.size w7 (w7.alloc (.cells #[.bool false, .string ⟨#[99, 114, 101, 97, 116, 101]⟩, .bool true, .string ⟨#[109, 97, 105, 110, 32, 97, 114, 101, 110, 97]⟩, .bool false, .string ⟨#[49]⟩] 49)) := (Below.refl _ _).alloc (Nat.le_refl _) _
  have hv11 := hv10.later hal
  have hlit : FieldsAt (w7.alloc (.cells #[.bool false, .string ⟨#[99, 114, 101, 97, 116, 101]⟩, .bool true, .string ⟨#[109, 97, 105, 110, 32, 97, 114, 101, 110, 97]⟩, .bool false, .string ⟨#[49]⟩] 49)) (.slice (some ⟨w7.heap.size, 0, none⟩) 3 3) [(false, [99, 114, 101, 97, 116, 101]), (true, [109, 97, 105, 110, 32, 97, 114, 101, 110, 97]), (false, [49])] := .inr ⟨w7.heap.size, 0, 3, rfl, fun j hj => by
    simp only [List.length_cons, List.length_nil] at hj
    rcases (show j = 0 ∨ j = 1 ∨ j = 2 by omega) with rfl | rfl | rfl <;> simp⟩
  refine (alike_any _ _ [(false, [99, 114, 101, 97, 116, 101]), (true, [109, 97, 105, 110, 32, 97, 114, 101, 110, 97]), (false, [49])] [(false, [99, 114, 101, 97, 116, 101]), (true, [109, 97, 105, 110, 32, 97, 114, 101, 110, 97]), (false, [49])] _ hv11 hlit (by decide)).mono ?_
  rintro e w8 ⟨rfl, hB8⟩
  rw [show decide (([(false, [99, 114, 101, 97, 116, 101]), (true, [109, 97, 105, 110, 32, 97, 114, 101, 110, 97]), (false, [49])] : List Fd) = [(false, [99, 114, 101, 97, 116, 101]), (true, [109, 97, 105, 110, 32, 97, 114, 101, 110, 97]), (false, [49])]) = true from decide_eq_true rfl]
  have b12 := b11.trans (hB8.mono b11.size)
  clear hv11 hlit hal hv10 b10 b11 hB8
  go_wp2_with fail
  go_ret
  exact ⟨rfl, b12⟩
end Go.Proofs.YtdcgfbebeiheiaaGreatDoor
