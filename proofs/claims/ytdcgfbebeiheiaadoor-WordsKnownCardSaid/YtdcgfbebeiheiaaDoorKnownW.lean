/- The examples of the document: their walk. -/
import Derived.Test.YtdcgfbebeiheiaaDoorHexW
import Derived.Test.YtdcgfbebeiheiaaDoorListNil
import Derived.Test.YtdcgfbebeiheiaaDoorBdI
import Derived.Test.YtdcgfbebeiheiaaDoorNumM
namespace Go.Proofs.YtdcgfbebeiheiaaDoor
open Go.RowKit

/-- What the first lists and texts hold. -/
structure KF (N : Nat) (W : World) : Prop where
  s0 : W.cell? ⟨N + 6, 0, none⟩ = some (.slice (some ⟨N, 0, none⟩) 4 4)
  s1 : W.cell? ⟨N + 6, 1, none⟩ = some (.slice (some ⟨N + 1, 0, none⟩) 2 2)
  s2 : W.cell? ⟨N + 6, 2, none⟩ = some (.slice (some ⟨N + 2, 0, none⟩) 2 2)
  s3 : W.cell? ⟨N + 6, 3, none⟩ = some (.slice (some ⟨N + 3, 0, none⟩) 2 2)
  s4 : W.cell? ⟨N + 6, 4, none⟩ = some (.slice none 0 0)
  s5 : W.cell? ⟨N + 6, 5, none⟩ = some (.slice (some ⟨N + 4, 0, none⟩) 1 1)
  s6 : W.cell? ⟨N + 6, 6, none⟩ = some (.slice (some ⟨N + 5, 0, none⟩) 1 1)
  t0 : W.cell? ⟨N + 7, 0, none⟩ = some (.string ⟨#[52, 120, 52]⟩)
  t1 : W.cell? ⟨N + 7, 1, none⟩ = some (.string ⟨#[49, 44, 50]⟩)
  t2 : W.cell? ⟨N + 7, 2, none⟩ = some (.string ⟨#[50, 120, 49, 48]⟩)
  t3 : W.cell? ⟨N + 7, 3, none⟩ = some (.string ⟨#[48, 44, 48]⟩)
  t4 : W.cell? ⟨N + 7, 4, none⟩ = some (.string ⟨#[]⟩)
  t5 : W.cell? ⟨N + 7, 5, none⟩ = some (.string ⟨#[]⟩)
  t6 : W.cell? ⟨N + 7, 6, none⟩ = some (.string ⟨#[]⟩)
  l00 : W.cell? ⟨N, 0, none⟩ = some (.int .i64 4)
  l01 : W.cell? ⟨N, 1, none⟩ = some (.int .i64 4)
  l02 : W.cell? ⟨N, 2, none⟩ = some (.int .i64 4)
  l03 : W.cell? ⟨N, 3, none⟩ = some (.int .i64 4)
  l10 : W.cell? ⟨N + 1, 0, none⟩ = some (.int .i64 1)
  l11 : W.cell? ⟨N + 1, 1, none⟩ = some (.int .i64 2)
  l20 : W.cell? ⟨N + 2, 0, none⟩ = some (.int .i64 10)
  l21 : W.cell? ⟨N + 2, 1, none⟩ = some (.int .i64 10)
  l30 : W.cell? ⟨N + 3, 0, none⟩ = some (.int .i64 0)
  l31 : W.cell? ⟨N + 3, 1, none⟩ = some (.int .i64 0)
  l50 : W.cell? ⟨N + 4, 0, none⟩ = some (.int .i64 10000)
  l60 : W.cell? ⟨N + 5, 0, none⟩ = some ((.int .i64 (-1)))
theorem KF.later {N : Nat} {W W2 : World} (h : KF N W) (hb : Below W.heap.size W W2) : KF N W2 where
  s0 := cell_later hb h.s0
  s1 := cell_later hb h.s1
  s2 := cell_later hb h.s2
  s3 := cell_later hb h.s3
  s4 := cell_later hb h.s4
  s5 := cell_later hb h.s5
  s6 := cell_later hb h.s6
  t0 := cell_later hb h.t0
  t1 := cell_later hb h.t1
  t2 := cell_later hb h.t2
  t3 := cell_later hb h.t3
  t4 := cell_later hb h.t4
  t5 := cell_later hb h.t5
  t6 := cell_later hb h.t6
  l00 := cell_later hb h.l00
  l01 := cell_later hb h.l01
  l02 := cell_later hb h.l02
  l03 := cell_later hb h.l03
  l10 := cell_later hb h.l10
  l11 := cell_later hb h.l11
  l20 := cell_later hb h.l20
  l21 := cell_later hb h.l21
  l30 := cell_later hb h.l30
  l31 := cell_later hb h.l31
  l50 := cell_later hb h.l50
  l60 := cell_later hb h.l60
structure KG (N : Nat) (W : World) : Prop where
  w0 : W.cell? ⟨N, 0, none⟩ = some (.string ⟨#[49, 44, 44, 50]⟩)
  w1 : W.cell? ⟨N, 1, none⟩ = some (.string ⟨#[51, 45, 51]⟩)
  w2 : W.cell? ⟨N, 2, none⟩ = some (.string ⟨#[49, 120, 52]⟩)
  w3 : W.cell? ⟨N, 3, none⟩ = some (.string ⟨#[49, 48, 48, 48, 48]⟩)
  w4 : W.cell? ⟨N, 4, none⟩ = some (.string ⟨#[53, 48, 49, 120, 48]⟩)
  e0 : W.cell? ⟨N + 1, 0, none⟩ = some (.int .i64 6)
  e1 : W.cell? ⟨N + 1, 1, none⟩ = some (.int .i64 6)
  e2 : W.cell? ⟨N + 1, 2, none⟩ = some (.int .i64 6)
  e3 : W.cell? ⟨N + 1, 3, none⟩ = some (.int .i64 7)
  e4 : W.cell? ⟨N + 1, 4, none⟩ = some (.int .i64 3)
theorem KG.later {N : Nat} {W W2 : World} (h : KG N W) (hb : Below W.heap.size W W2) : KG N W2 where
  w0 := cell_later hb h.w0
  w1 := cell_later hb h.w1
  w2 := cell_later hb h.w2
  w3 := cell_later hb h.w3
  w4 := cell_later hb h.w4
  e0 := cell_later hb h.e0
  e1 := cell_later hb h.e1
  e2 := cell_later hb h.e2
  e3 := cell_later hb h.e3
  e4 := cell_later hb h.e4
theorem kl0 : listA [4, 4, 4, 4] = (⟨#[52, 120, 52]⟩, 0) := by kernel_rfl
theorem kl1 : listA [1, 2] = (⟨#[49, 44, 50]⟩, 0) := by kernel_rfl
theorem kl2 : listA [10, 10] = (⟨#[50, 120, 49, 48]⟩, 0) := by kernel_rfl
theorem kl3 : listA [0, 0] = (⟨#[48, 44, 48]⟩, 0) := by kernel_rfl
theorem kl5 : listA [10000] = (⟨#[]⟩, 7) := by kernel_rfl
theorem kl6 : listA [-1] = (⟨#[]⟩, 7) := by kernel_rfl
theorem kp0 : parseB ⟨#[49, 44, 44, 50]⟩ = ([], 6) := by kernel_rfl
theorem kp1 : parseB ⟨#[51, 45, 51]⟩ = ([], 6) := by kernel_rfl
theorem kp2 : parseB ⟨#[49, 120, 52]⟩ = ([], 6) := by kernel_rfl
theorem kp3 : parseB ⟨#[49, 48, 48, 48, 48]⟩ = ([], 7) := by kernel_rfl
theorem kp4 : parseB ⟨#[53, 48, 49, 120, 48]⟩ = ([], 3) := by kernel_rfl
theorem klist0 (N : Nat) (w : World) (h : KF N w) (hgd : Gd w) : Calls Tryd.prog 20 #[.slice (some ⟨N, 0, none⟩) 4 4] w fun e w' => e = .returned (.tuple #[.string ⟨#[52, 120, 52]⟩, .int .i64 0]) ∧ Below w.heap.size w w' :=
  List_i (N) [4, 4, 4, 4] 4 4 _ _ rfl kl0 (by decide) (by decide) w hgd (fun j hj => by
    simp only [List.length_cons, List.length_nil] at hj
    rcases (show j = 0 ∨ j = 1 ∨ j = 2 ∨ j = 3 by omega) with rfl | rfl | rfl | rfl
    · exact h.l00
    · exact h.l01
    · exact h.l02
    · exact h.l03)
theorem klist1 (N : Nat) (w : World) (h : KF N w) (hgd : Gd w) : Calls Tryd.prog 20 #[.slice (some ⟨N + 1, 0, none⟩) 2 2] w fun e w' => e = .returned (.tuple #[.string ⟨#[49, 44, 50]⟩, .int .i64 0]) ∧ Below w.heap.size w w' :=
  List_i (N + 1) [1, 2] 2 2 _ _ rfl kl1 (by decide) (by decide) w hgd (fun j hj => by
    simp only [List.length_cons, List.length_nil] at hj
    rcases (show j = 0 ∨ j = 1 by omega) with rfl | rfl
    · exact h.l10
    · exact h.l11)
theorem klist2 (N : Nat) (w : World) (h : KF N w) (hgd : Gd w) : Calls Tryd.prog 20 #[.slice (some ⟨N + 2, 0, none⟩) 2 2] w fun e w' => e = .returned (.tuple #[.string ⟨#[50, 120, 49, 48]⟩, .int .i64 0]) ∧ Below w.heap.size w w' :=
  List_i (N + 2) [10, 10] 2 2 _ _ rfl kl2 (by decide) (by decide) w hgd (fun j hj => by
    simp only [List.length_cons, List.length_nil] at hj
    rcases (show j = 0 ∨ j = 1 by omega) with rfl | rfl
    · exact h.l20
    · exact h.l21)
theorem klist3 (N : Nat) (w : World) (h : KF N w) (hgd : Gd w) : Calls Tryd.prog 20 #[.slice (some ⟨N + 3, 0, none⟩) 2 2] w fun e w' => e = .returned (.tuple #[.string ⟨#[48, 44, 48]⟩, .int .i64 0]) ∧ Below w.heap.size w w' :=
  List_i (N + 3) [0, 0] 2 2 _ _ rfl kl3 (by decide) (by decide) w hgd (fun j hj => by
    simp only [List.length_cons, List.length_nil] at hj
    rcases (show j = 0 ∨ j = 1 by omega) with rfl | rfl
    · exact h.l30
    · exact h.l31)
theorem klist4 (N : Nat) (w : World) (_h : KF N w) (_hgd : Gd w) : Calls Tryd.prog 20 #[.slice none 0 0] w fun e w' => e = .returned (.tuple #[.string ⟨#[]⟩, .int .i64 0]) ∧ Below w.heap.size w w' := List_nil w
theorem klist5 (N : Nat) (w : World) (h : KF N w) (hgd : Gd w) : Calls Tryd.prog 20 #[.slice (some ⟨N + 4, 0, none⟩) 1 1] w fun e w' => e = .returned (.tuple #[.string ⟨#[]⟩, .int .i64 7]) ∧ Below w.heap.size w w' :=
  List_i (N + 4) [10000] 1 1 _ _ rfl kl5 (by decide) (by decide) w hgd (fun j hj => by
    simp only [List.length_cons, List.length_nil] at hj
    rcases (show j = 0 by omega) with rfl
    · exact h.l50)
theorem klist6 (N : Nat) (w : World) (h : KF N w) (hgd : Gd w) : Calls Tryd.prog 20 #[.slice (some ⟨N + 5, 0, none⟩) 1 1] w fun e w' => e = .returned (.tuple #[.string ⟨#[]⟩, .int .i64 7]) ∧ Below w.heap.size w w' :=
  List_i (N + 5) [-1] 1 1 _ _ rfl kl6 (by decide) (by decide) w hgd (fun j hj => by
    simp only [List.length_cons, List.length_nil] at hj
    rcases (show j = 0 by omega) with rfl
    · exact h.l60)
theorem kpar0 (w : World) (hgd : Gd w) : Calls Tryd.prog 19 #[.string ⟨#[49, 44, 44, 50]⟩] w fun e w' => ∃ a c, e = .returned (.tuple #[.slice a 0 c, .int .i64 6]) ∧ Below w.heap.size w w' :=
  (ParseList_i ⟨#[49, 44, 44, 50]⟩ [] 6 kp0 (by decide) (fun h => bdI_any _ h) w hgd).mono fun _ _ ⟨v, h1, h2, h3⟩ => by
    obtain ⟨a, c, rfl⟩ := h2.form
    exact ⟨a, c, h1, h3⟩
theorem kpar1 (w : World) (hgd : Gd w) : Calls Tryd.prog 19 #[.string ⟨#[51, 45, 51]⟩] w fun e w' => ∃ a c, e = .returned (.tuple #[.slice a 0 c, .int .i64 6]) ∧ Below w.heap.size w w' :=
  (ParseList_i ⟨#[51, 45, 51]⟩ [] 6 kp1 (by decide) (fun h => bdI_any _ h) w hgd).mono fun _ _ ⟨v, h1, h2, h3⟩ => by
    obtain ⟨a, c, rfl⟩ := h2.form
    exact ⟨a, c, h1, h3⟩
theorem kpar2 (w : World) (hgd : Gd w) : Calls Tryd.prog 19 #[.string ⟨#[49, 120, 52]⟩] w fun e w' => ∃ a c, e = .returned (.tuple #[.slice a 0 c, .int .i64 6]) ∧ Below w.heap.size w w' :=
  (ParseList_i ⟨#[49, 120, 52]⟩ [] 6 kp2 (by decide) (fun h => bdI_any _ h) w hgd).mono fun _ _ ⟨v, h1, h2, h3⟩ => by
    obtain ⟨a, c, rfl⟩ := h2.form
    exact ⟨a, c, h1, h3⟩
theorem kpar3 (w : World) (hgd : Gd w) : Calls Tryd.prog 19 #[.string ⟨#[49, 48, 48, 48, 48]⟩] w fun e w' => ∃ a c, e = .returned (.tuple #[.slice a 0 c, .int .i64 7]) ∧ Below w.heap.size w w' :=
  (ParseList_i ⟨#[49, 48, 48, 48, 48]⟩ [] 7 kp3 (by decide) (fun h => bdI_any _ h) w hgd).mono fun _ _ ⟨v, h1, h2, h3⟩ => by
    obtain ⟨a, c, rfl⟩ := h2.form
    exact ⟨a, c, h1, h3⟩
theorem kpar4 (w : World) (hgd : Gd w) : Calls Tryd.prog 19 #[.string ⟨#[53, 48, 49, 120, 48]⟩] w fun e w' => ∃ a c, e = .returned (.tuple #[.slice a 0 c, .int .i64 3]) ∧ Below w.heap.size w w' :=
  (ParseList_i ⟨#[53, 48, 49, 120, 48]⟩ [] 3 kp4 (by decide) (fun h => bdI_any _ h) w hgd).mono fun _ _ ⟨v, h1, h2, h3⟩ => by
    obtain ⟨a, c, rfl⟩ := h2.form
    exact ⟨a, c, h1, h3⟩
theorem ku : unqB [34, 97] = ([], 6) := by kernel_rfl
theorem kunq (w : World) (hgd : Gd w) : Calls Tryd.prog 28 #[.string ⟨#[34, 97]⟩] w fun e w' => e = .returned (.tuple #[.string ⟨#[]⟩, .int .i64 6]) ∧ Below w.heap.size w w' := by
  have h := Unquote_any ⟨#[34, 97]⟩ w hgd (by decide)
  rw [show (⟨#[34, 97]⟩ : BA).data.toList = [34, 97] from rfl, ku] at h
  exact h
theorem ks1 : splitB ⟨#[97, 32, 32, 98]⟩ = ([], 6) := by kernel_rfl
theorem ks2 : splitB ⟨#[97, 34, 98]⟩ = ([], 6) := by kernel_rfl
theorem kspl (s : BA) (h : splitB s = ([], 6)) (hs : s.size ≤ maxLen) (w : World) (hgd : Gd w) : Calls Tryd.prog 30 #[.string s] w fun e w' => ∃ a c, e = .returned (.tuple #[.slice a 0 c, .int .i64 6]) ∧ Below w.heap.size w w' :=
  (Split_f s [] 6 h hs w hgd).mono fun _ _ ⟨v, h1, h2, h3⟩ => by
    obtain ⟨a, c, rfl⟩ := h2.form
    exact ⟨a, c, h1, h3⟩
theorem ki : intB [53] 9 0 = (0, 2) := by kernel_rfl
theorem kint (w : World) (hgd : Gd w) : Calls Tryd.prog 15 #[.string ⟨#[53]⟩, .int .i64 9, .int .i64 0] w fun e w' => e = .returned (.tuple #[.int .i64 0, .int .i64 2]) ∧ Below w.heap.size w w' := by
  have h := Int_any ⟨#[53]⟩ 9 0 w hgd (by decide) (by decide) (by decide)
  rw [show (⟨#[53]⟩ : BA).data.toList = [53] from rfl, ki] at h
  exact h
theorem kh : hexE [0, 10, 255] = ((⟨#[48, 48, 48, 97, 102, 102]⟩ : BA).data.toList, 0) := by kernel_rfl
theorem kx1 : unhexE (⟨#[48, 97, 70, 70]⟩ : BA).data.toList = ([], 6) := by kernel_rfl
theorem kx2 : unhexE (⟨#[48, 97, 49]⟩ : BA).data.toList = ([], 6) := by kernel_rfl
theorem kpx (s : BA) (h : unhexE s.data.toList = ([], 6)) (hs : s.size ≤ maxLen) (w : World) (hgd : Gd w) : Calls Tryd.prog 24 #[.string s] w fun e w' => ∃ a c, e = .returned (.tuple #[.slice a 0 c, .int .i64 6]) ∧ Below w.heap.size w w' :=
  (ParseHex_f s [] 6 w hs hgd h).mono fun _ _ ⟨v, h1, h2, h3⟩ => by
    obtain ⟨a, c, rfl⟩ := h2.form
    exact ⟨a, c, h1, h3⟩
theorem kbytes (W : World) : BytesAt (W.alloc (.cells #[.int .u8 0, .int .u8 10, .int .u8 255] 5)) (.slice (some ⟨W.heap.size, 0, none⟩) 3 3) [0, 10, 255] :=
  ⟨_, 3, rfl, by decide, by decide, fun _ => ⟨W.heap.size, 0, rfl, fun j hj => by
    simp only [List.length_cons, List.length_nil] at hj
    rcases (show j = 0 ∨ j = 1 ∨ j = 2 by omega) with rfl | rfl | rfl <;> simp⟩⟩

theorem cellA (W : World) (o : Obj) (p : Addr) (v : Value) (h : W.cell? p = some v) : (W.alloc o).cell? p = some v :=
  (World.cell?_alloc_lt W o p (World.block_lt_of_cell? _ _ h)).trans h
theorem newc (W : World) (cs : Array Value) (T : TypeId) (b j : Nat) (v : Value) (hb : b = W.heap.size) (h : cs[j]? = some v) : (W.alloc (.cells cs T)).cell? ⟨b, j, none⟩ = some v := by
  subst hb
  rw [World.cell?_alloc_new]; exact h

set_option maxRecDepth 100000 in
set_option maxHeartbeats 8000000 in
theorem law_known (w : World) (hgd : Gd w) :
    Calls Tryd.prog 9 #[] w fun e w' => e = .returned (.bool true) ∧ Below w.heap.size w w' := by
  go_enter Tryd.func9, Tryd.ntmps9
  go_wp2_with fail
  go_loopw [3] (fun i wr => ∃ z : Int, 0 ≤ z ∧ z ≤ 7 ∧ i = .int .i64 z ∧ KF w.heap.size wr ∧ Below w.heap.size w wr) (fun i _ => 7 - (intOf i).toNat)
  case atStart =>
    refine ⟨0, by omega, by omega, rfl, ?_, ?_⟩
    · constructor <;> (repeat (first | (exact newc _ _ _ _ _ _ (by simp) rfl) | (refine cellA _ _ _ _ ?_)))
    · exact (((((((((Below.refl _ _).alloc (Nat.le_refl _) _).alloc (by simp) _).alloc (by simp; omega) _).alloc (by simp; omega) _).alloc (by simp; omega) _).alloc (by simp; omega) _).alloc (by simp; omega) _).alloc (by simp; omega) _)
  case round =>
    obtain ⟨z, hz0, hz7, rfl, hK, hB⟩ := hrel
    have hGr := hgd.later hB
    rcases (show z = 0 ∨ z = 1 ∨ z = 2 ∨ z = 3 ∨ z = 4 ∨ z = 5 ∨ z = 6 ∨ z = 7 by omega) with rfl | rfl | rfl | rfl | rfl | rfl | rfl | rfl
    · have c1 := hK.s0
      have HL := Lib.hid (klist0 _ _ hK hGr)
      go_wp2_with fail
      refine HL.out.mono ?_
      rintro e w1 ⟨rfl, hB1⟩
      have hK1 := hK.later hB1
      have c2 := hK1.t0
      go_wp2_with fail
      go_roundw
      case rel => exact ⟨1, by omega, by omega, by go_num, hK1, hB.trans (hB1.mono hB.size)⟩
      case measure => simp [intOf]
    · have c1 := hK.s1
      have HL := Lib.hid (klist1 _ _ hK hGr)
      go_wp2_with fail
      refine HL.out.mono ?_
      rintro e w1 ⟨rfl, hB1⟩
      have hK1 := hK.later hB1
      have c2 := hK1.t1
      go_wp2_with fail
      go_roundw
      case rel => exact ⟨2, by omega, by omega, by go_num, hK1, hB.trans (hB1.mono hB.size)⟩
      case measure => simp [intOf]
    · have c1 := hK.s2
      have HL := Lib.hid (klist2 _ _ hK hGr)
      go_wp2_with fail
      refine HL.out.mono ?_
      rintro e w1 ⟨rfl, hB1⟩
      have hK1 := hK.later hB1
      have c2 := hK1.t2
      go_wp2_with fail
      go_roundw
      case rel => exact ⟨3, by omega, by omega, by go_num, hK1, hB.trans (hB1.mono hB.size)⟩
      case measure => simp [intOf]
    · have c1 := hK.s3
      have HL := Lib.hid (klist3 _ _ hK hGr)
      go_wp2_with fail
      refine HL.out.mono ?_
      rintro e w1 ⟨rfl, hB1⟩
      have hK1 := hK.later hB1
      have c2 := hK1.t3
      go_wp2_with fail
      go_roundw
      case rel => exact ⟨4, by omega, by omega, by go_num, hK1, hB.trans (hB1.mono hB.size)⟩
      case measure => simp [intOf]
    · have c1 := hK.s4
      have HL := Lib.hid (klist4 _ _ hK hGr)
      go_wp2_with fail
      refine HL.out.mono ?_
      rintro e w1 ⟨rfl, hB1⟩
      have hK1 := hK.later hB1
      have c2 := hK1.t4
      go_wp2_with fail
      go_roundw
      case rel => exact ⟨5, by omega, by omega, by go_num, hK1, hB.trans (hB1.mono hB.size)⟩
      case measure => simp [intOf]
    · have c1 := hK.s5
      have HL := Lib.hid (klist5 _ _ hK hGr)
      go_wp2_with fail
      refine HL.out.mono ?_
      rintro e w1 ⟨rfl, hB1⟩
      have hK1 := hK.later hB1
      have c2 := hK1.t5
      go_wp2_with fail
      go_roundw
      case rel => exact ⟨6, by omega, by omega, by go_num, hK1, hB.trans (hB1.mono hB.size)⟩
      case measure => simp [intOf]
    · have c1 := hK.s6
      have HL := Lib.hid (klist6 _ _ hK hGr)
      go_wp2_with fail
      refine HL.out.mono ?_
      rintro e w1 ⟨rfl, hB1⟩
      have hK1 := hK.later hB1
      have c2 := hK1.t6
      go_wp2_with fail
      go_roundw
      case rel => exact ⟨7, by omega, by omega, by go_num, hK1, hB.trans (hB1.mono hB.size)⟩
      case measure => simp [intOf]
    · clear hz0 hz7 hK
      go_wp2_with fail
      go_loopw [8] (fun i wx => ∃ z : Int, 0 ≤ z ∧ z ≤ 5 ∧ i = .int .i64 z ∧ KG wr.heap.size wx ∧ Below w.heap.size w wx) (fun i _ => 5 - (intOf i).toNat)
      case atStart =>
        refine ⟨0, by omega, by omega, rfl, ?_, ?_⟩
        · constructor <;> (repeat (first | (exact newc _ _ _ _ _ _ (by simp) rfl) | (refine cellA _ _ _ _ ?_)))
        · exact (hB.alloc hB.size _).alloc (by have := hB.size; simp; omega) _
      case round =>
        clear hB hGr
        obtain ⟨z, hz0, hz5, rfl, hK, hB⟩ := hrel
        have hGr := hgd.later hB
        rcases (show z = 0 ∨ z = 1 ∨ z = 2 ∨ z = 3 ∨ z = 4 ∨ z = 5 by omega) with rfl | rfl | rfl | rfl | rfl | rfl
        · have c1 := hK.w0
          have HL := Lib.hid (kpar0 _ hGr)
          go_wp2_with fail
          refine HL.out.mono ?_
          rintro e w1 ⟨a1, c9, rfl, hB1⟩
          have hK1 := hK.later hB1
          have c2 := hK1.e0
          go_wp2_with fail
          go_roundw
          case rel => exact ⟨1, by omega, by omega, by go_num, hK1, hB.trans (hB1.mono hB.size)⟩
          case measure => simp [intOf]
        · have c1 := hK.w1
          have HL := Lib.hid (kpar1 _ hGr)
          go_wp2_with fail
          refine HL.out.mono ?_
          rintro e w1 ⟨a1, c9, rfl, hB1⟩
          have hK1 := hK.later hB1
          have c2 := hK1.e1
          go_wp2_with fail
          go_roundw
          case rel => exact ⟨2, by omega, by omega, by go_num, hK1, hB.trans (hB1.mono hB.size)⟩
          case measure => simp [intOf]
        · have c1 := hK.w2
          have HL := Lib.hid (kpar2 _ hGr)
          go_wp2_with fail
          refine HL.out.mono ?_
          rintro e w1 ⟨a1, c9, rfl, hB1⟩
          have hK1 := hK.later hB1
          have c2 := hK1.e2
          go_wp2_with fail
          go_roundw
          case rel => exact ⟨3, by omega, by omega, by go_num, hK1, hB.trans (hB1.mono hB.size)⟩
          case measure => simp [intOf]
        · have c1 := hK.w3
          have HL := Lib.hid (kpar3 _ hGr)
          go_wp2_with fail
          refine HL.out.mono ?_
          rintro e w1 ⟨a1, c9, rfl, hB1⟩
          have hK1 := hK.later hB1
          have c2 := hK1.e3
          go_wp2_with fail
          go_roundw
          case rel => exact ⟨4, by omega, by omega, by go_num, hK1, hB.trans (hB1.mono hB.size)⟩
          case measure => simp [intOf]
        · have c1 := hK.w4
          have HL := Lib.hid (kpar4 _ hGr)
          go_wp2_with fail
          refine HL.out.mono ?_
          rintro e w1 ⟨a1, c9, rfl, hB1⟩
          have hK1 := hK.later hB1
          have c2 := hK1.e4
          go_wp2_with fail
          go_roundw
          case rel => exact ⟨5, by omega, by omega, by go_num, hK1, hB.trans (hB1.mono hB.size)⟩
          case measure => simp [intOf]
        · clear hz0 hz5 hK
          go_wp2_with fail
          refine (kunq _ hGr).mono ?_
          rintro e w1 ⟨rfl, hB1⟩
          have b1 := hB.trans (hB1.mono hB.size)
          clear hB hB1 hGr
          go_wp2_with fail
          refine (kspl _ ks1 (by decide) _ (hgd.later b1)).mono ?_
          rintro e w2 ⟨a2, c2, rfl, hB2⟩
          have b2 := b1.trans (hB2.mono b1.size)
          clear b1 hB2
          go_wp2_with fail
          refine (kspl _ ks2 (by decide) _ (hgd.later b2)).mono ?_
          rintro e w3 ⟨a3, c3, rfl, hB3⟩
          have b3 := b2.trans (hB3.mono b2.size)
          clear b2 hB3
          go_wp2_with fail
          refine (kint _ (hgd.later b3)).mono ?_
          rintro e w4 ⟨rfl, hB4⟩
          have b4 := b3.trans (hB4.mono b3.size)
          clear b3 hB4
          go_wp2_with fail
          have b5 := b4.alloc b4.size (.cells #[.int .u8 0, .int .u8 10, .int .u8 255] 5)
          refine (Hex_f _ [0, 10, 255] ⟨#[48, 48, 48, 97, 102, 102]⟩ 0 _ (kbytes _) (hgd.later b5) kh).mono ?_
          rintro e w6 ⟨rfl, hB6⟩
          have b6 := b5.trans (hB6.mono b5.size)
          clear b4 b5 hB6
          go_wp2_with fail
          refine (kpx _ kx1 (by decide) _ (hgd.later b6)).mono ?_
          rintro e w7 ⟨a7, c7, rfl, hB7⟩
          have b7 := b6.trans (hB7.mono b6.size)
          clear b6 hB7
          go_wp2_with fail
          refine (kpx _ kx2 (by decide) _ (hgd.later b7)).mono ?_
          rintro e w8 ⟨a8, c8, rfl, hB8⟩
          have b8 := b7.trans (hB8.mono b7.size)
          clear b7 hB8
          go_wp2_with (first | (go_at_call 10; refine (shown_any _ (hgd.later b8)).mono ?_; rintro e w9 ⟨rfl, hB9⟩))
          go_ret
          exact ⟨rfl, b8.trans (hB9.mono b8.size)⟩
end Go.Proofs.YtdcgfbebeiheiaaDoor
