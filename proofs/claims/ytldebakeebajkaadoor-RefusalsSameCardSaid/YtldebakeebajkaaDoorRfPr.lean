/- Print; the examples' plan; what every law ends in. -/
import Derived.Test.YtldebakeebajkaaDoorRfGd
namespace Go.Proofs.YtldebakeebajkaaDoor
open Go.RowKit Go.Shelf
attribute [local go_sem] Oper.semAt_some

theorem bldAt_below {T e : TypeId} {B b : Nat} {p : Value} {bs : List Value} {W W' : World} (h : Lib.BuilderAtF T e B b p bs W) (hb : Below W.heap.size W W') : Lib.BuilderAtF T e B b p bs W' := by
  have hlt := h.lt
  obtain ⟨hB, v, hv, hown, hne⟩ := h
  exact ⟨hB, v, (hb.block b hlt).trans hv, hown.kept (row := none) ⟨hb.os, hb.tape, hb.output, hb.size, fun k hk _ => hb.block k hk⟩ (Classical.em _), hne⟩
theorem bld_below {T e : TypeId} {B b : Nat} {bs : List Value} {W W' : World} (h : Lib.IsBuilderF T e B b bs W) (hb : Below W.heap.size W W') : Lib.IsBuilderF T e B b bs W' :=
  h.elim (fun x => .inl (bldAt_below x hb)) (fun x => .inr (bldAt_below x hb))
theorem bld_new (W : World) (B : Nat) (hB : B ≤ W.heap.size) : Lib.IsBuilderF 87 5 B W.heap.size [] (W.alloc (.cells #[.pointer none, .slice none 0 0] 87)) :=
  Lib.IsBuilderF.of (.inl ⟨hB, _, World.alloc_heap_new W _, World.ownsRow_nil _ _ _ _, by simp [Value.ownBlock]⟩)
theorem bld_lt {T e : TypeId} {B b : Nat} {bs : List Value} {W : World} (h : Lib.IsBuilderF T e B b bs W) : b < W.heap.size := h.elim (fun x => x.lt) (fun x => x.lt)

theorem prB_size (r : Ru) (h : r.ok) : (prB r).size ≤ 90 := by
  have h1 := nmB_size r.k
  have h2 := dg_size r.f (by have := h.f2; omega)
  have h3 := dg_size r.e (by have := h.e2; omega)
  have h4 := dg_size r.t (by have := h.t2; omega)
  have c1 : (⟨#[32]⟩ : ByteArray).size = 1 := rfl
  have c2 : (⟨#[32, 101, 118, 101, 114, 121, 32]⟩ : ByteArray).size = 7 := rfl
  have c3 : (⟨#[32, 116, 105, 109, 101, 115, 32]⟩ : ByteArray).size = 7 := rfl
  unfold prB
  split
  · simp only [ByteArray.size_append]; omega
  · split
    · simp only [ByteArray.size_append]; omega
    · simp only [ByteArray.size_append]; omega
/-- The text of a plan. -/
def prT (L : List Ru) : List UInt8 := L.flatMap fun r => (prB r ++ ⟨#[10]⟩).data.toList
theorem prT_take (L : List Ru) (k : Nat) (r : Ru) (h : L[k]? = some r) : prT (L.take (k + 1)) = prT (L.take k) ++ (prB r ++ ⟨#[10]⟩).data.toList := by
  unfold prT; rw [List.take_add_one, h, List.flatMap_append]; simp
theorem prT_len : ∀ (L : List Ru), (∀ r ∈ L, r.ok) → (prT L).length ≤ 91 * L.length
  | [], _ => Nat.le_refl _
  | r :: L, h => by
    have h1 := prT_len L fun x hx => h x (by simp [hx])
    have h2 := prB_size r (h r (by simp))
    have e : prT (r :: L) = (prB r ++ ⟨#[10]⟩).data.toList ++ prT L := by unfold prT; rw [List.flatMap_cons]
    have e2 : (prB r ++ ⟨#[10]⟩).data.toList.length = (prB r).size + 1 := by
      rw [show (prB r ++ ⟨#[10]⟩).data.toList.length = (prB r ++ ⟨#[10]⟩).size from rfl, ByteArray.size_append]; rfl
    rw [e, List.length_append, e2, List.length_cons]; omega

set_option maxRecDepth 100000 in
set_option maxHeartbeats 2000000 in
theorem Print_is (L : List Ru) (hL : OkL L) (v : Value) (w : World) (h : RAt w v (toI L)) (hw : Gd w) :
    Calls Tryd.prog 37 #[.agg #[v]] w fun e w' => e = .returned (.tuple #[.string ⟨(prT L).toArray⟩, .int .i64 0]) ∧ Below w.heap.size w w' := by
  obtain ⟨a, cap, rfl⟩ := h.form
  obtain ⟨n, hn⟩ : ∃ n, L.length = n := ⟨_, rfl⟩
  have HN := Lib.hid hn
  have hn50 : n ≤ 50 := by have := hL.1; omega
  have HLN : Hid ((toI L).length = n) := by unfold Hid; rw [toI_len, hn]
  rw [HLN.out] at h ⊢
  clear hn
  have hb : Below w.heap.size w (w.alloc (.cells #[.slice a n cap] 24)) := (Below.refl _ _).alloc (Nat.le_refl _) _
  have hbx := Boxed.new w 24 (.slice a n cap)
  have HC := Lib.hid (Check_is _ (toI L) 0 0 (chkP_of hL) _ (h.later hb))
  have HL := Lib.hid hL
  go_enter Tryd.func37, Tryd.ntmps37
  go_wp2_with fail
  refine HC.out.mono ?_
  rintro e w1 ⟨rfl, B1⟩
  have hB1 : Below w.heap.size w w1 := hb.trans (B1.mono (by simp))
  have hx1 : Boxed w1 w.heap.size 24 (.slice a n cap) := hbx.kept (grown_of_below B1) (by simp)
  obtain ⟨W2, hW2⟩ : ∃ x, w1.alloc (.cells #[.pointer none, .slice none 0 0] 87) = x := ⟨_, rfl⟩
  have bb : Lib.IsBuilderF 87 5 w.heap.size w1.heap.size [] W2 := by rw [← hW2]; exact bld_new w1 _ hB1.size
  have B2 : Below w1.heap.size w1 W2 := by rw [← hW2]; exact (Below.refl _ _).alloc (Nat.le_refl _) _
  have hp1 := hx1.cell
  have hp2 := (hx1.kept (grown_of_below B2) (by simp)).cell
  have hB2 : Below w.heap.size w W2 := hB1.trans (B2.mono hB1.size)
  go_wp2_with fail
  try rw [hW2]
  clear hW2
  go_loopw [20] (fun i wr => ∃ k : Nat, k ≤ n ∧ i = .int .i64 k ∧ Lib.IsBuilderF 87 5 w.heap.size w1.heap.size (Lib.byteCells (prT (L.take k))) wr ∧ Below w.heap.size w wr) (fun i _ => n - (intOf i).toNat)
  case atStart => exact ⟨0, Nat.zero_le _, rfl, bb, hB2⟩
  case round =>
    obtain ⟨k, hk, rfl, hbb, hB⟩ := hrel
    by_cases hlt : k < n
    · obtain ⟨r, hx⟩ : ∃ x, L[k]? = some x := ⟨_, List.getElem?_eq_getElem (by rw [HN.out]; exact hlt)⟩
      have hr := HL.out.get hx
      obtain ⟨b, off, rfl, _, k1, k2, k3, k4⟩ := h.at k _ (toI_some hx)
      replace k1 := cell_later hB k1
      replace k2 := cell_later hB k2
      replace k3 := cell_later hB k3
      replace k4 := cell_later hB k4
      have hi1 : (k : Int) < (n : Int) := by omega
      have HT : Hid (prT (L.take (k + 1)) = prT (L.take k) ++ (prB r ++ ⟨#[10]⟩).data.toList) := prT_take L k r hx
      have hlen := prT_len (L.take k) (fun x hx2 => HL.out.2 x (List.mem_of_mem_take hx2))
      have hlk : (L.take k).length ≤ 50 := by rw [List.length_take]; omega
      have hps := prB_size r hr
      have HPR := Lib.hid (printRule_is r hr)
      obtain ⟨ps, hpse⟩ : ∃ x, prB r = x := ⟨_, rfl⟩
      rw [hpse] at HT hps HPR
      have hc1 : (⟨#[10]⟩ : ByteArray).size = 1 := rfl
      have hbbl : (Lib.byteCells (prT (L.take k))).length ≤ 4550 := by rw [Lib.byteCells_length]; omega
      have hGr := hw.later hB
      have hsz := hB.size
      simp only [Ru.toI] at k1 k2 k3 k4
      clear hx hr hpse
      go_wp2_with fail
      have bA : Below wr.heap.size wr (wr.alloc (.cells #[.int .i64 (r.k : Int), .int .i64 (r.f : Int), .int .i64 (r.e : Int), .int .i64 (r.t : Int)] 61)) := (Below.refl _ _).alloc (Nat.le_refl _) _
      refine (HPR.out _ (hGr.later bA)).mono ?_
      rintro e w3 ⟨rfl, B3⟩
      have hb3 := bld_below (bld_below hbb bA) B3
      have hB3 : Below w.heap.size w w3 := hB.trans ((bA.trans (B3.mono bA.size)).mono hB.size)
      go_wp2_with fail
      have hWS := Tryd.Builder_WriteString_k w.heap.size w1.heap.size (Lib.byteCells (prT (L.take k))) (ps ++ ⟨#[10]⟩) w3 hb3 (by rw [ByteArray.size_append]; omega) hB3.size
      refine hWS.mono ?_
      rintro e w4 ⟨rfl, hb4, hB4, _⟩
      go_wp2
      go_roundw
      case rel =>
        refine ⟨k + 1, by omega, by go_num, ?_, hB3.trans hB4⟩
        rw [HT.out, Lib.byteCells_append]
        exact .inr hb4
      case measure => simp [intOf]; omega
    · have hi1 : ¬ ((k : Int) < (n : Int)) := by omega
      have hkn : k = n := by omega
      have hs : L.take k = L := by rw [hkn, ← HN.out, List.take_length]
      rw [hs] at hbb
      clear hs hkn
      go_wp2_with fail
      refine (Tryd.Builder_String_any_k w.heap.size w1.heap.size _ _ hbb hB.size).mono ?_
      rintro e w4 ⟨rfl, _, hB4, _⟩
      go_wp2
      go_ret2
      exact ⟨rfl, hB.trans hB4⟩

set_option maxRecDepth 100000 in
set_option maxHeartbeats 1000000 in
theorem Print_bad (v : Value) (l : List RlI) (i : Nat) (c : Int) (hc : chkP l = (i, c)) (h0 : c ≠ 0) (w : World) (h : RAt w v l) :
    Calls Tryd.prog 37 #[.agg #[v]] w fun e w' => e = .returned (.tuple #[.string ⟨#[]⟩, .int .i64 c]) ∧ Below w.heap.size w w' := by
  have hb : Below w.heap.size w (w.alloc (.cells #[v] 24)) := (Below.refl _ _).alloc (Nat.le_refl _) _
  have HC := Lib.hid (Check_is v l i c hc _ (h.later hb))
  have hq : (c != 0) = true := by simp [h0]
  clear hc h0
  go_enter Tryd.func37, Tryd.ntmps37
  go_wp2_with fail
  refine HC.out.mono ?_
  rintro e w1 ⟨rfl, B1⟩
  go_wp2
  go_ret2
  exact ⟨rfl, hb.trans (B1.mono (by simp))⟩

/-- The plan P of the examples. -/
def exL : List Ru := [⟨2, 3, 2, 0⟩, ⟨2, 4, 0, 1⟩, ⟨0, 1, 3, 2⟩]
theorem exL_ok : OkL exL := by
  refine ⟨by decide, fun r hr => ?_⟩
  simp [exL] at hr
  rcases hr with rfl | rfl | rfl <;> exact ⟨by decide, by decide, by decide, by decide, by decide, by decide⟩
theorem rat_ex (w : World) : RAt (w.alloc (.cells #[.int .i64 2, .int .i64 3, .int .i64 2, .int .i64 0, .int .i64 2, .int .i64 4, .int .i64 0, .int .i64 1, .int .i64 0, .int .i64 1, .int .i64 3, .int .i64 2] 61)) (.slice (some ⟨w.heap.size, 0, none⟩) 3 3) (toI exL) :=
  .inr ⟨w.heap.size, 0, 3, rfl, by decide, by decide, fun j x hx => by
    match j with
    | 0 => simp [toI, exL, Ru.toI] at hx; subst hx; exact ⟨by simp, by simp, by simp, by simp⟩
    | 1 => simp [toI, exL, Ru.toI] at hx; subst hx; exact ⟨by simp, by simp, by simp, by simp⟩
    | 2 => simp [toI, exL, Ru.toI] at hx; subst hx; exact ⟨by simp, by simp, by simp, by simp⟩
    | j + 3 => simp [toI, exL] at hx⟩
set_option maxRecDepth 100000 in
theorem ex_is (w : World) : Calls Tryd.prog 40 #[] w fun e w' => ∃ a c, e = .returned (.agg #[.slice a 3 c]) ∧ RAt w' (.slice a 3 c) (toI exL) ∧ Below w.heap.size w w' := by
  go_enter Tryd.func40, Tryd.ntmps40
  go_wp2_with fail
  have hr := rat_ex (w.alloc (.cells #[.slice (some ⟨w.heap.size + 1, 0, none⟩) 3 3] 24))
  rw [World.size_alloc] at hr
  refine bodyPost_ret (v := .agg #[.slice (some ⟨w.heap.size + 1, 0, none⟩) 3 3]) (by simp [results, Tryd.results40, go_sem]) rfl ⟨_, _, rfl, hr, ((Below.refl _ _).alloc (Nat.le_refl _) _).alloc (by simp) _⟩
def shT : ByteArray := ⟨#[99, 111, 109, 109, 105, 116, 32, 51, 32, 101, 118, 101, 114, 121, 32, 50, 10, 99, 111, 109, 109, 105, 116, 32, 52, 10, 114, 101, 115, 101, 114, 118, 101, 32, 49, 32, 101, 118, 101, 114, 121, 32, 51, 32, 116, 105, 109, 101, 115, 32, 50, 10]⟩
theorem prT_ex : (⟨(prT exL).toArray⟩ : ByteArray) = shT := by kernel_rfl
theorem aft_ex : aft exL 2 5 = some 7 := by kernel_rfl
theorem hit_ex : hitN exL 0 10 = 2 := by kernel_rfl
theorem ref_ex : refP exL 2 4 = true := by kernel_rfl

set_option maxRecDepth 100000 in
set_option maxHeartbeats 4000000 in
theorem shown_is (w : World) (hw : Gd w) : Calls Tryd.prog 13 #[] w fun e w' => e = .returned (.bool true) ∧ Below w.heap.size w w' := by
  go_enter Tryd.func13, Tryd.ntmps13
  go_wp2_with fail
  refine (ex_is _).mono ?_
  rintro e w1 ⟨a1, c1, rfl, h1, B1⟩
  go_wp2_with fail
  refine (Print_is exL exL_ok _ _ h1 (hw.later B1)).mono ?_
  rintro e w2 ⟨rfl, B2⟩
  have D2 := B1.trans (B2.mono B1.size)
  rw [prT_ex]
  go_wp2_with fail
  refine (ex_is _).mono ?_
  rintro e w3 ⟨a3, c3, rfl, h3, B3⟩
  have D3 := D2.trans (B3.mono D2.size)
  have ha := After_ok exL exL_ok 2 5 (by decide) (by decide) _ _ h3
  rw [aft_ex] at ha
  have HA := Lib.hid ha
  clear ha
  go_wp2_with fail
  refine HA.out.mono ?_
  rintro e w4 ⟨rfl, B4⟩
  have D4 := D3.trans (B4.mono D3.size)
  rw [show aftA (some 7) = (7, 0) from rfl]
  go_wp2_with fail
  refine (ex_is _).mono ?_
  rintro e w5 ⟨a5, c5, rfl, h5, B5⟩
  have D5 := D4.trans (B5.mono D4.size)
  have hh := Hits_ok exL exL_ok 0 10 (by decide) (by decide) _ _ h5
  rw [hit_ex] at hh
  have HH := Lib.hid hh
  clear hh
  go_wp2_with fail
  refine HH.out.mono ?_
  rintro e w6 ⟨rfl, B6⟩
  have D6 := D5.trans (B6.mono D5.size)
  go_wp2_with fail
  refine (ex_is _).mono ?_
  rintro e w7 ⟨a7, c7, rfl, h7, B7⟩
  have D7 := D6.trans (B7.mono D6.size)
  have hr := Refused_ok exL exL_ok 2 4 (by decide) (by decide) (by decide) _ _ h7
  rw [ref_ex] at hr
  have HR := Lib.hid hr
  clear hr
  go_wp2_with fail
  refine HR.out.mono ?_
  rintro e w8 ⟨rfl, B8⟩
  have D8 := D7.trans (B8.mono D7.size)
  have hsh : shT.toList = [99, 111, 109, 109, 105, 116, 32, 51, 32, 101, 118, 101, 114, 121, 32, 50, 10, 99, 111, 109, 109, 105, 116, 32, 52, 10, 114, 101, 115, 101, 114, 118, 101, 32, 49, 32, 101, 118, 101, 114, 121, 32, 51, 32, 116, 105, 109, 101, 115, 32, 50, 10] := by kernel_rfl
  go_wp2_with fail
  go_ret
  exact ⟨rfl, D8⟩
end Go.Proofs.YtldebakeebajkaaDoor
