/- Has and Meets. -/
import Derived.Test.YtgljfiihaehedaaHas1
import Derived.Test.YtgljfiihaehedaaShelf
import Derived.Shelf.SlicesQ.IndexFunc
namespace Go.Proofs.Ytgljfiihaehedaa
open Go.RowKit
attribute [local go_sem] Oper.semAt_some

theorem idx_nil (a : Option Addr) (c : Nat) (f : Value) (w : World) :
    Calls Try.prog 78 #[.slice a 0 c, f] w fun e w' => e = .returned (.int .i64 (-1)) ∧ Below w.heap.size w w' := by
  go_enter Try.func78, Try.ntmps78
  go_wp2_with fail
  refine wp_loop_once ?_
  go_wp2
  go_ret
  exact ⟨rfl, Below.refl _ _⟩

theorem cont_nil (a : Option Addr) (c : Nat) (f : Value) (w : World) :
    Calls Try.prog 59 #[.slice a 0 c, f] w fun e w' => e = .returned (.bool false) ∧ Below w.heap.size w w' := by
  go_enter Try.func59, Try.ntmps59
  go_wp2_with fail
  refine (idx_nil a c f _).mono ?_
  rintro e w1 ⟨rfl, B1⟩
  go_wp2
  go_ret
  exact ⟨rfl, B1⟩

abbrev SpV := { x : Sp // x.1 + x.2 ≤ 1024 }
instance : Inhabited SpV := ⟨⟨(0, 0), by decide⟩⟩
def encV (x : SpV) : List Value := [.int .i64 (x.1.1 : Int), .int .i64 (x.1.2 : Int)]
theorem liftV (L : List Sp) (h : ∀ x ∈ L, x.1 + x.2 ≤ 1024) : ∃ zs : List SpV, zs.map Subtype.val = L := by
  refine ⟨L.pmap (fun x hx => ⟨x, hx⟩) h, ?_⟩
  rw [List.map_pmap]; simp

/-- slices.ContainsFunc over a set, by whatever predicate over valid spans. -/
theorem cont_is (g : Nat) (lb : Array Value) (eg : ∀ args w, (callFunc g args).run Try.prog w = .ok (.enter g args) w) (f : Sp → Bool) (L : List Sp) (hL : SetL 0 L) (v : Value) (w : World) (h : SAt w v (toI L))
    (hp : ∀ (W : World) (a b : Nat), a + b ≤ 1024 → Below w.heap.size w W → Calls Try.prog g (#[.agg #[.int .i64 a, .int .i64 b]] ++ lb) W fun e w' => e = .returned (.bool (f (a, b))) ∧ Below W.heap.size W w') :
    Calls Try.prog 59 #[v, .func (.func g) #[] lb] w fun e w' => e = .returned (.bool (L.any f)) ∧ Below w.heap.size w w' := by
  by_cases hn : L = []
  · subst hn
    obtain ⟨a, c, rfl⟩ := h.form
    exact cont_nil a c _ w
  rcases h with ⟨rfl, h0⟩ | ⟨b, off, cap, rfl, h1, h2, hc⟩
  · exact absurd (by unfold toI at h0; simpa using h0) hn
  · obtain ⟨zs, hzs⟩ := liftV L (fun x hx => (hL.lo x hx).2.2)
    have hlen : zs.length = L.length := by rw [← hzs]; simp
    have hz : ∀ j (hj : j < zs.length), L[j]? = some (zs[j]!).1 := fun j hj => by
      rw [← hzs, List.getElem?_map, List.getElem?_eq_getElem hj, getElem!_pos zs j hj]; rfl
    have hpos : 0 < L.length := List.length_pos_iff.2 hn
    have hbl : b < w.heap.size := World.block_lt_of_cell? _ _ (hc 0 _ (toI_some (List.getElem?_eq_getElem hpos))).1
    have hcon := AnyQ.slices_ContainsFunc Try.contSp 2 Try.isAgg31 Try.sizeOf31 encV (fun _ => rfl) (fun x : SpV => f x.1) g lb eg b off L.length cap zs w
      (fun W x hb => (hp W x.1.1 x.1.2 x.2 hb).mono fun e w' ⟨he, hB⟩ => ⟨he, hb.trans (hB.mono hb.size)⟩) (by omega) (by rw [toI_len] at h1; unfold maxLen at h2; omega) hbl
      (fun j hj i u hu => by
        have hcj := hc j _ (toI_some (hz j hj))
        unfold encV at hu
        generalize zs[j]! = y at hcj hu
        match i with
        | 0 => simp at hu; subst hu; exact hcj.1
        | 1 => simp at hu; subst hu; exact hcj.2
        | i + 2 => simp at hu)
    change Calls Try.prog 59 _ _ _ at hcon
    rw [toI_len]
    refine hcon.mono ?_
    rintro e w' ⟨rfl, hB⟩
    refine ⟨ret_bool ?_, hB⟩
    rw [← hlen, List.take_length, ← hzs, List.any_map]
    rfl

set_option maxRecDepth 100000 in
set_option maxHeartbeats 1000000 in
theorem Has_ok (L : List Sp) (hL : SetL 0 L) (p q : Nat) (hpq : 1 ≤ q ∧ p + q ≤ 1024) (v : Value) (w : World) (h : SAt w v (toI L)) :
    Calls Try.prog 26 #[v, .agg #[.int .i64 p, .int .i64 q]] w fun e w' => e = .returned (.tuple #[.bool (L.any (hasOne p q)), .int .i64 0]) ∧ Below w.heap.size w w' := by
  obtain ⟨wA, hwA⟩ : ∃ x, w.alloc (.cells #[.int .i64 (p : Int), .int .i64 (q : Int)] 31) = x := ⟨_, rfl⟩
  have hAB : Below w.heap.size w wA := by rw [← hwA]; exact (Below.refl _ _).alloc (Nat.le_refl _) _
  have bA : XBox wA w.heap.size ((p : Int), (q : Int)) := by rw [← hwA]; exact XBox.new w ((p : Int), (q : Int))
  have HW := Lib.hid hwA
  have hA := h.later hAB
  have hw0 : withB (toI L) ((p : Int), (q : Int)) = 0 := by unfold withB; rw [chkS_set hL, vld_of hpq.1 hpq.2]; rfl
  have H0 := Lib.hid hw0
  have hfp : I64 (p : Int) := by unfold I64; omega
  have HF := Lib.hid (fit_nat L hL.val)
  have x0 := bA.c0
  have x1 := bA.c1
  simp only at x0 x1
  clear hwA hw0
  go_enter Try.func26, Try.ntmps26
  go_wp2_with fail
  rw [HW.out]
  refine (checkWith_is v (toI L) p q HF.out hfp 0 H0.out _ hA).mono ?_
  rintro e w1 ⟨rfl, B1⟩
  have bB := bA.later B1
  have z0 := bB.c0
  have z1 := bB.c1
  simp only at z0 z1
  go_wp2_with fail
  refine (cont_is 60 #[.pointer (some ⟨w.heap.size, 0, none⟩)] (enters_of Try.func60 (by kernel_rfl) rfl) (hasOne p q) L hL v _ (hA.later B1) (fun W a b hab hB => has1_is p q hpq.2 a b hab w.heap.size W (bB.later hB))).mono ?_
  rintro e w2 ⟨rfl, hB⟩
  go_wp2
  go_ret2
  exact ⟨rfl, hAB.trans ((B1.trans (hB.mono B1.size)).mono hAB.size)⟩

set_option maxRecDepth 100000 in
set_option maxHeartbeats 1000000 in
theorem Meets_ok (L : List Sp) (hL : SetL 0 L) (p q : Nat) (hpq : 1 ≤ q ∧ p + q ≤ 1024) (v : Value) (w : World) (h : SAt w v (toI L)) :
    Calls Try.prog 28 #[v, .agg #[.int .i64 p, .int .i64 q]] w fun e w' => e = .returned (.tuple #[.bool (L.any (meetsOne p q)), .int .i64 0]) ∧ Below w.heap.size w w' := by
  obtain ⟨wA, hwA⟩ : ∃ x, w.alloc (.cells #[.int .i64 (p : Int), .int .i64 (q : Int)] 31) = x := ⟨_, rfl⟩
  have hAB : Below w.heap.size w wA := by rw [← hwA]; exact (Below.refl _ _).alloc (Nat.le_refl _) _
  have bA : XBox wA w.heap.size ((p : Int), (q : Int)) := by rw [← hwA]; exact XBox.new w ((p : Int), (q : Int))
  have HW := Lib.hid hwA
  have hA := h.later hAB
  have hw0 : withB (toI L) ((p : Int), (q : Int)) = 0 := by unfold withB; rw [chkS_set hL, vld_of hpq.1 hpq.2]; rfl
  have H0 := Lib.hid hw0
  have hfp : I64 (p : Int) := by unfold I64; omega
  have HF := Lib.hid (fit_nat L hL.val)
  have x0 := bA.c0
  have x1 := bA.c1
  simp only at x0 x1
  clear hwA hw0
  go_enter Try.func28, Try.ntmps28
  go_wp2_with fail
  rw [HW.out]
  refine (checkWith_is v (toI L) p q HF.out hfp 0 H0.out _ hA).mono ?_
  rintro e w1 ⟨rfl, B1⟩
  have bB := bA.later B1
  have z0 := bB.c0
  have z1 := bB.c1
  simp only at z0 z1
  go_wp2_with fail
  refine (cont_is 62 #[.pointer (some ⟨w.heap.size, 0, none⟩)] (enters_of Try.func62 (by kernel_rfl) rfl) (meetsOne p q) L hL v _ (hA.later B1) (fun W a b hab hB => meets1_is p q hpq.2 a b hab w.heap.size W (bB.later hB))).mono ?_
  rintro e w2 ⟨rfl, hB⟩
  go_wp2
  go_ret2
  exact ⟨rfl, hAB.trans ((B1.trans (hB.mono B1.size)).mono hAB.size)⟩

set_option maxRecDepth 100000 in
set_option maxHeartbeats 1000000 in
theorem Has_bad (l : List SpI) (p q : Int) (fl : Fit l) (fp : I64 p) (c : Int) (hc : withB l (p, q) = c) (h0 : c ≠ 0) (u : Value) (w : World) (h : SAt w u l) :
    Calls Try.prog 26 #[u, .agg #[.int .i64 p, .int .i64 q]] w fun e w' => e = .returned (.tuple #[.bool false, .int .i64 c]) ∧ Below w.heap.size w w' := by
  obtain ⟨wA, hwA⟩ : ∃ x, w.alloc (.cells #[.int .i64 p, .int .i64 q] 31) = x := ⟨_, rfl⟩
  have hAB : Below w.heap.size w wA := by rw [← hwA]; exact (Below.refl _ _).alloc (Nat.le_refl _) _
  have bA : XBox wA w.heap.size (p, q) := by rw [← hwA]; exact XBox.new w (p, q)
  have HW := Lib.hid hwA
  have hA := h.later hAB
  have HC := Lib.hid hc
  have hq : (c != 0) = true := by simp [h0]
  have x0 := bA.c0
  have x1 := bA.c1
  simp only at x0 x1
  clear hc h0 hwA
  go_enter Try.func26, Try.ntmps26
  go_wp2_with fail
  rw [HW.out]
  refine (checkWith_is u l p q fl fp c HC.out _ hA).mono ?_
  rintro e w1 ⟨rfl, B1⟩
  go_wp2
  go_ret2
  exact ⟨rfl, hAB.trans (B1.mono hAB.size)⟩

set_option maxRecDepth 100000 in
set_option maxHeartbeats 1000000 in
theorem Meets_bad (l : List SpI) (p q : Int) (fl : Fit l) (fp : I64 p) (c : Int) (hc : withB l (p, q) = c) (h0 : c ≠ 0) (u : Value) (w : World) (h : SAt w u l) :
    Calls Try.prog 28 #[u, .agg #[.int .i64 p, .int .i64 q]] w fun e w' => e = .returned (.tuple #[.bool false, .int .i64 c]) ∧ Below w.heap.size w w' := by
  obtain ⟨wA, hwA⟩ : ∃ x, w.alloc (.cells #[.int .i64 p, .int .i64 q] 31) = x := ⟨_, rfl⟩
  have hAB : Below w.heap.size w wA := by rw [← hwA]; exact (Below.refl _ _).alloc (Nat.le_refl _) _
  have bA : XBox wA w.heap.size (p, q) := by rw [← hwA]; exact XBox.new w (p, q)
  have HW := Lib.hid hwA
  have hA := h.later hAB
  have HC := Lib.hid hc
  have hq : (c != 0) = true := by simp [h0]
  have x0 := bA.c0
  have x1 := bA.c1
  simp only at x0 x1
  clear hc h0 hwA
  go_enter Try.func28, Try.ntmps28
  go_wp2_with fail
  rw [HW.out]
  refine (checkWith_is u l p q fl fp c HC.out _ hA).mono ?_
  rintro e w1 ⟨rfl, B1⟩
  go_wp2
  go_ret2
  exact ⟨rfl, hAB.trans (B1.mono hAB.size)⟩

theorem any_has (L : List Sp) (p : Nat) : L.any (hasOne p 1) = inS L p := by
  unfold inS hasOne; rfl
end Go.Proofs.Ytgljfiihaehedaa
