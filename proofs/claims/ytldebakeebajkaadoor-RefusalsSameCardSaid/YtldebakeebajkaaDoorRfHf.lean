/- hits beyond the horizon. -/
import Derived.Test.YtldebakeebajkaaDoorRfHt
namespace Go.Proofs.YtldebakeebajkaaDoor
open Go.RowKit Go.Shelf
attribute [local go_sem] Oper.semAt_some

theorem dvd_period {e : Nat} (h1 : 0 < e) (h2 : e ≤ 12) : e ∣ 27720 := by
  have : e = 1 ∨ e = 2 ∨ e = 3 ∨ e = 4 ∨ e = 5 ∨ e = 6 ∨ e = 7 ∨ e = 8 ∨ e = 9 ∨ e = 10 ∨ e = 11 ∨ e = 12 := by omega
  rcases this with rfl | rfl | rfl | rfl | rfl | rfl | rfl | rfl | rfl | rfl | rfl | rfl <;> decide
theorem ref_end {r : Ru} (h : r.ok) (ht : r.t ≠ 0) {n : Nat} (hn : 21988 < n) : r.ref n = false := by
  rw [Bool.eq_false_iff]
  intro h1
  obtain ⟨i, rfl, h3⟩ := (r.ref_iff n h).1 h1
  have a1 := h.f2; have a2 := h.e2; have a3 := h.t2
  have h4 : i ≤ 999 := by omega
  have h5 := Nat.mul_le_mul h4 a2
  omega
theorem ref_per {r : Ru} (h : r.ok) {n : Nat} (hn : 21988 < n) : r.ref (n + 27720) = r.ref n := by
  by_cases ht : r.t = 0
  · have he : 0 < r.e := by
      rcases Nat.eq_zero_or_pos r.e with he | he
      · have := h.et he; omega
      · exact he
    obtain ⟨q, hq⟩ := dvd_period he h.e2
    have hf := h.f2
    rw [Bool.eq_iff_iff, r.ref_iff _ h, r.ref_iff _ h]
    constructor
    · rintro ⟨i, hi, _⟩
      have hqi : q ≤ i := by
        rcases Nat.lt_or_ge i q with hlt | hge
        · have := Nat.mul_le_mul_right r.e (Nat.le_of_lt hlt)
          rw [Nat.mul_comm q r.e, ← hq] at this
          omega
        · exact hge
      refine ⟨i - q, ?_, .inl ht⟩
      have : (i - q) * r.e + q * r.e = i * r.e := by rw [← Nat.add_mul]; congr 1; omega
      rw [Nat.mul_comm q r.e, ← hq] at this
      omega
    · rintro ⟨i, hi, _⟩
      refine ⟨i + q, ?_, .inl ht⟩
      rw [Nat.add_mul, Nat.mul_comm q r.e, ← hq]
      omega
  · rw [ref_end h ht hn, ref_end h ht (by omega)]
theorem refP_per {L : List Ru} (h : ∀ r ∈ L, r.ok) (k : Nat) {n : Nat} (hn : 21988 < n) : refP L k (n + 27720) = refP L k n := by
  unfold refP
  induction L with
  | nil => rfl
  | cons r L ih => rw [List.any_cons, List.any_cons, ref_per (h r (by simp)) hn, ih fun x hx => h x (by simp [hx])]
theorem hitN_per {L : List Ru} (h : ∀ r ∈ L, r.ok) (k : Nat) : ∀ d, hitN L k (21988 + d + 27720) + hitN L k 21988 = hitN L k (21988 + d) + hitN L k 49708
  | 0 => by rw [Nat.add_comm]
  | d + 1 => by
    have ih := hitN_per h k d
    have h1 := hitN_succ L k (21988 + d + 27720)
    have h2 := hitN_succ L k (21988 + d)
    have h3 := refP_per h k (n := 21988 + d + 1) (by omega)
    rw [show 21988 + d + 1 + 27720 = 21988 + d + 27720 + 1 by omega] at h3
    rw [h3] at h1
    rw [show 21988 + (d + 1) + 27720 = 21988 + d + 27720 + 1 by omega, show 21988 + (d + 1) = 21988 + d + 1 by omega]
    omega
theorem hitN_pers {L : List Ru} (h : ∀ r ∈ L, r.ok) (k d : Nat) : ∀ j, hitN L k (21988 + d + j * 27720) + j * hitN L k 21988 = hitN L k (21988 + d) + j * hitN L k 49708
  | 0 => by simp
  | j + 1 => by
    have ih := hitN_pers h k d j
    have h1 := hitN_per h k (d + j * 27720)
    rw [show 21988 + (d + j * 27720) = 21988 + d + j * 27720 by omega] at h1
    rw [show 21988 + d + (j + 1) * 27720 = 21988 + d + j * 27720 + 27720 by omega, Nat.add_mul, Nat.one_mul, Nat.add_mul, Nat.one_mul]
    omega
theorem hitN_mono (L : List Ru) (k : Nat) (a : Nat) : ∀ d, hitN L k a ≤ hitN L k (a + d)
  | 0 => Nat.le_refl _
  | d + 1 => by have := hitN_mono L k a d; have h := hitN_succ L k (a + d); rw [show a + (d + 1) = a + d + 1 by omega]; omega
theorem hitN_pers2 {L : List Ru} (h : ∀ r ∈ L, r.ok) (k m n p A Z : Nat) (hA : A = 49708) (hZ : Z = 21988) (hm : 21988 ≤ m) (hn : n = m + p * 27720) : hitN L k n + p * hitN L k Z = hitN L k m + p * hitN L k A := by
  have := hitN_pers h k (m - 21988) p
  have e1 : 21988 + (m - 21988) = m := by omega
  rw [e1] at this
  rw [hn, hZ, hA]
  exact this
theorem hitN_le2 (L : List Ru) (k A Z : Nat) (h : Z ≤ A) : hitN L k Z ≤ hitN L k A := by
  have := hitN_mono L k Z (A - Z)
  rwa [Nat.add_sub_cancel' h] at this
set_option maxRecDepth 100000 in
set_option maxHeartbeats 1000000 in
theorem hits_far (L : List Ru) (hL : OkL L) (kd n : Nat) (hn : 49708 < n) (hn2 : n ≤ 1000000) (v : Value) (w : World) (h : RAt w v (toI L)) :
    Calls Tryd.prog 47 #[.agg #[v], .int .i64 (kd : Int), .int .i64 (n : Int)] w fun e w' => e = .returned (.int .i64 (hitN L kd n : Nat)) ∧ Below w.heap.size w w' := by
  obtain ⟨WL, hWL⟩ : ∃ x, w.alloc (.cells #[v] 24) = x := ⟨_, rfl⟩
  have hb : Below w.heap.size w WL := by rw [← hWL]; exact (Below.refl _ _).alloc (Nat.le_refl _) _
  have bP : Boxed WL w.heap.size 24 v := by rw [← hWL]; exact Boxed.new w _ _
  have hP := bP.cell
  have hLL := h.later hb
  have h1 : (49708 : Int) < (n : Int) := by omega
  obtain ⟨p, hp⟩ : ∃ p, (n - 21988) / 27720 = p := ⟨_, rfl⟩
  have hp1 : p * 27720 ≤ n - 21988 := by rw [← hp]; exact Nat.div_mul_le_self _ _
  have hp2 : n - 21988 < p * 27720 + 27720 := by rw [← hp]; exact Nat.lt_div_mul_add (by omega)
  have hp36 : p ≤ 36 := by omega
  obtain ⟨d, hd⟩ : ∃ d, n - 21988 = d := ⟨_, rfl⟩
  have hd1 : (n : Int) - 21988 = (d : Int) := by omega
  have hd2 : Int.tdiv (d : Int) 27720 = (p : Int) := by rw [Int.tdiv_eq_ediv_of_nonneg (by omega), ← hp, hd]; rfl
  obtain ⟨z, hz⟩ : ∃ z, p * 27720 = z := ⟨_, rfl⟩
  have hz1 : (p : Int) * 27720 = (z : Int) := by omega
  obtain ⟨m, hm⟩ : ∃ m, n - z = m := ⟨_, rfl⟩
  have hm1 : (n : Int) - (z : Int) = (m : Int) := by omega
  have hm2 : m ≤ 49708 := by omega
  obtain ⟨A, hA⟩ : ∃ A : Nat, A = 49708 := ⟨_, rfl⟩
  obtain ⟨Z, hZ⟩ : ∃ Z : Nat, Z = 21988 := ⟨_, rfl⟩
  have hper := hitN_pers2 hL.2 kd m n p A Z hA hZ (by omega) (by omega)
  have hle := hitN_le2 L kd A Z (by omega)
  obtain ⟨F, hF⟩ : ∃ F : Int → Int, ∀ i, F i = ((hitN L kd i.toNat : Nat) : Int) := ⟨_, fun _ => rfl⟩
  have HH := Lib.hid (fun (i : Int) (h0 : 0 ≤ i) (h4 : i ≤ 49708) W (hW : RAt W v (toI L)) => (show Calls Tryd.prog 47 #[.agg #[v], .int .i64 (kd : Int), .int .i64 i] W fun e w' => e = .returned (.int .i64 (F i)) ∧ Below W.heap.size W w' by
    have := hits_is L hL kd i.toNat (by omega) v W hW
    rw [Int.toNat_of_nonneg h0] at this
    rw [hF]; exact this))
  have hFm := hF (m : Int)
  have hFA := hF (A : Int)
  have hFZ := hF (Z : Int)
  rw [Int.toNat_natCast] at hFm hFA hFZ
  have hlA := hitN_le L kd A hL.2
  have hlM := hitN_le L kd m hL.2
  obtain ⟨a, ha⟩ : ∃ a, hitN L kd A = a := ⟨_, rfl⟩
  obtain ⟨b, hbb⟩ : ∃ b, hitN L kd Z = b := ⟨_, rfl⟩
  obtain ⟨t, ht⟩ : ∃ t, hitN L kd m = t := ⟨_, rfl⟩
  obtain ⟨R, hR⟩ : ∃ R, hitN L kd n = R := ⟨_, rfl⟩
  rw [ha, show (A : Int) = 49708 by omega] at hFA
  rw [ha] at hper hle hlA
  rw [hbb, show (Z : Int) = 21988 by omega] at hFZ
  rw [hbb] at hper hle
  rw [ht] at hFm hper hlM
  rw [hR] at hper ⊢
  obtain ⟨c, hc⟩ : ∃ c, a - b = c := ⟨_, rfl⟩
  have hc1 : (a : Int) - (b : Int) = (c : Int) := by omega
  obtain ⟨y, hy⟩ : ∃ y, p * c = y := ⟨_, rfl⟩
  have hy1 : (p : Int) * (c : Int) = (y : Int) := by rw [← hy]; simp
  have hy2 : y ≤ 2000000 := by rw [← hy]; exact Nat.le_trans (Nat.mul_le_mul hp36 (show c ≤ 49708 by omega)) (by omega)
  have hyR : t + y = R := by
    have e1 : p * a = p * b + p * c := by rw [← Nat.mul_add]; congr 1; omega
    omega
  have hy3 : (t : Int) + (y : Int) = (R : Int) := by omega
  have hRb : R ≤ 3000000 := by omega
  have hcb : c ≤ 50000 := by omega
  have x0 := fun x : Beh WL => Beh.cell hP x
  clear hp hd hz hm ha hbb ht hR hc hy hper hp1 hp2 hyR hL hA hZ hF
  go_enter Tryd.func47, Tryd.ntmps47
  go_wp2_with fail
  try rw [hWL]
  clear hWL
  refine region_beh (by kernel_rfl) (by kernel_rfl) ?_
  repeat (go_big_quiet_step ((go_at_call 47; rename_i x; refine (HH.out _ (by omega) (by omega) _ (hLL.later x.h)).mono ?_; rintro e w9 ⟨rfl, B9⟩; exact ⟨rfl, ⟨_, x.h.trans (B9.mono x.h.size)⟩, rfl⟩)))
  refine wpQuiet_nil ?_
  intro _ hw'
  obtain ⟨x, rfl⟩ := hw'
  have hw1 : wrap64 (c : Int) = (c : Int) := by unfold wrap64; omega
  have hw2 : wrap64 (y : Int) = (y : Int) := by unfold wrap64; omega
  have hw3 : wrap64 (R : Int) = (R : Int) := by unfold wrap64; omega
  go_wp2
  go_ret
  exact ⟨rfl, hb.trans (x.h.mono hb.size)⟩
theorem hits_all (L : List Ru) (hL : OkL L) (kd n : Nat) (hn2 : n ≤ 1000000) (v : Value) (w : World) (h : RAt w v (toI L)) :
    Calls Tryd.prog 47 #[.agg #[v], .int .i64 (kd : Int), .int .i64 (n : Int)] w fun e w' => e = .returned (.int .i64 (hitN L kd n : Nat)) ∧ Below w.heap.size w w' := by
  by_cases hn : n ≤ 49708
  · exact hits_is L hL kd n hn v w h
  · exact hits_far L hL kd n (by omega) hn2 v w h
set_option maxRecDepth 100000 in
set_option maxHeartbeats 1000000 in
theorem Hits_all (L : List Ru) (hL : OkL L) (kd n : Nat) (hk : kd < 7) (h2 : n ≤ 1000000) (v : Value) (w : World) (h : RAt w v (toI L)) :
    Calls Tryd.prog 18 #[.agg #[v], .int .i64 (kd : Int), .int .i64 (n : Int)] w fun e w' => e = .returned (.tuple #[.int .i64 (hitN L kd n : Nat), .int .i64 0]) ∧ Below w.heap.size w w' := by
  have hb : Below w.heap.size w (w.alloc (.cells #[v] 24)) := (Below.refl _ _).alloc (Nat.le_refl _) _
  have hbx := Boxed.new w 24 v
  have HC := Lib.hid (checkCall_is v (toI L) kd n 0 0 (callE_of hL kd hk n 0 (by omega) (by omega)) _ (h.later hb))
  have HL := Lib.hid hL
  go_enter Tryd.func18, Tryd.ntmps18
  go_wp2_with fail
  refine HC.out.mono ?_
  rintro e w1 ⟨rfl, B1⟩
  have hp1 := (hbx.kept (grown_of_below B1) (by simp)).cell
  go_wp2_with fail
  refine (hits_all L HL.out kd n h2 v _ ((h.later hb).later B1)).mono ?_
  rintro e w2 ⟨rfl, B2⟩
  go_wp2
  go_ret2
  exact ⟨rfl, hb.trans ((B1.trans (B2.mono B1.size)).mono (by simp))⟩
end Go.Proofs.YtldebakeebajkaaDoor
