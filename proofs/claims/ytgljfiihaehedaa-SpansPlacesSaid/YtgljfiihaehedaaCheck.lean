/- Check, checkList, checkWith, checkBoth. -/
import Derived.Test.YtgljfiihaehedaaBase
namespace Go.Proofs.Ytgljfiihaehedaa
open Go.RowKit

def allV (l : List SpI) : Bool := l.all vld
/-- What checkList answers. -/
def chkL (l : List SpI) (most : Int) : Int := if most < (l.length : Int) then 3 else if allV l = true then 0 else 7
/-- Do all spans but the first begin behind the page that follows the one before? -/
def sepL : List SpI → Bool
  | [] => true
  | [_] => true
  | x :: y :: r => decide (x.1 + x.2 < y.1) && sepL (y :: r)
/-- What Check answers. -/
def chkS (l : List SpI) : Int := if chkL l 512 ≠ 0 then chkL l 512 else if sepL l = true then 0 else 6
theorem allV_nat : ∀ {l : List SpI}, allV l = true → ∃ L : List Sp, l = toI L ∧ ValL L
  | [], _ => ⟨[], rfl, fun x hx => by cases hx⟩
  | x :: l, h => by
    unfold allV at h
    rw [List.all_cons, Bool.and_eq_true] at h
    obtain ⟨a, b, rfl, h1, h2⟩ := vld_nat h.1
    obtain ⟨L, rfl, hL⟩ := allV_nat (l := l) h.2
    refine ⟨(a, b) :: L, rfl, fun y hy => ?_⟩
    rcases List.mem_cons.1 hy with rfl | hy
    · exact ⟨h1, h2⟩
    · exact hL y hy
theorem vld_of {a b : Nat} (h1 : 1 ≤ b) (h2 : a + b ≤ 1024) : vld ((a : Int), (b : Int)) = true := by unfold vld; simp; omega
theorem allV_of : ∀ {L : List Sp}, ValL L → allV (toI L) = true
  | [], _ => rfl
  | x :: L, h => by
    have h1 := h x (by simp)
    show (vld _ && allV (toI L)) = true
    rw [vld_of h1.1 h1.2, allV_of (fun y hy => h y (by simp [hy]))]; rfl
theorem sep_set : ∀ {L : List Sp}, ValL L → (sepL (toI L) = true ↔ SetL 0 L)
  | [], _ => ⟨fun _ => trivial, fun _ => rfl⟩
  | [x], h => ⟨fun _ => ⟨Nat.zero_le _, (h x (by simp)).1, (h x (by simp)).2, trivial⟩, fun _ => rfl⟩
  | x :: y :: L, h => by
    have ih := sep_set (L := y :: L) (fun z hz => h z (by simp [List.mem_cons.1 hz]))
    have hx := h x (by simp)
    show (decide ((x.1 : Int) + (x.2 : Int) < (y.1 : Int)) && sepL (toI (y :: L))) = true ↔ _
    rw [Bool.and_eq_true, ih, decide_eq_true_eq]
    constructor
    · rintro ⟨h1, h2⟩
      exact ⟨Nat.zero_le _, hx.1, hx.2, by omega, h2.2⟩
    · rintro ⟨_, _, _, h4, h5⟩
      exact ⟨by omega, Nat.zero_le _, h5⟩
theorem chkS_ok {l : List SpI} (h : chkS l = 0) : ∃ L, l = toI L ∧ SetL 0 L := by
  unfold chkS chkL at h
  by_cases h1 : (512 : Int) < (l.length : Int)
  · simp [h1] at h
  · by_cases h2 : allV l = true
    · obtain ⟨L, rfl, hL⟩ := allV_nat h2
      by_cases h3 : sepL (toI L) = true
      · exact ⟨L, rfl, (sep_set hL).1 h3⟩
      · simp [h1, h2, h3] at h
    · simp [h1, h2] at h
theorem chkS_set {L : List Sp} (h : SetL 0 L) : chkS (toI L) = 0 := by
  have hl := h.len (by omega)
  unfold chkS chkL
  rw [if_neg (show ¬ (512 : Int) < ((toI L).length : Int) by rw [toI_len]; omega), if_pos (allV_of h.val), if_pos ((sep_set h.val).2 h)]
  simp
theorem allV_take (l : List SpI) (k : Nat) (x : SpI) (hx : l[k]? = some x) (h : allV (l.take k) = true) : allV (l.take (k + 1)) = vld x := by
  rw [List.take_add_one, hx]; unfold allV at h ⊢; rw [List.all_append, h]; simp
theorem allV_cut (l : List SpI) (k : Nat) (x : SpI) (hx : l[k]? = some x) (h : vld x = false) : allV l = false := by
  unfold allV; rw [List.all_eq_false]; exact ⟨x, List.mem_of_getElem? hx, by simp [h]⟩

set_option maxRecDepth 100000 in
set_option maxHeartbeats 1000000 in
theorem checkList_is (v : Value) (l : List SpI) (hf : Fit l) (m : Int) (c : Int) (hc : chkL l m = c) (hl64 : l.length ≤ 9223372036854775807) (w : World) (h : SAt w v l) :
    Calls Try.prog 47 #[v, .int .i64 m] w fun e w' => e = .returned (.int .i64 c) ∧ Below w.heap.size w w' := by
  obtain ⟨a, cap, rfl⟩ := h.form
  unfold chkL at hc
  by_cases h1 : m < (l.length : Int)
  · rw [if_pos h1] at hc
    subst hc
    go_enter Try.func47, Try.ntmps47
    go_wp2
    go_ret
    exact ⟨rfl, Below.refl _ _⟩
  · rw [if_neg h1] at hc
    have HC := Lib.hid hc
    clear hc
    obtain ⟨n, hn⟩ : ∃ n, l.length = n := ⟨_, rfl⟩
    have HN := Lib.hid hn
    rw [hn] at h h1 hl64
    rw [hn]
    clear hn
    go_enter Try.func47, Try.ntmps47
    go_wp2_with fail
    have hN2 := h
    go_loopw [13] (fun i wr => ∃ k : Nat, k ≤ n ∧ i = .int .i64 k ∧ Hid (allV (l.take k) = true) ∧ Below w.heap.size w wr) (fun i _ => n - (intOf i).toNat)
    case atStart => exact ⟨0, Nat.zero_le _, rfl, rfl, Below.refl _ _⟩
    case round =>
      obtain ⟨k, hk, rfl, HV, hB⟩ := hrel
      by_cases hlt : k < n
      · obtain ⟨⟨p, q⟩, hx⟩ : ∃ x, l[k]? = some x := ⟨_, List.getElem?_eq_getElem (by rw [HN.out]; exact hlt)⟩
        obtain ⟨b, off, rfl, _, k1, k2⟩ := h.at k _ hx
        replace k1 := cell_later hB k1
        replace k2 := cell_later hB k2
        have hfx := hf _ (List.mem_of_getElem? hx)
        have hi1 : (k : Int) < (n : Int) := by omega
        obtain ⟨r, hr⟩ : ∃ r, vld (p, q) = r := ⟨_, rfl⟩
        have HR := Lib.hid hr
        have HX := Lib.hid hx
        have hsz := hB.size
        clear hr hx
        cases r
        · go_wp2_with fail
          refine (valid_is p q hfx.1 false HR.out _).mono ?_
          rintro e w1 ⟨rfl, hB1⟩
          go_wp2
          go_ret
          exact ⟨ret_int (by rw [← HC.out, allV_cut l k _ HX.out HR.out]; rfl), (hB.alloc hB.size _).trans (hB1.mono (by simp; omega))⟩
        · go_wp2_with fail
          refine (valid_is p q hfx.1 true HR.out _).mono ?_
          rintro e w1 ⟨rfl, hB1⟩
          go_wp2
          go_roundw
          case rel => exact ⟨k + 1, by omega, by go_num, by unfold Hid; rw [allV_take l k _ HX.out HV.out]; exact HR.out, (hB.alloc hB.size _).trans (hB1.mono (by simp; omega))⟩
          case measure => simp [intOf]; omega
      · have hi1 : ¬ ((k : Int) < (n : Int)) := by omega
        have hkn : k = n := by omega
        have hc0 : c = 0 := by
          have h1 := HV.out
          rw [hkn, ← HN.out, List.take_length] at h1
          rw [← HC.out, if_pos h1]
        subst hc0
        clear hkn
        go_wp2
        go_ret
        exact ⟨rfl, hB⟩
end Go.Proofs.Ytgljfiihaehedaa
