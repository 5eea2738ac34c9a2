/- Check, checkWith, checkBoth. -/
import Derived.Test.YtgljfiihaehedaaCheck
import Derived.Deep.RegionHeld3
namespace Go.Proofs.Ytgljfiihaehedaa
open Go.RowKit

theorem sepL_cut : ∀ (l : List SpI) (k : Nat) (x y : SpI), l[k]? = some x → l[k + 1]? = some y → ¬ (x.1 + x.2 < y.1) → sepL l = false
  | x :: y :: r, 0, x', y', h1, h2, h => by
    simp at h1 h2
    subst h1; subst h2
    show (decide _ && _) = false
    simp [h]
  | x :: y :: r, k + 1, x', y', h1, h2, h => by
    have ih := sepL_cut (y :: r) k x' y' (by simpa using h1) (by simpa using h2) h
    show (decide _ && sepL (y :: r)) = false
    rw [ih, Bool.and_false]
  | [x], k, x', y', h1, h2, h => by simp at h2
  | [], k, x', y', h1, h2, h => by simp at h2
theorem sepL_all : ∀ (l : List SpI), (∀ k x y, l[k]? = some x → l[k + 1]? = some y → x.1 + x.2 < y.1) → sepL l = true
  | [], _ => rfl
  | [_], _ => rfl
  | x :: y :: r, h => by
    show (decide _ && sepL (y :: r)) = true
    rw [sepL_all (y :: r) (fun k x' y' h1 h2 => h (k + 1) x' y' (by simpa using h1) (by simpa using h2)), decide_eq_true (h 0 x y rfl rfl)]; rfl
theorem fit_nat (L : List Sp) (h : ValL L) : Fit (toI L) := fun x hx => by
  unfold toI at hx
  obtain ⟨y, hy, rfl⟩ := List.mem_map.1 hx
  have := h y hy
  unfold I64
  constructor <;> constructor <;> simp <;> omega
theorem toI_some {L : List Sp} {k : Nat} {x : Sp} (h : L[k]? = some x) : (toI L)[k]? = some ((x.1 : Int), (x.2 : Int)) := by unfold toI; rw [List.getElem?_map, h]; rfl

set_option maxRecDepth 100000 in
set_option maxHeartbeats 1000000 in
theorem Check_is (v : Value) (l : List SpI) (hf : Fit l) (hl64 : l.length ≤ 9223372036854775807) (c : Int) (hc : chkS l = c) (w : World) (h : SAt w v l) :
    Calls Try.prog 15 #[v] w fun e w' => e = .returned (.int .i64 c) ∧ Below w.heap.size w w' := by
  obtain ⟨r, hr⟩ : ∃ r, chkL l 512 = r := ⟨_, rfl⟩
  have HR := Lib.hid hr
  by_cases h0 : r = 0
  case neg =>
    have hq : (r != 0) = true := by simp [h0]
    have hc2 : r = c := by rw [← hc]; unfold chkS; rw [hr, if_pos h0]
    subst hc2
    clear hc hr h0
    go_enter Try.func15, Try.ntmps15
    go_wp2_with fail
    refine (checkList_is v l hf 512 r HR.out hl64 _ h).mono ?_
    rintro e w1 ⟨rfl, B1⟩
    go_wp2
    go_ret
    exact ⟨rfl, B1⟩
  subst h0
  have hc2 : c = if sepL l = true then 0 else 6 := by rw [← hc]; unfold chkS; rw [hr]; rfl
  obtain ⟨L, rfl, hL⟩ : ∃ L : List Sp, l = toI L ∧ ValL L := by
    unfold chkL at hr
    split at hr
    · cases hr
    · split at hr
      · rename_i h2; exact allV_nat h2
      · cases hr
  have hlen : L.length ≤ 512 := by
    unfold chkL at hr
    split at hr
    · cases hr
    · rename_i h2; rw [toI_len] at h2; omega
  have HC := Lib.hid hc2
  obtain ⟨n, hn⟩ : ∃ n, L.length = n := ⟨_, rfl⟩
  have HN := Lib.hid hn
  obtain ⟨a, cap, rfl⟩ := h.form
  rw [toI_len, hn] at h ⊢
  rw [hn] at hlen
  clear hc hc2 hr hl64 hn
  go_enter Try.func15, Try.ntmps15
  go_wp2_with fail
  refine (checkList_is _ (toI L) hf 512 0 HR.out (by rw [toI_len, HN.out]; omega) _ h).mono ?_
  rintro e w1 ⟨rfl, B1⟩
  have h1 := h.later B1
  go_wp2_with fail
  go_loopw [4] (fun i wr => ∃ k : Nat, (k = 0 ∨ k < n) ∧ i = .int .i64 ((k : Int) + 1) ∧ Hid (∀ j x y, j < k → (toI L)[j]? = some x → (toI L)[j + 1]? = some y → x.1 + x.2 < y.1) ∧ Below w1.heap.size w1 wr) (fun i _ => n + 1 - (intOf i).toNat)
  case atStart => exact ⟨0, .inl rfl, rfl, (fun j x y h1 => by omega), Below.refl _ _⟩
  case round =>
    obtain ⟨k, hk, rfl, HV, hB⟩ := hrel
    by_cases hlt : k + 1 < n
    · have hkL : k + 1 < L.length := by rw [HN.out]; exact hlt
      obtain ⟨⟨p, q⟩, hx⟩ : ∃ x, L[k]? = some x := ⟨_, List.getElem?_eq_getElem (by omega)⟩
      obtain ⟨⟨p2, q2⟩, hy⟩ : ∃ x, L[k + 1]? = some x := ⟨_, List.getElem?_eq_getElem hkL⟩
      have vx := hL _ (List.mem_of_getElem? hx)
      have vy := hL _ (List.mem_of_getElem? hy)
      have ix := toI_some hx
      have iy := toI_some hy
      simp only at vx vy ix iy
      obtain ⟨b, off, rfl, hb, k1, k2⟩ := h1.at k _ ix
      obtain ⟨b', off', hab, _, k3, k4⟩ := h1.at (k + 1) _ iy
      cases hab
      replace k1 := cell_later hB k1
      replace k2 := cell_later hB k2
      replace k3 := cell_later hB k3
      replace k4 := cell_later hB k4
      simp only at k1 k2 k3 k4
      have hi1 : (k : Int) + 1 < (n : Int) := by omega
      have hi0 : (0 : Int) ≤ (k : Int) + 1 := by omega
      have hi2 : (k : Int) < (n : Int) := by omega
      have ht : ((k : Int) + 1).toNat = k + 1 := by omega
      have hw1 : IntKind.i64.wrap ((k : Int) + 1 - 1) = (k : Int) := IntWalk.i64_in _ (by omega) |>.trans (by omega)
      have hwk : IntKind.i64.wrap (k : Int) = (k : Int) := IntWalk.i64_in _ (by omega)
      have vx1 : (p : Int) + (q : Int) ≤ 1024 := by omega
      have IX := Lib.hid ix
      have IY := Lib.hid iy
      have hbw : b < wr.heap.size := Nat.lt_of_lt_of_le hb hB.size
      have HE : Hid (∀ w, Calls Try.prog 52 #[.agg #[.int .i64 (p : Int), .int .i64 (q : Int)]] w fun e w' => e = .returned (.int .i64 ((p : Int) + (q : Int))) ∧ Below w.heap.size w w') := fun w => end_is ((p : Int), (q : Int)) p q rfl vx.2 w
      clear hx hy ix iy
      by_cases hlt2 : p + q < p2
      · have hl2 : ¬ ((p2 : Int) ≤ (p : Int) + (q : Int)) := by omega
        have hd2 : decide ((p2 : Int) ≤ (p : Int) + (q : Int)) = false := by simpa using hl2
        go_wp2_with fail
        first | go_region_held3 (fun w' => w'.cell? ⟨b, off + k * 2, none⟩ = some (.int .i64 (p : Int)) ∧ w'.cell? ⟨b, off + k * 2 + 1, none⟩ = some (.int .i64 (q : Int)) ∧ w'.cell? ⟨b, off + (k + 1) * 2, none⟩ = some (.int .i64 (p2 : Int))) (first | go_keep | exact ⟨y1, y2, y3⟩) (first | (go_at_call 52; ((with_reducible refine (HE.out _).mono ?_); rintro e w2 ⟨rfl, hB2'⟩; have hB2 : Below wr.heap.size wr w2 := ⟨hB2'.os, hB2'.tape, hB2'.output, hB2'.size, hB2'.block⟩; have y1 := cell_later hB2 k1; have y2 := cell_later hB2 k2; have y3 := cell_later hB2 k3))) | fail
        have HL2 := Lib.hid hlt2
        clear hlt2
        all_goals
          go_wp2
          go_roundw
          case rel =>
            refine ⟨k + 1, .inr (by omega), by go_num, fun j x y hj e1 e2 => ?_, hB.trans (hB2.mono hB.size)⟩
            by_cases hjk : j < k
            · exact HV.out j x y hjk e1 e2
            · obtain rfl : j = k := by omega
              rw [IX.out] at e1
              rw [IY.out] at e2
              cases e1; cases e2
              have := HL2.out
              show (p : Int) + (q : Int) < (p2 : Int)
              omega
          case measure => simp [intOf]; omega
      · have hl2 : (p2 : Int) ≤ (p : Int) + (q : Int) := by omega
        have hd2 : decide ((p2 : Int) ≤ (p : Int) + (q : Int)) = true := by simpa using hl2
        go_wp2_with fail
        first | go_region_held3 (fun w' => w'.cell? ⟨b, off + k * 2, none⟩ = some (.int .i64 (p : Int)) ∧ w'.cell? ⟨b, off + k * 2 + 1, none⟩ = some (.int .i64 (q : Int)) ∧ w'.cell? ⟨b, off + (k + 1) * 2, none⟩ = some (.int .i64 (p2 : Int))) (first | go_keep | exact ⟨y1, y2, y3⟩) (first | (go_at_call 52; ((with_reducible refine (HE.out _).mono ?_); rintro e w2 ⟨rfl, hB2'⟩; have hB2 : Below wr.heap.size wr w2 := ⟨hB2'.os, hB2'.tape, hB2'.output, hB2'.size, hB2'.block⟩; have y1 := cell_later hB2 k1; have y2 := cell_later hB2 k2; have y3 := cell_later hB2 k3))) | fail
        have hc6 : c = 6 := by
          rw [HC.out, sepL_cut (toI L) k _ _ IX.out IY.out (by simp only; omega)]; rfl
        subst hc6
        clear hlt2
        all_goals
          go_wp2
          go_ret
          exact ⟨rfl, B1.trans ((hB.trans (hB2.mono hB.size)).mono B1.size)⟩
    · have hi1 : ¬ ((k : Int) + 1 < (n : Int)) := by omega
      have hc0 : c = 0 := by
        rw [HC.out, sepL_all (toI L) (fun j x y e1 e2 => HV.out j x y ?_ e1 e2)]
        · rfl
        · have := (List.getElem?_eq_some_iff.1 e2).1
          rw [toI_len, HN.out] at this
          omega
      subst hc0
      go_wp2
      go_ret
      exact ⟨rfl, B1.trans (hB.mono B1.size)⟩
end Go.Proofs.Ytgljfiihaehedaa
