/- First. -/
import Derived.Test.YtgljfiihaehedaaFit1
namespace Go.Proofs.Ytgljfiihaehedaa
open Go.RowKit
attribute [local go_sem] Oper.semAt_some

set_option maxRecDepth 100000 in
set_option maxHeartbeats 1000000 in
theorem First_ok (L : List Sp) (hL : SetL 0 L) (m al : Nat) (hm1 : 1 ≤ m) (hm2 : m ≤ 1024) (hal : alB (al : Int) = true) (x : Sp) (F : List Sp) (hF : L.filter (fits m al) = x :: F) (v : Value) (w : World) (h : SAt w v (toI L)) :
    Calls Try.prog 32 #[v, .int .i64 m, .int .i64 al] w fun e w' => e = .returned (.tuple #[.int .i64 (algn x.1 al : Nat), .int .i64 0]) ∧ Below w.heap.size w w' := by
  have hfit := Lib.hid (fun w h => fitting_ok L hL m al hm1 hm2 hal (x :: F) hF 0 (if_neg (by simp)) v w h)
  have hx : x ∈ L := by have h1 : x ∈ L.filter (fits m al) := by rw [hF]; simp
                        exact (List.mem_filter.1 h1).1
  have vx := hL.val x hx
  obtain ⟨al', hq, ha1, ha2⟩ := alB_nat hal
  have hqq : al' = al := by omega
  subst hqq
  obtain ⟨g, hg⟩ : ∃ g, algn x.1 al' = g := ⟨_, rfl⟩
  obtain ⟨p, q⟩ := x
  simp only at vx hg ⊢
  have HAL : Hid (∀ w, Calls Try.prog 64 #[.int .i64 (p : Int), .int .i64 (al' : Int)] w fun e w' => e = .returned (.int .i64 (g : Nat)) ∧ Below w.heap.size w w') := fun w => by have := aligned_is p al' (by omega) ha1 ha2 w; rw [hg] at this; exact this
  rw [hg]
  obtain ⟨va, vc, rfl⟩ := h.form
  clear hF hx hq hg
  go_enter Try.func32, Try.ntmps32
  go_wp2_with fail
  refine (hfit.out _ h).mono ?_
  rintro e w1 ⟨u, rfl, hu, B1⟩
  obtain ⟨b, off, cap, rfl, h1, h2, hc⟩ : ∃ b off cap, u = .slice (some ⟨b, off, none⟩) (toI ((p, q) :: F)).length cap ∧ (toI ((p, q) :: F)).length ≤ cap ∧ cap ≤ maxLen ∧ ∀ (j : Nat) (x : SpI), (toI ((p, q) :: F))[j]? = some x → w1.cell? ⟨b, off + j * 2, none⟩ = some (.int .i64 x.1) ∧ w1.cell? ⟨b, off + j * 2 + 1, none⟩ = some (.int .i64 x.2) := by
    rcases hu with ⟨_, h0⟩ | h0
    · simp [toI] at h0
    · exact h0
  have hc0 := hc 0 _ (toI_some (show ((p, q) :: F)[0]? = some (p, q) from rfl))
  obtain ⟨n, hn⟩ : ∃ n, (toI ((p, q) :: F)).length = n + 1 := ⟨F.length, by rw [toI_len]; rfl⟩
  rw [hn]
  rw [hn] at h1
  have k1 := hc0.1
  rw [Nat.zero_mul, Nat.add_zero] at k1
  simp only at k1
  have hi : (0 : Int) < (n : Int) + 1 := by omega
  clear hc hc0 hn hu
  go_wp2_with fail
  refine (HAL.out _).mono ?_
  rintro e w2 ⟨rfl, B2⟩
  go_wp2
  go_ret2
  exact ⟨rfl, B1.trans (B2.mono B1.size)⟩

/-- What fitting answers where it finds none. -/
def fitE (l : List SpI) (m a : Int) : Int := if chkS l ≠ 0 then chkS l else if (decide (m < 1) || decide (1024 < m) || !alB a) = true then 2 else 0

set_option maxRecDepth 100000 in
set_option maxHeartbeats 1000000 in
theorem fitting_bad (l : List SpI) (fl : Fit l) (m a : Int) (ha : I64 a) (c : Int) (hc : fitE l m a = c) (h0 : c ≠ 0) (v : Value) (w : World) (h : SAt w v l) :
    Calls Try.prog 63 #[v, .int .i64 m, .int .i64 a] w fun e w' => e = .returned (.tuple #[.slice none 0 0, .int .i64 c]) ∧ Below w.heap.size w w' := by
  have h64 := len64 h
  obtain ⟨r, hr⟩ : ∃ r, chkS l = r := ⟨_, rfl⟩
  have HR := Lib.hid hr
  unfold fitE at hc
  rw [hr] at hc
  by_cases hr0 : r = 0
  · subst hr0
    rw [if_neg (by simp)] at hc
    have hb : (decide (m < 1) || decide (1024 < m) || !alB a) = true := by
      by_cases hb : (decide (m < 1) || decide (1024 < m) || !alB a) = true
      · exact hb
      · rw [if_neg hb] at hc; exact absurd hc.symm h0
    rw [if_pos hb] at hc
    subst hc
    obtain ⟨x, hx⟩ : ∃ x, alB a = x := ⟨_, rfl⟩
    have HX := Lib.hid hx
    rw [hx] at hb
    have HVA : Hid (∀ w, Calls Try.prog 79 #[.int .i64 a] w fun e w' => e = .returned (.bool x) ∧ Below w.heap.size w w') := fun w => validAlign_is a ha x HX.out w
    clear hr hx h0
    by_cases c1 : m < 1
    · have d1 : decide (m < 1) = true := by simpa using c1
      clear hb
      go_enter Try.func63, Try.ntmps63
      go_wp2_with fail
      refine (Check_is v l fl h64 0 HR.out _ h).mono ?_
      rintro e w1 ⟨rfl, B1⟩
      go_wp2
      go_ret2
      exact ⟨rfl, B1⟩
    · have d1 : decide (m < 1) = false := by simpa using c1
      by_cases c2 : 1024 < m
      · have d2 : decide (1024 < m) = true := by simpa using c2
        clear hb
        go_enter Try.func63, Try.ntmps63
        go_wp2_with fail
        refine (Check_is v l fl h64 0 HR.out _ h).mono ?_
        rintro e w1 ⟨rfl, B1⟩
        go_wp2
        go_ret2
        exact ⟨rfl, B1⟩
      · have d2 : decide (1024 < m) = false := by simpa using c2
        rw [d1, d2] at hb
        have hxf : x = false := by simpa using hb
        subst hxf
        clear hb
        go_enter Try.func63, Try.ntmps63
        go_wp2_with fail
        refine (Check_is v l fl h64 0 HR.out _ h).mono ?_
        rintro e w1 ⟨rfl, B1⟩
        go_wp2_with fail
        refine (HVA.out _).mono ?_
        rintro e w2 ⟨rfl, B2⟩
        go_wp2
        go_ret2
        exact ⟨rfl, B1.trans (B2.mono B1.size)⟩
  · rw [if_pos hr0] at hc
    subst hc
    have hq : (r != 0) = true := by simp [hr0]
    clear hr hr0 h0
    go_enter Try.func63, Try.ntmps63
    go_wp2_with fail
    refine (Check_is v l fl h64 r HR.out _ h).mono ?_
    rintro e w1 ⟨rfl, B1⟩
    go_wp2
    go_ret2
    exact ⟨rfl, B1⟩

set_option maxRecDepth 100000 in
set_option maxHeartbeats 1000000 in
theorem First_bad (l : List SpI) (fl : Fit l) (m a : Int) (ha : I64 a) (c : Int) (hc : fitE l m a = c) (h0 : c ≠ 0) (v : Value) (w : World) (h : SAt w v l) :
    Calls Try.prog 32 #[v, .int .i64 m, .int .i64 a] w fun e w' => e = .returned (.tuple #[.int .i64 0, .int .i64 c]) ∧ Below w.heap.size w w' := by
  have HC := Lib.hid (fun w h => fitting_bad l fl m a ha c hc h0 v w h)
  have hq : (c != 0) = true := by simp [h0]
  clear hc h0
  go_enter Try.func32, Try.ntmps32
  go_wp2_with fail
  refine (HC.out _ h).mono ?_
  rintro e w1 ⟨rfl, B1⟩
  go_wp2
  go_ret2
  exact ⟨rfl, B1⟩

set_option maxRecDepth 100000 in
set_option maxHeartbeats 1000000 in
theorem First_none (L : List Sp) (hL : SetL 0 L) (m al : Nat) (hm1 : 1 ≤ m) (hm2 : m ≤ 1024) (hal : alB (al : Int) = true) (hF : L.filter (fits m al) = []) (v : Value) (w : World) (h : SAt w v (toI L)) :
    Calls Try.prog 32 #[v, .int .i64 m, .int .i64 al] w fun e w' => e = .returned (.tuple #[.int .i64 0, .int .i64 4]) ∧ Below w.heap.size w w' := by
  have hfit := Lib.hid (fun w h => fitting_ok L hL m al hm1 hm2 hal [] hF 4 (if_pos rfl) v w h)
  clear hF
  go_enter Try.func32, Try.ntmps32
  go_wp2_with fail
  refine (hfit.out _ h).mono ?_
  rintro e w1 ⟨u, rfl, hu, B1⟩
  obtain ⟨ua, uc, rfl⟩ := hu.form
  clear hu
  go_wp2
  go_ret2
  exact ⟨rfl, B1⟩
end Go.Proofs.Ytgljfiihaehedaa
