/- Systems after some calls: both of New; the list's calls. -/
import Derived.Test.YtnmeeddhagmjdaaVmAf
namespace Go.Proofs.Ytnmeeddhagmjdaa
open Go.RowKit Go.Shelf
attribute [local go_sem] Oper.semAt_some

set_option maxRecDepth 100000 in
set_option maxHeartbeats 2000000 in
theorem New_ok2 (v : Value) (L : List Ru) (hL : OkL L) (w : World) (h : RAt w v (toI L)) :
    Calls Try.prog 13 #[.agg #[v]] w fun e w' => ∃ S P, e = .returned (.tuple #[.pointer (some ⟨S, 0, none⟩), .int .i64 0]) ∧ w.heap.size ≤ S ∧ w.heap.size ≤ P ∧ (∃ u, SysV w' S P (fun _ => False) freeF L (fun _ => 0) u ∧ ∀ b, u.ownBlock = some b → b < w'.heap.size) ∧ Below w.heap.size w w' := by
  obtain ⟨W1, hW1⟩ : ∃ x, w.alloc (.cells #[v] 24) = x := ⟨_, rfl⟩
  have hb1 : Below w.heap.size w W1 := by rw [← hW1]; exact (Below.refl _ _).alloc (Nat.le_refl _) _
  have bP : Boxed W1 w.heap.size 24 v := by rw [← hW1]; exact Boxed.new w _ _
  have HS := Lib.hid (Start_ok v L hL W1 (h.later hb1))
  have q1 := bP.cell
  go_enter Try.func13, Try.ntmps13
  go_wp2_with fail
  try rw [hW1]
  refine HS.out.mono ?_
  rintro e w1 ⟨u, rfl, hru, hfr, B1⟩
  obtain ⟨W2, hW2⟩ : ∃ x, w1.alloc (.cells #[.slice none 0 0, .int .i64 0, .int .i64 0, .int .i64 0, .int .i64 0, .int .i64 0, .int .i64 0, .int .i64 0, .int .i64 0, .int .i64 0, .int .i64 0, .int .i64 0, .int .i64 0, .int .i64 0, .int .i64 0] 45) = x := ⟨_, rfl⟩
  have hB1 := hb1.trans (B1.mono hb1.size)
  have hb2 : Below w1.heap.size w1 W2 := by rw [← hW2]; exact (Below.refl _ _).alloc (Nat.le_refl _) _
  have sN : SBox W2 w1.heap.size (.slice none 0 0) zer zer := by rw [← hW2]; exact SBox.new w1 (.slice none 0 0) zer zer
  have hB2 := hB1.trans (hb2.mono hB1.size)
  have hu1 := hru.one
  have hr2 := hru.later hb2
  have sM := sN.row u zer zer
  have hlt1 := sN.lt
  clear hW1
  go_wp2_with (first | rw [hW2] | refine wpList_store_row rfl 45 _ _ rfl w1.heap.size (stA u zer zer) rfl rfl 45 _ sN (st_i _ _ _) rfl (stA_one _ hu1 _ _) ?_ | refine wpList_load_row rfl 45 _ rfl w1.heap.size rfl 45 _ (0, 0) _ sM Try.underlying45 rfl (st_i _ _ _) ?_)
  refine (unused_is u zer zer _).mono ?_
  rintro e w3 ⟨rfl, g1, g2, B3⟩
  go_wp2_with fail
  go_ret2
  simp only [setRow_size] at g1 g2 B3 ⊢
  have hB3 : Below w.heap.size w w3 := (below_row hB2 _ hB1.size _).trans (B3.mono hB2.size)
  have hsz := hb2.size
  have hsz2 := hB2.size
  have hru3 : RAt w3 u (toI L) := (hr2.row (b := w1.heap.size) _ (fun e => by have := hfr _ e; omega)).later (by rw [setRow_size]; exact B3)
  refine ⟨_, _, rfl, by omega, by omega, ⟨u, ⟨by rw [ci0, hf0 L hL]; exact g1, g2, hru3, by omega, fun b hb => ?_, fun b hb => hb.elim⟩, fun b hb => ?_⟩, hB3⟩
  · have := hfr b hb
    exact ⟨by omega, by omega, fun hx => hx⟩
  · have h8 := hfr b hb
    have h9 := B3.size
    rw [setRow_size] at h9
    omega

theorem SysV.addR {W : World} {S P R : Nat} {f : Pages} {L : List Ru} {m : Nat → Nat} {u : Value} (s : SysV W S P (fun _ => False) f L m u) (hu : ∀ b, u.ownBlock = some b → b < R) (hS : S < R) (hP : P < R) (hR : R < W.heap.size) : SysV W S P (· = R) f L m u :=
  ⟨s.box, s.pg, s.ru, s.ne, fun b hb => ⟨(s.own b hb).1, (s.own b hb).2.1, fun (e : b = R) => by have := hu b hb; omega⟩, fun b (hb : b = R) => ⟨by omega, by omega, by omega⟩⟩
/-- Behind both New of a plan: both systems. -/
theorem both_new {W : World} {B0 S P R : Nat} {L : List Ru} {u v : Value} (hL : OkL L) (s : SysV W S P (fun _ => False) freeF L (fun _ => 0) u) (hu : ∀ b, u.ownBlock = some b → b < R) (hS : B0 ≤ S) (hP : B0 ≤ P) (hSR : S < R) (hPR : P < R) (r : RAtS W R (kdF freeF) (hgF freeF) (btF freeF) (stA v zer zer)) (hv : RAt W v (toI L)) (hvo : ∀ b, obk v = some b → b < B0) : Both W B0 S P R freeF L (fun _ => 0) :=
  ⟨⟨u, s.addR hu hSR hPR r.lt⟩, ⟨v, ⟨by rw [ci0, hf0 L hL]; exact r, hv, fun b hb => by
    have := hvo b hb
    exact ⟨by omega, fun h => by rcases h with h | h <;> omega⟩, fun b h => by rcases h with h | h <;> omega⟩, hvo⟩, good_free, hL, hS, hP, by omega⟩

/-- What made leaves of a plan that is as it should be. -/
def Madeq (w : World) (e : Ending) (w' : World) : Prop := ∃ S P R f L m, e = .returned (.tuple #[.pointer (some ⟨S, 0, none⟩), .bool true]) ∧ Both w' w.heap.size S P R f L m ∧ MLe 1000 m ∧ Below w.heap.size w w'
set_option maxRecDepth 100000 in
set_option maxHeartbeats 2000000 in
theorem made_bad (v : Value) (l : List RlI) (u : Value) (i : Nat) (c : Int) (hc : chkP l = (i, c)) (h0 : c ≠ 0) (w : World) (hv : RAt w v l) :
    Calls Try.prog 21 #[.agg #[v], u] w fun e w' => e = .returned (.tuple #[.pointer none, .bool false]) ∧ Below w.heap.size w w' := by
  obtain ⟨W1, hW1⟩ : ∃ x, w.alloc (.cells #[v] 24) = x := ⟨_, rfl⟩
  have hb1 : Below w.heap.size w W1 := by rw [← hW1]; exact (Below.refl _ _).alloc (Nat.le_refl _) _
  have bP : Boxed W1 w.heap.size 24 v := by rw [← hW1]; exact Boxed.new w _ _
  have hv1 := hv.later hb1
  have HN := Lib.hid (New_bad v l i c hc h0 W1 hv1)
  have HR := Lib.hid (fun W (hW : Below W1.heap.size W1 W) => RNew_bad v l i c hc h0 W (hv1.later hW))
  have q1 := bP.cell
  have hq : (c != 0) = true := by simpa using h0
  clear hc h0
  go_enter Try.func21, Try.ntmps21
  go_wp2_with fail
  try rw [hW1]
  refine HN.out.mono ?_
  rintro e w1 ⟨rfl, B1⟩
  have q2 := cell_later B1 q1
  clear hW1 q1
  go_wp2_with fail
  refine (HR.out w1 B1).mono ?_
  rintro e w2 ⟨rfl, B2⟩
  have hB1 := hb1.trans (B1.mono hb1.size)
  go_wp2_with fail
  go_ret2
  exact ⟨rfl, hB1.trans (B2.mono hB1.size)⟩
set_option maxRecDepth 100000 in
set_option maxHeartbeats 4000000 in
theorem made_ok (v : Value) (L : List Ru) (hL : OkL L) (u : Value) (al : List Ac) (hal : al.length ≤ 60) (w : World) (hv : RAt w v (toI L)) (hvo : ∀ b, obk v = some b → b < w.heap.size) (hu : AcAt w u al) (hx : ∀ x ∈ al, AcOk w w.heap.size x) :
    Calls Try.prog 21 #[.agg #[v], u] w (Madeq w) := by
  obtain ⟨ua, uc, rfl⟩ := hu.form
  obtain ⟨W1, hW1⟩ : ∃ x, w.alloc (.cells #[v] 24) = x := ⟨_, rfl⟩
  have hb1 : Below w.heap.size w W1 := by rw [← hW1]; exact (Below.refl _ _).alloc (Nat.le_refl _) _
  have bP : Boxed W1 w.heap.size 24 v := by rw [← hW1]; exact Boxed.new w _ _
  have hv1 := hv.later hb1
  have HN := Lib.hid (New_ok2 v L hL W1 hv1)
  have HR := Lib.hid (fun W (hW : Below W1.heap.size W1 W) => RNew_ok v L hL W (hv1.later hW))
  have q1 := bP.cell
  have HU := Lib.hid hu
  have HX := Lib.hid hx
  have HV := Lib.hid (show ∀ b, obk v = some b → b < w.heap.size from hvo)
  obtain ⟨N, hN⟩ : ∃ N, al.length = N := ⟨_, rfl⟩
  have HN2 := Lib.hid hN
  rw [hN] at HU hal ⊢
  clear hN hu hx hvo
  go_enter Try.func21, Try.ntmps21
  go_wp2_with fail
  try rw [hW1]
  refine HN.out.mono ?_
  rintro e w1 ⟨S, P, rfl, hS, hP, ⟨us, sV, huo⟩, B1⟩
  have q2 := cell_later B1 q1
  clear hW1 q1
  go_wp2_with fail
  refine (HR.out w1 B1).mono ?_
  rintro e w2 ⟨R, rfl, hR, rr, B2⟩
  have hB1 := hb1.trans (B1.mono hb1.size)
  have hB2 := hB1.trans (B2.mono hB1.size)
  have hz1 := hb1.size
  have hB := both_new hL (sV.later B2) (fun b hb => Nat.lt_of_lt_of_le (huo b hb) hR) (B0 := w.heap.size) (by omega) (by omega) (Nat.lt_of_lt_of_le sV.box.lt hR) (Nat.lt_of_lt_of_le sV.pg.lt hR) rr ((hv1.later B1).later B2) HV.out
  clear HN HR q2 sV huo rr
  go_wp2_with fail
  go_loopw [6, 10] (fun sv i wr => ∃ (k : Nat) (f : Pages) (L : List Ru) (m : Nat → Nat), k ≤ N ∧ i = .int .i64 k ∧ sv = .pointer (some ⟨S, 0, none⟩) ∧ Hid (MLe k m) ∧ Hid (Both wr w.heap.size S P R f L m) ∧ Below w.heap.size w wr) (fun _ i _ => N - (intOf i).toNat)
  case atStart => exact ⟨0, freeF, L, fun _ => 0, Nat.zero_le _, rfl, rfl, (fun k _ => Nat.le_refl _), hB, hB2⟩
  case round =>
    obtain ⟨k, f, L, m, hk, rfl, rfl, HM, HB, hbw⟩ := hrel
    by_cases hlt : k < N
    · obtain ⟨x, hx⟩ : ∃ x, al[k]? = some x := ⟨_, List.getElem?_eq_getElem (by rw [HN2.out]; exact hlt)⟩
      obtain ⟨b, off, rfl, hbl, k0, k1, k2, k3, k4, k5⟩ := HU.out.at k _ hx
      have hxo := HX.out x (List.mem_of_getElem? hx)
      have hxk := hxo.keep (Keep.of_below (q := fun k => w.heap.size ≤ k) hbw) (fun k h => h)
      replace k0 := cell_later hbw k0
      replace k1 := cell_later hbw k1
      replace k2 := cell_later hbw k2
      replace k3 := cell_later hbw k3
      replace k4 := cell_later hbw k4
      replace k5 := cell_later hbw k5
      have hi1 : (k : Int) < (N : Int) := by omega
      by_cases hq17 : x.q.tmod 19 = 17
      · clear hx hxo hxk
        go_wp2_with fail
        go_roundw
        case rel => exact ⟨k + 1, f, L, m, by omega, by go_num, rfl, HM.out.up, HB.out, hbw⟩
        case measure => simp [intOf]; omega
      · obtain ⟨f', L', m', hm', hc⟩ := step_any x k (by omega) HM.out _ hxk hq17 HB.out
        have HC := Lib.hid hc
        have hqb : (x.q.tmod 19 == 17) = false := by simpa using hq17
        have hbo := HB.out
        clear hx hxo hxk hc
        go_wp2_with fail
        refine HC.out.mono ?_
        rintro e w3 ⟨rfl, hB', hkp⟩
        have hbw3 : Below w.heap.size w w3 := hbw.trans (hkp.below _ hbw.size fun k hk => by rcases hk with h | h | h <;> (subst h; first | exact hbo.hS | exact hbo.hP | exact hbo.hR))
        go_wp2_with fail
        go_roundw
        case rel => exact ⟨k + 1, f', L', m', by omega, by go_num, rfl, hm', hB', hbw3⟩
        case measure => simp [intOf]; omega
    · have hi1 : ¬ ((k : Int) < (N : Int)) := by omega
      go_wp2_with fail
      go_ret2
      exact ⟨S, P, R, f, L, m, rfl, HB.out, fun j hj => by have := HM.out j hj; omega, hbw⟩
end Go.Proofs.Ytnmeeddhagmjdaa
