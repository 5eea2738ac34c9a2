/- Counts are those of the kinds. -/
import Derived.Test.YtjplihljmohpjaaKj
namespace Go.Proofs.Ytjplihljmohpjaa
open Go.RowKit Go.Shelf
attribute [local go_sem] Oper.semAt_some

abbrev vA4 (a b c d : Nat) : Array Value := #[.int .i64 (a : Int), .int .i64 (b : Int), .int .i64 (c : Int), .int .i64 (d : Int)]
def A4 (W : World) (g : Nat) (a b c d : Nat) : Prop := W.heap[g]? = some (.cells (vA4 a b c d) 65 (0, 0))
theorem A4.lt {W : World} {g a b c d : Nat} (s : A4 W g a b c d) : g < W.heap.size := (Array.getElem?_eq_some_iff.1 s).1
theorem A4.later {W V : World} {g a b c d : Nat} (s : A4 W g a b c d) (hb : Below W.heap.size W V) : A4 V g a b c d := (hb.block g s.lt).trans s
theorem A4.c0 {W : World} {g a b c d : Nat} (s : A4 W g a b c d) : W.cell? ⟨g, 0, none⟩ = some (.int .i64 (a : Int)) := by unfold A4 at s; simp [World.cell?, s]
theorem A4.i0 {W : World} {g a b c d : Nat} (s : A4 W g a b c d) : A4 (W.setCell ⟨g, 0, none⟩ (.int .i64 ((a : Int) + 1))) g (a + 1) b c d := heap_setCell_same W g 0 _ _ _ s
theorem A4.c1 {W : World} {g a b c d : Nat} (s : A4 W g a b c d) : W.cell? ⟨g, 1, none⟩ = some (.int .i64 (b : Int)) := by unfold A4 at s; simp [World.cell?, s]
theorem A4.i1 {W : World} {g a b c d : Nat} (s : A4 W g a b c d) : A4 (W.setCell ⟨g, 1, none⟩ (.int .i64 ((b : Int) + 1))) g a (b + 1) c d := heap_setCell_same W g 1 _ _ _ s
theorem A4.c2 {W : World} {g a b c d : Nat} (s : A4 W g a b c d) : W.cell? ⟨g, 2, none⟩ = some (.int .i64 (c : Int)) := by unfold A4 at s; simp [World.cell?, s]
theorem A4.i2 {W : World} {g a b c d : Nat} (s : A4 W g a b c d) : A4 (W.setCell ⟨g, 2, none⟩ (.int .i64 ((c : Int) + 1))) g a b (c + 1) d := heap_setCell_same W g 2 _ _ _ s
theorem A4.c3 {W : World} {g a b c d : Nat} (s : A4 W g a b c d) : W.cell? ⟨g, 3, none⟩ = some (.int .i64 (d : Int)) := by unfold A4 at s; simp [World.cell?, s]
theorem A4.i3 {W : World} {g a b c d : Nat} (s : A4 W g a b c d) : A4 (W.setCell ⟨g, 3, none⟩ (.int .i64 ((d : Int) + 1))) g a b c (d + 1) := heap_setCell_same W g 3 _ _ _ s
theorem A4.frozen {W : World} {g a b c d : Nat} (s : A4 W g a b c d) (j : Nat) : W.frozen? ⟨g, j, none⟩ = false := by unfold A4 at s; simp [World.frozen?, s]
/-- How many pages of a list are of huge pages. -/
def cnU (f : Pages) : List Nat → Nat
  | [] => 0
  | j :: l => (if (f j).hu = true then 1 else 0) + cnU f l
theorem cnU_snoc (f : Pages) (j : Nat) : ∀ l, cnU f (l ++ [j]) = cnU f l + if (f j).hu = true then 1 else 0
  | [] => by show _ + 0 = 0 + _; omega
  | i :: l => by show _ + cnU f (l ++ [j]) = _ + cnU f l + _; rw [cnU_snoc f j l]; omega
theorem cnU_len (f : Pages) : ∀ l, cnU f l ≤ l.length
  | [] => Nat.le_refl _
  | j :: l => by have := cnU_len f l; show (if _ then 1 else 0) + cnU f l ≤ l.length + 1; split <;> omega
theorem rg_snoc (k : Nat) : List.range' 0 (k + 1) = List.range' 0 k ++ [k] := by rw [List.range'_concat]; simp
theorem cnU_part (f : Pages) (hf : Good f) (g : Nat) (hg : g < 64) : ∀ r, r ≤ 16 → cnU f (List.range' 0 (16 * g + r)) = cnU f (List.range' 0 (16 * g)) + r * (if (f (16 * g)).hu = true then 1 else 0) ∧ cnH f (List.range' 0 (16 * g + r)) = cnH f (List.range' 0 (16 * g)) + (if 0 < r then 1 else 0) * (if (f (16 * g)).hu = true then 1 else 0)
  | 0, _ => by simp
  | r + 1, h => by
    obtain ⟨h1, h2⟩ := cnU_part f hf g hg r (by omega)
    have e := hf.grp (16 * g + r) (by omega)
    rw [show 16 * ((16 * g + r) / 16) = 16 * g by omega] at e
    rw [← Nat.add_assoc, rg_snoc, cnU_snoc, cnH_snoc, h1, h2, e]
    constructor
    · rw [Nat.add_assoc, Nat.add_mul, Nat.one_mul]
    · by_cases hr : r = 0
      · subst hr
        simp
      · have : ¬ r % 16 = 0 := by omega
        simp [this, Nat.pos_of_ne_zero hr]
theorem cnU_all (f : Pages) (hf : Good f) : ∀ g, g ≤ 64 → cnU f (List.range' 0 (16 * g)) = 16 * cnH f (List.range' 0 (16 * g))
  | 0, _ => rfl
  | g + 1, h => by
    obtain ⟨h1, h2⟩ := cnU_part f hf g (by omega) 16 (Nat.le_refl _)
    have := cnU_all f hf g (by omega)
    rw [Nat.mul_add, Nat.mul_one, h1, h2, this]
    split <;> simp <;> omega
theorem knE_at (f : Pages) (k : Nat) (hk : k < 1024) : knE f (k : Int) = ((f k).kd, (f k).hu, 0) := by
  unfold knE
  rw [show areB (k : Int) 1 = true by unfold areB; simp; omega, if_pos rfl, Int.toNat_natCast]
theorem AcOk.later {W V : World} {B0 B1 : Nat} {x : Ac} (h : AcOk W B0 x) (hb : Below W.heap.size W V) (hB : B0 ≤ B1) : AcOk V B1 x := ⟨h.q0, h.q1, h.a, h.ru.later hb, fun b e => Nat.lt_of_lt_of_le (h.own b e) hB⟩

set_option maxRecDepth 100000 in
set_option maxHeartbeats 8000000 in
/-- The law, of lists as they read. -/
theorem law_counts (v : Value) (p : List RlI) (u : Value) (al : List Ac) (w : World) (hv : RAt w v p) (hvo : ∀ b, obk v = some b → b < w.heap.size) (hu : AcAt w u al) (hx : ∀ x ∈ al, AcOk w w.heap.size x) :
    Calls Try.prog 7 #[.agg #[v], u] w fun e w' => e = .returned (.bool true) ∧ Below w.heap.size w w' := by
  obtain ⟨ua, uc, rfl⟩ := hu.form
  obtain ⟨W1, hW1⟩ : ∃ x, w.alloc (.cells #[v] 24) = x := ⟨_, rfl⟩
  have hb1 : Below w.heap.size w W1 := by rw [← hW1]; exact (Below.refl _ _).alloc (Nat.le_refl _) _
  have bP : Boxed W1 w.heap.size 24 v := by rw [← hW1]; exact Boxed.new w _ _
  have hu64 := hu.len
  have hv1 := hv.later hb1
  have hu1 := hu.keep w.heap.size hu.own hb1
  have hx1 : ∀ x ∈ al, AcOk W1 W1.heap.size x := fun x h => (hx x h).later hb1 hb1.size
  have hvo1 : ∀ b, obk v = some b → b < W1.heap.size := fun b h => Nat.lt_of_lt_of_le (hvo b h) hb1.size
  obtain ⟨r, hr⟩ : ∃ r, lgB p al = r := ⟨_, rfl⟩
  have HL := Lib.hid (long_is v p _ al r hr W1 hv1 hu1 (fun x h => (hx1 x h).ru))
  have HS := Lib.hid shown_is
  have q1 := bP.cell
  obtain ⟨N, hN⟩ : ∃ N, al.length = N := ⟨_, rfl⟩
  rw [hN] at HL hu64 hu1 ⊢
  have HU := Lib.hid hu1
  have HX := Lib.hid hx1
  have HO := Lib.hid hvo1
  have HV := Lib.hid hv1
  have HN := Lib.hid hN
  clear hu hx hvo hv hu1 hx1 hvo1 hv1 hr hN
  by_cases h40 : 40 < N
  · have hi1 : (40 : Int) < (N : Int) := by omega
    go_enter Try.func7, Try.ntmps7
    go_wp2_with fail
    try rw [hW1]
    refine (HS.out _).mono ?_
    rintro e w2 ⟨rfl, B2⟩
    go_wp2_with fail
    go_ret
    exact ⟨rfl, hb1.trans (B2.mono hb1.size)⟩
  have hi1 : ¬ (40 : Int) < (N : Int) := by omega
  cases r
  case true =>
    go_enter Try.func7, Try.ntmps7
    go_wp2_with fail
    try rw [hW1]
    refine HL.out.mono ?_
    rintro e w2 ⟨rfl, B2⟩
    have hB2 := hb1.trans (B2.mono hb1.size)
    go_wp2_with fail
    refine (HS.out _).mono ?_
    rintro e w3 ⟨rfl, B3⟩
    go_wp2_with fail
    go_ret
    exact ⟨rfl, hB2.trans (B3.mono hB2.size)⟩
  case false =>
    obtain ⟨j, c, hc⟩ : ∃ j c, chkP p = (j, c) := ⟨_, _, rfl⟩
    by_cases h0 : c = 0
    · obtain ⟨L, rfl, hL⟩ := chkP_ok (l := p) (by rw [hc]; exact h0)
      have HM := Lib.hid (fun W (hW : Below W1.heap.size W1 W) => made_ok v L hL (.slice ua N uc) al (by rw [HN.out]; omega) W (HV.out.later hW) (fun b h => Nat.lt_of_lt_of_le (HO.out b h) hW.size) (HU.out.keep W1.heap.size HU.out.own hW) (fun x h => (HX.out x h).later hW hW.size))
      clear hc h0
      go_enter Try.func7, Try.ntmps7
      go_wp2_with fail
      try rw [hW1]
      refine HL.out.mono ?_
      rintro e w2 ⟨rfl, B2⟩
      have hB2 := hb1.trans (B2.mono hb1.size)
      have q2 := cell_later B2 q1
      clear hW1 q1
      go_wp2_with fail
      refine (HM.out w2 B2).mono ?_
      rintro e w3 ⟨S, P, R, f, L', m, rfl, hB, _, B3⟩
      have hB3 := hB2.trans (B3.mono hB2.size)
      obtain ⟨us, sV⟩ := hB.sys
      have hg := hB.good
      obtain ⟨W4, hW4⟩ : ∃ x, w3.alloc (.cells #[.int .i64 0, .int .i64 0, .int .i64 0, .int .i64 0] 65) = x := ⟨_, rfl⟩
      have hb4 : Below w3.heap.size w3 W4 := by rw [← hW4]; exact (Below.refl _ _).alloc (Nat.le_refl _) _
      have hB4 := hB3.trans (hb4.mono hB3.size)
      have a4 : A4 W4 w3.heap.size 0 0 0 0 := by rw [← hW4]; exact World.alloc_heap_new w3 _
      have hz4 : w3.heap.size < W4.heap.size := a4.lt
      have sV4 := sV.later hb4
      clear hB HM HL q2
      go_wp2_with fail
      try rw [hW4]
      clear hW4
      have HA0 := Lib.hid a4
      have hlS := sV4.box.lt
      have hSg : S ≠ w3.heap.size := Nat.ne_of_lt sV.box.lt
      have hPg : P ≠ w3.heap.size := Nat.ne_of_lt sV.pg.lt
      have HBX := Lib.hid sV4.box
      have HPG := Lib.hid sV4.pg
      have HG := Lib.hid hg
      clear hlS sV4 sV hg a4
      go_loopw [8, 9] (fun hv i wr => ∃ k : Nat, k ≤ 1024 ∧ i = .int .i64 k ∧ hv = .int .i64 (cnU f (List.range' 0 k) : Nat) ∧ Hid (A4 wr w3.heap.size (cnK f 0 (List.range' 0 k)) (cnK f 1 (List.range' 0 k)) (cnK f 2 (List.range' 0 k)) (cnK f 3 (List.range' 0 k))) ∧ Keep (· = w3.heap.size) W4 wr) (fun _ i _ => 1024 - (intOf i).toNat)
      case atStart => exact ⟨0, Nat.zero_le _, rfl, rfl, HA0.out, Keep.refl _ _⟩
      case round =>
        obtain ⟨k, hk, rfl, rfl, HA, hK⟩ := hrel
        have hzw := hK.size
        have hbx := HBX.out.keep hK hSg
        have hpg := HPG.out.keep hK hPg
        have hr1 : (List.range' 0 k).length = k := List.length_range'
        have la := cnK_len f 0 (List.range' 0 k)
        have lb := cnK_len f 1 (List.range' 0 k)
        have lc := cnK_len f 2 (List.range' 0 k)
        have ld := cnK_len f 3 (List.range' 0 k)
        have lu := cnU_len f (List.range' 0 k)
        by_cases hlt : k < 1024
        · have hi1 : (k : Int) < 1024 := by omega
          have hk64 : I64 (k : Int) := ⟨by omega, by omega⟩
          have hn := knE_at f k hlt
          have hkd := HG.out.knd k hlt
          have hcm := HG.out.com k hlt
          have nA := cnK_snoc f 0 k (List.range' 0 k)
          have nB := cnK_snoc f 1 k (List.range' 0 k)
          have nC := cnK_snoc f 2 k (List.range' 0 k)
          have nD := cnK_snoc f 3 k (List.range' 0 k)
          have nU := cnU_snoc f k (List.range' 0 k)
          rw [← rg_snoc] at nA nB nC nD nU
          obtain ⟨a, ea⟩ : ∃ x, cnK f 0 (List.range' 0 k) = x := ⟨_, rfl⟩
          obtain ⟨b, eb⟩ : ∃ x, cnK f 1 (List.range' 0 k) = x := ⟨_, rfl⟩
          obtain ⟨c, ec⟩ : ∃ x, cnK f 2 (List.range' 0 k) = x := ⟨_, rfl⟩
          obtain ⟨d, ed⟩ : ∃ x, cnK f 3 (List.range' 0 k) = x := ⟨_, rfl⟩
          obtain ⟨t, et⟩ : ∃ x, cnU f (List.range' 0 k) = x := ⟨_, rfl⟩
          rw [ea, eb, ec, ed] at HA
          rw [ea, hr1] at la; rw [eb, hr1] at lb; rw [ec, hr1] at lc; rw [ed, hr1] at ld; rw [et, hr1] at lu
          rw [ea] at nA; rw [eb] at nB; rw [ec] at nC; rw [ed] at nD; rw [et] at nU
          rw [et]
          have five : ((f k).kd = 0 ∧ (f k).hu = false) ∨ ((f k).kd = 1 ∧ (f k).hu = false) ∨ ((f k).kd = 2 ∧ (f k).hu = false) ∨ ((f k).kd = 2 ∧ (f k).hu = true) ∨ ((f k).kd = 3 ∧ (f k).hu = false) := by
            cases hh : (f k).hu with
            | true => have := hcm hh; simp [this]
            | false =>
              have h4 : (f k).kd = 0 ∨ (f k).kd = 1 ∨ (f k).kd = 2 ∨ (f k).kd = 3 := by omega
              simpa using h4
          clear ea eb ec ed et hkd hcm hr1
          rcases five with ⟨e1, e2⟩ | ⟨e1, e2⟩ | ⟨e1, e2⟩ | ⟨e1, e2⟩ | ⟨e1, e2⟩
          · rw [e1, e2] at hn
            have HK := Lib.hid (Kind_is S P us _ _ f k hk64 wr hbx hpg (0, false, 0) hn)
            simp only [e1, e2] at nA nB nC nD nU
            simp at nA nB nC nD nU
            have NA := Lib.hid nA
            have NB := Lib.hid nB
            have NC := Lib.hid nC
            have ND := Lib.hid nD
            have NU := Lib.hid nU
            clear e1 e2 hn nA nB nC nD nU hbx hpg hk64
            go_wp2_with fail
            refine HK.out.mono ?_
            rintro e w5 ⟨rfl, B5⟩
            have a5 := HA.out.later B5
            have c5 := a5.c0
            have f5 := a5.frozen 0
            have hK5 := hK.trans (Keep.of_below (q := (· = w3.heap.size)) B5)
            clear HK
            go_wp2_with fail
            go_roundw
            case rel => exact ⟨k + 1, by omega, by go_num, by rw [NU.out], by rw [NA.out, NB.out, NC.out, ND.out]; exact a5.i0, hK5.setCell _ _ (.inl rfl)⟩
            case measure => simp [intOf]; omega
          · rw [e1, e2] at hn
            have HK := Lib.hid (Kind_is S P us _ _ f k hk64 wr hbx hpg (1, false, 0) hn)
            simp only [e1, e2] at nA nB nC nD nU
            simp at nA nB nC nD nU
            have NA := Lib.hid nA
            have NB := Lib.hid nB
            have NC := Lib.hid nC
            have ND := Lib.hid nD
            have NU := Lib.hid nU
            clear e1 e2 hn nA nB nC nD nU hbx hpg hk64
            go_wp2_with fail
            refine HK.out.mono ?_
            rintro e w5 ⟨rfl, B5⟩
            have a5 := HA.out.later B5
            have c5 := a5.c1
            have f5 := a5.frozen 1
            have hK5 := hK.trans (Keep.of_below (q := (· = w3.heap.size)) B5)
            clear HK
            go_wp2_with fail
            go_roundw
            case rel => exact ⟨k + 1, by omega, by go_num, by rw [NU.out], by rw [NA.out, NB.out, NC.out, ND.out]; exact a5.i1, hK5.setCell _ _ (.inl rfl)⟩
            case measure => simp [intOf]; omega
          · rw [e1, e2] at hn
            have HK := Lib.hid (Kind_is S P us _ _ f k hk64 wr hbx hpg (2, false, 0) hn)
            simp only [e1, e2] at nA nB nC nD nU
            simp at nA nB nC nD nU
            have NA := Lib.hid nA
            have NB := Lib.hid nB
            have NC := Lib.hid nC
            have ND := Lib.hid nD
            have NU := Lib.hid nU
            clear e1 e2 hn nA nB nC nD nU hbx hpg hk64
            go_wp2_with fail
            refine HK.out.mono ?_
            rintro e w5 ⟨rfl, B5⟩
            have a5 := HA.out.later B5
            have c5 := a5.c2
            have f5 := a5.frozen 2
            have hK5 := hK.trans (Keep.of_below (q := (· = w3.heap.size)) B5)
            clear HK
            go_wp2_with fail
            go_roundw
            case rel => exact ⟨k + 1, by omega, by go_num, by rw [NU.out], by rw [NA.out, NB.out, NC.out, ND.out]; exact a5.i2, hK5.setCell _ _ (.inl rfl)⟩
            case measure => simp [intOf]; omega
          · rw [e1, e2] at hn
            have HK := Lib.hid (Kind_is S P us _ _ f k hk64 wr hbx hpg (2, true, 0) hn)
            simp only [e1, e2] at nA nB nC nD nU
            simp at nA nB nC nD nU
            have NA := Lib.hid nA
            have NB := Lib.hid nB
            have NC := Lib.hid nC
            have ND := Lib.hid nD
            have NU := Lib.hid nU
            clear e1 e2 hn nA nB nC nD nU hbx hpg hk64
            go_wp2_with fail
            refine HK.out.mono ?_
            rintro e w5 ⟨rfl, B5⟩
            have a5 := HA.out.later B5
            have c5 := a5.c2
            have f5 := a5.frozen 2
            have hK5 := hK.trans (Keep.of_below (q := (· = w3.heap.size)) B5)
            clear HK
            go_wp2_with fail
            go_roundw
            case rel => exact ⟨k + 1, by omega, by go_num, by rw [NU.out]; go_num, by rw [NA.out, NB.out, NC.out, ND.out]; exact a5.i2, hK5.setCell _ _ (.inl rfl)⟩
            case measure => simp [intOf]; omega
          · rw [e1, e2] at hn
            have HK := Lib.hid (Kind_is S P us _ _ f k hk64 wr hbx hpg (3, false, 0) hn)
            simp only [e1, e2] at nA nB nC nD nU
            simp at nA nB nC nD nU
            have NA := Lib.hid nA
            have NB := Lib.hid nB
            have NC := Lib.hid nC
            have ND := Lib.hid nD
            have NU := Lib.hid nU
            clear e1 e2 hn nA nB nC nD nU hbx hpg hk64
            go_wp2_with fail
            refine HK.out.mono ?_
            rintro e w5 ⟨rfl, B5⟩
            have a5 := HA.out.later B5
            have c5 := a5.c3
            have f5 := a5.frozen 3
            have hK5 := hK.trans (Keep.of_below (q := (· = w3.heap.size)) B5)
            clear HK
            go_wp2_with fail
            go_roundw
            case rel => exact ⟨k + 1, by omega, by go_num, by rw [NU.out], by rw [NA.out, NB.out, NC.out, ND.out]; exact a5.i3, hK5.setCell _ _ (.inl rfl)⟩
            case measure => simp [intOf]; omega
        · have hi1 : ¬ ((k : Int) < 1024) := by omega
          obtain rfl : k = 1024 := by omega
          have hAll := cnU_all f HG.out 64 (Nat.le_refl _)
          have hHl := cnH_len f (List.range' 0 1024)
          rw [hr1] at hHl
          have HC := Lib.hid (Counts_is S P us _ _ f wr hbx hpg)
          obtain ⟨a, ea⟩ : ∃ x, cnK f 0 (List.range' 0 1024) = x := ⟨_, rfl⟩
          obtain ⟨b, eb⟩ : ∃ x, cnK f 1 (List.range' 0 1024) = x := ⟨_, rfl⟩
          obtain ⟨c, ec⟩ : ∃ x, cnK f 2 (List.range' 0 1024) = x := ⟨_, rfl⟩
          obtain ⟨d, ed⟩ : ∃ x, cnK f 3 (List.range' 0 1024) = x := ⟨_, rfl⟩
          obtain ⟨t, et⟩ : ∃ x, cnH f (List.range' 0 1024) = x := ⟨_, rfl⟩
          replace hAll : cnU f (List.range' 0 1024) = 16 * t := by rw [← et]; exact hAll
          unfold cnV at HC
          rw [ea, eb, ec, ed, et] at HC
          rw [ea, eb, ec, ed] at HA
          rw [ea, hr1] at la; rw [eb, hr1] at lb; rw [ec, hr1] at lc; rw [ed, hr1] at ld
          rw [et] at hHl
          rw [hAll]
          have hquo : (((16 * t : Nat) : Int)).tdiv 16 = (t : Int) := by rw [Int.tdiv_eq_ediv_of_nonneg (by omega)]; omega
          have hrem : (((16 * t : Nat) : Int)).tmod 16 = 0 := by rw [Int.tmod_eq_emod_of_nonneg (by omega)]; omega
          obtain ⟨U, hU⟩ : ∃ U : Int, ((16 * t : Nat) : Int) = U := ⟨_, rfl⟩
          rw [hU] at hquo hrem ⊢
          clear ea eb ec ed et hAll hbx hpg hr1 lu hU
          go_wp2_with fail
          refine HC.out.mono ?_
          rintro e w5 ⟨rfl, B5⟩
          have a5 := HA.out.later B5
          have hK5 := hK.trans (Keep.of_below (q := (· = w3.heap.size)) B5)
          obtain ⟨W6, hW6⟩ : ∃ x, w5.alloc (.cells #[.int .i64 0, .int .i64 0, .int .i64 0, .int .i64 0, .int .i64 0] 67) = x := ⟨_, rfl⟩
          have hb6 : Below w5.heap.size w5 W6 := by rw [← hW6]; exact (Below.refl _ _).alloc (Nat.le_refl _) _
          have bN : NBx W6 w5.heap.size 0 0 0 0 0 := by rw [← hW6]; exact World.alloc_heap_new w5 _
          have a6 := a5.later hb6
          have bM : NBx (W6.setRow w5.heap.size (v5 a b c d t)) w5.heap.size a b c d t := setRow_heap W6 w5.heap.size _ (v5 a b c d t) _ _ bN
          have a7 : A4 (W6.setRow w5.heap.size (v5 a b c d t)) w3.heap.size a b c d := (setRow_other W6 w5.heap.size w3.heap.size _ (by have := a5.lt; omega)).trans a6
          have m0 := bM.c0
          have m1 := bM.c1
          have m2 := bM.c2
          have m3 := bM.c3
          have m4 := bM.c4
          have g0 := a7.c0
          have g1 := a7.c1
          have g2 := a7.c2
          have g3 := a7.c3
          have hone : (v5 a b c d t).all (·.oneCell') = true := by simp [Value.oneCell']
          have heq := eq5 a b c d t
          have hK7 : Below w.heap.size w (W6.setRow w5.heap.size (v5 a b c d t)) := below_row ((hB4.trans (hK5.below w.heap.size hB4.size (fun k h => by subst h; exact hB3.size))).trans (hb6.mono (Nat.le_trans hB4.size hK5.size))) _ (Nat.le_trans hB4.size hK5.size) _
          clear HC hK hK5 HA a5 a6
          go_wp2_with (first | rw [hW6] | refine wpList_store_row rfl 67 _ _ rfl w5.heap.size (v5 a b c d t) rfl rfl 67 _ bN (n5_i _ _ _ _ _) rfl hone ?_)
          refine (HS.out _).mono ?_
          rintro e w8 ⟨rfl, B8⟩
          go_wp2_with fail
          go_ret
          exact ⟨rfl, hK7.trans (B8.mono hK7.size)⟩
    · have HM := Lib.hid (fun W (hW : Below W1.heap.size W1 W) => made_bad v p (.slice ua N uc) j c hc h0 W (HV.out.later hW))
      clear hc h0
      go_enter Try.func7, Try.ntmps7
      go_wp2_with fail
      try rw [hW1]
      refine HL.out.mono ?_
      rintro e w2 ⟨rfl, B2⟩
      have hB2 := hb1.trans (B2.mono hb1.size)
      have q2 := cell_later B2 q1
      clear hW1 q1
      go_wp2_with fail
      refine (HM.out w2 B2).mono ?_
      rintro e w3 ⟨rfl, B3⟩
      have hB3 := hB2.trans (B3.mono hB2.size)
      go_wp2_with fail
      refine (HS.out _).mono ?_
      rintro e w4 ⟨rfl, B4⟩
      go_wp2_with fail
      go_ret
      exact ⟨rfl, hB3.trans (B4.mono hB3.size)⟩
end Go.Proofs.Ytjplihljmohpjaa
