/- A system: it counts its calls, and does them. -/
import Derived.Test.YtnmeeddhagmjdaaVmE
import Derived.Test.YtnmeeddhagmjdaaRfNx
namespace Go.Proofs.Ytnmeeddhagmjdaa
open Go.RowKit Go.Shelf
attribute [local go_sem] Oper.semAt_some

def ci (f : Nat → Nat) : Nat → Int := fun k => (f k : Int)
def updN (f : Nat → Nat) (k x : Nat) : Nat → Nat := fun j => if j = k then x else f j
def hf (L : List Ru) (f : Nat → Nat) : Nat → Nat := fun k => hitN L k (f k)
theorem updN_same (f : Nat → Nat) (k x : Nat) : updN f k x k = x := by unfold updN; rw [if_pos rfl]
theorem ci_upd (f : Nat → Nat) (k x : Nat) : upd (ci f) k (x : Nat) = ci (updN f k x) := by
  funext j; unfold upd ci updN; split <;> rfl
theorem nxH_hf (L : List Ru) (f : Nat → Nat) (k : Nat) : nxH L (ci (hf L f)) k (f k) = ci (hf L (updN f k (f k + 1))) := by
  funext j
  unfold nxH
  by_cases hj : j = k
  · subst hj
    have e : ci (hf L (updN f j (f j + 1))) j = ((hitN L j (f j) + if refP L j (f j + 1) then 1 else 0 : Nat) : Int) := by
      unfold ci hf; rw [updN_same, hitN_succ]
    rw [e]
    cases hr : refP L j (f j + 1)
    · simp [ci, hf]
    · simp [upd, ci, hf]
  · have e : ci (hf L (updN f k (f k + 1))) j = ci (hf L f) j := by unfold ci hf updN; rw [if_neg hj]
    rw [e]
    split
    · unfold upd; rw [if_neg hj]
    · rfl
theorem csF_hf (L : List Ru) (f : Nat → Nat) (h : ∀ k, k < 7 → f k ≤ 1000000) : csF L (ci f) (ci (hf L f)) = 0 := csF_all fun k hk => by
  have := h k hk
  unfold okS ci hf
  simp; omega
theorem RAt.set {W : World} {a : Addr} {u : Value} {l : List RlI} (r : RAt W u l) (q : Value) (hn : u.ownBlock ≠ some a.block) : RAt (W.setCell a q) u l := by
  rcases r with h | ⟨g, off, cap, rfl, h1, h2, hc⟩
  · exact .inl h
  · have hg : g ≠ a.block := fun e => hn (by simp [Value.ownBlock, e])
    refine .inr ⟨g, off, cap, rfl, h1, h2, fun j x hx => ?_⟩
    have := hc j x hx
    have e : ∀ o, (W.setCell a q).cell? ⟨g, o, none⟩ = W.cell? ⟨g, o, none⟩ := fun o => World.cell?_of_block (w := W) (Below.heap_setCell _ _ _ _ hg)
    rw [e, e, e, e]; exact this
theorem boxed_set {W : World} {b : Nat} {t : TypeId} {v : Value} (s : Boxed W b t v) {a : Addr} (ha : b ≠ a.block) (u : Value) : Boxed (W.setCell a u) b t v := (Below.heap_setCell _ _ _ _ ha).trans s
theorem boxed_row {W : World} {b : Nat} {t : TypeId} {v : Value} (s : Boxed W b t v) {g : Nat} (hg : b ≠ g) (cs : Array Value) : Boxed (W.setRow g cs) b t v := (setRow_other W g b cs hg).trans s

theorem RAt.row2 {W : World} {b : Nat} {u : Value} {l : List RlI} (r : RAt W u l) (cs : Array Value) (hn : l = [] ∨ u.ownBlock ≠ some b) : RAt (W.setRow b cs) u l := by
  rcases hn with rfl | hn
  · rcases r with h | ⟨g, off, cap, hg, h1, h2, _⟩
    · exact .inl h
    · exact .inr ⟨g, off, cap, hg, h1, h2, fun j x hx => by simp at hx⟩
  · exact r.row cs hn
theorem RAt.one {W : World} {u : Value} {l : List RlI} (r : RAt W u l) : u.oneCell' = true := by obtain ⟨a, c, rfl⟩ := r.form; rfl
theorem csF_ok {L : List Ru} {c h : Nat → Int} (hf : csF L c h = 0) (k : Nat) (hk : k < 7) : okS L c h k = true := by
  cases ho : okS L c h k with
  | true => rfl
  | false => rw [csF_cut hk ho] at hf; cases hf

theorem RAt.keep {W V : World} {u : Value} {l : List RlI} {q : Nat → Prop} (r : RAt W u l) (hb : Keep q W V) (hq : ∀ b, obk u = some b → ¬ q b) : RAt V u l := by
  rcases r with h | ⟨g, off, cap, rfl, h1, h2, hc⟩
  · exact .inl h
  · refine .inr ⟨g, off, cap, rfl, h1, h2, fun j x hx => ?_⟩
    have h7 := hc j x hx
    have hg : g < W.heap.size := World.block_lt_of_cell? _ _ h7.1
    have hob : obk (.slice (some ⟨g, off, none⟩) l.length cap) = some g := by
      have hj := (List.getElem?_eq_some_iff.1 hx).1
      obtain ⟨c, rfl⟩ : ∃ c, cap = c + 1 := ⟨cap - 1, by omega⟩
      rfl
    have e : ∀ o, V.cell? ⟨g, o, none⟩ = W.cell? ⟨g, o, none⟩ := fun o => World.cell?_of_block (w := W) (hb.block g hg (hq g hob))
    rw [e, e, e, e]; exact h7
/-- A system: its pages, its rules, how many calls were counted. What lies in X is no part of it. -/
structure SysV (W : World) (S P : Nat) (X : Nat → Prop) (f : Pages) (L : List Ru) (m : Nat → Nat) (v : Value) : Prop where
  box : SyBox W S P v (ci m) (ci (hf L m))
  pg : PgAt W P f
  ru : RAt W v (toI L)
  ne : S ≠ P
  own : ∀ b, v.ownBlock = some b → b ≠ S ∧ b ≠ P ∧ ¬ X b
  far : ∀ b, X b → b < W.heap.size ∧ b ≠ S ∧ b ≠ P
def Sys (W : World) (S P : Nat) (X : Nat → Prop) (f : Pages) (L : List Ru) (m : Nat → Nat) : Prop := ∃ v, SysV W S P X f L m v
theorem SysV.later {W V : World} {S P : Nat} {X : Nat → Prop} {f : Pages} {L : List Ru} {m : Nat → Nat} {v : Value} (s : SysV W S P X f L m v) (hb : Below W.heap.size W V) : SysV V S P X f L m v :=
  ⟨s.box.later hb, s.pg.later hb, s.ru.later hb, s.ne, s.own, fun b h => ⟨Nat.lt_of_lt_of_le (s.far b h).1 hb.size, (s.far b h).2⟩⟩
theorem SysV.keep {W V : World} {S P : Nat} {X : Nat → Prop} {f : Pages} {L : List Ru} {m : Nat → Nat} {v : Value} (s : SysV W S P X f L m v) {q : Nat → Prop} (hb : Keep q W V) (hq : ∀ k, k < W.heap.size → q k → X k) : SysV V S P X f L m v :=
  ⟨s.box.keep hb (fun h => (s.far S (hq S s.box.lt h)).2.1 rfl), s.pg.keep hb (fun h => (s.far P (hq P s.pg.lt h)).2.2 rfl), by
    rcases s.ru with h | ⟨g, off, cap, hv, h1, h2, hc⟩
    · exact .inl h
    · refine .inr ⟨g, off, cap, hv, h1, h2, fun j x hx => ?_⟩
      have h7 := hc j x hx
      have hg : g < W.heap.size := World.block_lt_of_cell? _ _ h7.1
      have e : ∀ o, V.cell? ⟨g, o, none⟩ = W.cell? ⟨g, o, none⟩ := fun o => World.cell?_of_block (w := W) (hb.block g hg (fun hqg => (s.own g (by rw [hv]; rfl)).2.2 (hq g hg hqg)))
      rw [e, e, e, e]; exact h7, s.ne, s.own, fun b h => ⟨Nat.lt_of_lt_of_le (s.far b h).1 hb.size, (s.far b h).2⟩⟩
theorem Sys.later {W V : World} {S P : Nat} {X : Nat → Prop} {f : Pages} {L : List Ru} {m : Nat → Nat} (s : Sys W S P X f L m) (hb : Below W.heap.size W V) : Sys V S P X f L m := by obtain ⟨v, s⟩ := s; exact ⟨v, s.later hb⟩
theorem Sys.keep {W V : World} {S P : Nat} {X : Nat → Prop} {f : Pages} {L : List Ru} {m : Nat → Nat} (s : Sys W S P X f L m) {q : Nat → Prop} (hb : Keep q W V) (hq : ∀ k, k < W.heap.size → q k → X k) : Sys V S P X f L m := by obtain ⟨v, s⟩ := s; exact ⟨v, s.keep hb hq⟩
/-- What a call of the system may write. -/
abbrev SP (S P : Nat) : Nat → Prop := fun k => k = S ∨ k = P
/-- New pages, the rest as it was. -/
theorem SysV.pages {W V : World} {S P : Nat} {X : Nat → Prop} {f g : Pages} {L : List Ru} {m : Nat → Nat} {v : Value} (s : SysV W S P X f L m v) (hb : Keep (· = P) W V) (hp : PgAt V P g) : SysV V S P X g L m v :=
  ⟨s.box.keep hb s.ne, hp, s.ru.keep hb (fun b h => (s.own b (obk_own h)).2.1), s.ne, s.own, fun b h => ⟨Nat.lt_of_lt_of_le (s.far b h).1 hb.size, (s.far b h).2⟩⟩
theorem sy_i : (Try.prog.info? 45).map (·.size) = some 15 := by kernel_rfl
def Sm (m : Nat → Nat) : Prop := ∀ k, k < 7 → m k < 49708
theorem Sm.fit {m : Nat → Nat} (h : Sm m) : ∀ k, k < 7 → ci m k ≤ 49708 ∨ 1000000 < ci m k := fun k hk => .inl (by unfold ci; have := h k hk; omega)

set_option maxRecDepth 100000 in
set_option maxHeartbeats 4000000 in
theorem refused_is (S P : Nat) (X : Nat → Prop) (f : Pages) (L : List Ru) (hL : OkL L) (m : Nat → Nat) (hm : Sm m) (kd : Nat) (hkd : kd < 7) (w : World) (hs : Sys w S P X f L m) :
    Calls Try.prog 101 #[.pointer (some ⟨S, 0, none⟩), .int .i64 (kd : Int)] w fun e w' => e = .returned (.bool (refP L kd (m kd + 1))) ∧ Sys w' S P X f L (updN m kd (m kd + 1)) ∧ Keep (· = S) w w' := by
  obtain ⟨v, hs⟩ := hs
  have hrg := hs.box.range
  have HN := Lib.hid (Next_ok v L hL (ci m) (ci (hf L m)) hm.fit (csF_hf L m fun k hk => by have := hm k hk; omega) kd (m kd) hkd rfl (hm kd hkd) w hs.ru)
  have hst := st_i v (ci m) (ci (hf L m))
  go_enter Try.func101, Try.ntmps101
  go_wp2_with (refine wpList_load_mid rfl 45 _ rfl S 1 rfl (stA v (ci m) (ci (hf L m))).toList _ hrg Try.underlying45 rfl sy_i ?_)
  refine HN.out.mono ?_
  rintro e w1 ⟨u, rfl, h1, hfr, B1⟩
  rw [ci_upd, nxH_hf]
  obtain ⟨W2, hW2⟩ : ∃ x, w1.alloc (.cells #[.slice none 0 0, .int .i64 0, .int .i64 0, .int .i64 0, .int .i64 0, .int .i64 0, .int .i64 0, .int .i64 0, .int .i64 0, .int .i64 0, .int .i64 0, .int .i64 0, .int .i64 0, .int .i64 0, .int .i64 0] 45) = x := ⟨_, rfl⟩
  have hb2 : Below w1.heap.size w1 W2 := by rw [← hW2]; exact (Below.refl _ _).alloc (Nat.le_refl _) _
  have sN : SBox W2 w1.heap.size (.slice none 0 0) zer zer := by rw [← hW2]; exact SBox.new w1 (.slice none 0 0) zer zer
  have hB2 := B1.trans (hb2.mono B1.size)
  have s2 := hs.later hB2
  have h2 := h1.later hb2
  have hu1 := h1.one
  have sM := sN.row u (ci (updN m kd (m kd + 1))) (ci (hf L (updN m kd (m kd + 1))))
  have hB3 := below_row hB2 w1.heap.size B1.size (stA u (ci (updN m kd (m kd + 1))) (ci (hf L (updN m kd (m kd + 1)))))
  have hneS : S ≠ w1.heap.size := by have := hs.box.lt; have := B1.size; omega
  have s3 : SyBox (W2.setRow w1.heap.size (stA u (ci (updN m kd (m kd + 1))) (ci (hf L (updN m kd (m kd + 1)))))) S P v (ci m) (ci (hf L m)) := (setRow_other W2 _ S _ hneS).trans s2.box
  have htS := s3.there
  have hone : (stA u (ci (updN m kd (m kd + 1))) (ci (hf L (updN m kd (m kd + 1))))).all (·.oneCell') = true := stA_one u hu1 _ _
  go_wp2_with (first | rw [hW2] | refine wpList_store_row rfl 45 _ _ rfl w1.heap.size (stA u (ci (updN m kd (m kd + 1))) (ci (hf L (updN m kd (m kd + 1))))) rfl rfl 45 _ sN (st_i _ _ _) rfl hone ?_ | refine wpList_load_row rfl 45 _ rfl w1.heap.size rfl 45 _ (0, 0) _ sM Try.underlying45 rfl (st_i _ _ _) ?_ | refine wpList_store_mid rfl 45 _ _ rfl S 1 (stA u (ci (updN m kd (m kd + 1))) (ci (hf L (updN m kd (m kd + 1))))) rfl rfl htS (st_i _ _ _) hone ?_)
  go_ret
  have hK : Keep (· = S) w ((W2.setRow w1.heap.size (stA u (ci (updN m kd (m kd + 1))) (ci (hf L (updN m kd (m kd + 1)))))).setCells S 1 (stA u (ci (updN m kd (m kd + 1))) (ci (hf L (updN m kd (m kd + 1))))).toList) := Keep.setCells (q := (· = S)) S (.inl rfl) _ _ _ (Keep.of_below hB3)
  refine ⟨rfl, ⟨u, s3.put u _ _, hs.pg.keep hK (fun e => hs.ne e.symm), ?_, hs.ne, fun b hb => ?_, fun b hb => ⟨Nat.lt_of_lt_of_le (hs.far b hb).1 hK.size, (hs.far b hb).2⟩⟩, hK⟩
  · rcases h2 with h2 | ⟨g, off, cap, hg, h5, h6, hc⟩
    · exact .inl h2
    · refine .inr ⟨g, off, cap, hg, h5, h6, fun j x hx => ?_⟩
      have h7 := hc j x hx
      have hf7 := hfr g (by rw [hg]; rfl)
      have hgS : g ≠ S := by have := hs.box.lt; omega
      have e : ∀ o, ((W2.setRow w1.heap.size (stA u (ci (updN m kd (m kd + 1))) (ci (hf L (updN m kd (m kd + 1)))))).setCells S 1 (stA u (ci (updN m kd (m kd + 1))) (ci (hf L (updN m kd (m kd + 1))))).toList).cell? ⟨g, o, none⟩ = W2.cell? ⟨g, o, none⟩ := fun o => World.cell?_of_block (w := W2) ((heap_setCells_other _ _ _ _ _ hgS).trans (setRow_other W2 _ g _ (by omega)))
      rw [e, e, e, e]; exact h7
  · have h8 := hfr b hb
    exact ⟨by have := hs.box.lt; omega, by have := hs.pg.lt; omega, fun hX => by have := (hs.far b hX).1; omega⟩

/-- A call: its kind, what it says of a page, what it makes of it. -/
structure Cl where
  kd : Nat
  chk : Pg → Int
  chg : Pg → Pg
/-- What a call leaves. -/
def doA (C : Cl) (f : Pages) (L : List Ru) (m : Nat → Nat) (a n : Nat) : Int × Pages × (Nat → Nat) :=
  if posE C.chk f (List.range' a n) ≠ 0 then (posE C.chk f (List.range' a n), f, m)
  else if refP L C.kd (m C.kd + 1) then (60, f, updN m C.kd (m C.kd + 1))
  else (0, chgF C.chg f (List.range' a n), updN m C.kd (m C.kd + 1))
/-- A value is a call, from a world on. -/
def CallV (w : World) (S P : Nat) (cv : Value) (C : Cl) : Prop :=
  ∃ (cf gf : Nat) (clb glb : Array Value), cv = .agg #[.int .i64 (C.kd : Int), .func (.func cf) #[] clb, .func (.func gf) #[] glb] ∧
    (∀ args w, (callFunc cf args).run Try.prog w = .ok (.enter cf args) w) ∧ (∀ args w, (callFunc gf args).run Try.prog w = .ok (.enter gf args) w) ∧
    (∀ V f, Keep (SP S P) w V → PgAt V P f → ∀ j, j < 1024 → Calls Try.prog cf (#[.pointer (some ⟨P, j * 66, none⟩)] ++ clb) V fun e V' => e = .returned (.int .i64 (C.chk (f j))) ∧ Below V.heap.size V V') ∧
    (∀ V f, Keep (SP S P) w V → PgAt V P f → ∀ j, j < 1024 → Calls Try.prog gf (#[.pointer (some ⟨P, j * 66, none⟩)] ++ glb) V fun e V' => e = .returned (.tuple #[]) ∧ Chg V P (updP f j (C.chg (f j))) V')
theorem CallV.later {w V : World} {S P : Nat} {cv : Value} {C : Cl} (h : CallV w S P cv C) (hk : Keep (SP S P) w V) : CallV V S P cv C := by
  obtain ⟨cf, gf, clb, glb, h1, h2, h3, h4, h5⟩ := h
  exact ⟨cf, gf, clb, glb, h1, h2, h3, fun U f hU => h4 U f (hk.trans hU), fun U f hU => h5 U f (hk.trans hU)⟩
set_option maxRecDepth 100000 in
set_option maxHeartbeats 4000000 in
theorem do_is (S P : Nat) (X : Nat → Prop) (f : Pages) (L : List Ru) (hL : OkL L) (m : Nat → Nat) (hm : Sm m) (C : Cl) (hk7 : C.kd < 7) (cv : Value) (a n : Nat) (han : a + n ≤ 1024) (w : World) (hs : Sys w S P X f L m) (hC : CallV w S P cv C) :
    Calls Try.prog 89 #[.pointer (some ⟨S, 0, none⟩), cv, .int .i64 (a : Int), .int .i64 (n : Int)] w fun e w' => e = .returned (.int .i64 (doA C f L m a n).1) ∧ Sys w' S P X (doA C f L m a n).2.1 L (doA C f L m a n).2.2 ∧ Keep (SP S P) w w' := by
  obtain ⟨v, hs0⟩ := hs
  have hs1 := hs0
  obtain ⟨cf, gf, clb, glb, rfl, ecf, egf, hcf, hgf⟩ := hC
  obtain ⟨W1, hW1⟩ : ∃ x, w.alloc (.cells #[.int .i64 (C.kd : Int), .func (.func cf) #[] clb, .func (.func gf) #[] glb] 120) = x := ⟨_, rfl⟩
  have hb1 : Below w.heap.size w W1 := by rw [← hW1]; exact (Below.refl _ _).alloc (Nat.le_refl _) _
  have bC : CBox W1 w.heap.size C.kd (.func (.func cf) #[] clb) (.func (.func gf) #[] glb) := by rw [← hW1]; exact World.alloc_heap_new w _
  have s1 := hs0.later hb1
  have HP := Lib.hid (possible_is cf clb ecf C.chk (.func (.func gf) #[] glb) C.kd S P a n han f v _ _ W1 s1.box fun V hV j hj => hcf V f (Keep.of_below (hb1.trans (hV.mono hb1.size))) (s1.pg.later hV) j hj)
  obtain ⟨r, hr⟩ : ∃ r, posE C.chk f (List.range' a n) = r := ⟨_, rfl⟩
  obtain ⟨R, hR⟩ : ∃ R, doA C f L m a n = R := ⟨_, rfl⟩
  have hR2 := hR
  unfold doA at hR2
  rw [hr] at HP hR2
  rw [hR]
  clear hR
  have c0 := bC.c0
  have hWl := bC.lt
  by_cases h0 : r = 0
  · subst h0
    rw [if_neg (by simp)] at hR2
    obtain ⟨b, hb⟩ : ∃ b, refP L C.kd (m C.kd + 1) = b := ⟨_, rfl⟩
    have HBt := Lib.hid hb
    rw [hb] at hR2
    clear hr hb
    have HR2 := Lib.hid hR2
    clear hR2
    go_enter Try.func89, Try.ntmps89
    go_wp2_with (refine wpList_load_row rfl 120 _ rfl w.heap.size rfl 120 _ (0, 0) _ bC Try.underlying120 rfl (call_i _ rfl) ?_)
    try rw [hW1]
    refine HP.out.mono ?_
    rintro e w1 ⟨rfl, B1⟩
    have bC2 := bC.later B1
    have c0 := bC2.c0
    have hB1 := hb1.trans (B1.mono hb1.size)
    have s2 := hs0.later hB1
    clear hW1
    go_wp2_with fail
    refine (refused_is S P X f L hL m hm C.kd hk7 w1 ⟨v, s2⟩).mono ?_
    rintro e w2 ⟨rfl, hs3, K2⟩
    rw [HBt.out]
    have hSl := hs0.box.lt
    have hPl := hs0.pg.lt
    have bC3 : CBox w2 w.heap.size C.kd (.func (.func cf) #[] clb) (.func (.func gf) #[] glb) := (K2.block _ bC2.lt (by omega)).trans bC2
    have K12 : Keep (SP S P) w w2 := (Keep.of_below hB1).trans (K2.mono fun k _ h => .inl h)
    cases b
    · obtain ⟨v3, s3⟩ := hs3
      have HG := Lib.hid (change_is gf glb egf C.chg (.func (.func cf) #[] clb) C.kd S P a n hs0.ne han f v3 _ _ w2 s3.box s3.pg fun V f' hV hKV j hj => hgf V f' (K12.trans (hKV.mono fun k _ h => .inr h)) hV j hj)
      go_wp2_with (refine wpList_load_row rfl 120 _ rfl w.heap.size rfl 120 _ (0, 0) _ bC3 Try.underlying120 rfl (call_i _ rfl) ?_)
      refine HG.out.mono ?_
      rintro e w3 ⟨rfl, hp3, K3⟩
      go_wp2_with fail
      go_ret
      rw [← HR2.out]
      exact ⟨rfl, ⟨v3, s3.pages K3 hp3⟩, K12.trans (K3.mono fun k _ h => .inr h)⟩
    · go_wp2_with fail
      go_ret
      rw [← HR2.out]
      exact ⟨rfl, hs3, K12⟩
  · rw [if_pos h0] at hR2
    subst hR2
    have hq : (r != 0) = true := by simpa using h0
    clear hr h0
    go_enter Try.func89, Try.ntmps89
    go_wp2_with (refine wpList_load_row rfl 120 _ rfl w.heap.size rfl 120 _ (0, 0) _ bC Try.underlying120 rfl (call_i _ rfl) ?_)
    try rw [hW1]
    refine HP.out.mono ?_
    rintro e w1 ⟨rfl, B1⟩
    have hB1 := hb1.trans (B1.mono hb1.size)
    clear hW1
    go_wp2_with fail
    go_ret
    exact ⟨rfl, ⟨v, hs0.later hB1⟩, Keep.of_below hB1⟩
end Go.Proofs.Ytnmeeddhagmjdaa
