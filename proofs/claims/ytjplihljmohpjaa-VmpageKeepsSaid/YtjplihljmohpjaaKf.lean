/- The calls of a system. -/
import Derived.Deep.RegionHeld3
import Derived.Test.YtjplihljmohpjaaKe
import Derived.Test.YtjplihljmohpjaaKc
/- A system: it counts its calls, and does them. -/
namespace Go.Proofs.Ytjplihljmohpjaa
open Go.RowKit Go.Shelf
attribute [local go_sem] Oper.semAt_some

def ci (f : Nat → Nat) : Nat → Int := fun k => (f k : Int)
def updN (f : Nat → Nat) (k x : Nat) : Nat → Nat := fun j => if j = k then x else f j
def hf (L : List Ru) (f : Nat → Nat) : Nat → Nat := fun k => hitN L k (f k)
theorem updN_same (f : Nat → Nat) (k x : Nat) : updN f k x k = x := by unfold updN; rw [if_pos rfl]
theorem ci_upd (f : Nat → Nat) (k x : Nat) : upd (ci f) k (x : Nat) = ci (updN f k x) := by
  funext j; unfold upd ci updN; split <;> rfl
theorem nxH_hf (L : List Ru) (f : Nat → Nat) (k : Nat) : nxH L (ci (hf L f)) k (f k) = ci (hf L (updN f k (f k + 1))) := by
  funext j
  unfold nxH
  by_cases hj : j = k
  · subst hj
    have e : ci (hf L (updN f j (f j + 1))) j = ((hitN L j (f j) + if refP L j (f j + 1) then 1 else 0 : Nat) : Int) := by
      unfold ci hf; rw [updN_same, hitN_succ]
    rw [e]
    cases hr : refP L j (f j + 1)
    · simp [ci, hf]
    · simp [upd, ci, hf]
  · have e : ci (hf L (updN f k (f k + 1))) j = ci (hf L f) j := by unfold ci hf updN; rw [if_neg hj]
    rw [e]
    split
    · unfold upd; rw [if_neg hj]
    · rfl
theorem csF_hf (L : List Ru) (f : Nat → Nat) (h : ∀ k, k < 7 → f k ≤ 1000000) : csF L (ci f) (ci (hf L f)) = 0 := csF_all fun k hk => by
  have := h k hk
  unfold okS ci hf
  simp; omega
theorem RAt.set {W : World} {a : Addr} {u : Value} {l : List RlI} (r : RAt W u l) (q : Value) (hn : u.ownBlock ≠ some a.block) : RAt (W.setCell a q) u l := by
  rcases r with h | ⟨g, off, cap, rfl, h1, h2, hc⟩
  · exact .inl h
  · have hg : g ≠ a.block := fun e => hn (by simp [Value.ownBlock, e])
    refine .inr ⟨g, off, cap, rfl, h1, h2, fun j x hx => ?_⟩
    have := hc j x hx
    have e : ∀ o, (W.setCell a q).cell? ⟨g, o, none⟩ = W.cell? ⟨g, o, none⟩ := fun o => World.cell?_of_block (w := W) (Below.heap_setCell _ _ _ _ hg)
    rw [e, e, e, e]; exact this
theorem boxed_set {W : World} {b : Nat} {t : TypeId} {v : Value} (s : Boxed W b t v) {a : Addr} (ha : b ≠ a.block) (u : Value) : Boxed (W.setCell a u) b t v := (Below.heap_setCell _ _ _ _ ha).trans s
theorem boxed_row {W : World} {b : Nat} {t : TypeId} {v : Value} (s : Boxed W b t v) {g : Nat} (hg : b ≠ g) (cs : Array Value) : Boxed (W.setRow g cs) b t v := (setRow_other W g b cs hg).trans s

theorem RAt.row2 {W : World} {b : Nat} {u : Value} {l : List RlI} (r : RAt W u l) (cs : Array Value) (hn : l = [] ∨ u.ownBlock ≠ some b) : RAt (W.setRow b cs) u l := by
  rcases hn with rfl | hn
  · rcases r with h | ⟨g, off, cap, hg, h1, h2, _⟩
    · exact .inl h
    · exact .inr ⟨g, off, cap, hg, h1, h2, fun j x hx => by simp at hx⟩
  · exact r.row cs hn
theorem RAt.one {W : World} {u : Value} {l : List RlI} (r : RAt W u l) : u.oneCell' = true := by obtain ⟨a, c, rfl⟩ := r.form; rfl
theorem csF_ok {L : List Ru} {c h : Nat → Int} (hf : csF L c h = 0) (k : Nat) (hk : k < 7) : okS L c h k = true := by
  cases ho : okS L c h k with
  | true => rfl
  | false => rw [csF_cut hk ho] at hf; cases hf

theorem RAt.keep {W V : World} {u : Value} {l : List RlI} {q : Nat → Prop} (r : RAt W u l) (hb : Keep q W V) (hq : ∀ b, obk u = some b → ¬ q b) : RAt V u l := by
  rcases r with h | ⟨g, off, cap, rfl, h1, h2, hc⟩
  · exact .inl h
  · refine .inr ⟨g, off, cap, rfl, h1, h2, fun j x hx => ?_⟩
    have h7 := hc j x hx
    have hg : g < W.heap.size := World.block_lt_of_cell? _ _ h7.1
    have hob : obk (.slice (some ⟨g, off, none⟩) l.length cap) = some g := by
      have hj := (List.getElem?_eq_some_iff.1 hx).1
      obtain ⟨c, rfl⟩ : ∃ c, cap = c + 1 := ⟨cap - 1, by omega⟩
      rfl
    have e : ∀ o, V.cell? ⟨g, o, none⟩ = W.cell? ⟨g, o, none⟩ := fun o => World.cell?_of_block (w := W) (hb.block g hg (hq g hob))
    rw [e, e, e, e]; exact h7
/-- A system: its pages, its rules, how many calls were counted. What lies in X is no part of it. -/
structure SysV (W : World) (S P : Nat) (X : Nat → Prop) (f : Pages) (L : List Ru) (m : Nat → Nat) (v : Value) : Prop where
  box : SyBox W S P v (ci m) (ci (hf L m))
  pg : PgAt W P f
  ru : RAt W v (toI L)
  ne : S ≠ P
  own : ∀ b, v.ownBlock = some b → b ≠ S ∧ b ≠ P ∧ ¬ X b
  far : ∀ b, X b → b < W.heap.size ∧ b ≠ S ∧ b ≠ P
def Sys (W : World) (S P : Nat) (X : Nat → Prop) (f : Pages) (L : List Ru) (m : Nat → Nat) : Prop := ∃ v, SysV W S P X f L m v
theorem SysV.later {W V : World} {S P : Nat} {X : Nat → Prop} {f : Pages} {L : List Ru} {m : Nat → Nat} {v : Value} (s : SysV W S P X f L m v) (hb : Below W.heap.size W V) : SysV V S P X f L m v :=
  ⟨s.box.later hb, s.pg.later hb, s.ru.later hb, s.ne, s.own, fun b h => ⟨Nat.lt_of_lt_of_le (s.far b h).1 hb.size, (s.far b h).2⟩⟩
theorem SysV.keep {W V : World} {S P : Nat} {X : Nat → Prop} {f : Pages} {L : List Ru} {m : Nat → Nat} {v : Value} (s : SysV W S P X f L m v) {q : Nat → Prop} (hb : Keep q W V) (hq : ∀ k, k < W.heap.size → q k → X k) : SysV V S P X f L m v :=
  ⟨s.box.keep hb (fun h => (s.far S (hq S s.box.lt h)).2.1 rfl), s.pg.keep hb (fun h => (s.far P (hq P s.pg.lt h)).2.2 rfl), by
    rcases s.ru with h | ⟨g, off, cap, hv, h1, h2, hc⟩
    · exact .inl h
    · refine .inr ⟨g, off, cap, hv, h1, h2, fun j x hx => ?_⟩
      have h7 := hc j x hx
      have hg : g < W.heap.size := World.block_lt_of_cell? _ _ h7.1
      have e : ∀ o, V.cell? ⟨g, o, none⟩ = W.cell? ⟨g, o, none⟩ := fun o => World.cell?_of_block (w := W) (hb.block g hg (fun hqg => (s.own g (by rw [hv]; rfl)).2.2 (hq g hg hqg)))
      rw [e, e, e, e]; exact h7, s.ne, s.own, fun b h => ⟨Nat.lt_of_lt_of_le (s.far b h).1 hb.size, (s.far b h).2⟩⟩
theorem Sys.later {W V : World} {S P : Nat} {X : Nat → Prop} {f : Pages} {L : List Ru} {m : Nat → Nat} (s : Sys W S P X f L m) (hb : Below W.heap.size W V) : Sys V S P X f L m := by obtain ⟨v, s⟩ := s; exact ⟨v, s.later hb⟩
theorem Sys.keep {W V : World} {S P : Nat} {X : Nat → Prop} {f : Pages} {L : List Ru} {m : Nat → Nat} (s : Sys W S P X f L m) {q : Nat → Prop} (hb : Keep q W V) (hq : ∀ k, k < W.heap.size → q k → X k) : Sys V S P X f L m := by obtain ⟨v, s⟩ := s; exact ⟨v, s.keep hb hq⟩
/-- What a call of the system may write. -/
abbrev SP (S P : Nat) : Nat → Prop := fun k => k = S ∨ k = P
/-- New pages, the rest as it was. -/
theorem SysV.pages {W V : World} {S P : Nat} {X : Nat → Prop} {f g : Pages} {L : List Ru} {m : Nat → Nat} {v : Value} (s : SysV W S P X f L m v) (hb : Keep (· = P) W V) (hp : PgAt V P g) : SysV V S P X g L m v :=
  ⟨s.box.keep hb s.ne, hp, s.ru.keep hb (fun b h => (s.own b (obk_own h)).2.1), s.ne, s.own, fun b h => ⟨Nat.lt_of_lt_of_le (s.far b h).1 hb.size, (s.far b h).2⟩⟩
theorem sy_i : (Try.prog.info? 45).map (·.size) = some 15 := by kernel_rfl
def Sm (m : Nat → Nat) : Prop := ∀ k, k < 7 → m k < 49708
theorem Sm.fit {m : Nat → Nat} (h : Sm m) : ∀ k, k < 7 → ci m k ≤ 49708 ∨ 1000000 < ci m k := fun k hk => .inl (by unfold ci; have := h k hk; omega)

set_option maxRecDepth 100000 in
set_option maxHeartbeats 4000000 in
theorem refused_is (S P : Nat) (X : Nat → Prop) (f : Pages) (L : List Ru) (hL : OkL L) (m : Nat → Nat) (hm : Sm m) (kd : Nat) (hkd : kd < 7) (w : World) (hs : Sys w S P X f L m) :
    Calls Try.prog 101 #[.pointer (some ⟨S, 0, none⟩), .int .i64 (kd : Int)] w fun e w' => e = .returned (.bool (refP L kd (m kd + 1))) ∧ Sys w' S P X f L (updN m kd (m kd + 1)) ∧ Keep (· = S) w w' := by
  obtain ⟨v, hs⟩ := hs
  have hrg := hs.box.range
  have HN := Lib.hid (Next_ok v L hL (ci m) (ci (hf L m)) hm.fit (csF_hf L m fun k hk => by have := hm k hk; omega) kd (m kd) hkd rfl (hm kd hkd) w hs.ru)
  have hst := st_i v (ci m) (ci (hf L m))
  go_enter Try.func101, Try.ntmps101
  go_wp2_with (refine wpList_load_mid rfl 45 _ rfl S 1 rfl (stA v (ci m) (ci (hf L m))).toList _ hrg Try.underlying45 rfl sy_i ?_)
  refine HN.out.mono ?_
  rintro e w1 ⟨u, rfl, h1, hfr, B1⟩
  rw [ci_upd, nxH_hf]
  obtain ⟨W2, hW2⟩ : ∃ x, w1.alloc (.cells #[.slice none 0 0, .int .i64 0, .int .i64 0, .int .i64 0, .int .i64 0, .int .i64 0, .int .i64 0, .int .i64 0, .int .i64 0, .int .i64 0, .int .i64 0, .int .i64 0, .int .i64 0, .int .i64 0, .int .i64 0] 45) = x := ⟨_, rfl⟩
  have hb2 : Below w1.heap.size w1 W2 := by rw [← hW2]; exact (Below.refl _ _).alloc (Nat.le_refl _) _
  have sN : SBox W2 w1.heap.size (.slice none 0 0) zer zer := by rw [← hW2]; exact SBox.new w1 (.slice none 0 0) zer zer
  have hB2 := B1.trans (hb2.mono B1.size)
  have s2 := hs.later hB2
  have h2 := h1.later hb2
  have hu1 := h1.one
  have sM := sN.row u (ci (updN m kd (m kd + 1))) (ci (hf L (updN m kd (m kd + 1))))
  have hB3 := below_row hB2 w1.heap.size B1.size (stA u (ci (updN m kd (m kd + 1))) (ci (hf L (updN m kd (m kd + 1)))))
  have hneS : S ≠ w1.heap.size := by have := hs.box.lt; have := B1.size; omega
  have s3 : SyBox (W2.setRow w1.heap.size (stA u (ci (updN m kd (m kd + 1))) (ci (hf L (updN m kd (m kd + 1)))))) S P v (ci m) (ci (hf L m)) := (setRow_other W2 _ S _ hneS).trans s2.box
  have htS := s3.there
  have hone : (stA u (ci (updN m kd (m kd + 1))) (ci (hf L (updN m kd (m kd + 1))))).all (·.oneCell') = true := stA_one u hu1 _ _
  go_wp2_with (first | rw [hW2] | refine wpList_store_row rfl 45 _ _ rfl w1.heap.size (stA u (ci (updN m kd (m kd + 1))) (ci (hf L (updN m kd (m kd + 1))))) rfl rfl 45 _ sN (st_i _ _ _) rfl hone ?_ | refine wpList_load_row rfl 45 _ rfl w1.heap.size rfl 45 _ (0, 0) _ sM Try.underlying45 rfl (st_i _ _ _) ?_ | refine wpList_store_mid rfl 45 _ _ rfl S 1 (stA u (ci (updN m kd (m kd + 1))) (ci (hf L (updN m kd (m kd + 1))))) rfl rfl htS (st_i _ _ _) hone ?_)
  go_ret
  have hK : Keep (· = S) w ((W2.setRow w1.heap.size (stA u (ci (updN m kd (m kd + 1))) (ci (hf L (updN m kd (m kd + 1)))))).setCells S 1 (stA u (ci (updN m kd (m kd + 1))) (ci (hf L (updN m kd (m kd + 1))))).toList) := Keep.setCells (q := (· = S)) S (.inl rfl) _ _ _ (Keep.of_below hB3)
  refine ⟨rfl, ⟨u, s3.put u _ _, hs.pg.keep hK (fun e => hs.ne e.symm), ?_, hs.ne, fun b hb => ?_, fun b hb => ⟨Nat.lt_of_lt_of_le (hs.far b hb).1 hK.size, (hs.far b hb).2⟩⟩, hK⟩
  · rcases h2 with h2 | ⟨g, off, cap, hg, h5, h6, hc⟩
    · exact .inl h2
    · refine .inr ⟨g, off, cap, hg, h5, h6, fun j x hx => ?_⟩
      have h7 := hc j x hx
      have hf7 := hfr g (by rw [hg]; rfl)
      have hgS : g ≠ S := by have := hs.box.lt; omega
      have e : ∀ o, ((W2.setRow w1.heap.size (stA u (ci (updN m kd (m kd + 1))) (ci (hf L (updN m kd (m kd + 1)))))).setCells S 1 (stA u (ci (updN m kd (m kd + 1))) (ci (hf L (updN m kd (m kd + 1))))).toList).cell? ⟨g, o, none⟩ = W2.cell? ⟨g, o, none⟩ := fun o => World.cell?_of_block (w := W2) ((heap_setCells_other _ _ _ _ _ hgS).trans (setRow_other W2 _ g _ (by omega)))
      rw [e, e, e, e]; exact h7
  · have h8 := hfr b hb
    exact ⟨by have := hs.box.lt; omega, by have := hs.pg.lt; omega, fun hX => by have := (hs.far b hX).1; omega⟩

/-- A call: its kind, what it says of a page, what it makes of it. -/
structure Cl where
  kd : Nat
  chk : Pg → Int
  chg : Pg → Pg
/-- What a call leaves. -/
def doA (C : Cl) (f : Pages) (L : List Ru) (m : Nat → Nat) (a n : Nat) : Int × Pages × (Nat → Nat) :=
  if posE C.chk f (List.range' a n) ≠ 0 then (posE C.chk f (List.range' a n), f, m)
  else if refP L C.kd (m C.kd + 1) then (60, f, updN m C.kd (m C.kd + 1))
  else (0, chgF C.chg f (List.range' a n), updN m C.kd (m C.kd + 1))
/-- A value is a call, from a world on. -/
def CallV (w : World) (S P : Nat) (cv : Value) (C : Cl) : Prop :=
  ∃ (cf gf : Nat) (clb glb : Array Value), cv = .agg #[.int .i64 (C.kd : Int), .func (.func cf) #[] clb, .func (.func gf) #[] glb] ∧
    (∀ args w, (callFunc cf args).run Try.prog w = .ok (.enter cf args) w) ∧ (∀ args w, (callFunc gf args).run Try.prog w = .ok (.enter gf args) w) ∧
    (∀ V f, Keep (SP S P) w V → PgAt V P f → ∀ j, j < 1024 → Calls Try.prog cf (#[.pointer (some ⟨P, j * 66, none⟩)] ++ clb) V fun e V' => e = .returned (.int .i64 (C.chk (f j))) ∧ Below V.heap.size V V') ∧
    (∀ V f, Keep (SP S P) w V → PgAt V P f → ∀ j, j < 1024 → Calls Try.prog gf (#[.pointer (some ⟨P, j * 66, none⟩)] ++ glb) V fun e V' => e = .returned (.tuple #[]) ∧ Chg V P (updP f j (C.chg (f j))) V')
theorem CallV.later {w V : World} {S P : Nat} {cv : Value} {C : Cl} (h : CallV w S P cv C) (hk : Keep (SP S P) w V) : CallV V S P cv C := by
  obtain ⟨cf, gf, clb, glb, h1, h2, h3, h4, h5⟩ := h
  exact ⟨cf, gf, clb, glb, h1, h2, h3, fun U f hU => h4 U f (hk.trans hU), fun U f hU => h5 U f (hk.trans hU)⟩
set_option maxRecDepth 100000 in
set_option maxHeartbeats 4000000 in
theorem do_is (S P : Nat) (X : Nat → Prop) (f : Pages) (L : List Ru) (hL : OkL L) (m : Nat → Nat) (hm : Sm m) (C : Cl) (hk7 : C.kd < 7) (cv : Value) (a n : Nat) (han : a + n ≤ 1024) (w : World) (hs : Sys w S P X f L m) (hC : CallV w S P cv C) :
    Calls Try.prog 89 #[.pointer (some ⟨S, 0, none⟩), cv, .int .i64 (a : Int), .int .i64 (n : Int)] w fun e w' => e = .returned (.int .i64 (doA C f L m a n).1) ∧ Sys w' S P X (doA C f L m a n).2.1 L (doA C f L m a n).2.2 ∧ Keep (SP S P) w w' := by
  obtain ⟨v, hs0⟩ := hs
  have hs1 := hs0
  obtain ⟨cf, gf, clb, glb, rfl, ecf, egf, hcf, hgf⟩ := hC
  obtain ⟨W1, hW1⟩ : ∃ x, w.alloc (.cells #[.int .i64 (C.kd : Int), .func (.func cf) #[] clb, .func (.func gf) #[] glb] 120) = x := ⟨_, rfl⟩
  have hb1 : Below w.heap.size w W1 := by rw [← hW1]; exact (Below.refl _ _).alloc (Nat.le_refl _) _
  have bC : CBox W1 w.heap.size C.kd (.func (.func cf) #[] clb) (.func (.func gf) #[] glb) := by rw [← hW1]; exact World.alloc_heap_new w _
  have s1 := hs0.later hb1
  have HP := Lib.hid (possible_is cf clb ecf C.chk (.func (.func gf) #[] glb) C.kd S P a n han f v _ _ W1 s1.box fun V hV j hj => hcf V f (Keep.of_below (hb1.trans (hV.mono hb1.size))) (s1.pg.later hV) j hj)
  obtain ⟨r, hr⟩ : ∃ r, posE C.chk f (List.range' a n) = r := ⟨_, rfl⟩
  obtain ⟨R, hR⟩ : ∃ R, doA C f L m a n = R := ⟨_, rfl⟩
  have hR2 := hR
  unfold doA at hR2
  rw [hr] at HP hR2
  rw [hR]
  clear hR
  have c0 := bC.c0
  have hWl := bC.lt
  by_cases h0 : r = 0
  · subst h0
    rw [if_neg (by simp)] at hR2
    obtain ⟨b, hb⟩ : ∃ b, refP L C.kd (m C.kd + 1) = b := ⟨_, rfl⟩
    have HBt := Lib.hid hb
    rw [hb] at hR2
    clear hr hb
    have HR2 := Lib.hid hR2
    clear hR2
    go_enter Try.func89, Try.ntmps89
    go_wp2_with (refine wpList_load_row rfl 120 _ rfl w.heap.size rfl 120 _ (0, 0) _ bC Try.underlying120 rfl (call_i _ rfl) ?_)
    try rw [hW1]
    refine HP.out.mono ?_
    rintro e w1 ⟨rfl, B1⟩
    have bC2 := bC.later B1
    have c0 := bC2.c0
    have hB1 := hb1.trans (B1.mono hb1.size)
    have s2 := hs0.later hB1
    clear hW1
    go_wp2_with fail
    refine (refused_is S P X f L hL m hm C.kd hk7 w1 ⟨v, s2⟩).mono ?_
    rintro e w2 ⟨rfl, hs3, K2⟩
    rw [HBt.out]
    have hSl := hs0.box.lt
    have hPl := hs0.pg.lt
    have bC3 : CBox w2 w.heap.size C.kd (.func (.func cf) #[] clb) (.func (.func gf) #[] glb) := (K2.block _ bC2.lt (by omega)).trans bC2
    have K12 : Keep (SP S P) w w2 := (Keep.of_below hB1).trans (K2.mono fun k _ h => .inl h)
    cases b
    · obtain ⟨v3, s3⟩ := hs3
      have HG := Lib.hid (change_is gf glb egf C.chg (.func (.func cf) #[] clb) C.kd S P a n hs0.ne han f v3 _ _ w2 s3.box s3.pg fun V f' hV hKV j hj => hgf V f' (K12.trans (hKV.mono fun k _ h => .inr h)) hV j hj)
      go_wp2_with (refine wpList_load_row rfl 120 _ rfl w.heap.size rfl 120 _ (0, 0) _ bC3 Try.underlying120 rfl (call_i _ rfl) ?_)
      refine HG.out.mono ?_
      rintro e w3 ⟨rfl, hp3, K3⟩
      go_wp2_with fail
      go_ret
      rw [← HR2.out]
      exact ⟨rfl, ⟨v3, s3.pages K3 hp3⟩, K12.trans (K3.mono fun k _ h => .inr h)⟩
    · go_wp2_with fail
      go_ret
      rw [← HR2.out]
      exact ⟨rfl, hs3, K12⟩
  · rw [if_pos h0] at hR2
    subst hR2
    have hq : (r != 0) = true := by simpa using h0
    clear hr h0
    go_enter Try.func89, Try.ntmps89
    go_wp2_with (refine wpList_load_row rfl 120 _ rfl w.heap.size rfl 120 _ (0, 0) _ bC Try.underlying120 rfl (call_i _ rfl) ?_)
    try rw [hW1]
    refine HP.out.mono ?_
    rintro e w1 ⟨rfl, B1⟩
    have hB1 := hb1.trans (B1.mono hb1.size)
    clear hW1
    go_wp2_with fail
    go_ret
    exact ⟨rfl, ⟨v, hs0.later hB1⟩, Keep.of_below hB1⟩
end Go.Proofs.Ytjplihljmohpjaa

/- The calls of a system. -/
namespace Go.Proofs.Ytjplihljmohpjaa
open Go.RowKit Go.Shelf
attribute [local go_sem] Oper.semAt_some

abbrev cTurn (k : Nat) (x y : Int) : Cl := ⟨k, chkT x, chgT y⟩
abbrev cJoin : Cl := ⟨5, chkJ, chgJ⟩
abbrev cSplit : Cl := ⟨6, chkS, chgS⟩
theorem boxed_keep {W V : World} {b : Nat} {t : TypeId} {v : Value} {q : Nat → Prop} (s : Boxed W b t v) (hb : Keep q W V) (hq : ¬ q b) : Boxed V b t v := (hb.block b s.lt hq).trans s
theorem callv_turn (S P k : Nat) (x y : Int) (b1 b2 : Nat) (w : World) (h1 : Boxed w b1 3 (.int .i64 x)) (h2 : Boxed w b2 3 (.int .i64 y)) (n1 : ¬ SP S P b1) (n2 : ¬ SP S P b2) : CallV w S P (turnV k b1 b2) (cTurn k x y) :=
  ⟨90, 91, _, _, rfl, enters_of Try.func90 (by kernel_rfl) rfl, enters_of Try.func91 (by kernel_rfl) rfl,
    fun V f hK hp j hj => turn1_is x b1 P f j hj V (boxed_keep h1 hK n1) hp _ rfl, fun V f hK hp j hj => turn2_is y b2 P f j hj V (boxed_keep h2 hK n2) hp⟩
theorem callv_join (S P : Nat) (w : World) : CallV w S P joinV cJoin :=
  ⟨98, 99, _, _, rfl, enters_of Try.func98 (by kernel_rfl) rfl, enters_of Try.func99 (by kernel_rfl) rfl,
    fun V f _ hp j hj => join1_is P f j hj V hp _ rfl, fun V f _ hp j hj => join2_is P f j hj V hp⟩
theorem callv_split (S P : Nat) (w : World) : CallV w S P splitV cSplit :=
  ⟨93, 94, _, _, rfl, enters_of Try.func93 (by kernel_rfl) rfl, enters_of Try.func94 (by kernel_rfl) rfl,
    fun V f _ hp j hj => split1_is P f j hj V hp _ rfl, fun V f _ hp j hj => split2_is P f j hj V hp⟩
/-- What a call for pages leaves; for a group. -/
def opP (C : Cl) (f : Pages) (L : List Ru) (m : Nat → Nat) (a n : Int) : Int × Pages × (Nat → Nat) := if areB a n = true then doA C f L m a.toNat n.toNat else (7, f, m)
def opG (C : Cl) (f : Pages) (L : List Ru) (m : Nat → Nat) (a : Int) : Int × Pages × (Nat → Nat) := if grpB a = true then doA C f L m a.toNat 16 else (7, f, m)
theorem grpB_nat {a : Int} (h : grpB a = true) : ∃ x : Nat, a = (x : Int) ∧ x + 16 ≤ 1024 ∧ x % 16 = 0 := by
  unfold grpB at h
  rw [Bool.and_eq_true] at h
  obtain ⟨x, y, rfl, _, h2, h3⟩ := areB_nat h.1
  have h4 : ((x : Nat) : Int).tmod 16 = 0 := by simpa using h.2
  rw [Int.tmod_eq_emod_of_nonneg (by omega)] at h4
  exact ⟨x, rfl, by omega, by omega⟩
/-- A call of the system leaves R. -/
abbrev Left (S P : Nat) (X : Nat → Prop) (L : List Ru) (w : World) (R : Int × Pages × (Nat → Nat)) (e : Ending) (w' : World) : Prop := e = .returned (.int .i64 R.1) ∧ Sys w' S P X R.2.1 L R.2.2 ∧ Keep (SP S P) w w'

theorem box_call (w : World) (k : Int) (fc fg : Value) : ∃ W, w.alloc (.cells #[.int .i64 k, fc, fg] 120) = W ∧ Below w.heap.size w W ∧ CBox W w.heap.size k fc fg := ⟨_, rfl, (Below.refl _ _).alloc (Nat.le_refl _) _, World.alloc_heap_new w _⟩
set_option maxRecDepth 100000 in
set_option maxHeartbeats 2000000 in
theorem onPages_is (S P : Nat) (X : Nat → Prop) (f : Pages) (L : List Ru) (hL : OkL L) (m : Nat → Nat) (hm : Sm m) (C : Cl) (hk7 : C.kd < 7) (cv : Value) (a n : Int) (ha : I64 a) (w : World) (hs : Sys w S P X f L m) (hC : CallV w S P cv C) :
    Calls Try.prog 68 #[.pointer (some ⟨S, 0, none⟩), cv, .int .i64 a, .int .i64 n] w (Left S P X L w (opP C f L m a n)) := by
  have hC0 := hC
  obtain ⟨cf, gf, clb, glb, hcv, _, _, _, _⟩ := hC
  obtain ⟨W1, hW1, hb1, bC⟩ := box_call w C.kd (.func (.func cf) #[] clb) (.func (.func gf) #[] glb)
  have hs1 := hs.later hb1
  have hC1 := hC0.later (Keep.of_below hb1)
  obtain ⟨R, hR⟩ : ∃ R, opP C f L m a n = R := ⟨_, rfl⟩
  have hR2 := hR
  rw [hR]
  clear hR
  unfold opP at hR2
  obtain ⟨b, hb⟩ : ∃ b, areB a n = b := ⟨_, rfl⟩
  have HA := Lib.hid (arePages_is a n ha b hb)
  rw [hb] at hR2
  have HR := Lib.hid hR2
  obtain ⟨vS, sV⟩ := hs1
  have HM := Lib.hid (made_yes S P vS _ _ W1 sV.box)
  cases b
  · rw [if_neg (by simp)] at hR2
    subst hR2
    clear hb
    subst hcv
    go_enter Try.func68, Try.ntmps68
    go_wp2_with fail
    try rw [hW1]
    refine HM.out.mono ?_
    rintro e w' ⟨rfl, rfl⟩
    go_wp2_with fail
    refine (HA.out _).mono ?_
    rintro e w' ⟨rfl, rfl⟩
    go_wp2_with fail
    go_ret
    exact ⟨rfl, ⟨vS, sV⟩, Keep.of_below hb1⟩
  · obtain ⟨x, y, rfl, rfl, h1, h2⟩ := areB_nat hb
    have HD := Lib.hid (do_is S P X f L hL m hm C hk7 cv x y h2 W1 ⟨vS, sV⟩ hC1)
    rw [hcv] at HD
    subst hcv
    clear hb hR2
    go_enter Try.func68, Try.ntmps68
    go_wp2_with fail
    try rw [hW1]
    refine HM.out.mono ?_
    rintro e w' ⟨rfl, rfl⟩
    go_wp2_with fail
    refine (HA.out _).mono ?_
    rintro e w' ⟨rfl, rfl⟩
    go_wp2_with (refine wpList_load_row rfl 120 _ rfl w.heap.size rfl 120 _ (0, 0) _ bC Try.underlying120 rfl (call_i _ rfl) ?_)
    refine HD.out.mono ?_
    rintro e w2 ⟨rfl, h5, h6⟩
    go_wp2_with fail
    go_ret
    rw [← HR.out]
    exact ⟨rfl, h5, (Keep.of_below hb1).trans h6⟩
set_option maxRecDepth 100000 in
set_option maxHeartbeats 2000000 in
theorem onGroup_is (S P : Nat) (X : Nat → Prop) (f : Pages) (L : List Ru) (hL : OkL L) (m : Nat → Nat) (hm : Sm m) (C : Cl) (hk7 : C.kd < 7) (cv : Value) (a : Int) (ha : I64 a) (w : World) (hs : Sys w S P X f L m) (hC : CallV w S P cv C) :
    Calls Try.prog 73 #[.pointer (some ⟨S, 0, none⟩), cv, .int .i64 a] w (Left S P X L w (opG C f L m a)) := by
  have hC0 := hC
  obtain ⟨cf, gf, clb, glb, hcv, _, _, _, _⟩ := hC
  obtain ⟨W1, hW1, hb1, bC⟩ := box_call w C.kd (.func (.func cf) #[] clb) (.func (.func gf) #[] glb)
  have hs1 := hs.later hb1
  have hC1 := hC0.later (Keep.of_below hb1)
  obtain ⟨R, hR⟩ : ∃ R, opG C f L m a = R := ⟨_, rfl⟩
  have hR2 := hR
  rw [hR]
  clear hR
  unfold opG at hR2
  obtain ⟨b, hb⟩ : ∃ b, grpB a = b := ⟨_, rfl⟩
  have HA := Lib.hid (isGroup_is a ha b hb)
  rw [hb] at hR2
  have HR := Lib.hid hR2
  obtain ⟨vS, sV⟩ := hs1
  have HM := Lib.hid (made_yes S P vS _ _ W1 sV.box)
  cases b
  · rw [if_neg (by simp)] at hR2
    subst hR2
    clear hb
    subst hcv
    go_enter Try.func73, Try.ntmps73
    go_wp2_with fail
    try rw [hW1]
    refine HM.out.mono ?_
    rintro e w' ⟨rfl, rfl⟩
    go_wp2_with fail
    refine (HA.out _).mono ?_
    rintro e w' ⟨rfl, rfl⟩
    go_wp2_with fail
    go_ret
    exact ⟨rfl, ⟨vS, sV⟩, Keep.of_below hb1⟩
  · obtain ⟨x, rfl, h2, _⟩ := grpB_nat hb
    have HD := Lib.hid (do_is S P X f L hL m hm C hk7 cv x 16 h2 W1 ⟨vS, sV⟩ hC1)
    rw [hcv] at HD
    subst hcv
    clear hb hR2
    go_enter Try.func73, Try.ntmps73
    go_wp2_with fail
    try rw [hW1]
    refine HM.out.mono ?_
    rintro e w' ⟨rfl, rfl⟩
    go_wp2_with fail
    refine (HA.out _).mono ?_
    rintro e w' ⟨rfl, rfl⟩
    go_wp2_with (refine wpList_load_row rfl 120 _ rfl w.heap.size rfl 120 _ (0, 0) _ bC Try.underlying120 rfl (call_i _ rfl) ?_)
    refine HD.out.mono ?_
    rintro e w2 ⟨rfl, h5, h6⟩
    go_wp2_with fail
    go_ret
    rw [← HR.out]
    exact ⟨rfl, h5, (Keep.of_below hb1).trans h6⟩
/-- Of a system that was not made. -/
abbrev NilE (w : World) (e : Ending) (w' : World) : Prop := e = .returned (.int .i64 1) ∧ Below w.heap.size w w'
set_option maxRecDepth 100000 in
theorem onPages_no (s : Value) (k : Int) (fc fg : Value) (a n : Int) (w : World) (hs : Unmade w s) :
    Calls Try.prog 68 #[s, .agg #[.int .i64 k, fc, fg], .int .i64 a, .int .i64 n] w (NilE w) := by
  obtain ⟨W1, hW1, hb1, bC⟩ := box_call w k fc fg
  have HM := Lib.hid (made_no s W1 (hs.later hb1))
  clear hs
  go_enter Try.func68, Try.ntmps68
  go_wp2_with fail
  try rw [hW1]
  refine HM.out.mono ?_
  rintro e w' ⟨rfl, rfl⟩
  go_wp2_with fail
  go_ret
  exact ⟨rfl, hb1⟩
set_option maxRecDepth 100000 in
theorem onGroup_no (s : Value) (k : Int) (fc fg : Value) (a : Int) (w : World) (hs : Unmade w s) :
    Calls Try.prog 73 #[s, .agg #[.int .i64 k, fc, fg], .int .i64 a] w (NilE w) := by
  obtain ⟨W1, hW1, hb1, bC⟩ := box_call w k fc fg
  have HM := Lib.hid (made_no s W1 (hs.later hb1))
  clear hs
  go_enter Try.func73, Try.ntmps73
  go_wp2_with fail
  try rw [hW1]
  refine HM.out.mono ?_
  rintro e w' ⟨rfl, rfl⟩
  go_wp2_with fail
  go_ret
  exact ⟨rfl, hb1⟩
set_option maxRecDepth 100000 in
theorem Reserve_is (S P : Nat) (X : Nat → Prop) (f : Pages) (L : List Ru) (hL : OkL L) (m : Nat → Nat) (hm : Sm m) (a n : Int) (ha : I64 a) (w : World) (hs : Sys w S P X f L m) :
    Calls Try.prog 36 #[.pointer (some ⟨S, 0, none⟩), .int .i64 a, .int .i64 n] w (Left S P X L w (opP (cTurn 0 0 1) f L m a n)) := by
  have hSP : ∀ k, SP S P k → k < w.heap.size := by
    obtain ⟨v, s⟩ := hs
    rintro k (rfl | rfl)
    · exact s.box.lt
    · exact s.pg.lt
  go_enter Try.func36, Try.ntmps36
  go_wp2_with fail
  refine (turn_is 0 0 1 w).mono ?_
  rintro e w1 ⟨rfl, b1, b2, B1⟩
  go_wp2_with fail
  refine (onPages_is S P X f L hL m hm (cTurn 0 0 1) (by decide) _ a n ha w1 (hs.later B1) (callv_turn S P 0 0 1 _ _ w1 b1 b2 (fun h => by have := hSP _ h; omega) (fun h => by have := hSP _ h; omega))).mono ?_
  rintro e w2 ⟨rfl, h2, h3⟩
  go_wp2_with fail
  go_ret
  exact ⟨rfl, h2, (Keep.of_below B1).trans h3⟩
set_option maxRecDepth 100000 in
theorem Reserve_no (s : Value) (a n : Int) (w : World) (hs : Unmade w s) :
    Calls Try.prog 36 #[s, .int .i64 a, .int .i64 n] w (NilE w) := by
  have HS := Lib.hid hs
  clear hs
  go_enter Try.func36, Try.ntmps36
  go_wp2_with fail
  refine (turn_is 0 0 1 w).mono ?_
  rintro e w1 ⟨rfl, b1, b2, B1⟩
  go_wp2_with fail
  refine (onPages_no s 0 _ _ a n w1 (HS.out.later B1)).mono ?_
  rintro e w2 ⟨rfl, B2⟩
  go_wp2_with fail
  go_ret
  exact ⟨rfl, B1.trans (B2.mono B1.size)⟩
end Go.Proofs.Ytjplihljmohpjaa

/- The other calls of a system. -/
namespace Go.Proofs.Ytjplihljmohpjaa
open Go.RowKit Go.Shelf
attribute [local go_sem] Oper.semAt_some

set_option maxRecDepth 100000 in
theorem Release_is (S P : Nat) (X : Nat → Prop) (f : Pages) (L : List Ru) (hL : OkL L) (m : Nat → Nat) (hm : Sm m) (a n : Int) (ha : I64 a) (w : World) (hs : Sys w S P X f L m) :
    Calls Try.prog 34 #[.pointer (some ⟨S, 0, none⟩), .int .i64 a, .int .i64 n] w (Left S P X L w (opP (cTurn 1 1 0) f L m a n)) := by
  have hSP : ∀ k, SP S P k → k < w.heap.size := by
    obtain ⟨v, s⟩ := hs
    rintro k (rfl | rfl)
    · exact s.box.lt
    · exact s.pg.lt
  go_enter Try.func34, Try.ntmps34
  go_wp2_with fail
  refine (turn_is 1 1 0 w).mono ?_
  rintro e w1 ⟨rfl, b1, b2, B1⟩
  go_wp2_with fail
  refine (onPages_is S P X f L hL m hm (cTurn 1 1 0) (by decide) _ a n ha w1 (hs.later B1) (callv_turn S P 1 1 0 _ _ w1 b1 b2 (fun h => by have := hSP _ h; omega) (fun h => by have := hSP _ h; omega))).mono ?_
  rintro e w2 ⟨rfl, h2, h3⟩
  go_wp2_with fail
  go_ret
  exact ⟨rfl, h2, (Keep.of_below B1).trans h3⟩
set_option maxRecDepth 100000 in
theorem Release_no (s : Value) (a n : Int) (w : World) (hs : Unmade w s) :
    Calls Try.prog 34 #[s, .int .i64 a, .int .i64 n] w (NilE w) := by
  have HS := Lib.hid hs
  clear hs
  go_enter Try.func34, Try.ntmps34
  go_wp2_with fail
  refine (turn_is 1 1 0 w).mono ?_
  rintro e w1 ⟨rfl, b1, b2, B1⟩
  go_wp2_with fail
  refine (onPages_no s 1 _ _ a n w1 (HS.out.later B1)).mono ?_
  rintro e w2 ⟨rfl, B2⟩
  go_wp2_with fail
  go_ret
  exact ⟨rfl, B1.trans (B2.mono B1.size)⟩
set_option maxRecDepth 100000 in
theorem Commit_is (S P : Nat) (X : Nat → Prop) (f : Pages) (L : List Ru) (hL : OkL L) (m : Nat → Nat) (hm : Sm m) (a n : Int) (ha : I64 a) (w : World) (hs : Sys w S P X f L m) :
    Calls Try.prog 28 #[.pointer (some ⟨S, 0, none⟩), .int .i64 a, .int .i64 n] w (Left S P X L w (opP (cTurn 2 1 2) f L m a n)) := by
  have hSP : ∀ k, SP S P k → k < w.heap.size := by
    obtain ⟨v, s⟩ := hs
    rintro k (rfl | rfl)
    · exact s.box.lt
    · exact s.pg.lt
  go_enter Try.func28, Try.ntmps28
  go_wp2_with fail
  refine (turn_is 2 1 2 w).mono ?_
  rintro e w1 ⟨rfl, b1, b2, B1⟩
  go_wp2_with fail
  refine (onPages_is S P X f L hL m hm (cTurn 2 1 2) (by decide) _ a n ha w1 (hs.later B1) (callv_turn S P 2 1 2 _ _ w1 b1 b2 (fun h => by have := hSP _ h; omega) (fun h => by have := hSP _ h; omega))).mono ?_
  rintro e w2 ⟨rfl, h2, h3⟩
  go_wp2_with fail
  go_ret
  exact ⟨rfl, h2, (Keep.of_below B1).trans h3⟩
set_option maxRecDepth 100000 in
theorem Commit_no (s : Value) (a n : Int) (w : World) (hs : Unmade w s) :
    Calls Try.prog 28 #[s, .int .i64 a, .int .i64 n] w (NilE w) := by
  have HS := Lib.hid hs
  clear hs
  go_enter Try.func28, Try.ntmps28
  go_wp2_with fail
  refine (turn_is 2 1 2 w).mono ?_
  rintro e w1 ⟨rfl, b1, b2, B1⟩
  go_wp2_with fail
  refine (onPages_no s 2 _ _ a n w1 (HS.out.later B1)).mono ?_
  rintro e w2 ⟨rfl, B2⟩
  go_wp2_with fail
  go_ret
  exact ⟨rfl, B1.trans (B2.mono B1.size)⟩
set_option maxRecDepth 100000 in
theorem Decommit_is (S P : Nat) (X : Nat → Prop) (f : Pages) (L : List Ru) (hL : OkL L) (m : Nat → Nat) (hm : Sm m) (a n : Int) (ha : I64 a) (w : World) (hs : Sys w S P X f L m) :
    Calls Try.prog 27 #[.pointer (some ⟨S, 0, none⟩), .int .i64 a, .int .i64 n] w (Left S P X L w (opP (cTurn 3 2 1) f L m a n)) := by
  have hSP : ∀ k, SP S P k → k < w.heap.size := by
    obtain ⟨v, s⟩ := hs
    rintro k (rfl | rfl)
    · exact s.box.lt
    · exact s.pg.lt
  go_enter Try.func27, Try.ntmps27
  go_wp2_with fail
  refine (turn_is 3 2 1 w).mono ?_
  rintro e w1 ⟨rfl, b1, b2, B1⟩
  go_wp2_with fail
  refine (onPages_is S P X f L hL m hm (cTurn 3 2 1) (by decide) _ a n ha w1 (hs.later B1) (callv_turn S P 3 2 1 _ _ w1 b1 b2 (fun h => by have := hSP _ h; omega) (fun h => by have := hSP _ h; omega))).mono ?_
  rintro e w2 ⟨rfl, h2, h3⟩
  go_wp2_with fail
  go_ret
  exact ⟨rfl, h2, (Keep.of_below B1).trans h3⟩
set_option maxRecDepth 100000 in
theorem Decommit_no (s : Value) (a n : Int) (w : World) (hs : Unmade w s) :
    Calls Try.prog 27 #[s, .int .i64 a, .int .i64 n] w (NilE w) := by
  have HS := Lib.hid hs
  clear hs
  go_enter Try.func27, Try.ntmps27
  go_wp2_with fail
  refine (turn_is 3 2 1 w).mono ?_
  rintro e w1 ⟨rfl, b1, b2, B1⟩
  go_wp2_with fail
  refine (onPages_no s 3 _ _ a n w1 (HS.out.later B1)).mono ?_
  rintro e w2 ⟨rfl, B2⟩
  go_wp2_with fail
  go_ret
  exact ⟨rfl, B1.trans (B2.mono B1.size)⟩
set_option maxRecDepth 100000 in
theorem Guard_is (S P : Nat) (X : Nat → Prop) (f : Pages) (L : List Ru) (hL : OkL L) (m : Nat → Nat) (hm : Sm m) (a n : Int) (ha : I64 a) (w : World) (hs : Sys w S P X f L m) :
    Calls Try.prog 33 #[.pointer (some ⟨S, 0, none⟩), .int .i64 a, .int .i64 n, .bool true] w (Left S P X L w (opP (cTurn 4 1 3) f L m a n)) := by
  have hSP : ∀ k, SP S P k → k < w.heap.size := by
    obtain ⟨v, s⟩ := hs
    rintro k (rfl | rfl)
    · exact s.box.lt
    · exact s.pg.lt
  go_enter Try.func33, Try.ntmps33
  go_wp2_with fail
  refine (turn_is 4 1 3 w).mono ?_
  rintro e w1 ⟨rfl, b1, b2, B1⟩
  go_wp2_with fail
  refine (onPages_is S P X f L hL m hm (cTurn 4 1 3) (by decide) _ a n ha w1 (hs.later B1) (callv_turn S P 4 1 3 _ _ w1 b1 b2 (fun h => by have := hSP _ h; omega) (fun h => by have := hSP _ h; omega))).mono ?_
  rintro e w2 ⟨rfl, h2, h3⟩
  go_wp2_with fail
  go_ret
  exact ⟨rfl, h2, (Keep.of_below B1).trans h3⟩
set_option maxRecDepth 100000 in
theorem Guard_no (s : Value) (a n : Int) (w : World) (hs : Unmade w s) :
    Calls Try.prog 33 #[s, .int .i64 a, .int .i64 n, .bool true] w (NilE w) := by
  have HS := Lib.hid hs
  clear hs
  go_enter Try.func33, Try.ntmps33
  go_wp2_with fail
  refine (turn_is 4 1 3 w).mono ?_
  rintro e w1 ⟨rfl, b1, b2, B1⟩
  go_wp2_with fail
  refine (onPages_no s 4 _ _ a n w1 (HS.out.later B1)).mono ?_
  rintro e w2 ⟨rfl, B2⟩
  go_wp2_with fail
  go_ret
  exact ⟨rfl, B1.trans (B2.mono B1.size)⟩
set_option maxRecDepth 100000 in
theorem Unguard_is (S P : Nat) (X : Nat → Prop) (f : Pages) (L : List Ru) (hL : OkL L) (m : Nat → Nat) (hm : Sm m) (a n : Int) (ha : I64 a) (w : World) (hs : Sys w S P X f L m) :
    Calls Try.prog 33 #[.pointer (some ⟨S, 0, none⟩), .int .i64 a, .int .i64 n, .bool false] w (Left S P X L w (opP (cTurn 4 3 1) f L m a n)) := by
  have hSP : ∀ k, SP S P k → k < w.heap.size := by
    obtain ⟨v, s⟩ := hs
    rintro k (rfl | rfl)
    · exact s.box.lt
    · exact s.pg.lt
  go_enter Try.func33, Try.ntmps33
  go_wp2_with fail
  refine (turn_is 4 3 1 w).mono ?_
  rintro e w1 ⟨rfl, b1, b2, B1⟩
  go_wp2_with fail
  refine (onPages_is S P X f L hL m hm (cTurn 4 3 1) (by decide) _ a n ha w1 (hs.later B1) (callv_turn S P 4 3 1 _ _ w1 b1 b2 (fun h => by have := hSP _ h; omega) (fun h => by have := hSP _ h; omega))).mono ?_
  rintro e w2 ⟨rfl, h2, h3⟩
  go_wp2_with fail
  go_ret
  exact ⟨rfl, h2, (Keep.of_below B1).trans h3⟩
set_option maxRecDepth 100000 in
theorem Unguard_no (s : Value) (a n : Int) (w : World) (hs : Unmade w s) :
    Calls Try.prog 33 #[s, .int .i64 a, .int .i64 n, .bool false] w (NilE w) := by
  have HS := Lib.hid hs
  clear hs
  go_enter Try.func33, Try.ntmps33
  go_wp2_with fail
  refine (turn_is 4 3 1 w).mono ?_
  rintro e w1 ⟨rfl, b1, b2, B1⟩
  go_wp2_with fail
  refine (onPages_no s 4 _ _ a n w1 (HS.out.later B1)).mono ?_
  rintro e w2 ⟨rfl, B2⟩
  go_wp2_with fail
  go_ret
  exact ⟨rfl, B1.trans (B2.mono B1.size)⟩
set_option maxRecDepth 100000 in
set_option maxHeartbeats 2000000 in
theorem Join_is (S P : Nat) (X : Nat → Prop) (f : Pages) (L : List Ru) (hL : OkL L) (m : Nat → Nat) (hm : Sm m) (a : Int) (ha : I64 a) (w : World) (hs : Sys w S P X f L m) :
    Calls Try.prog 45 #[.pointer (some ⟨S, 0, none⟩), .int .i64 a] w (Left S P X L w (opG cJoin f L m a)) := by
  go_enter Try.func45, Try.ntmps45
  go_wp2_with fail
  refine (join_is w).mono ?_
  rintro e w1 ⟨rfl, B1⟩
  go_wp2_with fail
  refine (onGroup_is S P X f L hL m hm cJoin (by decide) _ a ha w1 (hs.later B1) (callv_join S P w1)).mono ?_
  rintro e w2 ⟨rfl, h2, h3⟩
  go_wp2_with fail
  go_ret
  exact ⟨rfl, h2, (Keep.of_below B1).trans h3⟩
set_option maxRecDepth 100000 in
theorem Join_no (s : Value) (a : Int) (w : World) (hs : Unmade w s) :
    Calls Try.prog 45 #[s, .int .i64 a] w (NilE w) := by
  have HS := Lib.hid hs
  clear hs
  go_enter Try.func45, Try.ntmps45
  go_wp2_with fail
  refine (join_is w).mono ?_
  rintro e w1 ⟨rfl, B1⟩
  go_wp2_with fail
  refine (onGroup_no s 5 _ _ a w1 (HS.out.later B1)).mono ?_
  rintro e w2 ⟨rfl, B2⟩
  go_wp2_with fail
  go_ret
  exact ⟨rfl, B1.trans (B2.mono B1.size)⟩
set_option maxRecDepth 100000 in
set_option maxHeartbeats 2000000 in
theorem Split_is (S P : Nat) (X : Nat → Prop) (f : Pages) (L : List Ru) (hL : OkL L) (m : Nat → Nat) (hm : Sm m) (a : Int) (ha : I64 a) (w : World) (hs : Sys w S P X f L m) :
    Calls Try.prog 32 #[.pointer (some ⟨S, 0, none⟩), .int .i64 a] w (Left S P X L w (opG cSplit f L m a)) := by
  go_enter Try.func32, Try.ntmps32
  go_wp2_with fail
  refine (split_is w).mono ?_
  rintro e w1 ⟨rfl, B1⟩
  go_wp2_with fail
  refine (onGroup_is S P X f L hL m hm cSplit (by decide) _ a ha w1 (hs.later B1) (callv_split S P w1)).mono ?_
  rintro e w2 ⟨rfl, h2, h3⟩
  go_wp2_with fail
  go_ret
  exact ⟨rfl, h2, (Keep.of_below B1).trans h3⟩
set_option maxRecDepth 100000 in
theorem Split_no (s : Value) (a : Int) (w : World) (hs : Unmade w s) :
    Calls Try.prog 32 #[s, .int .i64 a] w (NilE w) := by
  have HS := Lib.hid hs
  clear hs
  go_enter Try.func32, Try.ntmps32
  go_wp2_with fail
  refine (split_is w).mono ?_
  rintro e w1 ⟨rfl, B1⟩
  go_wp2_with fail
  refine (onGroup_no s 6 _ _ a w1 (HS.out.later B1)).mono ?_
  rintro e w2 ⟨rfl, B2⟩
  go_wp2_with fail
  go_ret
  exact ⟨rfl, B1.trans (B2.mono B1.size)⟩
end Go.Proofs.Ytjplihljmohpjaa

/- Bytes, kinds. -/
namespace Go.Proofs.Ytjplihljmohpjaa
open Go.RowKit Go.Shelf
attribute [local go_sem] Oper.semAt_some

set_option maxRecDepth 100000 in
theorem byteAt_no (s : Value) (t : Int) (w : World) (hs : Unmade w s) :
    Calls Try.prog 66 #[s, .int .i64 t] w fun e w' => e = .returned (.tuple #[.pointer none, .int .i64 1]) ∧ w = w' := by
  have HM := Lib.hid (made_no s w hs)
  clear hs
  go_enter Try.func66, Try.ntmps66
  go_wp2_with fail
  refine HM.out.mono ?_
  rintro e w' ⟨rfl, rfl⟩
  go_wp2_with fail
  go_ret2
  exact ⟨rfl, rfl⟩
set_option maxRecDepth 100000 in
theorem byteAt_far (S P : Nat) (v : Value) (c h : Nat → Int) (t : Int) (ht : t < 0 ∨ 65536 ≤ t) (w : World) (hs : SyBox w S P v c h) :
    Calls Try.prog 66 #[.pointer (some ⟨S, 0, none⟩), .int .i64 t] w fun e w' => e = .returned (.tuple #[.pointer none, .int .i64 7]) ∧ w = w' := by
  have HM := Lib.hid (made_yes S P v c h w hs)
  by_cases h0 : t < 0
  · clear ht
    go_enter Try.func66, Try.ntmps66
    go_wp2_with fail
    refine HM.out.mono ?_
    rintro e w' ⟨rfl, rfl⟩
    go_wp2_with fail
    go_ret2
    exact ⟨rfl, rfl⟩
  · have h1 : 65536 ≤ t := by omega
    clear ht
    go_enter Try.func66, Try.ntmps66
    go_wp2_with fail
    refine HM.out.mono ?_
    rintro e w' ⟨rfl, rfl⟩
    go_wp2_with fail
    go_ret2
    exact ⟨rfl, rfl⟩
theorem addr_num (j k : Nat) (hk : k < 64) : ((64 * j + k : Nat) : Int).tdiv 64 = (j : Int) ∧ ((64 * j + k : Nat) : Int).tmod 64 = (k : Int) := by
  rw [Int.tdiv_eq_ediv_of_nonneg (by omega), Int.tmod_eq_emod_of_nonneg (by omega)]
  omega
set_option maxRecDepth 100000 in
set_option maxHeartbeats 1000000 in
theorem byteAt_is (S P : Nat) (v : Value) (c h : Nat → Int) (f : Pages) (j k : Nat) (hj : j < 1024) (hk : k < 64) (w : World) (hs : SyBox w S P v c h) (hp : PgAt w P f) :
    Calls Try.prog 66 #[.pointer (some ⟨S, 0, none⟩), .int .i64 ((64 * j + k : Nat) : Int)] w fun e w' =>
      e = .returned (if (f j).kd = 2 then .tuple #[.pointer (some ⟨P, j * 66 + 2 + k, none⟩), .int .i64 0] else .tuple #[.pointer none, .int .i64 61]) ∧ w = w' := by
  have HM := Lib.hid (made_yes S P v c h w hs)
  have c0 := hs.pages
  have c1 := hp.kd j hj
  obtain ⟨hq1, hq2⟩ := addr_num j k hk
  obtain ⟨t, ht⟩ : ∃ t, ((64 * j + k : Nat) : Int) = t := ⟨_, rfl⟩
  rw [ht] at hq1 hq2 ⊢
  have ht1 : ¬ t < 0 := by omega
  have ht2 : ¬ 65536 ≤ t := by omega
  have hj1 : (j : Int) < 1024 := by omega
  have hk1 : (k : Int) < 64 := by omega
  generalize (f j).kd = x at c1 ⊢
  clear ht
  by_cases hx : x = 2
  · subst hx
    rw [if_pos rfl]
    go_enter Try.func66, Try.ntmps66
    go_wp2_with fail
    refine HM.out.mono ?_
    rintro e w' ⟨rfl, rfl⟩
    go_wp2_with fail
    go_ret2
    exact ⟨rfl, rfl⟩
  · rw [if_neg hx]
    have hx2 : (x != 2) = true := by simpa using hx
    go_enter Try.func66, Try.ntmps66
    go_wp2_with fail
    refine HM.out.mono ?_
    rintro e w' ⟨rfl, rfl⟩
    go_wp2_with fail
    go_ret2
    exact ⟨rfl, rfl⟩
/-- What Read answers. -/
def rdE (f : Pages) (t : Int) : Int × Int := if t < 0 ∨ 65536 ≤ t then (0, 7) else if (f (t.toNat / 64)).kd = 2 then ((f (t.toNat / 64)).by' (t.toNat % 64), 0) else (0, 61)
/-- What Write leaves. -/
def wrF (f : Pages) (t : Int) (b : Int) : Pages := if t < 0 ∨ 65536 ≤ t then f else if (f (t.toNat / 64)).kd = 2 then updP f (t.toNat / 64) { f (t.toNat / 64) with by' := fun k => if k = t.toNat % 64 then b else (f (t.toNat / 64)).by' k } else f
theorem addr_split {t : Int} (h : ¬ (t < 0 ∨ 65536 ≤ t)) : ∃ j k : Nat, t = ((64 * j + k : Nat) : Int) ∧ j < 1024 ∧ k < 64 ∧ t.toNat / 64 = j ∧ t.toNat % 64 = k := ⟨t.toNat / 64, t.toNat % 64, by omega, by omega, by omega, rfl, rfl⟩
set_option maxRecDepth 100000 in
theorem Read_no (s : Value) (t : Int) (w : World) (hs : Unmade w s) :
    Calls Try.prog 35 #[s, .int .i64 t] w fun e w' => e = .returned (.tuple #[.int .u8 0, .int .i64 1]) ∧ w = w' := by
  have HM := Lib.hid (byteAt_no s t w hs)
  clear hs
  go_enter Try.func35, Try.ntmps35
  go_wp2_with fail
  refine HM.out.mono ?_
  rintro e w' ⟨rfl, rfl⟩
  go_wp2_with fail
  go_ret2
  exact ⟨rfl, rfl⟩
set_option maxRecDepth 100000 in
theorem Read_is (S P : Nat) (v : Value) (c h : Nat → Int) (f : Pages) (t : Int) (w : World) (hs : SyBox w S P v c h) (hp : PgAt w P f) (r : Int × Int) (hr : rdE f t = r) :
    Calls Try.prog 35 #[.pointer (some ⟨S, 0, none⟩), .int .i64 t] w fun e w' => e = .returned (.tuple #[.int .u8 r.1, .int .i64 r.2]) ∧ w = w' := by
  unfold rdE at hr
  by_cases h0 : t < 0 ∨ 65536 ≤ t
  · rw [if_pos h0] at hr
    subst hr
    have HM := Lib.hid (byteAt_far S P v c h t h0 w hs)
    clear h0
    go_enter Try.func35, Try.ntmps35
    go_wp2_with fail
    refine HM.out.mono ?_
    rintro e w' ⟨rfl, rfl⟩
    go_wp2_with fail
    go_ret2
    exact ⟨rfl, rfl⟩
  · rw [if_neg h0] at hr
    obtain ⟨j, k, rfl, hj, hk, e1, e2⟩ := addr_split h0
    rw [e1, e2] at hr
    have HM := Lib.hid (byteAt_is S P v c h f j k hj hk w hs hp)
    have c2 := hp.byt j hj k hk
    clear h0 e1 e2
    obtain ⟨t, ht⟩ : ∃ t, 64 * j + k = t := ⟨_, rfl⟩
    rw [ht] at HM ⊢
    clear ht
    by_cases hx : (f j).kd = 2
    · rw [if_pos hx] at hr HM
      subst hr
      clear hx
      go_enter Try.func35, Try.ntmps35
      go_wp2_with fail
      refine HM.out.mono ?_
      rintro e w' ⟨rfl, rfl⟩
      go_wp2_with fail
      go_ret2
      exact ⟨rfl, rfl⟩
    · rw [if_neg hx] at hr HM
      subst hr
      clear hx c2
      go_enter Try.func35, Try.ntmps35
      go_wp2_with fail
      refine HM.out.mono ?_
      rintro e w' ⟨rfl, rfl⟩
      go_wp2_with fail
      go_ret2
      exact ⟨rfl, rfl⟩
set_option maxRecDepth 100000 in
theorem Write_no (s : Value) (t b : Int) (w : World) (hs : Unmade w s) :
    Calls Try.prog 25 #[s, .int .i64 t, .int .u8 b] w (NilE w) := by
  have HM := Lib.hid (byteAt_no s t w hs)
  clear hs
  go_enter Try.func25, Try.ntmps25
  go_wp2_with fail
  refine HM.out.mono ?_
  rintro e w' ⟨rfl, rfl⟩
  go_wp2_with fail
  go_ret
  exact ⟨rfl, Below.refl _ _⟩
set_option maxRecDepth 100000 in
theorem Write_is (S P : Nat) (X : Nat → Prop) (f : Pages) (L : List Ru) (m : Nat → Nat) (t b : Int) (w : World) (hs : Sys w S P X f L m) (e : Int) (he : (rdE f t).2 = e) :
    Calls Try.prog 25 #[.pointer (some ⟨S, 0, none⟩), .int .i64 t, .int .u8 b] w fun x w' => x = .returned (.int .i64 e) ∧ Sys w' S P X (wrF f t b) L m ∧ Keep (SP S P) w w' := by
  obtain ⟨v, s⟩ := hs
  have HS := Lib.hid s
  unfold rdE at he
  have HW := Lib.hid (show wrF f t b = wrF f t b from rfl)
  obtain ⟨g, hg⟩ : ∃ g, wrF f t b = g := ⟨_, rfl⟩
  rw [hg]
  unfold wrF at hg
  by_cases h0 : t < 0 ∨ 65536 ≤ t
  · rw [if_pos h0] at he hg
    subst he; subst hg
    have HM := Lib.hid (byteAt_far S P v _ _ t h0 w s.box)
    clear h0
    go_enter Try.func25, Try.ntmps25
    go_wp2_with fail
    refine HM.out.mono ?_
    rintro e w' ⟨rfl, rfl⟩
    go_wp2_with fail
    go_ret
    exact ⟨rfl, ⟨v, HS.out⟩, Keep.refl _ _⟩
  · rw [if_neg h0] at he hg
    obtain ⟨j, k, rfl, hj, hk, e1, e2⟩ := addr_split h0
    rw [e1, e2] at he hg
    have HM := Lib.hid (byteAt_is S P v _ _ f j k hj hk w s.box s.pg)
    have c2 := s.pg.byt j hj k hk
    have c3 := s.pg.frozen (j * 66 + 2 + k)
    clear h0 e1 e2 HW
    obtain ⟨t, ht⟩ : ∃ t, 64 * j + k = t := ⟨_, rfl⟩
    rw [ht] at HM ⊢
    clear ht
    by_cases hx : (f j).kd = 2
    · rw [if_pos hx] at he hg HM
      subst he
      have HG := Lib.hid hg
      clear hx hg
      go_enter Try.func25, Try.ntmps25
      go_wp2_with fail
      refine HM.out.mono ?_
      rintro e w' ⟨rfl, rfl⟩
      go_wp2_with fail
      go_ret
      have hK : Keep (· = P) w (w.setCell ⟨P, j * 66 + 2 + k, none⟩ (.int .u8 b)) := (Keep.refl _ _).setCell _ _ (.inl rfl)
      have h9 := HS.out.pg.setBy j hj k hk b
      rw [HG.out] at h9
      exact ⟨rfl, ⟨v, HS.out.pages hK h9⟩, hK.mono fun _ _ h => .inr h⟩
    · rw [if_neg hx] at he hg HM
      subst he; subst hg
      clear hx c2
      go_enter Try.func25, Try.ntmps25
      go_wp2_with fail
      refine HM.out.mono ?_
      rintro e w' ⟨rfl, rfl⟩
      go_wp2_with fail
      go_ret
      exact ⟨rfl, ⟨v, HS.out⟩, Keep.refl _ _⟩
end Go.Proofs.Ytjplihljmohpjaa

/- Kinds of pages; systems are made. -/
namespace Go.Proofs.Ytjplihljmohpjaa
open Go.RowKit Go.Shelf
attribute [local go_sem] Oper.semAt_some

theorem zeroCells_size : Try.zeroCells104.size = 66 := by kernel_rfl
theorem areB_one {a : Int} (h : areB a 1 = true) : ∃ j : Nat, a = (j : Int) ∧ j < 1024 := by obtain ⟨j, y, h1, h2, h3, h4⟩ := areB_nat h; exact ⟨j, h1, by omega⟩
/-- What Kind answers. -/
def knE (f : Pages) (a : Int) : Int × Bool × Int := if areB a 1 = true then ((f a.toNat).kd, (f a.toNat).hu, 0) else (0, false, 7)
set_option maxRecDepth 100000 in
theorem Kind_no (s : Value) (a : Int) (w : World) (hs : Unmade w s) :
    Calls Try.prog 26 #[s, .int .i64 a] w fun e w' => e = .returned (.tuple #[.int .i64 0, .bool false, .int .i64 1]) ∧ w = w' := by
  have HM := Lib.hid (made_no s w hs)
  clear hs
  go_enter Try.func26, Try.ntmps26
  go_wp2_with fail
  refine HM.out.mono ?_
  rintro e w' ⟨rfl, rfl⟩
  go_wp2_with fail
  go_ret3
  exact ⟨rfl, rfl⟩
set_option maxRecDepth 100000 in
theorem Kind_is (S P : Nat) (v : Value) (c h : Nat → Int) (f : Pages) (a : Int) (ha : I64 a) (w : World) (hs : SyBox w S P v c h) (hp : PgAt w P f) (r : Int × Bool × Int) (hr : knE f a = r) :
    Calls Try.prog 26 #[.pointer (some ⟨S, 0, none⟩), .int .i64 a] w fun e w' => e = .returned (.tuple #[.int .i64 r.1, .bool r.2.1, .int .i64 r.2.2]) ∧ Below w.heap.size w w' := by
  have HM := Lib.hid (made_yes S P v c h w hs)
  unfold knE at hr
  obtain ⟨b, hb⟩ : ∃ b, areB a 1 = b := ⟨_, rfl⟩
  have HA := Lib.hid (arePages_is a 1 ha b hb w)
  rw [hb] at hr
  cases b
  · rw [if_neg (by simp)] at hr
    subst hr
    clear hb
    go_enter Try.func26, Try.ntmps26
    go_wp2_with fail
    refine HM.out.mono ?_
    rintro e w' ⟨rfl, rfl⟩
    go_wp2_with fail
    refine HA.out.mono ?_
    rintro e w' ⟨rfl, rfl⟩
    go_wp2_with fail
    go_ret3
    exact ⟨rfl, Below.refl _ _⟩
  · obtain ⟨j, rfl, hj⟩ := areB_one hb
    rw [if_pos rfl, Int.toNat_natCast] at hr
    have hj1 : (j : Int) < 1024 := by omega
    have c0 := hs.pages
    have hrg := hp.range j hj
    have hR := Lib.hid hr
    obtain ⟨p, hpj⟩ : ∃ p, f j = p := ⟨_, rfl⟩
    rw [hpj] at hrg hR
    have hpi : (Try.prog.info? 104).map (·.size) = some (pgL p).length := by rw [pgL_len]; kernel_rfl
    obtain ⟨W1, hW1⟩ : ∃ x, w.alloc (.cells Try.zeroCells104 104) = x := ⟨_, rfl⟩
    have hb1 : Below w.heap.size w W1 := by rw [← hW1]; exact (Below.refl _ _).alloc (Nat.le_refl _) _
    have hg1 : W1.heap[w.heap.size]? = some (.cells Try.zeroCells104 104 (0, 0)) := by rw [← hW1]; exact World.alloc_heap_new w _
    have hzs : Try.zeroCells104.size = (pgL p).toArray.size := zeroCells_size.trans (by rw [List.size_toArray, pgL_len])
    have hone := all_oneCell_toArray (pgL_one p)
    have hg2 := setRow_heap W1 w.heap.size _ (pgL p).toArray _ _ hg1
    have k0 : (W1.setRow w.heap.size (pgL p).toArray).cell? ⟨w.heap.size, 0, none⟩ = some (.int .i64 p.kd) := by simp only [World.cell?, hg2]; unfold pgL; simp
    have k1 : (W1.setRow w.heap.size (pgL p).toArray).cell? ⟨w.heap.size, 1, none⟩ = some (.bool p.hu) := by simp only [World.cell?, hg2]; unfold pgL; simp
    clear hb hr hpj
    go_enter Try.func26, Try.ntmps26
    go_wp2_with fail
    refine HM.out.mono ?_
    rintro e w' ⟨rfl, rfl⟩
    go_wp2_with fail
    refine HA.out.mono ?_
    rintro e w' ⟨rfl, rfl⟩
    go_wp2_with (first | rw [hW1] | refine wpList_load_mid rfl 104 _ rfl P (j * 66) rfl (pgL p) _ hrg Try.underlying104 rfl hpi ?_ | refine wpList_store_row rfl 104 _ _ rfl w.heap.size (pgL p).toArray rfl rfl 104 _ hg1 (page_i _) hzs hone ?_)
    go_quiet (fail)
    go_wp2_with fail
    go_ret3
    rw [← hR.out]
    exact ⟨rfl, below_drewN (below_row hb1 _ (by omega) _) _⟩
noncomputable def zeroPages : Array Value := madeCells Try.zeroCells104 (1024 * 66)
def freeF : Pages := fun _ => freeP
theorem zeroCells_is : Try.zeroCells104 = (pgL freeP).toArray := by kernel_rfl
theorem zeroPages_row : PgRow zeroPages freeF := by
  have hz := zeroCells_size
  have hat : ∀ i, i < 67584 → zeroPages[i]? = some ((Try.zeroCells104 : Array Value)[i % 66]!) := fun i hi => by
    unfold zeroPages madeCells
    rw [Array.getElem?_map, Array.getElem?_range, if_pos (by omega), hz, Option.map_some]
  have hget : ∀ (i : Nat) (u : Value), (pgL freeP)[i]? = some u → (Try.zeroCells104 : Array Value)[i]! = u := fun i u hu => by
    rw [zeroCells_is, getElem!_def, List.getElem?_toArray, hu]
  refine ⟨by unfold zeroPages; rw [size_madeCells], fun j hj => ⟨?_, ?_, fun k hk => ?_⟩⟩
  · rw [hat _ (by omega), show 66 * j % 66 = 0 by omega, hget 0 (.int .i64 0) (by unfold pgL freeP; rfl)]; rfl
  · rw [hat _ (by omega), show (66 * j + 1) % 66 = 1 by omega, hget 1 (.bool false) (by unfold pgL freeP; rfl)]; rfl
  · rw [hat _ (by omega), show (66 * j + 2 + k) % 66 = 2 + k by omega, hget (2 + k) (.int .u8 0) (by rw [pgL_by _ k hk]; rfl)]; rfl
theorem Try.infoPg : (Try.prog.info? 104).map (fun i => (i.zero, i.size, i.bytes)) = some (some (.agg Try.zeroCells104), 66, 80) := by kernel_rfl
theorem run_make_pages (W : World) : (Instr.makeSlice 77 (.int .i64 1024) (.int .i64 1024)).run Try.prog W = .ok (.slice (some ⟨W.heap.size, 0, none⟩) 1024 1024) (W.alloc (.cells zeroPages 104)) := by
  obtain ⟨i0, hi, hz0, hz1, hz2⟩ := info_parts Try.infoPg
  have hr := run_make (P := Try.prog) W 77 104 i0 _ Try.underlying77 hi hz0 .i64 .i64 1024 1024 (by omega) (Int.le_refl _) (by rw [hz2]; omega) (by omega)
  rw [hz1] at hr
  exact hr
theorem pages_made : ∃ Z : Array Value, (∀ W : World, (Instr.makeSlice 77 (.int .i64 1024) (.int .i64 1024)).run Try.prog W = .ok (.slice (some ⟨W.heap.size, 0, none⟩) 1024 1024) (W.alloc (.cells Z 104))) ∧ PgRow Z freeF := ⟨zeroPages, run_make_pages, zeroPages_row⟩
set_option maxRecDepth 100000 in
set_option maxHeartbeats 2000000 in
theorem unused_is (v : Value) (c h : Nat → Int) (w : World) :
    Calls Try.prog 38 #[stV v c h] w fun e w' => e = .returned (.pointer (some ⟨w.heap.size + 2, 0, none⟩)) ∧ SyBox w' (w.heap.size + 2) (w.heap.size + 1) v c h ∧ PgAt w' (w.heap.size + 1) freeF ∧ Below w.heap.size w w' := by
  obtain ⟨W1, hW1⟩ : ∃ x, w.alloc (.cells (stA v c h) 45) = x := ⟨_, rfl⟩
  have sS : SBox W1 w.heap.size v c h := by rw [← hW1]; exact SBox.new w v c h
  obtain ⟨Z, hmk, hZ⟩ := pages_made
  go_enter Try.func38, Try.ntmps38
  go_wp2_with fail
  try rw [hW1]
  have e0 := sS.cell 0
  have e1 := sS.cell 1
  have e2 := sS.cell 2
  have e3 := sS.cell 3
  have e4 := sS.cell 4
  have e5 := sS.cell 5
  have e6 := sS.cell 6
  have e7 := sS.cell 7
  have e8 := sS.cell 8
  have e9 := sS.cell 9
  have e10 := sS.cell 10
  have e11 := sS.cell 11
  have e12 := sS.cell 12
  have e13 := sS.cell 13
  have e14 := sS.cell 14
  simp only [stA] at e0 e1 e2 e3 e4 e5 e6 e7 e8 e9 e10 e11 e12 e13 e14
  simp at e0 e1 e2 e3 e4 e5 e6 e7 e8 e9 e10 e11 e12 e13 e14
  first | go_region_held3 (fun W => W.cell? ⟨w.heap.size, 0, none⟩ = some v ∧ W.cell? ⟨w.heap.size, 1, none⟩ = some (.int .i64 (c 0)) ∧ W.cell? ⟨w.heap.size, 2, none⟩ = some (.int .i64 (c 1)) ∧ W.cell? ⟨w.heap.size, 3, none⟩ = some (.int .i64 (c 2)) ∧ W.cell? ⟨w.heap.size, 4, none⟩ = some (.int .i64 (c 3)) ∧ W.cell? ⟨w.heap.size, 5, none⟩ = some (.int .i64 (c 4)) ∧ W.cell? ⟨w.heap.size, 6, none⟩ = some (.int .i64 (c 5)) ∧ W.cell? ⟨w.heap.size, 7, none⟩ = some (.int .i64 (c 6)) ∧ W.cell? ⟨w.heap.size, 8, none⟩ = some (.int .i64 (h 0)) ∧ W.cell? ⟨w.heap.size, 9, none⟩ = some (.int .i64 (h 1)) ∧ W.cell? ⟨w.heap.size, 10, none⟩ = some (.int .i64 (h 2)) ∧ W.cell? ⟨w.heap.size, 11, none⟩ = some (.int .i64 (h 3)) ∧ W.cell? ⟨w.heap.size, 12, none⟩ = some (.int .i64 (h 4)) ∧ W.cell? ⟨w.heap.size, 13, none⟩ = some (.int .i64 (h 5)) ∧ W.cell? ⟨w.heap.size, 14, none⟩ = some (.int .i64 (h 6))) (go_keep) (fail) | fail
  all_goals (go_wp2_with fail)
  rename_i hH
  clear hH e0 e1 e2 e3 e4 e5 e6 e7 e8 e9 e10 e11 e12 e13 e14 hmk
  go_ret
  have hz : W1.heap.size = w.heap.size + 1 := by rw [← hW1]; simp
  have hb1 : Below w.heap.size w W1 := by rw [← hW1]; exact (Below.refl _ _).alloc (Nat.le_refl _) _
  have g1 := World.alloc_heap_new (W1.alloc (.cells Z 104)) (.cells (syA W1.heap.size v c h) 79)
  have g2 := (World.alloc_heap_new W1 (.cells Z 104))
  have g3 := (Below.heap_alloc (W1.alloc (.cells Z 104)) (.cells (syA W1.heap.size v c h) 79) W1.heap.size (by simp)).trans g2
  rw [World.size_alloc] at g1
  rw [hz] at g1 g3 ⊢
  refine ⟨rfl, g1, ⟨Z, g3, hZ⟩, ?_⟩
  have hb3 := ((hb1.alloc hb1.size (.cells Z 104)).alloc (by rw [World.size_alloc]; omega) (.cells (syA W1.heap.size v c h) 79))
  rw [hz] at hb3
  exact hb3.trans ⟨rfl, rfl, rfl, Nat.le_refl _, fun _ _ => rfl⟩
theorem ci0 : ci (fun _ => 0) = zer := by funext k; rfl
theorem hf0 (L : List Ru) (hL : OkL L) : ci (hf L fun _ => 0) = zer := by
  funext k
  have := hitN_le L k 0 hL.2
  show ((hitN L k 0 : Nat) : Int) = 0
  omega
set_option maxRecDepth 100000 in
set_option maxHeartbeats 2000000 in
theorem New_bad (v : Value) (l : List RlI) (i : Nat) (c : Int) (hc : chkP l = (i, c)) (h0 : c ≠ 0) (w : World) (h : RAt w v l) :
    Calls Try.prog 13 #[.agg #[v]] w fun e w' => e = .returned (.tuple #[.pointer none, .int .i64 c]) ∧ Below w.heap.size w w' := by
  obtain ⟨W1, hW1⟩ : ∃ x, w.alloc (.cells #[v] 24) = x := ⟨_, rfl⟩
  have hb1 : Below w.heap.size w W1 := by rw [← hW1]; exact (Below.refl _ _).alloc (Nat.le_refl _) _
  have bP : Boxed W1 w.heap.size 24 v := by rw [← hW1]; exact Boxed.new w _ _
  have HS := Lib.hid (Start_bad v l i c hc h0 W1 (h.later hb1))
  have q1 := bP.cell
  have hq : (c != 0) = true := by simpa using h0
  clear hc h0
  go_enter Try.func13, Try.ntmps13
  go_wp2_with fail
  try rw [hW1]
  refine HS.out.mono ?_
  rintro e w1 ⟨rfl, B1⟩
  obtain ⟨W2, hW2⟩ : ∃ x, w1.alloc (.cells #[.slice none 0 0, .int .i64 0, .int .i64 0, .int .i64 0, .int .i64 0, .int .i64 0, .int .i64 0, .int .i64 0, .int .i64 0, .int .i64 0, .int .i64 0, .int .i64 0, .int .i64 0, .int .i64 0, .int .i64 0] 45) = x := ⟨_, rfl⟩
  have hB1 := hb1.trans (B1.mono hb1.size)
  have hb2 : Below w1.heap.size w1 W2 := by rw [← hW2]; exact (Below.refl _ _).alloc (Nat.le_refl _) _
  have sN : SBox W2 w1.heap.size (.slice none 0 0) zer zer := by rw [← hW2]; exact SBox.new w1 (.slice none 0 0) zer zer
  have hB2 := hB1.trans (hb2.mono hB1.size)
  clear hW1
  go_wp2_with (first | rw [hW2] | refine wpList_store_row rfl 45 _ _ rfl w1.heap.size (stA (.slice none 0 0) zer zer) rfl rfl 45 _ sN (st_i _ _ _) rfl (stA_one _ rfl _ _) ?_)
  go_ret2
  exact ⟨rfl, below_row hB2 _ hB1.size _⟩
set_option maxRecDepth 100000 in
set_option maxHeartbeats 2000000 in
theorem New_ok (v : Value) (L : List Ru) (hL : OkL L) (X : Nat → Prop) (w : World) (hX : ∀ b, X b → b < w.heap.size) (h : RAt w v (toI L)) :
    Calls Try.prog 13 #[.agg #[v]] w fun e w' => ∃ S P, e = .returned (.tuple #[.pointer (some ⟨S, 0, none⟩), .int .i64 0]) ∧ w.heap.size ≤ S ∧ w.heap.size ≤ P ∧ Sys w' S P X freeF L (fun _ => 0) ∧ Below w.heap.size w w' := by
  obtain ⟨W1, hW1⟩ : ∃ x, w.alloc (.cells #[v] 24) = x := ⟨_, rfl⟩
  have hb1 : Below w.heap.size w W1 := by rw [← hW1]; exact (Below.refl _ _).alloc (Nat.le_refl _) _
  have bP : Boxed W1 w.heap.size 24 v := by rw [← hW1]; exact Boxed.new w _ _
  have HS := Lib.hid (Start_ok v L hL W1 (h.later hb1))
  have q1 := bP.cell
  go_enter Try.func13, Try.ntmps13
  go_wp2_with fail
  try rw [hW1]
  refine HS.out.mono ?_
  rintro e w1 ⟨u, rfl, hru, hfr, B1⟩
  obtain ⟨W2, hW2⟩ : ∃ x, w1.alloc (.cells #[.slice none 0 0, .int .i64 0, .int .i64 0, .int .i64 0, .int .i64 0, .int .i64 0, .int .i64 0, .int .i64 0, .int .i64 0, .int .i64 0, .int .i64 0, .int .i64 0, .int .i64 0, .int .i64 0, .int .i64 0] 45) = x := ⟨_, rfl⟩
  have hB1 := hb1.trans (B1.mono hb1.size)
  have hb2 : Below w1.heap.size w1 W2 := by rw [← hW2]; exact (Below.refl _ _).alloc (Nat.le_refl _) _
  have sN : SBox W2 w1.heap.size (.slice none 0 0) zer zer := by rw [← hW2]; exact SBox.new w1 (.slice none 0 0) zer zer
  have hB2 := hB1.trans (hb2.mono hB1.size)
  have hu1 := hru.one
  have hr2 := hru.later hb2
  have sM := sN.row u zer zer
  have hlt1 := sN.lt
  clear hW1
  go_wp2_with (first | rw [hW2] | refine wpList_store_row rfl 45 _ _ rfl w1.heap.size (stA u zer zer) rfl rfl 45 _ sN (st_i _ _ _) rfl (stA_one _ hu1 _ _) ?_ | refine wpList_load_row rfl 45 _ rfl w1.heap.size rfl 45 _ (0, 0) _ sM Try.underlying45 rfl (st_i _ _ _) ?_)
  refine (unused_is u zer zer _).mono ?_
  rintro e w3 ⟨rfl, g1, g2, B3⟩
  go_wp2_with fail
  go_ret2
  simp only [setRow_size] at g1 g2 B3 ⊢
  have hB3 : Below w.heap.size w w3 := (below_row hB2 _ hB1.size _).trans (B3.mono hB2.size)
  have hsz := hb2.size
  have hsz2 := hB2.size
  have hru3 : RAt w3 u (toI L) := (hr2.row (b := w1.heap.size) _ (fun e => by have := hfr _ e; omega)).later (by rw [setRow_size]; exact B3)
  refine ⟨_, _, rfl, by omega, by omega, ⟨u, by rw [ci0, hf0 L hL]; exact g1, g2, hru3, by omega, fun b hb => ?_, fun b hb => ?_⟩, hB3⟩
  · have := hfr b hb
    exact ⟨by omega, by omega, fun hx => by have := hX b hx; have := hb1.size; omega⟩
  · have := hX b hb
    exact ⟨Nat.lt_of_lt_of_le this hB3.size, by omega, by omega⟩
end Go.Proofs.Ytjplihljmohpjaa
