/- The bytes of a range of addresses. -/
import Derived.Maps.AppendAt
import Derived.OwnWalk
import Derived.Test.YtjplihljmohpjaaKg
namespace Go.Proofs.Ytjplihljmohpjaa
open Go.RowKit Go.Shelf
attribute [local go_sem] Oper.semAt_some

theorem Try.infoBool : (Try.prog.info? 4).map (fun i => (i.zero, i.size, i.bytes)) = some (some (.bool false), 1, 1) := by kernel_rfl
theorem cell_new1 (w : World) (u : Value) (t : TypeId) : ∀ j x, [u][j]? = some x → (w.alloc (.cells #[u] t)).cell? ((⟨w.heap.size, 0, none⟩ : Addr).add j) = some x := by
  intro j x hj
  cases j with
  | zero => simp at hj; subst hj; simp [Addr.add]
  | succ j => simp at hj
def rdB (f : Pages) (a : Nat) (j : Nat) : Int := (rdE f ((a + j : Nat) : Int)).1
def rdQ (f : Pages) (a : Nat) (j : Nat) : Bool := (rdE f ((a + j : Nat) : Int)).2 != 0
def rdL (f : Pages) (a n : Nat) : List Value := (List.range n).map fun j => .int .u8 (rdB f a j)
def ftL (f : Pages) (a n : Nat) : List Value := (List.range n).map fun j => .bool (rdQ f a j)
theorem rdL_at (f : Pages) (a n k : Nat) (hk : k < n) : (rdL f a n)[k]? = some (.int .u8 (rdB f a k)) := by
  unfold rdL; rw [List.getElem?_map, List.getElem?_range hk]; rfl
theorem ftL_at (f : Pages) (a n k : Nat) (hk : k < n) : (ftL f a n)[k]? = some (.bool (rdQ f a k)) := by
  unfold ftL; rw [List.getElem?_map, List.getElem?_range hk]; rfl
theorem rdL_snoc (f : Pages) (a n : Nat) : rdL f a (n + 1) = rdL f a n ++ [.int .u8 (rdB f a n)] := by unfold rdL; rw [List.range_succ, List.map_append, List.map_singleton]
theorem ftL_snoc (f : Pages) (a n : Nat) : ftL f a (n + 1) = ftL f a n ++ [.bool (rdQ f a n)] := by unfold ftL; rw [List.range_succ, List.map_append, List.map_singleton]
theorem own_at {W : World} {base : Nat} {e : TypeId} {a : Option Addr} {n cap : Nat} {xs : List Value} (h : W.ownsRow base e 1 (.slice a n cap) n xs) (k : Nat) (hk : k < n) (x : Value) (hx : xs[k]? = some x) : ∃ g, a = some ⟨g, 0, none⟩ ∧ W.cell? ⟨g, k, none⟩ = some x := by
  obtain ⟨_, ⟨_, rfl⟩ | ⟨g, cap', cur, hv, _, hg, _, _, _, ht⟩⟩ := h
  · omega
  · cases hv
    refine ⟨g, rfl, ?_⟩
    rw [← ht, Nat.mul_one, List.getElem?_take, if_pos hk] at hx
    simp only [World.cell?, hg]
    simpa using hx
theorem own_shape {W : World} {base : Nat} {e : TypeId} {v : Value} {n : Nat} {xs : List Value} (h : W.ownsRow base e 1 v n xs) : ∃ a c, v = .slice a n c := by
  obtain ⟨_, ⟨rfl, rfl⟩ | ⟨g, cap', cur, hv, _⟩⟩ := h
  · exact ⟨_, _, rfl⟩
  · exact ⟨_, _, hv⟩
/-- Two rows that lie apart. -/
structure Two (W : World) (B n : Nat) (f : Pages) (a : Nat) (u q : Value) : Prop where
  r : W.ownsRow B 5 1 u n (rdL f a n)
  s : W.ownsRow B 4 1 q n (ftL f a n)
  ne : ∀ b, u.ownBlock = some b → q.ownBlock ≠ some b
theorem Two.later {W V : World} {B n : Nat} {f : Pages} {a : Nat} {u q : Value} (h : Two W B n f a u q) (hb : Below W.heap.size W V) : Two V B n f a u q :=
  ⟨h.r.kept (grown_of_below hb) (Classical.em _), h.s.kept (grown_of_below hb) (Classical.em _), h.ne⟩
theorem Two.nil (W : World) (B : Nat) (f : Pages) (a : Nat) : Two W B 0 f a (.slice none 0 0) (.slice none 0 0) := ⟨World.ownsRow_nil _ _ _ _, World.ownsRow_nil _ _ _ _, fun b h => by cases h⟩
theorem ne_of {x : Option Nat} (y : Option Nat) (h : ∀ b, x = some b → y ≠ some b) : y = none ∨ y ≠ x := by
  cases x with
  | none => exact Classical.em _
  | some b => exact .inr (h b rfl)

set_option maxRecDepth 100000 in
set_option maxHeartbeats 4000000 in
theorem bytes_is (S P : Nat) (v : Value) (c h : Nat → Int) (f : Pages) (a n : Nat) (ha : a + n ≤ 65536) (w : World) (hs : SyBox w S P v c h) (hp : PgAt w P f) :
    Calls Try.prog 24 #[.pointer (some ⟨S, 0, none⟩), .int .i64 (a : Int), .int .i64 ((a + n : Nat) : Int)] w fun e w' => ∃ u q, e = .returned (.tuple #[u, q]) ∧ Two w' w.heap.size n f a u q ∧ Below w.heap.size w w' := by
  obtain ⟨i0, hi, hz0, hz1, hz2⟩ := info_parts Try.infoU8
  obtain ⟨j0, hj, hy0, hy1, hy2⟩ := info_parts Try.infoBool
  have Hhi := Lib.hid hi
  have Hz0 := Lib.hid hz0
  have Hz1 := Lib.hid hz1
  have Hz2 := Lib.hid hz2
  have Hhj := Lib.hid hj
  have Hy0 := Lib.hid hy0
  have Hy1 := Lib.hid hy1
  have Hy2 := Lib.hid hy2
  have HSY := Lib.hid hs
  have HPG := Lib.hid hp
  clear hi hz0 hz1 hz2 hj hy0 hy1 hy2 hs hp
  obtain ⟨E, hE⟩ : ∃ E : Int, ((a + n : Nat) : Int) = E := ⟨_, rfl⟩
  have HEE := Lib.hid hE
  rw [hE]
  clear hE
  go_enter Try.func24, Try.ntmps24
  go_wp2_with fail
  go_loopw [8, 9, 10] (fun u q i wr => ∃ (k : Nat) (oa : Option Addr) (oc : Nat) (pa : Option Addr) (pc : Nat), u = .slice oa k oc ∧ q = .slice pa k pc ∧ k ≤ n ∧ i = .int .i64 ((a + k : Nat) : Int) ∧ Hid (Two wr w.heap.size k f a (.slice oa k oc) (.slice pa k pc)) ∧ Below w.heap.size w wr) (fun _ _ i _ => a + n - (intOf i).toNat)
  case atStart => exact ⟨0, _, _, _, _, rfl, rfl, Nat.zero_le _, rfl, Two.nil _ _ _ _, Below.refl _ _⟩
  case round =>
    obtain ⟨k, oa, oc, pa, pc, rfl, rfl, hk, rfl, HT, hB⟩ := hrel
    obtain ⟨z, hz⟩ : ∃ z : Int, ((a + k : Nat) : Int) = z := ⟨_, rfl⟩
    have HZ := Lib.hid hz
    by_cases hlt : k < n
    · have hi1 : z < E := by have := HEE.out; omega
      obtain ⟨r1, hr1⟩ : ∃ r, rdB f a k = r := ⟨_, rfl⟩
      obtain ⟨r2, hr2⟩ : ∃ r : Int, (rdE f z).2 = r := ⟨_, rfl⟩
      have hqk : rdQ f a k = (r2 != 0) := by unfold rdQ; rw [hz, hr2]
      have hrd : rdE f z = (r1, r2) := by rw [← hr1, ← hr2]; unfold rdB; rw [hz]
      have HR := Lib.hid (Read_is S P v c h f z wr (HSY.out.later hB) (HPG.out.later hB) (r1, r2) hrd)
      have HR1 := Lib.hid hr1
      have HQK := Lib.hid hqk
      rw [hz]
      have hz64 : -1 < z ∧ z < 65536 := by omega
      have HT0 := HT.out
      obtain ⟨b, hbq⟩ : ∃ b, (r2 != 0) = b := ⟨_, rfl⟩
      have HBQ := Lib.hid hbq
      clear hz hr1 hr2 hqk hrd
      go_wp2_with fail
      refine HR.out.mono ?_
      rintro e w1 ⟨rfl, rfl⟩
      have T1 := HT0
      have hz1 := hB.size
      have TA := T1.r.alloc (.cells #[.int .u8 r1] 5)
      have HTA := Lib.hid TA
      have HT1 := Lib.hid T1
      clear TA T1 HT0 HR
      go_wp2_with (at_builtin; refine wpList_append_own_at _ rfl _ _ 56 rfl w.heap.size 5 i0 (.int .u8 0) 1 1 Try.underlying56 Hhi.out Hz0.out Hz1.out Hz2.out rfl (by decide) _ _ _ rfl HTA.out ⟨wr.heap.size, 0, none⟩ 1 1 [.int .u8 r1] rfl rfl ?c1 ?c2 ?c3 ?c4 ?c5 ?_)
      case c1 => exact cell_new1 wr _ _
      case c2 => intro u hu; simp at hu; subst hu; rfl
      case c3 => unfold maxLen; omega
      case c4 => omega
      case c5 => simp; omega
      intro v1 w2 hown hgrow _ hlies
      have HV1 := hown
      obtain ⟨va, vc, rfl⟩ := own_shape hown
      have hzw : wr.heap.size + 1 ≤ w2.heap.size := by have := hgrow.size; simpa using this
      have T1 := HT1.out
      have hs2 : w2.ownsRow w.heap.size 4 1 (.slice pa k pc) k (ftL f a k) := (T1.s.alloc (.cells #[.int .u8 r1] 5)).kept hgrow (ne_of _ T1.ne)
      have HTB := Lib.hid (hs2.alloc (.cells #[.bool b] 4))
      have hne1 : ∀ b, (Value.slice va (k + 1) vc).ownBlock = some b → (Value.slice pa k pc).ownBlock ≠ some b := fun b hb hq => by
        rcases hlies with e | e
        · rw [e] at hb; exact T1.ne b hb hq
        · rw [e] at hb
          have h1 := (T1.s.lt b hq).2
          simp at hb
          omega
      have hB2 : Below w.heap.size w w2 := (hB.alloc hB.size (.cells #[.int .u8 r1] 5)).grown hgrow (by simp; omega) (fun j e => (T1.r.lt j e).1)
      have HN1 := Lib.hid hne1
      have HO1 := Lib.hid hown
      have HB2 := Lib.hid hB2
      have hbq := HBQ.out
      clear hlies hgrow hown HV1 hs2 hne1 T1 hB2
      go_wp2_with (at_builtin; refine wpList_append_own_at _ rfl _ _ 57 rfl w.heap.size 4 j0 (.bool false) 1 1 Try.underlying57 Hhj.out Hy0.out Hy1.out Hy2.out rfl (by decide) _ _ _ rfl HTB.out ⟨w2.heap.size, 0, none⟩ 1 1 [.bool b] rfl rfl ?c1 ?c2 ?c3 ?c4 ?c5 ?_)
      case c1 => exact cell_new1 w2 _ _
      case c2 => intro u hu; simp at hu; subst hu; rfl
      case c3 => unfold maxLen; omega
      case c4 => omega
      case c5 => simp; omega
      intro v2 w3 hown2 hgrow2 _ hlies2
      obtain ⟨xa, xc, rfl⟩ := own_shape hown2
      have hr3 : w3.ownsRow w.heap.size 5 1 (.slice va (k + 1) vc) (k + 1) (rdL f a (k + 1)) := by
        rw [rdL_snoc, HR1.out]
        exact (HO1.out.alloc (.cells #[.bool b] 4)).kept hgrow2 (ne_of _ fun b h1 h2 => HN1.out b h2 h1)
      have hs3 : w3.ownsRow w.heap.size 4 1 (.slice xa (k + 1) xc) (k + 1) (ftL f a (k + 1)) := by
        rw [ftL_snoc, HQK.out, HBQ.out]
        exact hown2
      have hne3 : ∀ b, (Value.slice va (k + 1) vc).ownBlock = some b → (Value.slice xa (k + 1) xc).ownBlock ≠ some b := fun b hb hq => by
        rcases hlies2 with e | e
        · rw [e] at hq; exact HN1.out b hb hq
        · rw [e] at hq
          have h1 := (HO1.out.lt b hb).2
          simp at hq
          omega
      have HT3 : Hid (Two w3 w.heap.size (k + 1) f a (.slice va (k + 1) vc) (.slice xa (k + 1) xc)) := ⟨hr3, hs3, hne3⟩
      have HB3 := Lib.hid ((HB2.out.alloc HB2.out.size (.cells #[.bool b] 4)).grown hgrow2 (by simp; omega) (fun j e => (HTB.out.lt j e).1))
      clear hr3 hs3 hne3 hlies2 hgrow2 hown2
      go_wp2_with fail
      go_roundw
      case rel => exact ⟨k + 1, va, vc, xa, xc, rfl, rfl, by omega, by rw [← Nat.add_assoc]; have := HZ.out; go_num, HT3.out, HB3.out⟩
      case measure => have := HZ.out; simp [intOf]; omega
    · obtain rfl : k = n := by omega
      have hi1 : ¬ z < E := by have := HEE.out; omega
      rw [hz]
      clear hz
      go_wp2_with fail
      go_ret2
      exact ⟨_, _, rfl, HT.out, hB⟩
end Go.Proofs.Ytjplihljmohpjaa
