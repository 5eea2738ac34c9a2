/- The law of two texts with a comma between them: its walk. -/
import Derived.Test.YtdcgfbebeiheiaaDoorListW
import Derived.Maps.AppendAt
namespace Go.Proofs.YtdcgfbebeiheiaaDoor
open Go.RowKit

theorem wpList_append_own_w {P : Program} (w : World) {ops : Array Oper} {rest : List Oper} {o : Oper} {a : Act} {Q : Exit → Act → World → Prop} (hw : Region.wanted o (yielded ops a.tmps) = true) (s x : Operand) (t : TypeId)
    (ho : o.op = .call { callee := .builtin .append, args := #[s, x], argTypes := #[t, t] })
    (base : Nat) (e : TypeId) (i : TypeInfo) (z : Value) (size bytes : Nat) (ht : P.underlying t = some (.slice e)) (hi : P.info? e = some i) (hz : i.zero = some z)
    (hsize : i.size = size) (hby : i.bytes = bytes) (hzs : z.cells.size = size) (hsz : 0 < size)
    (v : Value) (n : Nat) (xs : List Value) (hs : a.eval s = v) (hown : w.ownsRow base e size v n xs)
    (ad : Addr) (m c : Nat) (news : List Value) (hx : a.eval x = .slice (some ad) m c) (hl : news.length = m * size) (hnews : ∀ j u, news[j]? = some u → w.cell? (ad.add j) = some u) (h1 : ∀ u ∈ news, u.oneCell' = true)
    (h63 : n + m ≤ maxLen) (hbytes : (n + m) * bytes ≤ 140737488355328) (hbase : base ≤ w.heap.size)
    (h : ∀ v' w', w'.ownsRow base e size v' (n + m) (xs ++ news) → w.grownBy w' v.ownBlock → wpList P ops Q rest (a.put o.dst v') w') : wpList P ops Q (o :: rest) a w :=
  wpList_step fun K hK => by
    rw [if_pos hw]
    exact wp_append_own w s x t ho base e i z size bytes ht hi hz hsize hby hzs hsz v n xs hs hown ad m c news hx hl hnews h1 h63 hbytes hbase fun v' w' h2 h3 _ => hK _ _ (h v' w' h2 h3)
theorem own_empty (W : World) (B : Nat) (hB : B ≤ W.heap.size) : (W.alloc (.cells #[] 3)).ownsRow B 3 1 (.slice (some ⟨W.heap.size, 0, none⟩) 0 0) 0 [] :=
  ⟨rfl, .inr ⟨W.heap.size, 0, #[], rfl, hB, World.alloc_heap_new W _, Nat.le_refl _, Nat.zero_le _, rfl, rfl⟩⟩
theorem NumsAt.form {W : World} {v : Value} {l : List Int} (h : NumsAt W v l) (hl : l ≠ []) : ∃ g c, v = .slice (some ⟨g, 0, none⟩) l.length c ∧ g < W.heap.size ∧ ∀ j u, (rowZ l)[j]? = some u → W.cell? ((⟨g, 0, none⟩ : Addr).add j) = some u := by
  obtain ⟨base, h⟩ := h
  have hb := h
  rcases h.2 with ⟨rfl, h2⟩ | ⟨g, cap, cur, rfl, _, hh, _, _, _⟩
  · exact absurd (List.eq_nil_of_length_eq_zero h2) hl
  · exact ⟨g, cap, rfl, (Array.getElem?_eq_some_iff.1 hh).1, hb.cells (g := g) rfl⟩
theorem NumsAt.form0 {W : World} {v : Value} {l : List Int} (h : NumsAt W v l) (hl : l ≠ []) : ∃ g c, v = .slice (some ⟨g, 0, none⟩) l.length c := by
  obtain ⟨g, c, h, _⟩ := h.form hl
  exact ⟨g, c, h⟩
theorem nums_kept {w6 w7 : World} {g n c : Nat} {l : List Int} {T : TypeId} {g0 n0 c0 : Nat} (h : NumsAt (w6.alloc (.cells #[] T)) (.slice (some ⟨g, 0, none⟩) n c) l) (hg : (w6.alloc (.cells #[] T)).grownBy w7 (Value.slice (some ⟨g0, 0, none⟩) n0 c0).ownBlock) (hlt : g < g0) : NumsAt w7 (.slice (some ⟨g, 0, none⟩) n c) l := by
  obtain ⟨base, h⟩ := h
  exact ⟨base, h.kept hg (.inr (by simp [Value.ownBlock]; omega))⟩
theorem nums_cells {W : World} {g n c : Nat} {l : List Int} (h : NumsAt W (.slice (some ⟨g, 0, none⟩) n c) l) : ∀ j u, (rowZ l)[j]? = some u → W.cell? ((⟨g, 0, none⟩ : Addr).add j) = some u := by
  obtain ⟨base, h⟩ := h
  exact h.cells (g := g) rfl
theorem nums_kept2 {w6 w7 w8 : World} {g n c k : Nat} {l : List Int} {v : Value} {xs : List Value} (h : NumsAt w7 (.slice (some ⟨g, 0, none⟩) n c) l) (hv : w7.ownsRow w6.heap.size 3 1 v k xs) (hg : w7.grownBy w8 v.ownBlock) (hlt : g < w6.heap.size) : NumsAt w8 (.slice (some ⟨g, 0, none⟩) n c) l := by
  obtain ⟨base, h⟩ := h
  exact ⟨base, h.kept hg (.inr (fun e => by have := (hv.lt g e.symm).1; omega))⟩
theorem rowZ_one (l : List Int) : ∀ u ∈ rowZ l, u.oneCell' = true := by
  intro u hu
  obtain ⟨z, _, rfl⟩ := List.mem_map.1 hu
  rfl
theorem rowZ_len (l : List Int) : (rowZ l).length = l.length * 1 := by simp [rowZ]
theorem rowZ_app (l m : List Int) : rowZ (l ++ m) = rowZ l ++ rowZ m := by simp [rowZ]

set_option maxRecDepth 100000 in
set_option maxHeartbeats 8000000 in
theorem law_append (s t : BA) (w : World) (hgd : Gd w) (hs : s.size ≤ maxLen) (ht : t.size ≤ maxLen) :
    Calls Tryd.prog 6 #[.string s, .string t] w fun e w' => e = .returned (.bool true) ∧ Below w.heap.size w w' := by
  unfold maxLen at hs ht
  by_cases hall : s.size = 0 ∨ t.size = 0 ∨ 3000 < s.size ∨ 3000 < t.size ∨ 2500 ≤ s.size + t.size
  · by_cases h1 : s.size = 0
    · have q1 : ((s.size : Int) == 0) = true := by simp [h1]
      clear h1 hall
      go_enter Tryd.func6, Tryd.ntmps6
      go_wp2_with (first | (go_at_call 10; refine (shown_any _ hgd).mono ?_; rintro e w1 ⟨rfl, hB⟩))
      go_ret
      exact ⟨rfl, hB⟩
    have q1 : ((s.size : Int) == 0) = false := by simp [h1]
    by_cases h2 : t.size = 0
    · have q2 : ((t.size : Int) == 0) = true := by simp [h2]
      clear h1 h2 hall
      go_enter Tryd.func6, Tryd.ntmps6
      go_wp2_with (first | (go_at_call 10; refine (shown_any _ hgd).mono ?_; rintro e w1 ⟨rfl, hB⟩))
      go_ret
      exact ⟨rfl, hB⟩
    have q2 : ((t.size : Int) == 0) = false := by simp [h2]
    by_cases h3 : 3000 < s.size
    · have q3 : (3000 : Int) < (s.size : Int) := by omega
      clear h1 h2 h3 hall
      go_enter Tryd.func6, Tryd.ntmps6
      go_wp2_with (first | (go_at_call 10; refine (shown_any _ hgd).mono ?_; rintro e w1 ⟨rfl, hB⟩))
      go_ret
      exact ⟨rfl, hB⟩
    have q3 : ¬ (3000 : Int) < (s.size : Int) := by omega
    by_cases h4 : 3000 < t.size
    · have q4 : (3000 : Int) < (t.size : Int) := by omega
      clear h1 h2 h3 h4 hall
      go_enter Tryd.func6, Tryd.ntmps6
      go_wp2_with (first | (go_at_call 10; refine (shown_any _ hgd).mono ?_; rintro e w1 ⟨rfl, hB⟩))
      go_ret
      exact ⟨rfl, hB⟩
    have q4 : ¬ (3000 : Int) < (t.size : Int) := by omega
    have q5 : (2500 : Int) ≤ (s.size : Int) + (t.size : Int) := by omega
    clear h1 h2 h3 h4 hall
    go_enter Tryd.func6, Tryd.ntmps6
    go_wp2_with (first | (go_at_call 10; refine (shown_any _ hgd).mono ?_; rintro e w1 ⟨rfl, hB⟩))
    go_ret
    exact ⟨rfl, hB⟩
  have q1 : ((s.size : Int) == 0) = false := beq_eq_false_iff_ne.2 (by omega)
  have q2 : ((t.size : Int) == 0) = false := beq_eq_false_iff_ne.2 (by omega)
  have q3 : ¬ (3000 : Int) < (s.size : Int) := by omega
  have q4 : ¬ (3000 : Int) < (t.size : Int) := by omega
  have q5 : ¬ (2500 : Int) ≤ (s.size : Int) + (t.size : Int) := by omega
  have hst : s.size + t.size < 2500 := by omega
  have hsn : s.data.toList ≠ [] := fun e => by have := Lib.size_eq s; rw [e] at this; simp only [List.length_nil] at this; omega
  have htn : t.data.toList ≠ [] := fun e => by have := Lib.size_eq t; rw [e] at this; simp only [List.length_nil] at this; omega
  obtain ⟨l, ec, hp⟩ : ∃ (l : List Int) (ec : Int), pB s.data.toList = (l, ec) := ⟨_, _, rfl⟩
  obtain ⟨m, fc, hk⟩ : ∃ (m : List Int) (fc : Int), pB t.data.toList = (m, fc) := ⟨_, _, rfl⟩
  obtain ⟨a1, a2, a3⟩ := app_of hsn htn (by rw [← Lib.size_eq, ← Lib.size_eq]; exact hst) hp hk
  have c1 : (⟨#[44]⟩ : BA).size = 1 := rfl
  have hr1 : ∀ w' : World, (Op.stringOp .add s ⟨#[44]⟩).run Tryd.prog w' = .ok (.string (s ++ ⟨#[44]⟩)) w' := fun w' => run_string_add_sum w' _ _ (by rw [c1]; omega)
  obtain ⟨B, hBd⟩ : ∃ B : BA, s ++ ⟨#[44]⟩ ++ t = B := ⟨_, rfl⟩
  have hr2 : ∀ w' : World, (Op.stringOp .add (s ++ ⟨#[44]⟩) t).run Tryd.prog w' = .ok (.string B) w' := fun w' => by
    rw [← hBd]; exact run_string_add_sum w' _ _ (by rw [ByteArray.size_append, c1]; omega)
  have hBl : B.data.toList = s.data.toList ++ 44 :: t.data.toList := by rw [← hBd]; simp
  have hBs : B.size ≤ maxLen := by rw [← hBd, ByteArray.size_append, ByteArray.size_append, c1]; unfold maxLen; omega
  rw [← hBl] at a1 a2 a3
  have hl0 : l.length ≤ 500 := by
    by_cases h : ec = 0
    · subst h; exact (ok0_of hp).1
    · rw [pB_err hp h]; exact Nat.zero_le _
  have hm0 : m.length ≤ 500 := by
    by_cases h : fc = 0
    · subst h; exact (ok0_of hk).1
    · rw [pB_err hk h]; exact Nat.zero_le _
  have HP := Lib.hid hp
  have HK := Lib.hid hk
  have A1 := Lib.hid a1
  have A2 := Lib.hid a2
  have A3 := Lib.hid a3
  have hs2 : s.size ≤ maxLen := by unfold maxLen; omega
  have ht2 : t.size ≤ maxLen := by unfold maxLen; omega
  have HS2 := Lib.hid hs2
  have HT2 := Lib.hid ht2
  have HBS := Lib.hid hBs
  have HSN := Lib.hid hsn
  have HTN := Lib.hid htn
  clear hp hk a1 a2 a3 hall hsn htn hBl hBs hBd hs2 ht2
  by_cases hef : ec ≠ 0 ∨ fc ≠ 0
  · obtain ⟨g, hg, hpb⟩ := A1.out hef
    have HPB := Lib.hid hpb
    have qg : (g != 0) = true := by simp [hg]
    clear hpb hg
    have hq : (ec != 0) = true ∨ ((ec != 0) = false ∧ (fc != 0) = true) := by
      by_cases h : ec = 0
      · right; refine ⟨by simp [h], ?_⟩
        rcases hef with h9 | h9
        · exact absurd h h9
        · simp [h9]
      · left; simp [h]
    clear hef
    rcases hq with qe | ⟨qe, qf⟩
    all_goals
      go_enter Tryd.func6, Tryd.ntmps6
      go_wp2_with fail
      refine (ParseList_n s l ec HP.out HS2.out _ hgd).mono ?_
      rintro e w1 ⟨v1, rfl, hv1, hB1⟩
      obtain ⟨x1, y1, rfl⟩ := hv1.ints.form
      go_wp2_with fail
      refine (ParseList_n t m fc HK.out HT2.out _ (hgd.later hB1)).mono ?_
      rintro e w2 ⟨v2, rfl, hv2, hB2⟩
      obtain ⟨x2, y2, rfl⟩ := hv2.ints.form
      have b2 := hB1.trans (hB2.mono hB1.size)
      go_wp2_with fail
      refine (ParseList_n B [] g HPB.out HBS.out _ (hgd.later b2)).mono ?_
      rintro e w3 ⟨v3, rfl, hv3, hB3⟩
      obtain ⟨x3, y3, rfl⟩ := hv3.ints.form
      have b3 := b2.trans (hB3.mono b2.size)
      go_wp2_with (first | (go_at_call 10; refine (shown_any _ (hgd.later b3)).mono ?_; rintro e w6 ⟨rfl, hB6⟩))
      all_goals first | (exfalso; simp_all; done) | skip
      go_ret
      exact ⟨rfl, b3.trans (hB6.mono b3.size)⟩
  have hec : ec = 0 := by
    by_cases h : ec = 0
    · exact h
    · exact absurd (.inl h) hef
  have hfc : fc = 0 := by
    by_cases h : fc = 0
    · exact h
    · exact absurd (.inr h) hef
  subst hec
  subst hfc
  clear hef
  by_cases h5 : 500 < l.length + m.length
  · have hpb := A2.out rfl rfl h5
    have HPB := Lib.hid hpb
    have h5i : (500 : Int) < (l.length : Int) + (m.length : Int) := by omega
    clear hpb
    go_enter Tryd.func6, Tryd.ntmps6
    go_wp2_with fail
    refine (ParseList_n s l 0 HP.out HS2.out _ hgd).mono ?_
    rintro e w1 ⟨v1, rfl, hv1, hB1⟩
    obtain ⟨x1, y1, rfl⟩ := hv1.ints.form
    go_wp2_with fail
    refine (ParseList_n t m 0 HK.out HT2.out _ (hgd.later hB1)).mono ?_
    rintro e w2 ⟨v2, rfl, hv2, hB2⟩
    obtain ⟨x2, y2, rfl⟩ := hv2.ints.form
    have b2 := hB1.trans (hB2.mono hB1.size)
    go_wp2_with fail
    refine (ParseList_n B [] 3 HPB.out HBS.out _ (hgd.later b2)).mono ?_
    rintro e w3 ⟨v3, rfl, hv3, hB3⟩
    obtain ⟨x3, y3, rfl⟩ := hv3.ints.form
    have b3 := b2.trans (hB3.mono b2.size)
    go_wp2_with (first | (go_at_call 10; refine (shown_any _ (hgd.later b3)).mono ?_; rintro e w6 ⟨rfl, hB6⟩))
    all_goals first | (exfalso; simp_all; done) | skip
    go_ret
    exact ⟨rfl, b3.trans (hB6.mono b3.size)⟩
  obtain ⟨hpb, hcl⟩ := A3.out rfl rfl (by omega)
  obtain ⟨lm, hlm⟩ : ∃ x, l ++ m = x := ⟨_, rfl⟩
  have hlml : lm.length ≤ 500 := by rw [← hlm, List.length_append]; omega
  rw [hlm] at hpb hcl
  have HLM := Lib.hid hlm
  have h5i : ¬ (500 : Int) < (l.length : Int) + (m.length : Int) := by omega
  have HPB := Lib.hid hpb
  have OL := Lib.hid (ok0_of HP.out)
  have OM := Lib.hid (ok0_of HK.out)
  have OB := Lib.hid (ok0_of HPB.out)
  have hln : l ≠ [] := by
    obtain ⟨_, k2, k3, k4, rfl⟩ := pB_ok HP.out
    obtain ⟨j1, _⟩ := jn_its HSN.out
    exact (can_least _ j1 k2 k3 k4 (fun x hx => (bdL (its_all k2 x hx)).2.2.1)).1
  have hmn : m ≠ [] := by
    obtain ⟨_, k2, k3, k4, rfl⟩ := pB_ok HK.out
    obtain ⟨j1, _⟩ := jn_its HTN.out
    exact (can_least _ j1 k2 k3 k4 (fun x hx => (bdL (its_all k2 x hx)).2.2.1)).1
  have HLMN : Hid (lm ≠ []) := by unfold Hid; rw [← hlm]; simp [hln]
  obtain ⟨ca, hca⟩ : ∃ x, canonA l = x := ⟨_, rfl⟩
  obtain ⟨cb, hcb⟩ : ∃ x, canonA m = x := ⟨_, rfl⟩
  obtain ⟨cc, hcc⟩ : ∃ x, canonA lm = x := ⟨_, rfl⟩
  have hsz : cc.size ≤ ca.size + 1 + cb.size := by
    rw [← hca, ← hcb, ← hcc, Lib.size_eq, Lib.size_eq, Lib.size_eq]; exact hcl
  have hcas : ca.size ≤ 5000 := by
    rw [← hca, Lib.size_eq]; have := can_size l.length l (Nat.le_refl _) OL.out; rw [can_ba]; omega
  have hcbs : cb.size ≤ 5000 := by
    rw [← hcb, Lib.size_eq]; have := can_size m.length m (Nat.le_refl _) OM.out; rw [can_ba]; omega
  have hfin : (cc.size : Int) ≤ (ca.size : Int) + 1 + (cb.size : Int) := by omega
  have HCA := Lib.hid hca
  have HCB := Lib.hid hcb
  have HCC := Lib.hid hcc
  have HLN := Lib.hid hln
  have HMN := Lib.hid hmn
  obtain ⟨i0, hi, hz0, hz1, hz2⟩ := info_parts Tryd.infoInt
  have Hhi := Lib.hid hi
  have Hz0 := Lib.hid hz0
  have Hz1 := Lib.hid hz1
  have Hz2 := Lib.hid hz2
  clear hi hz0 hz1 hz2 hpb hcl hca hcb hcc hln hmn hlm
  go_enter Tryd.func6, Tryd.ntmps6
  go_wp2_with fail
  refine (ParseList_n s l 0 HP.out HS2.out _ hgd).mono ?_
  rintro e w1 ⟨v1, rfl, hv1, hB1⟩
  obtain ⟨g1, y1, rfl⟩ := hv1.form0 HLN.out
  go_wp2_with fail
  refine (ParseList_n t m 0 HK.out HT2.out _ (hgd.later hB1)).mono ?_
  rintro e w2 ⟨v2, rfl, hv2, hB2⟩
  obtain ⟨g2, y2, rfl⟩ := hv2.form0 HMN.out
  have b2 := hB1.trans (hB2.mono hB1.size)
  have hv1b := hv1.later hB2
  clear hB1 hB2 hv1
  go_wp2_with fail
  refine (ParseList_n B lm 0 HPB.out HBS.out _ (hgd.later b2)).mono ?_
  rintro e w3 ⟨v3, rfl, hv3, hB3⟩
  obtain ⟨g3, y3, rfl⟩ := hv3.form0 HLMN.out
  have b3 := b2.trans (hB3.mono b2.size)
  have hv1c := hv1b.later hB3
  have hv2c := hv2.later hB3
  clear b2 hB3 hv1b hv2
  go_wp2_with fail
  refine (List_n _ l _ (hgd.later b3) hv1c OL.out).mono ?_
  rintro e w4 ⟨rfl, hB4⟩
  rw [HCA.out]
  have b4 := b3.trans (hB4.mono b3.size)
  have hv1d := hv1c.later hB4
  have hv2d := hv2c.later hB4
  have hv3d := hv3.later hB4
  clear b3 hB4 hv1c hv2c hv3
  go_wp2_with fail
  refine (List_n _ m _ (hgd.later b4) hv2d OM.out).mono ?_
  rintro e w5 ⟨rfl, hB5⟩
  rw [HCB.out]
  have b5 := b4.trans (hB5.mono b4.size)
  have hv1e := hv1d.later hB5
  have hv2e := hv2d.later hB5
  have hv3e := hv3d.later hB5
  clear b4 hB5 hv1d hv2d hv3d
  go_wp2_with fail
  refine (List_n _ lm _ (hgd.later b5) hv3e OB.out).mono ?_
  rintro e w6 ⟨rfl, hB6⟩
  rw [HCC.out]
  have b6 := b5.trans (hB6.mono b5.size)
  have hv1f := hv1e.later hB6
  have hv2f := hv2e.later hB6
  have hv3f := hv3e.later hB6
  clear b5 hB6 hv1e hv2e hv3e
  have HOE := Lib.hid (own_empty w6 w6.heap.size (Nat.le_refl _))
  have B1 : Hid (w6.heap.size ≤ (w6.alloc (.cells #[] 3)).heap.size) := by unfold Hid; simp
  have hal : Below w6.heap.size w6 (w6.alloc (.cells #[] 3)) := (Below.refl _ _).alloc (Nat.le_refl _) _
  have hb7 : Below w.heap.size w (w6.alloc (.cells #[] 3)) := b6.alloc b6.size _
  obtain ⟨g1', y1', e1, k1, n1⟩ := (hv1f.later hal).form HLN.out
  simp only [Value.slice.injEq, Option.some.injEq, Addr.mk.injEq] at e1
  obtain ⟨⟨rfl, _, _⟩, _, rfl⟩ := e1
  have N1 := Lib.hid n1
  have O1 := Lib.hid (rowZ_one l)
  have L1 := Lib.hid (rowZ_len l)
  have L2 := Lib.hid (rowZ_len m)
  have O2 := Lib.hid (rowZ_one m)
  have e500 : l.length + m.length ≤ 500 := by omega
  have m1 : 0 + l.length ≤ maxLen := by unfold maxLen; omega
  have m2 : (0 + l.length) * 8 ≤ 140737488355328 := by omega
  have m3 : 0 + l.length + m.length ≤ maxLen := by unfold maxLen; omega
  have m4 : (0 + l.length + m.length) * 8 ≤ 140737488355328 := by omega
  have HV2 := Lib.hid (hv2f.later hal)
  have HV3 := Lib.hid (hv3f.later hal)
  have S1 := Lib.hid hb7.size
  obtain ⟨g2', y2', e2, k2, _⟩ := hv2f.form HMN.out
  simp only [Value.slice.injEq, Option.some.injEq, Addr.mk.injEq] at e2
  obtain ⟨⟨rfl, _, _⟩, _, rfl⟩ := e2
  obtain ⟨g3', y3', e3, k3, _⟩ := hv3f.form HLMN.out
  simp only [Value.slice.injEq, Option.some.injEq, Addr.mk.injEq] at e3
  obtain ⟨⟨rfl, _, _⟩, _, rfl⟩ := e3
  have K2 := Lib.hid k2
  have K3 := Lib.hid k3
  clear n1 hv1f hv2f hv3f hal k1 k2 k3
  go_wp2_with (first | (refine wpList_append_own_w _ rfl (.tmp 125) (.tmp 126) 31 rfl w6.heap.size 3 i0 (.int .i64 0) 1 8 Tryd.underlying31 Hhi.out Hz0.out Hz1.out Hz2.out rfl (by decide) _ _ _ rfl HOE.out ⟨g1, 0, none⟩ l.length y1 (rowZ l) rfl L1.out N1.out O1.out m1 m2 B1.out ?_; intro v7 w7 own7 grow7'; have grow7 : (w6.alloc (.cells #[] 3)).grownBy w7 (Value.slice (some ⟨w6.heap.size, 0, none⟩) 0 0).ownBlock := grow7'; have M7 := Lib.hid (nums_kept HV2.out grow7 K2.out); have P7 := Lib.hid (nums_kept HV3.out grow7 K3.out); have S7 := Lib.hid (hb7.grown grow7 S1.out (fun k e => by have e9 : w6.heap.size = k := Option.some.inj e; rw [← e9]; exact b6.size)); have OW7 := Lib.hid own7; have C7 := Lib.hid (nums_cells M7.out); have Z7 := Lib.hid (Nat.le_trans B1.out grow7.size); clear own7 grow7 grow7') | (refine wpList_append_own_w _ rfl (.tmp 127) (.tmp 128) 31 rfl w6.heap.size 3 i0 (.int .i64 0) 1 8 Tryd.underlying31 Hhi.out Hz0.out Hz1.out Hz2.out rfl (by decide) v7 _ _ rfl OW7.out ⟨g2, 0, none⟩ m.length y2 (rowZ m) rfl L2.out C7.out O2.out m3 m4 Z7.out ?_; intro v8 w8 own8 grow8; have OW8 := Lib.hid own8; have G8 := Lib.hid grow8; clear own8 grow8))
  have P8 := nums_kept2 P7.out OW7.out G8.out K3.out
  have OW9 : IntsAt w8 v8 lm := by
    have h := OW8.out
    rw [List.nil_append, ← rowZ_app, HLM.out, Nat.zero_add, ← List.length_append, HLM.out] at h
    exact IntsAt.of_row h
  have S8 : Below w.heap.size w w8 := S7.out.grown G8.out S7.out.size (fun k e => Nat.le_trans b6.size (OW7.out.lt k e).1)
  obtain ⟨x8, y8, rfl⟩ := OW9.form
  refine (ints_same _ _ lm _ P8.ints OW9 hlml).mono ?_
  rintro e w9 ⟨rfl, hB9⟩
  have b9 := S8.trans (hB9.mono S8.size)
  clear S8 hB9 P8 OW9
  go_wp2_with (first | (go_at_call 10; refine (shown_any _ (hgd.later b9)).mono ?_; rintro e wz ⟨rfl, hBz⟩))
  all_goals first | (exfalso; simp_all; done) | skip
  go_ret
  exact ⟨rfl, b9.trans (hBz.mono b9.size)⟩
end Go.Proofs.YtdcgfbebeiheiaaDoor
