/- Split, the other way: its walk. -/
import Derived.Test.YtdcgfbebeiheiaaGreatDoorSplM
import Derived.Test.YtdcgfbebeiheiaaGreatDoorRefU
namespace Go.Proofs.YtdcgfbebeiheiaaGreatDoor
open Go.RowKit

def rsplitB (l : List UInt8) : List Fd × Int :=
  if 4096 < l.length then ([], 3) else match rsB (l.length + 1) l with
    | none => ([], 6)
    | some L => if 64 < L.length then ([], 3) else (L, 0)

theorem uE_le : ∀ r : List UInt8, uE r ≤ r.length
  | [] => Nat.le_refl _
  | c :: l => by
    have := uE_le l
    rw [uE]
    split
    · exact Nat.zero_le _
    · simp only [List.length_cons]; omega
theorem qE_le : ∀ (n : Nat) (r : List UInt8), r.length ≤ n → qE r ≤ r.length
  | _, [], _ => Nat.le_refl _
  | _, [_], _ => Nat.le_refl _
  | 0, _ :: _ :: _, h => absurd h (by simp)
  | n + 1, c :: d :: l, h => by
    simp only [List.length_cons] at h
    have h1 := qE_le n l (by omega)
    have h2 := qE_le n (d :: l) (by simp only [List.length_cons]; omega)
    rw [qE]
    simp only [List.length_cons] at h2 ⊢
    split
    · split <;> omega
    · omega
theorem reB_le (r : List UInt8) : reB r ≤ r.length := by
  cases r with
  | nil => exact Nat.le_refl _
  | cons c l =>
    have h1 := qE_le l.length l (Nat.le_refl _)
    have h2 := uE_le (c :: l)
    rw [reB]
    simp only [List.length_cons] at h2 ⊢
    split <;> omega
theorem reB_pos (c : UInt8) (l : List UInt8) (h : c = 34) : 1 ≤ reB (c :: l) := by rw [reB, if_pos h]; omega

theorem unqB_size' (l : List UInt8) : (⟨(unqB l).1.toArray⟩ : ByteArray).size ≤ 1000000 := by
  rw [Lib.size_eq]
  show (unqB l).1.length ≤ _
  rw [unqB_eq]
  have h0 : ([] : List UInt8).length ≤ 1000000 := Nat.zero_le _
  split
  · split
    · split
      · rename_i h
        unfold textB at h
        rw [Bool.and_eq_true, decide_eq_true_eq] at h
        simp only
        omega
      · exact h0
    · exact h0
  · exact h0
theorem refUnquote_f (s : BA) (a : BA) (e : Int) (w : World) (hs : s.size ≤ 1000000) (ha : (⟨(unqB s.data.toList).1.toArray⟩ : BA) = a) (he : (unqB s.data.toList).2 = e) :
    Calls Tryz.prog 33 #[.string s] w fun x w' => x = .returned (.tuple #[.string a, .int .i64 e]) ∧ w = w' := by
  subst ha; subst he; exact refUnquote_any s w hs
theorem unq_text {l : List UInt8} (h : (unqB l).2 = 0) : textB (unqB l).1 = true := by
  have hq := quote_unq l h
  rw [quoteB_eq] at hq
  by_cases ht : textB (unqB l).1 = true
  · exact ht
  · rw [if_neg ht] at hq
    have h2 := congrArg Prod.snd hq
    exact absurd h2 (by simp)
theorem idx_no : ∀ {l : List UInt8}, plainB l = true → Lib.indexByte l 34 = -1
  | l, h => by
    have hg := Lib.indexByte_ge l 34
    rcases (show Lib.indexByte l 34 = -1 ∨ 0 ≤ Lib.indexByte l 34 by omega) with e | e
    · exact e
    · obtain ⟨o, ho⟩ : ∃ o : Nat, Lib.indexByte l 34 = o := ⟨(Lib.indexByte l 34).toNat, by omega⟩
      obtain ⟨h1, _⟩ := Lib.indexByte_some ho
      have := List.all_eq_true.1 h _ (List.mem_of_getElem? h1)
      simp at this
theorem bare_eq (l : List UInt8) : rgtB false l = bareB l := by
  show (!l.isEmpty && plainB l && textB l) = bareB l
  rw [Bool.eq_iff_iff]
  constructor
  · intro h
    simp only [Bool.and_eq_true] at h
    obtain ⟨⟨h1, h2⟩, h3⟩ := h
    unfold textB at h3
    simp only [Bool.and_eq_true, decide_eq_true_eq] at h3
    have hi := idx_no h2
    unfold bareB
    rw [hi, h1, decide_eq_true h3.1]
    have h4 : withinB 33 126 l = true := by
      unfold withinB
      refine List.all_eq_true.2 fun c hc => ?_
      have a := List.all_eq_true.1 h3.2 c hc
      have b := List.all_eq_true.1 h2 c hc
      unfold inB at a ⊢
      simp only [decide_eq_true_eq] at a
      simp only [Bool.and_eq_true, Bool.not_eq_true', decide_eq_false_iff_not] at b
      exact decide_eq_true (by omega)
    rw [h4]; rfl
  · intro h
    obtain ⟨h1, h2, h3, h4⟩ := bare_no h
    have e1 : l.isEmpty = false := by cases l with | nil => exact absurd rfl h1 | cons c r => rfl
    have e2 : plainB l = true := List.all_eq_true.2 fun c hc => by
      have := h3 c hc
      have n := h4 c hc
      have : ¬ (c.toNat : Int) = 34 := fun e => n (of34 e)
      rw [decide_eq_false (by omega), decide_eq_false this]; rfl
    have e3 : textB l = true := by
      unfold textB withinB
      rw [decide_eq_true h2, Bool.true_and]
      refine List.all_eq_true.2 fun c hc => decide_eq_true ?_
      have := h3 c hc
      omega
    rw [e1, e2, e3]; rfl

theorem okB_q (p : List UInt8) (h : Lib.hasPrefix p [34] = true) : okB p = decide ((unqB p).2 = 0) ∧ fldB p = (true, (unqB p).1) := by
  unfold okB fldB rfB; rw [h]; exact ⟨rfl, rfl⟩
theorem okB_b (p : List UInt8) (h : Lib.hasPrefix p [34] = false) : okB p = bareB p ∧ fldB p = (false, p) := by
  unfold okB fldB rfB; rw [h]; exact ⟨rfl, rfl⟩
theorem rs_step (f : Nat) (r : List UInt8) (h : r ≠ []) : rsB (f + 1) r = if okB (r.take (reB r)) = true ∧ ¬ (reB r < r.length ∧ (¬ r[reB r]?.getD 0 = 32 ∨ reB r + 1 = r.length)) then (rsB f (r.drop (reB r + 1))).map (fldB (r.take (reB r)) :: ·) else none := by
  rw [rsB, if_neg h]
theorem rs_nil (f : Nat) : rsB f [] = some [] := by cases f <;> simp [rsB]

/-- One step, told by the place. -/
theorem rs_at (s : ByteArray) (k : Nat) (hk : k < s.size) (f : Nat) (E : Nat) (hE : reB (s.data.toList.drop k) = E) (p : ByteArray) (hp : s.extract k (k + E) = p) :
    E ≤ s.size - k ∧ Lib.hasPrefix p.data.toList [34] = decide ((s[k].toNat : Int) = 34) ∧
    (okB p.data.toList = false → rsB (f + 1) (s.data.toList.drop k) = none) ∧
    (∀ h : k + E < s.size, ¬ (s[k + E].toNat : Int) = 32 → rsB (f + 1) (s.data.toList.drop k) = none) ∧
    (k + E + 1 = s.size → rsB (f + 1) (s.data.toList.drop k) = none) ∧
    (okB p.data.toList = true → (k + E = s.size ∨ ∃ h : k + E < s.size, (s[k + E].toNat : Int) = 32 ∧ k + E + 1 ≠ s.size) → rsB (f + 1) (s.data.toList.drop k) = (rsB f (s.data.toList.drop (k + E + 1))).map (fldB p.data.toList :: ·)) := by
  have hd := drop_get s k hk
  have hsz : s.size = s.data.toList.length := Lib.size_eq s
  have hlen : (s.data.toList.drop k).length = s.size - k := by rw [List.length_drop, ← hsz]
  have hle := reB_le (s.data.toList.drop k)
  rw [hE, hlen] at hle
  have hpl : p.data.toList = (s.data.toList.drop k).take E := by rw [← hp, Lib.extract_data, Nat.add_sub_cancel_left]
  have hne : s.data.toList.drop k ≠ [] := by rw [hd]; exact List.cons_ne_nil _ _
  have hst := rs_step f _ hne
  rw [hE, ← hpl, hlen, List.drop_drop, ← Nat.add_assoc] at hst
  have hat : ∀ h : k + E < s.size, (s.data.toList.drop k)[E]?.getD 0 = s[k + E] := fun h => by
    rw [List.getElem?_drop, List.getElem?_eq_getElem (by omega)]; rfl
  refine ⟨hle, ?_, fun h => ?_, fun h1 h2 => ?_, fun h => ?_, fun h1 h2 => ?_⟩
  · by_cases h34 : (s[k].toNat : Int) = 34
    · have h1 := reB_pos s[k] (s.data.toList.drop (k + 1)) (of34 h34)
      rw [← hd, hE] at h1
      obtain ⟨E, rfl⟩ : ∃ e, E = e + 1 := ⟨E - 1, by omega⟩
      rw [hpl, hd, List.take_succ_cons, of34 h34]
      simp [Lib.hasPrefix]
    · rw [hpl, hd, decide_eq_false h34]
      cases E with
      | zero => rfl
      | succ E =>
        have : ¬ s[k] = 34 := fun e => h34 (n34 e)
        simp [Lib.hasPrefix, List.isPrefixOf]
        exact fun e => this e.symm
  · rw [hst, if_neg (by rw [h]; simp)]
  · rw [hst, if_neg]
    rintro ⟨_, h3⟩
    exact h3 ⟨by omega, .inl (by rw [hat h1]; exact fun e => h2 (n32 e))⟩
  · rw [hst, if_neg]
    rintro ⟨_, h3⟩
    exact h3 ⟨by omega, .inr (by omega)⟩
  · rw [hst, if_pos]
    refine ⟨h1, ?_⟩
    rintro ⟨h3, h4⟩
    rcases h2 with h2 | ⟨h2, h5, h6⟩
    · omega
    · rcases h4 with h4 | h4
      · exact h4 (by rw [hat h2]; exact of32 h5)
      · omega

theorem rsB_len : ∀ (f : Nat) (r : List UInt8) (L : List Fd), rsB f r = some L → L.length ≤ r.length
  | 0, r, L, h => by rw [rsB] at h; cases h; exact Nat.zero_le _
  | f + 1, r, L, h => by
    by_cases hr : r = []
    · subst hr; rw [rs_nil] at h; cases h; exact Nat.le_refl _
    · rw [rs_step f r hr] at h
      split at h
      · obtain ⟨L', h1, rfl⟩ := Option.map_eq_some_iff.1 h
        have := rsB_len f _ _ h1
        have hp : 1 ≤ r.length := List.length_pos_iff.2 hr
        rw [List.length_drop] at this
        simp only [List.length_cons]
        omega
      · cases h

theorem pcs_list : ∀ (f : Nat) (s : BA), (pcs f s).map (fun x => x.data.toList) = pcsB f s.data.toList
  | 0, s => rfl
  | f + 1, s => by
    have hle := feB_le2 s.data.toList false
    rw [pcs, pcsB, ← Lib.size_eq]
    have e1 : (s.extract 0 (feB false s.data.toList)).data.toList = s.data.toList.take (feB false s.data.toList) := by rw [Lib.extract_data]; simp
    have e2 : (s.extract (feB false s.data.toList + 1) s.size).data.toList = s.data.toList.drop (feB false s.data.toList + 1) := by
      rw [Lib.extract_data]
      exact List.take_of_length_le (by rw [List.length_drop, ← Lib.size_eq]; omega)
    split
    · simp only [List.map_cons, List.map_nil, e1]
    · simp only [List.map_cons, e1]
      rw [pcs_list f, e2]

/-- Both ways answer the same. -/
theorem split_two (s : BA) : splitB s = rsplitB s.data.toList := by
  have hsz : s.size = s.data.toList.length := Lib.size_eq s
  have hl := pcs_list (s.size + 1) s
  have hall : (piecesL s).all okP = (pcsB (s.size + 1) s.data.toList).all okB := by
    rw [← hl, List.all_map]; rfl
  have hf : fieldsOf (piecesL s) = (pcsB (s.size + 1) s.data.toList).map fldB := by
    rw [← hl, List.map_map]; rfl
  have hn : (piecesL s).length = (pcsB (s.size + 1) s.data.toList).length := by rw [← hl, List.length_map]; rfl
  unfold splitB rsplitB
  rw [hall, hf, hn, hsz]
  by_cases h4 : 4096 < s.data.toList.length
  · rw [if_pos h4, if_pos h4]
  · rw [if_neg h4, if_neg h4]
    have e0 : s.toList = s.data.toList := Lib.toList_data s
    cases hs : s.data.toList with
    | nil => rw [e0, hs]; rfl
    | cons c r =>
      rw [e0, hs, rs_pcs _ _ (List.cons_ne_nil _ _) (Nat.lt_succ_self _)]
      rw [show (c :: r).isEmpty = false from rfl]
      by_cases ha : (pcsB ((c :: r).length + 1) (c :: r)).all okB = true
      · simp only [ha, if_true, List.length_map, Bool.false_eq_true, if_false]
      · simp only [ha, if_false, Bool.false_eq_true]

set_option maxRecDepth 100000 in
set_option maxHeartbeats 8000000 in
theorem refSplit_any (s : ByteArray) (w : World) (hs : s.size ≤ 6000) :
    Calls Tryz.prog 14 #[.string s] w fun e w' => ∃ v, e = .returned (.tuple #[v, .int .i64 (rsplitB s.data.toList).2]) ∧ w'.ownsRow w.heap.size 49 2 v (rsplitB s.data.toList).1.length (rowF (rsplitB s.data.toList).1) ∧ Below w.heap.size w w' := by
  have hsz : s.size = s.data.toList.length := Lib.size_eq s
  by_cases h4 : 4096 < s.size
  · have hd : Hid (rsplitB s.data.toList = ([], 3)) := by unfold Hid rsplitB; rw [if_pos (by omega)]
    clear hsz
    go_enter Tryz.func14, Tryz.ntmps14
    go_wp2
    go_ret2
    rw [hd.out]
    exact ⟨_, rfl, World.ownsRow_nil _ _ _ _, Below.refl _ _⟩
  have hd : Hid (rsplitB s.data.toList = match rsB (s.size + 1) s.data.toList with
    | none => ([], 6)
    | some L => if 64 < L.length then ([], 3) else (L, 0)) := by unfold Hid rsplitB; rw [if_neg (by omega), hsz]
  have hLn : Hid (∀ L, rsB (s.size + 1) s.data.toList = some L → L.length ≤ s.size) := by
    intro L hL; have := rsB_len _ _ _ hL; omega
  clear hsz
  obtain ⟨i0, hi, hz0, hz1, hz2⟩ := info_parts Tryz.infoRef
  have Hhi := Lib.hid hi
  have Hz0 := Lib.hid hz0
  have Hz1 := Lib.hid hz1
  have Hz2 := Lib.hid hz2
  clear hi hz0 hz1 hz2
  go_enter Tryz.func14, Tryz.ntmps14
  go_wp2_with fail
  go_loopw [4, 5] (fun v i wr => ∃ (k : Nat) (L : List Fd) (f : Nat), k ≤ s.size + 1 ∧ i = .int .i64 k ∧ wr.ownsRow w.heap.size 49 2 v L.length (rowF L) ∧ Hid (L.length ≤ k) ∧ Hid (s.size + 1 - k < f + 1) ∧ Hid (rsB (s.size + 1) s.data.toList = (rsB f (s.data.toList.drop k)).map (L ++ ·)) ∧ Below w.heap.size w wr) (fun _ i _ => s.size + 1 - (intOf i).toNat)
  case atStart => exact ⟨0, [], s.size + 1, Nat.zero_le _, rfl, World.ownsRow_nil _ _ _ _, Nat.le_refl _, (by unfold Hid; omega), by unfold Hid; rw [List.drop_zero]; cases rsB (s.size + 1) s.data.toList <;> rfl, Below.refl _ _⟩
  case round =>
    obtain ⟨k, L, f, hk, rfl, hr, HLk, HF, HR, hB⟩ := hrel
    by_cases hlt : k < s.size
    · obtain ⟨f, rfl⟩ : ∃ g, f = g + 1 := ⟨f - 1, by have := HF.out; omega⟩
      obtain ⟨E, hE⟩ : ∃ E, reB (s.data.toList.drop k) = E := ⟨_, rfl⟩
      obtain ⟨p, hp⟩ : ∃ p, s.extract k (k + E) = p := ⟨_, rfl⟩
      obtain ⟨r1, r2, r3, r4, r5, r6⟩ := rs_at s k hlt f E hE p hp
      have hki : (k : Int) < (s.size : Int) := by omega
      have hpe : p.size ≤ 1000000 := by rw [← hp, Lib.size_eq, Lib.extract_data]; simp only [List.length_take, List.length_drop]; rw [← Lib.size_eq]; omega
      have HEn := Lib.hid (hE ▸ refend_any s k hlt wr (by omega))
      have R3 := Lib.hid r3
      have R4 := Lib.hid r4
      have R5 := Lib.hid r5
      have R6 := Lib.hid r6
      have hci : ((k + E : Nat) : Int) = (k : Int) + (E : Int) := by omega
      rw [hci] at HEn
      have HP := Lib.hid hp
      have b1 : (k : Int) ≤ (k : Int) + (E : Int) := by omega
      have b2 : (k : Int) + (E : Int) ≤ (s.size : Int) := by omega
      have b3 : ((k : Int) + (E : Int)).toNat = k + E := by omega
      have HCI := Lib.hid hci
      clear r3 r4 r5 r6 hE hp hci
      go_wp2_with fail
      refine HEn.out.mono ?_
      rintro e w1 ⟨rfl, rfl⟩
      by_cases h34 : (s[k].toNat : Int) = 34
      · have q34 : ((s[k].toNat : Int) == 34) = true := by simp [h34]
        rw [decide_eq_true h34] at r2
        obtain ⟨o1, o2⟩ := okB_q _ r2
        have O1 := Lib.hid o1
        have O2 := Lib.hid o2
        clear o1 o2 r2 h34
        obtain ⟨a, HA⟩ : ∃ a : BA, Hid ((⟨(unqB p.data.toList).1.toArray⟩ : BA) = a) := ⟨_, rfl⟩
        obtain ⟨ec, HE⟩ : ∃ a : Int, Hid ((unqB p.data.toList).2 = a) := ⟨_, rfl⟩
        have HU := Lib.hid (refUnquote_f p a ec)
        go_wp2_with fail
        rw [HP.out]
        go_wp2_with fail
        refine (HU.out _ hpe HA.out HE.out).mono ?_
        rintro e w2 ⟨rfl, rfl⟩
        by_cases hec : ec = 0
        case neg =>
          have hec1 : (ec != 0) = true := by simp [hec]
          have hd2 : Hid (rsplitB s.data.toList = ([], 6)) := by
            unfold Hid; rw [hd.out, HR.out, R3.out (by rw [O1.out, HE.out]; exact decide_eq_false hec)]; rfl
          clear hec
          go_wp2_with fail
          go_ret2
          rw [hd2.out]
          exact ⟨_, rfl, World.ownsRow_nil _ _ _ _, hB.alloc hB.size _⟩
        have hec1 : (ec != 0) = false := by simp [hec]
        have hok : okB p.data.toList = true := by rw [O1.out, HE.out]; exact decide_eq_true hec
        have hat : Hid (a.data.toList = (unqB p.data.toList).1) := by unfold Hid; rw [← HA.out]
        have hrt : Hid (rgtB true a.data.toList = true) := by unfold Hid; rw [hat.out]; exact unq_text (HE.out.trans hec)
        have has : a.size ≤ 1000000 := by
          have := unqB_size' p.data.toList
          rw [HA.out] at this; exact this
        have hfl : Hid (fieldV (fldB p.data.toList) = [.bool true, .string a]) := by unfold Hid; rw [O2.out, ← HA.out]; rfl
        have HOK := Lib.hid hok
        clear hec hok
        have hW0 : Below w.heap.size w (wr.alloc (.cells #[.bool true, .string a] 49)) := hB.alloc hB.size _
        go_wp2_with fail
        refine (refRight_q a _ has).mono ?_
        rintro e w3 ⟨rfl, hB3⟩
        rw [hrt.out]
        obtain ⟨c0, c1, f0, f1⟩ := pair_cells (hB3.mono (by simp))
        have hB4 : Below w.heap.size w w3 := hW0.trans (hB3.mono hW0.size)
        have hr3 := (hr.alloc (.cells #[.bool true, .string a] 49)).kept (grown_of_below hB3) (Classical.em _)
        have hr4 := hr3.alloc (.cells #[.bool true, .string a] 49)
        have hnews := cell_two_new w3 (.bool true) (.string a) 49
        have HNW2 : Hid (∀ j u, [Value.bool true, Value.string a][j]? = some u → (w3.alloc (.cells #[.bool true, .string a] 49)).cell? ((⟨w3.heap.size, 0, none⟩ : Addr).add j) = some u) := hnews
        have HN1 : Hid (∀ u ∈ [Value.bool true, Value.string a], u.oneCell' = true) := by intro u hu; simp at hu; rcases hu with rfl | rfl <;> rfl
        have hL2 : L.length ≤ 6001 := by have := HLk.out; omega
        obtain ⟨n, hn⟩ : ∃ n, L.length = n := ⟨_, rfl⟩
        rw [hn] at hr4 hL2
        have HN := Lib.hid hn
        have HR4 := Lib.hid hr4
        have hm1 : n + 1 ≤ maxLen := by unfold maxLen; omega
        have hm2 : (n + 1) * 24 ≤ 140737488355328 := by omega
        have HK3 : Hid (w.heap.size ≤ (w3.alloc (.cells #[.bool true, .string a] 49)).heap.size) := by unfold Hid; have := hB4.size; simp; omega
        clear hr4 hnews hr3 hn
        by_cases hto : k + E = s.size
        · have g1 : ¬ ((k : Int) + (E : Int) < (s.size : Int)) := by omega
          have hnx : Hid (rsB (f + 1) (s.data.toList.drop k) = (rsB f (s.data.toList.drop (k + E + 1))).map (fldB p.data.toList :: ·)) := R6.out HOK.out (.inl hto)
          go_wp2_with (at_builtin; refine wpList_append_own _ rfl _ _ 34 rfl w.heap.size 49 i0 (.agg #[.bool false, .string ⟨#[]⟩]) 2 24 Tryz.underlying34 Hhi.out Hz0.out Hz1.out Hz2.out rfl (by decide) _ _ _ rfl HR4.out ⟨w3.heap.size, 0, none⟩ 1 1 [.bool true, .string a] rfl rfl HNW2.out HN1.out hm1 hm2 HK3.out ?_; intro v' w4 hown' hgrow _)
          have HO := Lib.hid hown'
          have hB5 := (hB4.alloc hB4.size (.cells #[.bool true, .string a] 49)).grown hgrow (by have := hB4.size; simp; omega) (fun j e => (hr.lt j e).1)
          clear hown' hgrow
          go_wp2
          go_roundw
          case rel => exact ⟨k + E + 1, L ++ [fldB p.data.toList], f, by omega, by go_num, by rw [rowF_snoc, hfl.out, List.length_append, List.length_singleton, HN.out]; exact HO.out, by unfold Hid; rw [List.length_append, List.length_singleton]; have := HLk.out; omega, by unfold Hid; have := HF.out; omega, by
            unfold Hid
            rw [HR.out, hnx.out, Option.map_map]
            congr 1
            funext y
            simp, hB5⟩
          case measure => simp [intOf]; omega
        · have g1 : (k : Int) + (E : Int) < (s.size : Int) := by omega
          have g1n : k + E < s.size := by omega
          by_cases h32 : (s[k + E].toNat : Int) = 32
          · have q32 : ((s[k + E].toNat : Int) != 32) = false := by simp [h32]
            by_cases hl1 : k + E + 1 = s.size
            · have g2 : ((k : Int) + (E : Int) + 1 == (s.size : Int)) = true := by simp; omega
              have hd2 : Hid (rsplitB s.data.toList = ([], 6)) := by unfold Hid; rw [hd.out, HR.out, R5.out hl1]; rfl
              clear h32 hl1 hto
              go_wp2_with fail
              all_goals first | (exfalso; omega) | skip
              go_ret2
              rw [hd2.out]
              exact ⟨_, rfl, World.ownsRow_nil _ _ _ _, hB4⟩
            · have g2 : ((k : Int) + (E : Int) + 1 == (s.size : Int)) = false := by simp; omega
              have hnx : Hid (rsB (f + 1) (s.data.toList.drop k) = (rsB f (s.data.toList.drop (k + E + 1))).map (fldB p.data.toList :: ·)) := R6.out HOK.out (.inr ⟨g1n, h32, hl1⟩)
              clear h32 hl1
              go_wp2_with (at_builtin; refine wpList_append_own _ rfl _ _ 34 rfl w.heap.size 49 i0 (.agg #[.bool false, .string ⟨#[]⟩]) 2 24 Tryz.underlying34 Hhi.out Hz0.out Hz1.out Hz2.out rfl (by decide) _ _ _ rfl HR4.out ⟨w3.heap.size, 0, none⟩ 1 1 [.bool true, .string a] rfl rfl HNW2.out HN1.out hm1 hm2 HK3.out ?_; intro v' w4 hown' hgrow _)
              have HO := Lib.hid hown'
              have hB5 := (hB4.alloc hB4.size (.cells #[.bool true, .string a] 49)).grown hgrow (by have := hB4.size; simp; omega) (fun j e => (hr.lt j e).1)
              clear hown' hgrow
              go_wp2
              go_roundw
              case rel => exact ⟨k + E + 1, L ++ [fldB p.data.toList], f, by omega, by go_num, by rw [rowF_snoc, hfl.out, List.length_append, List.length_singleton, HN.out]; exact HO.out, by unfold Hid; rw [List.length_append, List.length_singleton]; have := HLk.out; omega, by unfold Hid; have := HF.out; omega, by
                unfold Hid
                rw [HR.out, hnx.out, Option.map_map]
                congr 1
                funext y
                simp, hB5⟩
              case measure => simp [intOf]; omega
          · have q32 : ((s[k + E].toNat : Int) != 32) = true := by simp [h32]
            have hd2 : Hid (rsplitB s.data.toList = ([], 6)) := by unfold Hid; rw [hd.out, HR.out, R4.out g1n h32]; rfl
            clear h32 hto
            go_wp2_with fail
            all_goals first | (exfalso; omega) | skip
            go_ret2
            rw [hd2.out]
            exact ⟨_, rfl, World.ownsRow_nil _ _ _ _, hB4⟩
      · have q34 : ((s[k].toNat : Int) == 34) = false := by simp [h34]
        rw [decide_eq_false h34] at r2
        obtain ⟨o1, o2⟩ := okB_b _ r2
        have O1 := Lib.hid o1
        have O2 := Lib.hid o2
        clear o1 o2 r2 h34
        have hfl : Hid (fieldV (fldB p.data.toList) = [.bool false, .string p]) := by unfold Hid; rw [O2.out]; exact congrArg (fun x => [Value.bool false, .string x]) (Lib.mk_data p)
        have hrt : Hid (rgtB false p.data.toList = okB p.data.toList) := by unfold Hid; rw [O1.out, bare_eq]
        have has := hpe
        go_wp2_with fail
        rw [HP.out]
        cases hok : okB p.data.toList
        case false =>
          have hd2 : Hid (rsplitB s.data.toList = ([], 6)) := by unfold Hid; rw [hd.out, HR.out, R3.out hok]; rfl
          rw [hok] at hrt
          clear hok
          go_wp2_with fail
          refine (refRight_b p _ hpe).mono ?_
          rintro e w3 ⟨rfl, hB3⟩
          rw [hrt.out]
          go_wp2_with fail
          go_ret2
          rw [hd2.out]
          exact ⟨_, rfl, World.ownsRow_nil _ _ _ _, (hB.alloc hB.size _).trans (hB3.mono (by have := hB.size; simp; omega))⟩
        rw [hok] at hrt
        have HOK := Lib.hid hok
        clear hok
        have hW0 : Below w.heap.size w (wr.alloc (.cells #[.bool false, .string p] 49)) := hB.alloc hB.size _
        go_wp2_with fail
        refine (refRight_b p _ has).mono ?_
        rintro e w3 ⟨rfl, hB3⟩
        rw [hrt.out]
        obtain ⟨c0, c1, f0, f1⟩ := pair_cells (hB3.mono (by simp))
        have hB4 : Below w.heap.size w w3 := hW0.trans (hB3.mono hW0.size)
        have hr3 := (hr.alloc (.cells #[.bool false, .string p] 49)).kept (grown_of_below hB3) (Classical.em _)
        have hr4 := hr3.alloc (.cells #[.bool false, .string p] 49)
        have hnews := cell_two_new w3 (.bool false) (.string p) 49
        have HNW2 : Hid (∀ j u, [Value.bool false, Value.string p][j]? = some u → (w3.alloc (.cells #[.bool false, .string p] 49)).cell? ((⟨w3.heap.size, 0, none⟩ : Addr).add j) = some u) := hnews
        have HN1 : Hid (∀ u ∈ [Value.bool false, Value.string p], u.oneCell' = true) := by intro u hu; simp at hu; rcases hu with rfl | rfl <;> rfl
        have hL2 : L.length ≤ 6001 := by have := HLk.out; omega
        obtain ⟨n, hn⟩ : ∃ n, L.length = n := ⟨_, rfl⟩
        rw [hn] at hr4 hL2
        have HN := Lib.hid hn
        have HR4 := Lib.hid hr4
        have hm1 : n + 1 ≤ maxLen := by unfold maxLen; omega
        have hm2 : (n + 1) * 24 ≤ 140737488355328 := by omega
        have HK3 : Hid (w.heap.size ≤ (w3.alloc (.cells #[.bool false, .string p] 49)).heap.size) := by unfold Hid; have := hB4.size; simp; omega
        clear hr4 hnews hr3 hn
        by_cases hto : k + E = s.size
        · have g1 : ¬ ((k : Int) + (E : Int) < (s.size : Int)) := by omega
          have hnx : Hid (rsB (f + 1) (s.data.toList.drop k) = (rsB f (s.data.toList.drop (k + E + 1))).map (fldB p.data.toList :: ·)) := R6.out HOK.out (.inl hto)
          go_wp2_with (at_builtin; refine wpList_append_own _ rfl _ _ 34 rfl w.heap.size 49 i0 (.agg #[.bool false, .string ⟨#[]⟩]) 2 24 Tryz.underlying34 Hhi.out Hz0.out Hz1.out Hz2.out rfl (by decide) _ _ _ rfl HR4.out ⟨w3.heap.size, 0, none⟩ 1 1 [.bool false, .string p] rfl rfl HNW2.out HN1.out hm1 hm2 HK3.out ?_; intro v' w4 hown' hgrow _)
          have HO := Lib.hid hown'
          have hB5 := (hB4.alloc hB4.size (.cells #[.bool false, .string p] 49)).grown hgrow (by have := hB4.size; simp; omega) (fun j e => (hr.lt j e).1)
          clear hown' hgrow
          go_wp2
          go_roundw
          case rel => exact ⟨k + E + 1, L ++ [fldB p.data.toList], f, by omega, by go_num, by rw [rowF_snoc, hfl.out, List.length_append, List.length_singleton, HN.out]; exact HO.out, by unfold Hid; rw [List.length_append, List.length_singleton]; have := HLk.out; omega, by unfold Hid; have := HF.out; omega, by
            unfold Hid
            rw [HR.out, hnx.out, Option.map_map]
            congr 1
            funext y
            simp, hB5⟩
          case measure => simp [intOf]; omega
        · have g1 : (k : Int) + (E : Int) < (s.size : Int) := by omega
          have g1n : k + E < s.size := by omega
          by_cases h32 : (s[k + E].toNat : Int) = 32
          · have q32 : ((s[k + E].toNat : Int) != 32) = false := by simp [h32]
            by_cases hl1 : k + E + 1 = s.size
            · have g2 : ((k : Int) + (E : Int) + 1 == (s.size : Int)) = true := by simp; omega
              have hd2 : Hid (rsplitB s.data.toList = ([], 6)) := by unfold Hid; rw [hd.out, HR.out, R5.out hl1]; rfl
              clear h32 hl1 hto
              go_wp2_with fail
              all_goals first | (exfalso; omega) | skip
              go_ret2
              rw [hd2.out]
              exact ⟨_, rfl, World.ownsRow_nil _ _ _ _, hB4⟩
            · have g2 : ((k : Int) + (E : Int) + 1 == (s.size : Int)) = false := by simp; omega
              have hnx : Hid (rsB (f + 1) (s.data.toList.drop k) = (rsB f (s.data.toList.drop (k + E + 1))).map (fldB p.data.toList :: ·)) := R6.out HOK.out (.inr ⟨g1n, h32, hl1⟩)
              clear h32 hl1
              go_wp2_with (at_builtin; refine wpList_append_own _ rfl _ _ 34 rfl w.heap.size 49 i0 (.agg #[.bool false, .string ⟨#[]⟩]) 2 24 Tryz.underlying34 Hhi.out Hz0.out Hz1.out Hz2.out rfl (by decide) _ _ _ rfl HR4.out ⟨w3.heap.size, 0, none⟩ 1 1 [.bool false, .string p] rfl rfl HNW2.out HN1.out hm1 hm2 HK3.out ?_; intro v' w4 hown' hgrow _)
              have HO := Lib.hid hown'
              have hB5 := (hB4.alloc hB4.size (.cells #[.bool false, .string p] 49)).grown hgrow (by have := hB4.size; simp; omega) (fun j e => (hr.lt j e).1)
              clear hown' hgrow
              go_wp2
              go_roundw
              case rel => exact ⟨k + E + 1, L ++ [fldB p.data.toList], f, by omega, by go_num, by rw [rowF_snoc, hfl.out, List.length_append, List.length_singleton, HN.out]; exact HO.out, by unfold Hid; rw [List.length_append, List.length_singleton]; have := HLk.out; omega, by unfold Hid; have := HF.out; omega, by
                unfold Hid
                rw [HR.out, hnx.out, Option.map_map]
                congr 1
                funext y
                simp, hB5⟩
              case measure => simp [intOf]; omega
          · have q32 : ((s[k + E].toNat : Int) != 32) = true := by simp [h32]
            have hd2 : Hid (rsplitB s.data.toList = ([], 6)) := by unfold Hid; rw [hd.out, HR.out, R4.out g1n h32]; rfl
            clear h32 hto
            go_wp2_with fail
            all_goals first | (exfalso; omega) | skip
            go_ret2
            rw [hd2.out]
            exact ⟨_, rfl, World.ownsRow_nil _ _ _ _, hB4⟩
    · have hdn : s.data.toList.drop k = [] := List.drop_eq_nil_of_le (by rw [← Lib.size_eq]; omega)
      have hR2 : rsB (s.size + 1) s.data.toList = some L := by rw [HR.out, hdn, rs_nil]; simp
      have hL1 := hLn.out L hR2
      have hd2 : Hid (rsplitB s.data.toList = if 64 < L.length then ([], 3) else (L, 0)) := by unfold Hid; rw [hd.out, hR2]
      have hki : ¬ (k : Int) < (s.size : Int) := by omega
      obtain ⟨va, vc, rfl⟩ := ownsRow_form hr
      obtain ⟨n, hn⟩ : ∃ n, L.length = n := ⟨_, rfl⟩
      rw [hn] at hr hd2 hL1 ⊢
      have HN := Lib.hid hn
      clear hdn hR2 hn
      by_cases h64 : 64 < n
      · have hd3 : Hid (rsplitB s.data.toList = ([], 3)) := by unfold Hid; rw [hd2.out, if_pos h64]
        go_wp2_with fail
        go_ret2
        rw [hd3.out]
        exact ⟨_, rfl, World.ownsRow_nil _ _ _ _, hB⟩
      · have hd3 : Hid (rsplitB s.data.toList = (L, 0)) := by unfold Hid; rw [hd2.out, if_neg h64]
        go_wp2_with fail
        go_ret2
        rw [hd3.out, HN.out]
        exact ⟨_, rfl, hr, hB⟩
end Go.Proofs.YtdcgfbebeiheiaaGreatDoor
