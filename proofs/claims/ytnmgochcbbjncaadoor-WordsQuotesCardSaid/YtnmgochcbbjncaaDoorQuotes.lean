/- The law of quoting: its walk. -/
import Derived.Test.YtnmgochcbbjncaaDoorShown
import Derived.Test.YtnmgochcbbjncaaDoorRefU
namespace Go.Proofs.YtnmgochcbbjncaaDoor
open Go.RowKit

theorem quoteB_size (l : List UInt8) : (⟨(quoteB l).1.toArray⟩ : ByteArray).size ≤ 1000000 := by
  rw [Lib.size_eq]
  show (quoteB l).1.length ≤ _
  unfold quoteB
  split
  · rename_i h
    unfold textB at h
    rw [Bool.and_eq_true, decide_eq_true_eq] at h
    have := replaceAll_len l [34] [34, 34] (Nat.le_refl _)
    simp only [List.length_cons, List.length_append, List.length_nil]
    omega
  · exact Nat.zero_le _
theorem unqB_size (l : List UInt8) : (⟨(unqB l).1.toArray⟩ : ByteArray).size ≤ maxLen := by
  rw [Lib.size_eq]
  show (unqB l).1.length ≤ _
  rw [unqB_eq]
  have h0 : ([] : List UInt8).length ≤ maxLen := Nat.zero_le _
  split
  · split
    · split
      · rename_i h
        unfold textB at h
        rw [Bool.and_eq_true, decide_eq_true_eq] at h
        unfold maxLen
        simp only
        omega
      · exact h0
    · exact h0
  · exact h0

theorem Quote_e (s : BA) (a : BA) (e : Int) (w : World) (hw : Gd w) (hs : s.size ≤ maxLen) (ha : (⟨(quoteB s.data.toList).1.toArray⟩ : BA) = a) (he : (quoteB s.data.toList).2 = e) :
    Calls Tryd.prog 26 #[.string s] w fun x w' => x = .returned (.tuple #[.string a, .int .i64 e]) ∧ Below w.heap.size w w' := by
  subst ha; subst he; exact Quote_any s w hw hs
theorem Unquote_e (s : BA) (a : BA) (e : Int) (w : World) (hw : Gd w) (hs : s.size ≤ 1000000) (ha : (⟨(unqB s.data.toList).1.toArray⟩ : BA) = a) (he : (unqB s.data.toList).2 = e) :
    Calls Tryd.prog 28 #[.string s] w fun x w' => x = .returned (.tuple #[.string a, .int .i64 e]) ∧ Below w.heap.size w w' := by
  subst ha; subst he; exact Unquote_any s w hw hs
theorem refQuote_e (s : BA) (a : BA) (e : Int) (w : World) (hs : s.size ≤ 1000000) (ha : (⟨(quoteB s.data.toList).1.toArray⟩ : BA) = a) (he : (quoteB s.data.toList).2 = e) :
    Calls Tryd.prog 27 #[.string s] w fun x w' => x = .returned (.tuple #[.string a, .int .i64 e]) ∧ w = w' := by
  subst ha; subst he; exact refQuote_any s w hs
theorem refUnquote_e (s : BA) (a : BA) (e : Int) (w : World) (hs : s.size ≤ 1000000) (ha : (⟨(unqB s.data.toList).1.toArray⟩ : BA) = a) (he : (unqB s.data.toList).2 = e) :
    Calls Tryd.prog 29 #[.string s] w fun x w' => x = .returned (.tuple #[.string a, .int .i64 e]) ∧ w = w' := by
  subst ha; subst he; exact refUnquote_any s w hs

theorem unquote_quote (s a : BA) (ha : (⟨(quoteB s.data.toList).1.toArray⟩ : BA) = a) (he : (quoteB s.data.toList).2 = 0) : (⟨(unqB a.data.toList).1.toArray⟩ : BA) = s ∧ (unqB a.data.toList).2 = 0 := by
  subst ha
  have h := unq_quote s.data.toList he
  have e : (⟨(quoteB s.data.toList).1.toArray⟩ : BA).data.toList = (quoteB s.data.toList).1 := rfl
  rw [e, h]
  exact ⟨(ba_of_list rfl).symm, rfl⟩
theorem quote_unquote (s a : BA) (ha : (⟨(unqB s.data.toList).1.toArray⟩ : BA) = a) (he : (unqB s.data.toList).2 = 0) : (⟨(quoteB a.data.toList).1.toArray⟩ : BA) = s ∧ (quoteB a.data.toList).2 = 0 := by
  subst ha
  have h := quote_unq s.data.toList he
  have e : (⟨(unqB s.data.toList).1.toArray⟩ : BA).data.toList = (unqB s.data.toList).1 := rfl
  rw [e, h]
  exact ⟨(ba_of_list rfl).symm, rfl⟩

set_option maxRecDepth 100000 in
set_option maxHeartbeats 8000000 in
theorem law_quotes (s : BA) (w : World) (hgd : Gd w) (hs : s.size ≤ maxLen) :
    Calls Tryd.prog 8 #[.string s] w fun e w' => e = .returned (.bool true) ∧ Below w.heap.size w w' := by
  have hs' := hs
  unfold maxLen at hs'
  by_cases hb : 20000 < s.size
  · go_enter Tryd.func8, Tryd.ntmps8
    go_wp2_with (first | (go_at_call 10; refine (shown_any _ hgd).mono ?_; rintro e w1 ⟨rfl, hB⟩))
    go_ret
    exact ⟨rfl, hB⟩
  · have hs1 : s.size ≤ 1000000 := by omega
    obtain ⟨a, HA⟩ : ∃ a : BA, Hid ((⟨(quoteB s.data.toList).1.toArray⟩ : BA) = a) := ⟨_, rfl⟩
    obtain ⟨e1, HE⟩ : ∃ a : Int, Hid ((quoteB s.data.toList).2 = a) := ⟨_, rfl⟩
    obtain ⟨c, HC⟩ : ∃ a : BA, Hid ((⟨(unqB s.data.toList).1.toArray⟩ : BA) = a) := ⟨_, rfl⟩
    obtain ⟨g1, HG⟩ : ∃ a : Int, Hid ((unqB s.data.toList).2 = a) := ⟨_, rfl⟩
    have ha : a.size ≤ 1000000 := by rw [← HA.out]; exact quoteB_size _
    have hc : c.size ≤ maxLen := by rw [← HC.out]; exact unqB_size _
    have hu := fun h : e1 = 0 => unquote_quote s a HA.out (HE.out.trans h)
    have hq := fun h : g1 = 0 => quote_unquote s c HC.out (HG.out.trans h)
    have HU := Lib.hid hu
    have HQ := Lib.hid hq
    clear hu hq hs'
    go_enter Tryd.func8, Tryd.ntmps8
    go_wp2_with fail
    refine (Quote_e s a e1 _ hgd hs HA.out HE.out).mono ?_
    rintro e w1 ⟨rfl, hB1⟩
    go_wp2_with fail
    refine (refQuote_e s a e1 _ hs1 HA.out HE.out).mono ?_
    rintro e w2 ⟨rfl, rfl⟩
    go_wp2_with fail
    refine (Unquote_e s c g1 _ (hgd.later hB1) hs1 HC.out HG.out).mono ?_
    rintro e w2 ⟨rfl, hB2⟩
    have b2 := hB1.trans (hB2.mono hB1.size)
    clear hB1 hB2
    go_wp2_with fail
    refine (refUnquote_e s c g1 _ hs1 HC.out HG.out).mono ?_
    rintro e w3 ⟨rfl, rfl⟩
    by_cases he : e1 = 0
    · have hu1 := (HU.out he).1
      have hu2 := (HU.out he).2
      by_cases hg : g1 = 0
      · have hq1 := (HQ.out hg).1
        have hq2 := (HQ.out hg).2
        clear HU HQ
        subst he; subst hg
        go_wp2_with fail
        all_goals first | (exfalso; simp_all; done) | skip
        refine (Unquote_e a s 0 _ (hgd.later b2) ha hu1 hu2).mono ?_
        rintro e w3 ⟨rfl, hB3⟩
        have b3 := b2.trans (hB3.mono b2.size)
        go_wp2_with fail
        all_goals first | (exfalso; simp_all; done) | skip
        refine (Quote_e c s 0 _ (hgd.later b3) hc hq1 hq2).mono ?_
        rintro e w4 ⟨rfl, hB4⟩
        have b4 := b3.trans (hB4.mono b3.size)
        go_wp2_with (first | (go_at_call 10; refine (shown_any _ (hgd.later b4)).mono ?_; rintro e w5 ⟨rfl, hB5⟩))
        all_goals first | (exfalso; simp_all; done) | skip
        go_ret
        exact ⟨rfl, b4.trans (hB5.mono b4.size)⟩
      · clear HU HQ
        subst he
        go_wp2_with fail
        all_goals first | (exfalso; simp_all; done) | skip
        refine (Unquote_e a s 0 _ (hgd.later b2) ha hu1 hu2).mono ?_
        rintro e w3 ⟨rfl, hB3⟩
        have b3 := b2.trans (hB3.mono b2.size)
        go_wp2_with (first | (go_at_call 10; refine (shown_any _ (hgd.later b3)).mono ?_; rintro e w5 ⟨rfl, hB5⟩))
        all_goals first | (exfalso; simp_all; done) | skip
        go_ret
        exact ⟨rfl, b3.trans (hB5.mono b3.size)⟩
    · by_cases hg : g1 = 0
      · have hq1 := (HQ.out hg).1
        have hq2 := (HQ.out hg).2
        clear HU HQ
        subst hg
        go_wp2_with fail
        all_goals first | (exfalso; simp_all; done) | skip
        refine (Quote_e c s 0 _ (hgd.later b2) hc hq1 hq2).mono ?_
        rintro e w4 ⟨rfl, hB4⟩
        have b4 := b2.trans (hB4.mono b2.size)
        go_wp2_with (first | (go_at_call 10; refine (shown_any _ (hgd.later b4)).mono ?_; rintro e w5 ⟨rfl, hB5⟩))
        all_goals first | (exfalso; simp_all; done) | skip
        go_ret
        exact ⟨rfl, b4.trans (hB5.mono b4.size)⟩
      · clear HU HQ
        go_wp2_with (first | (go_at_call 10; refine (shown_any _ (hgd.later b2)).mono ?_; rintro e w5 ⟨rfl, hB5⟩))
        all_goals first | (exfalso; simp_all; done) | skip
        go_ret
        exact ⟨rfl, b2.trans (hB5.mono b2.size)⟩
end Go.Proofs.YtnmgochcbbjncaaDoor
