/- RefusalsCounts: every plan and every list of kinds. -/
import Derived.Test.YtldebakeebajkaaDoorRfCl
namespace Go.Proofs.YtldebakeebajkaaDoor
open Go.RowKit Go.Shelf
attribute [local go_sem] Oper.semAt_some

set_option maxRecDepth 100000 in
set_option maxHeartbeats 2000000 in
theorem counts_far (v : Value) (l : List RlI) (hfar : farB l.length = true) (kv : Value) (ks : List Nat) (w : World) (hw : Gd w) (hr : RAt w v l) (hk : NAt8 w kv ks) :
    Calls Tryd.prog 8 #[.agg #[v], kv] w fun e w' => e = .returned (.bool true) ∧ Below w.heap.size w w' := by
  have hb1 : Below w.heap.size w (w.alloc (.cells #[v] 24)) := (Below.refl _ _).alloc (Nat.le_refl _) _
  have HF := Lib.hid (far_is v l true hfar _ (hr.later hb1))
  obtain ⟨ka, kc, rfl⟩ := hk.form
  clear hfar
  go_enter Tryd.func8, Tryd.ntmps8
  go_wp2_with fail
  refine HF.out.mono ?_
  rintro e w1 ⟨rfl, B1⟩
  have hB1 := hb1.trans (B1.mono hb1.size)
  go_wp2_with fail
  refine (shown_is _ (hw.later hB1)).mono ?_
  rintro e w2 ⟨rfl, B2⟩
  go_wp2
  go_ret
  exact ⟨rfl, hB1.trans (B2.mono hB1.size)⟩
set_option maxRecDepth 100000 in
set_option maxHeartbeats 2000000 in
theorem counts_long (v : Value) (l : List RlI) (hfar : farB l.length = false) (kv : Value) (ks : List Nat) (hks : 60 < ks.length) (w : World) (hw : Gd w) (hr : RAt w v l) (hk : NAt8 w kv ks) :
    Calls Tryd.prog 8 #[.agg #[v], kv] w fun e w' => e = .returned (.bool true) ∧ Below w.heap.size w w' := by
  have hb1 : Below w.heap.size w (w.alloc (.cells #[v] 24)) := (Below.refl _ _).alloc (Nat.le_refl _) _
  have HF := Lib.hid (far_is v l false hfar _ (hr.later hb1))
  have hk64 := hk.len
  obtain ⟨ka, kc, rfl⟩ := hk.form
  have h60 : (60 : Int) < (ks.length : Int) := by omega
  clear hfar
  go_enter Tryd.func8, Tryd.ntmps8
  go_wp2_with fail
  refine HF.out.mono ?_
  rintro e w1 ⟨rfl, B1⟩
  have hB1 := hb1.trans (B1.mono hb1.size)
  go_wp2_with fail
  refine (shown_is _ (hw.later hB1)).mono ?_
  rintro e w2 ⟨rfl, B2⟩
  go_wp2
  go_ret
  exact ⟨rfl, hB1.trans (B2.mono hB1.size)⟩
set_option maxRecDepth 100000 in
set_option maxHeartbeats 2000000 in
theorem counts_bad (v : Value) (l : List RlI) (i : Nat) (c : Int) (hc : chkP l = (i, c)) (h0 : c ≠ 0) (hfar : farB l.length = false) (kv : Value) (ks : List Nat) (hks : ks.length ≤ 60) (w : World) (hw : Gd w) (hr : RAt w v l) (hk : NAt8 w kv ks) :
    Calls Tryd.prog 8 #[.agg #[v], kv] w fun e w' => e = .returned (.bool true) ∧ Below w.heap.size w w' := by
  have hb1 : Below w.heap.size w (w.alloc (.cells #[v] 24)) := (Below.refl _ _).alloc (Nat.le_refl _) _
  have hbx := Boxed.new w 24 v
  have HF := Lib.hid (far_is v l false hfar _ (hr.later hb1))
  obtain ⟨ka, kc, rfl⟩ := hk.form
  have h60 : ¬ (60 : Int) < (ks.length : Int) := by omega
  have hq : (c != 0) = true := by simp [h0]
  have HC := Lib.hid hc
  have H0 := Lib.hid h0
  clear hfar hc h0
  go_enter Tryd.func8, Tryd.ntmps8
  go_wp2_with fail
  refine HF.out.mono ?_
  rintro e w1 ⟨rfl, B1⟩
  have hB1 := hb1.trans (B1.mono hb1.size)
  have hp1 := (hbx.kept (grown_of_below B1) (by simp)).cell
  go_wp2_with fail
  refine (Start_bad v l i c HC.out H0.out _ ((hr.later hb1).later B1)).mono ?_
  rintro e w2 ⟨rfl, B2⟩
  have hB2 := hB1.trans (B2.mono hB1.size)
  obtain ⟨W3, hW3⟩ : ∃ x, w2.alloc (.cells #[.slice none 0 0, .int .i64 0, .int .i64 0, .int .i64 0, .int .i64 0, .int .i64 0, .int .i64 0, .int .i64 0, .int .i64 0, .int .i64 0, .int .i64 0, .int .i64 0, .int .i64 0, .int .i64 0, .int .i64 0] 40) = x := ⟨_, rfl⟩
  have s3 : SBox W3 w2.heap.size (.slice none 0 0) zer zer := by rw [← hW3]; exact SBox.new w2 (.slice none 0 0) zer zer
  have b3 : Below w2.heap.size w2 W3 := by rw [← hW3]; exact (Below.refl _ _).alloc (Nat.le_refl _) _
  go_wp2_with (refine wpList_store_row rfl 40 _ _ rfl w2.heap.size (stA (.slice none 0 0) zer zer) rfl rfl 40 _ s3 (st_i _ _ _) rfl (stA_one _ rfl _ _) ?_)
  have hB3 : Below w.heap.size w (W3.setRow w2.heap.size (stA (.slice none 0 0) zer zer)) := below_row (hB2.trans (b3.mono hB2.size)) _ hB2.size _
  refine (shown_is _ (hw.later hB3)).mono ?_
  rintro e w4 ⟨rfl, B4⟩
  go_wp2
  go_ret
  exact ⟨rfl, hB3.trans (B4.mono hB3.size)⟩

theorem law_counts (v : Value) (l : List RlI) (kv : Value) (ks : List Nat) (hk8 : ∀ x ∈ ks, x < 256) (w : World) (hw : Gd w) (hr : RAt w v l) (hk : NAt8 w kv ks) :
    Calls Tryd.prog 8 #[.agg #[v], kv] w fun e w' => e = .returned (.bool true) ∧ Below w.heap.size w w' := by
  cases hf : farB l.length
  · by_cases hks : ks.length ≤ 60
    · obtain ⟨i, c, hc⟩ : ∃ i c, chkP l = (i, c) := ⟨_, _, rfl⟩
      by_cases h0 : c = 0
      · obtain ⟨L, rfl, hL⟩ := chkP_ok (l := l) (by rw [hc]; exact h0)
        rw [toI_len] at hf
        exact counts_ok v L hL hf kv ks hk8 hks w hw hr hk
      · exact counts_bad v l i c hc h0 hf kv ks hks w hw hr hk
    · exact counts_long v l hf kv ks (by omega) w hw hr hk
  · exact counts_far v l hf kv ks w hw hr hk
end Go.Proofs.YtldebakeebajkaaDoor
