/- RefusalsSteps: every state and kind. -/
import Derived.Test.YtldebakeebajkaaDoorRfSs
namespace Go.Proofs.YtldebakeebajkaaDoor
open Go.RowKit Go.Shelf
attribute [local go_sem] Oper.semAt_some

theorem RAt.apart {w : World} {u : Value} {l : List RlI} (r : RAt w u l) (b : Nat) (hb : w.heap.size ≤ b) : l = [] ∨ u.ownBlock ≠ some b := by
  rcases r with h | ⟨g, off, cap, rfl, h1, h2, hc⟩
  · exact .inl h.2
  · cases l with
    | nil => exact .inl rfl
    | cons x l =>
      right
      intro e
      obtain rfl : g = b := by simpa [Value.ownBlock] using e
      have := (hc 0 x rfl).1
      have h3 : w.heap[g]? = none := Array.getElem?_eq_none (by omega)
      simp [World.cell?, h3] at this
set_option maxRecDepth 100000 in
set_option maxHeartbeats 2000000 in
theorem steps_wide (v : Value) (l : List RlI) (c h : Nat → Int) (hwd : (wdB c || farB l.length) = true) (kd : Int) (w : World) (hw : Gd w) (hr : RAt w v l) :
    Calls Tryd.prog 6 #[stV v c h, .int .i64 kd] w fun e w' => e = .returned (.bool true) ∧ Below w.heap.size w w' := by
  obtain ⟨WL, hWL⟩ : ∃ x, w.alloc (.cells (stA v c h) 40) = x := ⟨_, rfl⟩
  have hb : Below w.heap.size w WL := by rw [← hWL]; exact (Below.refl _ _).alloc (Nat.le_refl _) _
  have sS : SBox WL w.heap.size v c h := by rw [← hWL]; exact SBox.new w v c h
  have HF := Lib.hid (wide_is v l c h true hwd WL (hr.later hb))
  clear hwd
  go_enter Tryd.func6, Tryd.ntmps6
  go_wp2_with (refine wpList_load_row rfl 40 _ rfl w.heap.size rfl 40 _ (0, 0) _ sS Tryd.underlying40 rfl (st_i _ _ _) ?_)
  try rw [hWL]
  refine HF.out.mono ?_
  rintro e w1 ⟨rfl, B1⟩
  have hB1 := hb.trans (B1.mono hb.size)
  clear hWL
  go_wp2_with fail
  refine (shown_is _ (hw.later hB1)).mono ?_
  rintro e w2 ⟨rfl, B2⟩
  go_wp2
  go_ret
  exact ⟨rfl, hB1.trans (B2.mono hB1.size)⟩
theorem stC_nil {w W w' : World} {c h : Nat → Int} {g : Value → Value} {e : Ending} (he : e = .returned (g (stV (.slice none 0 0) c h))) (hb : Below W.heap.size W w') : StC w W [] c h g e w' :=
  ⟨_, he, nil_at _, fun _ _ _ => .inl rfl, hb⟩
theorem law_steps (v : Value) (l : List RlI) (c h : Nat → Int) (kd : Int) (w : World) (hw : Gd w) (hr : RAt w v l) :
    Calls Tryd.prog 6 #[stV v c h, .int .i64 kd] w fun e w' => e = .returned (.bool true) ∧ Below w.heap.size w w' := by
  cases hwd : (wdB c || farB l.length)
  · obtain ⟨i, e, hc⟩ : ∃ i e, chkP l = (i, e) := ⟨_, _, rfl⟩
    by_cases h0 : e = 0
    · obtain ⟨L, rfl, hL⟩ := chkP_ok (l := l) (by rw [hc]; exact h0)
      have hwd1 : wdB c = false := by cases hx : wdB c <;> simp [hx] at hwd ⊢
      have hs : ∀ k, k < 7 → c k ≤ 49708 ∨ 1000000 < c k := fun k hk => by rcases wdB_false hwd1 k hk with h | h <;> omega
      have hS : ∀ W, Below w.heap.size w W → Calls Tryd.prog 28 #[.agg #[v]] W (StC w W (toI L) zer zer fun s => .tuple #[s, .int .i64 0]) := fun W hW =>
        (Start_ok v L hL W (hr.later hW)).mono fun e w' ⟨u, he, h1, h2, h3⟩ => ⟨u, he, h1, fun b _ hb => .inr fun e => by have := h2 b e; omega, h3⟩
      have hRS : ∀ W, Below w.heap.size w W → Calls Tryd.prog 29 #[.agg #[v]] W (StC w W (toI L) zer zer fun s => .tuple #[s, .int .i64 0]) := fun W hW =>
        (RStart_ok v L hL W (hr.later hW)).mono fun e w' ⟨he, h3⟩ => ⟨v, he, (hr.later hW).later h3, fun b hb _ => hr.apart b hb, h3⟩
      obtain ⟨x, hf⟩ : ∃ x, csF L c h = x := ⟨_, rfl⟩
      have hC : ∀ W, Below w.heap.size w W → Calls Tryd.prog 31 #[stV v c h] W fun e w' => e = .returned (.int .i64 x) ∧ Below W.heap.size W w' := fun W hW => CheckState_is v L hL c h hs x hf W (hr.later hW)
      have hRC : ∀ W, Below w.heap.size w W → Calls Tryd.prog 32 #[stV v c h] W fun e w' => e = .returned (.int .i64 x) ∧ Below W.heap.size W w' := fun W hW => RCheckState_is v L hL c h x hf W (hr.later hW)
      by_cases hx : x = 0
      · subst hx
        have hmd : ∀ k, k < 7 → c k = (((c k).toNat : Nat) : Int) := fun k hk => by obtain ⟨n, h1, _⟩ := okS_num (csF_ok hf k hk); omega
        have hmd3 : ∀ k, k < 7 → (c k).toNat ≤ 3000 := fun k hk => by
          obtain ⟨n, h1, h2, _⟩ := okS_num (csF_ok hf k hk)
          rcases wdB_false hwd1 k hk with h | h <;> omega
        have hR : ∀ W, Below w.heap.size w W → Calls Tryd.prog 35 #[stV v c h] W fun e w' => ∃ u, e = .returned (.tuple #[.agg #[u], .int .i64 0]) ∧ RAt w' u (toI (restL L fun k => (c k).toNat)) ∧ Below W.heap.size W w' := fun W hW =>
          Rest_ok v L hL c h hs hf (fun k => (c k).toNat) hmd (fun k hk => by have := hmd3 k hk; show (c k).toNat ≤ _; omega) W (hr.later hW)
        have hRR : ∀ W, Below w.heap.size w W → Calls Tryd.prog 36 #[stV v c h] W fun e w' => ∃ u, e = .returned (.tuple #[.agg #[u], .int .i64 0]) ∧ RAt w' u (toI (restL L fun k => (c k).toNat)) ∧ Below W.heap.size W w' := fun W hW =>
          RRest_ok v L hL c h hf (fun k => (c k).toNat) hmd (fun k hk => by have := hmd3 k hk; show (c k).toNat ≤ _; omega) W (hr.later hW)
        cases hk : isK kd
        · exact steps_any v _ c h hwd kd w hw hr 0 0 2 0 zer zer false (toI L) [] _ hS hRS hC hRC
            (fun W hW => (Next_kind v c h kd hk W fun W' hW' => hC W' (hW.trans (hW'.mono hW.size))).mono fun e w' ⟨he, hb⟩ => stC_nil he hb)
            (fun W hW => (RNext_kind v c h kd hk W fun W' hW' => hRC W' (hW.trans (hW'.mono hW.size))).mono fun e w' ⟨he, hb⟩ => stC_nil he hb) hR hRR
        · obtain ⟨k, rfl, hk7⟩ : ∃ k : Nat, kd = (k : Int) ∧ k < 7 := by
            unfold isK at hk
            simp at hk
            exact ⟨kd.toNat, by omega, by omega⟩
          have hck := hmd k hk7
          have hc3 := hmd3 k hk7
          exact steps_any v _ c h hwd k w hw hr 0 0 0 0 (upd c k ((c k).toNat + 1 : Nat)) (nxH L h k (c k).toNat) (refP L k ((c k).toNat + 1)) (toI L) (toI L) _ hS hRS hC hRC
            (fun W hW => (Next_ok v L hL c h hs hf k (c k).toNat hk7 hck (by omega) W (hr.later hW)).mono fun e w' ⟨u, he, h1, h2, h3⟩ => ⟨u, he, h1, fun b _ hb => .inr fun e => by have := h2 b e; omega, h3⟩)
            (fun W hW => (RNext_ok v L hL c h hf k (c k).toNat hk7 hck (by omega) W (hr.later hW)).mono fun e w' ⟨he, h3⟩ => ⟨v, he, (hr.later hW).later h3, fun b hb _ => hr.apart b hb, h3⟩) hR hRR
      · exact steps_any v _ c h hwd kd w hw hr 0 x x x zer zer false (toI L) [] [] hS hRS hC hRC
          (fun W hW => (Next_bad v c h x hx kd W fun W' hW' => hC W' (hW.trans (hW'.mono hW.size))).mono fun e w' ⟨he, hb⟩ => stC_nil he hb)
          (fun W hW => (RNext_bad v c h x hx kd W fun W' hW' => hRC W' (hW.trans (hW'.mono hW.size))).mono fun e w' ⟨he, hb⟩ => stC_nil he hb)
          (fun W hW => (Rest_bad v c h x hx W fun W' hW' => hC W' (hW.trans (hW'.mono hW.size))).mono fun e w' ⟨he, hb⟩ => ⟨_, he, nil_at _, hb⟩)
          (fun W hW => (RRest_bad v c h x hx W fun W' hW' => hRC W' (hW.trans (hW'.mono hW.size))).mono fun e w' ⟨he, hb⟩ => ⟨_, he, nil_at _, hb⟩)
    · have hC : ∀ W, Below w.heap.size w W → Calls Tryd.prog 31 #[stV v c h] W fun x w' => x = .returned (.int .i64 e) ∧ Below W.heap.size W w' := fun W hW => CheckState_bad v l i e hc h0 c h W (hr.later hW)
      have hRC : ∀ W, Below w.heap.size w W → Calls Tryd.prog 32 #[stV v c h] W fun x w' => x = .returned (.int .i64 e) ∧ Below W.heap.size W w' := fun W hW => RCheckState_bad v l i e hc h0 c h W (hr.later hW)
      exact steps_any v _ c h hwd kd w hw hr e e e e zer zer false [] [] []
        (fun W hW => (Start_bad v l i e hc h0 W (hr.later hW)).mono fun e w' ⟨he, hb⟩ => stC_nil he hb)
        (fun W hW => (RStart_bad v l i e hc h0 W (hr.later hW)).mono fun e w' ⟨he, hb⟩ => stC_nil he hb) hC hRC
        (fun W hW => (Next_bad v c h e h0 kd W fun W' hW' => hC W' (hW.trans (hW'.mono hW.size))).mono fun e w' ⟨he, hb⟩ => stC_nil he hb)
        (fun W hW => (RNext_bad v c h e h0 kd W fun W' hW' => hRC W' (hW.trans (hW'.mono hW.size))).mono fun e w' ⟨he, hb⟩ => stC_nil he hb)
        (fun W hW => (Rest_bad v c h e h0 W fun W' hW' => hC W' (hW.trans (hW'.mono hW.size))).mono fun e w' ⟨he, hb⟩ => ⟨_, he, nil_at _, hb⟩)
        (fun W hW => (RRest_bad v c h e h0 W fun W' hW' => hRC W' (hW.trans (hW'.mono hW.size))).mono fun e w' ⟨he, hb⟩ => ⟨_, he, nil_at _, hb⟩)
  · exact steps_wide v l c h hwd kd w hw hr
end Go.Proofs.YtldebakeebajkaaDoor
