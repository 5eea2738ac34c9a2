/- The range function that yields the words that have bits of a range, each with those of these bits that are set (clear). -/
import Derived.Test.YtpplleojdcgceaaDoorPieces
import Derived.Sort.QuietIn
namespace Go.Proofs.YtpplleojdcgceaaDoor
open Go.RowKit Go.Shelf
attribute [local go_sem] Oper.semAt_some

theorem round_in {m m' l0 : Nat} {P : Program} {l : Nat} {f : FuncId} {tmps : Array Value} {assign body : Code} {w : World} {R : Ending → World → Prop}
    (h : RoundIn Fence.wide m P l f tmps assign body w R) : RoundIn (Fence.wide.inRound l0) m' P l f tmps assign body w R := ⟨h.1, fun c cs _ => h.2 c cs (room_wide _)⟩

def fw (ws : List Nat) (on : Bool) (y : Nat × Nat) : Nat × Nat := (y.1, fnd (ws[y.1]?.getD 0) on y.2)
def mtL (ws : List Nat) (on : Bool) (a t : Nat) : List (Nat × Nat) := (pcL a t).map (fw ws on)
def fwP {L : Nat} (ws : List Nat) (on : Bool) (x : Pw L) : Pw L := ⟨fw ws on x.1, x.2.1, fnd_lt _ _ _ x.2.2⟩
/-- What the rounds of a loop over matches must keep. -/
def MK (B0 : Nat) (v : Value) (ws : List Nat) (b : Nat) (k : Nat) : Prop := (B0 ≤ k ∧ k ≤ B0 + 3) ∨ (ws ≠ [] ∧ v.ownBlock = some k) ∨ b ≤ k

theorem own_KC {β : Type} (B : Nat) (p : Nat → Prop) (W0 : World) : OwnFrom B (fun (_ : β) V => KC p W0 V) := fun _ A C row hs hg hr k o hp h1 h2 => by
  have h3 := hs k o hp h1 h2
  refine (hg.block k (Array.getElem?_eq_some_iff.1 h3).1 (fun e => ?_)).trans h3
  obtain ⟨_, o', h4, h5⟩ := hr k e.symm
  rw [h3] at h4; cases h4; rw [h2] at h5; cases h5
theorem own_map {α β : Type} {B : Nat} {J : List α → World → Prop} (h : OwnFrom B J) (f : β → α) : OwnFrom B (fun (pre : List β) V => J (pre.map f) V) := fun s W W' row hs hg hr => h (s.map f) W W' row hs hg hr
theorem keepsFrom_up {B B' : Nat} {A C : World} (h : KeepsFrom B A C) (hB : B ≤ B') : KeepsFrom B' A C := ⟨h.size, fun k o h1 => h.same k o (Nat.le_trans hB h1)⟩

set_option maxRecDepth 100000 in
set_option maxHeartbeats 4000000 in
theorem matches1_in (n : Nat) (hn : 3 ≤ n) (l B0 B1 B2 B3 L a t : Nat) (N : Int) (v : Value) (ws : List Nat) (hf : Fit64 ws) (hlen : ws.length = L) (ht : t ≤ 64 * L) (hL : L ≤ 64) (on : Bool) (p : Nat → Prop)
    (hp2 : p B2) (hp3 : p B3) (hpw : ws ≠ [] → ∀ k, v.ownBlock = some k → p k) (J Jx : List (Pw L) → World → Prop) (W0 : World) (hpn : ∀ k, W0.heap.size ≤ k → p k)
    (hJ : OwnFrom W0.heap.size J) (hJx : OwnFrom W0.heap.size Jx)
    (hY : ∀ (pre : List (Pw L)) x W, J pre W → pre.length < 200 → YieldAt Fence.wide (n - 1) Tryd.prog l (encW x) W fun e W' =>
      (e = .returned (.bool true) ∧ J (pre ++ [x]) W' ∧ KC p W W' ∧ KeepsFrom W0.heap.size W W') ∨ (e = .returned (.bool false) ∧ Jx (pre ++ [x]) W' ∧ KeepsFrom W0.heap.size W W'))
    (hc0 : Boxed W0 B0 3 (.int .i64 a)) (hc1 : Boxed W0 B1 3 (.int .i64 t)) (hc2 : W0.heap[B2]? = some (.cells #[.int .i64 N, v] 24 (0, 0))) (hc3 : Boxed W0 B3 4 (.bool on)) (hw : WAt W0 v ws) (h0 : J [] W0) :
    CallsIn Fence.wide n Tryd.prog 75 #[.func (.yield l) #[] #[], .pointer (some ⟨B0, 0, none⟩), .pointer (some ⟨B1, 0, none⟩), .pointer (some ⟨B2, 0, none⟩), .pointer (some ⟨B3, 0, none⟩)] W0 fun e W' => (∃ v, e = .returned v) ∧
      ((∃ ys, ys.map Subtype.val = mtL ws on a t ∧ J ys W') ∨ (∃ pre : List (Pw L), pre.map Subtype.val <+: mtL ws on a t ∧ Jx pre W')) := by
  obtain ⟨va, vcap, rfl⟩ := hw.form
  refine callsIn_of_wp_marks Tryd.func75 rfl trivial ?_ rfl
  simp only [Tryd.ntmps75, List.size_toArray, List.length_cons, List.length_nil, Nat.reduceAdd, Nat.reduceSub, Array.replicate_succ, Array.replicate_zero, List.push_toArray, List.append_toArray, List.nil_append, List.cons_append]
  have hf1 := wide_fn 69
  have q0 := hc0.cell
  have q1 := hc1.cell
  have n1 : 1 ≤ n := by omega
  have n2 : 1 ≤ n - 1 := by omega
  have n3 : 1 ≤ n - 1 - 1 := by omega
  have z0 := hc0.lt
  have z1 := hc1.lt
  gi_wp2_with fail
  refine (pieces_any (n - 1) _ _ _).mono ?_
  rintro e w' ⟨rfl, rfl⟩
  gi_wp2_with fail
  have hbW : Below W0.heap.size W0 (((W0.alloc (.cells #[.func (.yield l) #[] #[]] 84)).alloc (.cells #[.int .i64 (a : Int)] 3)).alloc (.cells #[.int .i64 (t : Int)] 3)) := (((Below.refl _ W0).alloc (Nat.le_refl _) _).alloc (by simp) _).alloc (by simp; omega) _
  obtain ⟨WL, hWL⟩ : ∃ V, (((W0.alloc (.cells #[.func (.yield l) #[] #[]] 84)).alloc (.cells #[.int .i64 (a : Int)] 3)).alloc (.cells #[.int .i64 (t : Int)] 3)) = V := ⟨_, rfl⟩
  have hsW : WL.heap.size = W0.heap.size + 3 := by rw [← hWL]; simp
  have bY : Boxed WL W0.heap.size 84 (.func (.yield l) #[] #[]) := by rw [← hWL]; exact ((Boxed.new W0 _ _).alloc _).alloc _
  have b4 : Boxed WL (W0.heap.size + 1) 3 (.int .i64 a) := by
    have := Boxed.new (W0.alloc (.cells #[.func (.yield l) #[] #[]] 84)) 3 (.int .i64 (a : Int))
    rw [World.size_alloc] at this
    rw [← hWL]; exact this.alloc _
  have b5 : Boxed WL (W0.heap.size + 1 + 1) 3 (.int .i64 t) := by
    have := Boxed.new ((W0.alloc (.cells #[.func (.yield l) #[] #[]] 84)).alloc (.cells #[.int .i64 (a : Int)] 3)) 3 (.int .i64 (t : Int))
    rw [World.size_alloc, World.size_alloc] at this
    rw [← hWL]; exact this
  rw [hWL] at hbW ⊢
  have hJW : J [] WL := by rw [← hWL]; exact hJ.alloc _ (hJ.alloc _ (hJ.alloc _ h0))
  clear hWL
  have e2 : WL.heap[B2]? = some (.cells #[.int .i64 N, .slice va ws.length vcap] 24 (0, 0)) := (hbW.block B2 (Array.getElem?_eq_some_iff.1 hc2).1).trans hc2
  have e3 : Boxed WL B3 4 (.bool on) := hc3.kept (grown_of_below hbW) (by simp)
  have hwL := hw.later hbW
  have HC2 := Lib.hid hc2
  clear hc2 hc3 hw q0 q1 hc0 hc1
  refine range_g rfl n1 (gf := 79) (lb := #[.pointer (some ⟨W0.heap.size + 1, 0, none⟩), .pointer (some ⟨W0.heap.size + 1 + 1, 0, none⟩)]) rfl (wide_fn _) (enters_of Tryd.func79 (by kernel_rfl) rfl)
    (pieces_g (n - 1) n2 (W0.heap.size + 1) (W0.heap.size + 1 + 1) L a t ht hL (fun _ => p) (fun _ => hpn _ (by omega)) WL b4 b5) (fun h k => KC.trans h k) (fun _ V k o o' hk hc _ => KC.putObj V k o o' hk hc) (fun _ => rfl)
    (fun pre V => J (pre.map (fwP ws on)) V ∧ KC p WL V) (fun c pre V => c = .ret ∧ Jx (pre.map (fwP ws on)) V)
    ?own ?ownx ?start (fun x => { tmps := #[.func (.yield l) #[] #[], .pointer (some ⟨B0, 0, none⟩), .pointer (some ⟨B1, 0, none⟩), .pointer (some ⟨B2, 0, none⟩), .pointer (some ⟨B3, 0, none⟩), .pointer (some ⟨W0.heap.size, 0, none⟩), .int .i64 (x.1.1 : Nat), .int .u64 (x.1.2 : Nat), undef, .int .i64 (a : Int), .int .i64 (t : Int), .func (.func 79) #[] #[.pointer (some ⟨W0.heap.size + 1, 0, none⟩), .pointer (some ⟨W0.heap.size + 1 + 1, 0, none⟩)], .int .i64 (x.1.1 : Nat), .int .u64 (x.1.2 : Nat), undef, undef, undef, undef, undef, undef, undef, undef, undef, undef, undef, undef, undef, undef, undef, undef, undef, undef, undef, undef, undef], defers := [] }) ?assign ?body ?done ?stop
  case own => exact OwnFrom.and (own_map (ownFrom_up hJ (by omega)) _) (own_KC _ _ _)
  case ownx => exact fun c => OwnFrom.and (ownFrom_pure _ (fun _ => c = .ret)) (own_map (ownFrom_up hJx (by omega)) _)
  case start => exact ⟨hJW, KC.refl _ _⟩
  case assign =>
    intro l x V K hK
    simp only [encW]
    gi_wp2
    exact hK
  case body =>
    rintro l' pre x V ⟨hJV, hKV⟩ hlen
    have c2 := hKV B2 _ hp2 e2 rfl
    have c3 := (show Boxed V B3 4 (.bool on) from hKV B3 _ hp3 e3 rfl).cell
    have cY := (show Boxed V W0.heap.size 84 (.func (.yield l) #[] #[]) from hKV _ _ (hpn _ (Nat.le_refl _)) bY rfl).cell
    have c2' : V.cell? ⟨B2, 1, none⟩ = some (.slice va ws.length vcap) := by simp [World.cell?, c2]
    have hwV := hwL.keep hKV hpw
    obtain ⟨x, hx1, hx2⟩ := x
    obtain ⟨i, m⟩ := x
    simp only at hx1 hx2
    obtain ⟨b, off, rfl, hb, hc⟩ := hwV.at i (by omega)
    obtain ⟨y, hy0⟩ : ∃ y, ws[i]'(by omega) = y := ⟨_, rfl⟩
    have hy2 : y < 18446744073709551616 := by rw [← hy0]; exact hf.get i (by omega)
    rw [hy0] at hc
    have hgd : ws[i]?.getD 0 = y := by rw [List.getElem?_eq_getElem (by omega)]; exact hy0
    obtain ⟨u1, hu1⟩ : ∃ u, y &&& m = u := ⟨_, rfl⟩
    obtain ⟨u2, hu2⟩ : ∃ u, m &&& (18446744073709551615 - y) = u := ⟨_, rfl⟩
    have k1 : bits .and .u64 (y : Int) (m : Int) = (u1 : Int) := by rw [u64_and_nat _ _ hy2 hx2, hu1]
    have k2 : bits .andNot .u64 (m : Int) (y : Int) = (u2 : Int) := by rw [u64_andNot_nat _ _ hx2 hy2, hu2]
    have hi1 : (i : Int) < (ws.length : Int) := by omega
    obtain ⟨fn, tmps, assign, body, hy, hR⟩ := hY (pre.map (fwP ws on)) (fwP ws on ⟨(i, m), hx1, hx2⟩) V hJV (by rw [List.length_map]; exact hlen)
    have he : (encW (fwP ws on ⟨(i, m), hx1, hx2⟩) : Array Value) = #[.int .i64 (i : Nat), .int .u64 ((if on then u1 else u2 : Nat) : Int)] := by
      unfold encW fwP fw fnd
      simp only [hgd, hu1, hu2]
    rw [he] at hy
    have hmap : (pre ++ [(⟨(i, m), hx1, hx2⟩ : Pw L)]).map (fwP ws on) = pre.map (fwP ws on) ++ [fwP ws on ⟨(i, m), hx1, hx2⟩] := by rw [List.map_append, List.map_singleton]
    have HM := Lib.hid hmap
    have HKV := Lib.hid hKV
    clear hmap he hgd hy0 hu1 hu2 c2 hwV hKV hlen
    cases on
    · simp only [Bool.false_eq_true, if_false] at hy
      gi_wp2_with fail
      refine (round_in hR).mono ?_
      rintro e2 W2 (⟨rfl, hJ2, hk2, hF2⟩ | ⟨rfl, hJx2, hF2⟩)
      · gi_wp2
        exact ⟨keepsFrom_up hF2 (by omega), hk2, by rw [HM.out]; exact hJ2, HKV.out.trans hk2⟩
      · gi_wp2
        exact ⟨keepsFrom_up hF2 (by omega), rfl, by rw [HM.out]; exact hJx2⟩
    · simp only [if_true] at hy
      gi_wp2_with fail
      refine (round_in hR).mono ?_
      rintro e2 W2 (⟨rfl, hJ2, hk2, hF2⟩ | ⟨rfl, hJx2, hF2⟩)
      · gi_wp2
        exact ⟨keepsFrom_up hF2 (by omega), hk2, by rw [HM.out]; exact hJ2, HKV.out.trans hk2⟩
      · gi_wp2
        exact ⟨keepsFrom_up hF2 (by omega), rfl, by rw [HM.out]; exact hJx2⟩
  case done =>
    rintro D ys V hD hys ⟨hJV, _⟩ hK
    have hJD := hJ.putObj (.deferred none) hJV (by omega) hK rfl
    gi_wp2
    refine ⟨by simp, .inl ⟨D, _, rfl, run_takeDeferred hK, ?_⟩⟩
    refine ⟨_, results_none rfl _ _ _, ⟨_, rfl⟩, .inl ⟨ys.map (fwP ws on), ?_, hJD⟩⟩
    rw [List.map_map, show Subtype.val ∘ fwP ws on = fw ws on ∘ (Subtype.val : Pw L → Nat × Nat) from rfl, ← List.map_map, hys]
    rfl
  case stop =>
    rintro D c pre V hD hSp ⟨rfl, hJV⟩ hK
    have hJD := hJx.putObj (.deferred none) hJV (by omega) hK rfl
    gi_wp2
    refine ⟨by simp, .inl ⟨D, _, rfl, run_takeDeferred hK, ?_⟩⟩
    refine ⟨_, results_none rfl _ _ _, ⟨_, rfl⟩, .inr ⟨pre.map (fwP ws on), ?_, hJD⟩⟩
    rw [List.map_map, show Subtype.val ∘ fwP ws on = fw ws on ∘ (Subtype.val : Pw L → Nat × Nat) from rfl, ← List.map_map]
    obtain ⟨r, hr⟩ := hSp
    exact ⟨r.map (fw ws on), by rw [← List.map_append, hr]; rfl⟩

theorem matches_g (n : Nat) (hn : 3 ≤ n) (B0 L a t : Nat) (N : Int) (v : Value) (ws : List Nat) (hf : Fit64 ws) (hlen : ws.length = L) (ht : t ≤ 64 * L) (hL : L ≤ 64) (on : Bool) (w : World)
    (hc2 : w.heap[B0]? = some (.cells #[.int .i64 N, v] 24 (0, 0))) (hc0 : Boxed w (B0 + 1) 3 (.int .i64 a)) (hc1 : Boxed w (B0 + 2) 3 (.int .i64 t)) (hc3 : Boxed w (B0 + 3) 4 (.bool on)) (hw : WAt w v ws) :
    SeqG Fence.wide n Tryd.prog 75 #[.pointer (some ⟨B0 + 1, 0, none⟩), .pointer (some ⟨B0 + 2, 0, none⟩), .pointer (some ⟨B0, 0, none⟩), .pointer (some ⟨B0 + 3, 0, none⟩)] (encW (L := L)) (fun b => KC (MK B0 v ws b)) (fun ys => ys.map Subtype.val = mtL ws on a t) (fun pre => pre.map Subtype.val <+: mtL ws on a t) 200 w := by
  intro l J Jx W hW hJ hJx hY h0
  exact matches1_in n hn l (B0 + 1) (B0 + 2) B0 (B0 + 3) L a t N v ws hf hlen ht hL on (MK B0 v ws W.heap.size) (.inl (by omega)) (.inl (by omega)) (fun hne k hk => .inr (.inl ⟨hne, hk⟩)) J Jx W (fun k hk => .inr (.inr hk)) hJ hJx hY
    (hc0.kept (grown_of_below hW) (by simp)) (hc1.kept (grown_of_below hW) (by simp)) ((hW.block B0 (Array.getElem?_eq_some_iff.1 hc2).1).trans hc2) (hc3.kept (grown_of_below hW) (by simp)) (hw.later hW) h0

theorem matches_any (n : Nat) (N : Int) (v : Value) (a t : Int) (on : Bool) (w : World) :
    CallsIn Fence.wide n Tryd.prog 59 #[bv N v, .int .i64 a, .int .i64 t, .bool on] w fun e w' => e = .returned (.func (.func 75) #[] #[.pointer (some ⟨w.heap.size + 1, 0, none⟩), .pointer (some ⟨w.heap.size + 2, 0, none⟩), .pointer (some ⟨w.heap.size, 0, none⟩), .pointer (some ⟨w.heap.size + 3, 0, none⟩)]) ∧
      (((w.alloc (.cells #[.int .i64 N, v] 24)).alloc (.cells #[.int .i64 a] 3)).alloc (.cells #[.int .i64 t] 3)).alloc (.cells #[.bool on] 4) = w' := by
  refine callsIn_of_wp Tryd.func59 rfl trivial ?_ rfl
  simp only [Tryd.ntmps59, List.size_toArray, List.length_cons, List.length_nil, Nat.reduceAdd, Nat.reduceSub, Array.replicate_succ, Array.replicate_zero, List.push_toArray, List.append_toArray, List.nil_append, List.cons_append]
  gi_wp2
  go_ret
  exact ⟨rfl, rfl⟩

/-- What the elements of matches say together. -/
theorem mt_hits (ws : List Nat) (hf : Fit64 ws) (on : Bool) (a t : Nat) (ht : t ≤ 4096) : (mtL ws on a t).flatMap posW = hits ws on a t := by
  unfold mtL pcL
  rw [List.map_map, List.flatMap_map]
  exact segs_hits ws hf on 66 a t (by omega)
end Go.Proofs.YtpplleojdcgceaaDoor
