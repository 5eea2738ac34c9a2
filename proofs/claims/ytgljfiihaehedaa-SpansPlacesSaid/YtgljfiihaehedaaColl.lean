/- What a sequence of pieces goes through, gathered. -/
import Derived.Test.YtgljfiihaehedaaIt
import Derived.Test.YtgljfiihaehedaaPieces0
namespace Go.Proofs.Ytgljfiihaehedaa
open Go.RowKit Go.Shelf
attribute [local go_sem] Oper.semAt_some

theorem eql_func_nil {P : Program} (t : TypeId) (h : (match P.underlying t with | some (.func _ _ _) => true | _ => false) = true) (f : Fn) (x y : Array Value) (W : World) : (binOp .eql t (.func f x y) Value.nilFunc).run P W = .ok (.bool false) W := by
  cases hu : P.underlying t with
  | none => rw [hu] at h; cases h
  | some d =>
    rw [hu] at h
    cases d <;> first | (cases h; done) | skip
    have h2 : ∀ d, (Op.equalIn (d + 1) t (.func f x y) Value.nilFunc).run P W = .ok false W := fun d => by simp [Op.equalIn, run_underlying hu]
    have := h2 9999
    simp only [binOp]
    simp [Op.equal, Op.maxDepth, this]
theorem seq_func : (match Try.prog.underlying 46 with | some (.func _ _ _) => true | _ => false) = true := by kernel_rfl
def pv (pre : List Pc) : List Sp := pre.map Subtype.val
theorem own_cells {β : Type} (B k : Nat) (o : Obj) (hc : o.isCells = true) : OwnFrom B (fun (_ : β) W => W.heap[k]? = some o) := fun _ A C row hs hg hr =>
  (hg.block k (Array.getElem?_eq_some_iff.1 hs).1 (fun e => by
    obtain ⟨_, o', h1, h2⟩ := hr k e.symm
    rw [hs] at h1; cases h1; rw [hc] at h2; cases h2)).trans hs
theorem keepsFrom_alloc (B : Nat) (W : World) (o : Obj) : KeepsFrom B W (W.alloc o) := (KeepsOthers.alloc W o).from B
def IC (w : World) (N : Int) (pre : List Pc) (V : World) : Prop :=
  (∃ u, Boxed V (w.heap.size + 3) 22 u ∧ V.ownsRow w.heap.size 31 2 u (pv pre).length (rowS (toI (pv pre))) ∧ True) ∧ (Below w.heap.size w V ∧ (Boxed V w.heap.size 3 (.int .i64 N) ∧ (Boxed V (w.heap.size + 1) 22 (.slice none 0 0) ∧ Boxed V (w.heap.size + 2) 4 (.bool false))))
theorem IC_own (w : World) (N : Int) (B : Nat) (hB : w.heap.size ≤ B) : OwnFrom B (IC w N) :=
  OwnFrom.and (Own.from (holdsRow_own w.heap.size (w.heap.size + 3) _ _ 2 (fun pre : List Pc => (pv pre).length) (fun pre => rowS (toI (pv pre))) (fun _ _ => True)) _) (OwnFrom.and (ownFrom_below (Nat.le_refl _) hB) (OwnFrom.and (Own.from (boxed_own _ _ (fun _ : List Pc => .int .i64 N)) _) (OwnFrom.and (Own.from (boxed_own _ _ (fun _ : List Pc => .slice none 0 0)) _) (Own.from (boxed_own _ _ (fun _ : List Pc => .bool false)) _))))

theorem bx4 (w : World) (N : Int) : ∃ WL, (((w.alloc (.cells #[.int .i64 N] 3)).alloc (.cells #[.slice none 0 0] 22)).alloc (.cells #[.bool false] 4)).alloc (.cells #[.slice none 0 0] 22) = WL ∧ Below w.heap.size w WL ∧ WL.heap.size = w.heap.size + 4 ∧
    Boxed WL w.heap.size 3 (.int .i64 N) ∧ Boxed WL (w.heap.size + 1) 22 (.slice none 0 0) ∧ Boxed WL (w.heap.size + 2) 4 (.bool false) ∧ Boxed WL (w.heap.size + 3) 22 (.slice none 0 0) := by
  refine ⟨_, rfl, (((((Below.refl _ w).alloc (Nat.le_refl _) _).alloc (by simp) _).alloc (by simp; omega) _).alloc (by simp; omega) _), by simp, ?_, ?_, ?_, ?_⟩
  · exact (((Boxed.new w _ _).alloc _).alloc _).alloc _
  · have := Boxed.new (w.alloc (.cells #[.int .i64 N] 3)) 22 (.slice none 0 0)
    simp only [World.size_alloc] at this
    exact (this.alloc _).alloc _
  · have := Boxed.new ((w.alloc (.cells #[.int .i64 N] 3)).alloc (.cells #[.slice none 0 0] 22)) 4 (.bool false)
    simp only [World.size_alloc] at this
    exact this.alloc _
  · have := Boxed.new (((w.alloc (.cells #[.int .i64 N] 3)).alloc (.cells #[.slice none 0 0] 22)).alloc (.cells #[.bool false] 4)) 22 (.slice none 0 0)
    simp only [World.size_alloc] at this
    exact this

set_option maxRecDepth 100000 in
set_option maxHeartbeats 4000000 in
theorem coll_in (gf : Nat) (lb : Array Value) (eg : ∀ args w, (callFunc gf args).run Try.prog w = .ok (.enter gf args) w) (xs : List Sp) (N : Nat) (hN : xs.length ≤ N) (hN2 : N ≤ 1024) (w : World)
    (hseq : ∀ V, Below w.heap.size w V → cG (w.heap.size + 3) 22 V → (∀ u, Boxed V (w.heap.size + 3) 22 u → u = .slice none 0 0) → SeqG Fence.wide 5 Try.prog gf lb encP (fun _ => cK (w.heap.size + 3) 22) (fun ys => ys.map Subtype.val = xs) (fun pre => pre.map Subtype.val <+: xs) 1025 V) :
    CallsIn Fence.wide 6 Try.prog 39 #[.func (.func gf) #[] lb, .int .i64 N] w fun e w' => ∃ u, e = .returned (.tuple #[u, .bool true]) ∧ SOwn w' w.heap.size u (toI xs) ∧ Below w.heap.size w w' := by
  have hnil := fun W => eql_func_nil (P := Try.prog) 46 seq_func (.func gf) #[] lb W
  obtain ⟨i0, hi, hz0, hz1, hz2⟩ := info_parts Try.infoSp
  refine callsIn_of_wp_marks Try.func39 rfl trivial ?_ rfl
  simp only [Try.ntmps39, List.size_toArray, List.length_cons, List.length_nil, Nat.reduceAdd, Nat.reduceSub, Array.replicate_succ, Array.replicate_zero, List.push_toArray, List.append_toArray, List.nil_append, List.cons_append]
  obtain ⟨WL, hWL, hbL, hzL, b0, b1, b2, b3⟩ := bx4 w (N : Int)
  gi_wp2_with fail
  rw [show w.heap.size + 1 + 1 + 1 = w.heap.size + 3 by omega, show w.heap.size + 1 + 1 = w.heap.size + 2 by omega]
  have hsq := hseq WL hbL ⟨_, b3, fun g hg => by simp [Value.ownBlock] at hg⟩ (fun u hu => boxed_inj hu b3)
  clear hWL hseq
  refine range_w rfl (by decide) (gf := gf) (lb := lb) rfl (wide_fn _) eg hsq (fun h k => cK_trans h k) (fun _ V k o o' hk hc _ => cK_putObj V k o o' hk hc) (fun _ => rfl)
    (IC w N) (fun c pre _ => c = .ret ∧ N < pre.length) (IC_own w N _ (by omega)) (fun c => ownFrom_pure _ (fun pre : List Pc => c = .ret ∧ N < pre.length)) ⟨⟨_, b3, World.ownsRow_nil _ _ _ _, trivial⟩, hbL, b0, b1, b2⟩
    (fun x a' V => ∃ k, a' = { tmps := #[.func (.func gf) #[] lb, .int .i64 (N : Int), undef, .pointer (some ⟨w.heap.size, 0, none⟩), .pointer (some ⟨w.heap.size + 1, 0, none⟩), .pointer (some ⟨w.heap.size + 2, 0, none⟩), .pointer (some ⟨w.heap.size + 3, 0, none⟩), .pointer (some ⟨k, 0, none⟩), .func (.func gf) #[] lb, .bool false, .func (.func gf) #[] lb, .agg #[.int .i64 (x.1.1 : Nat), .int .i64 (x.1.2 : Nat)], undef, undef, undef, undef, undef, undef, undef, undef, undef], defers := [] } ∧ XBox V k ((x.1.1 : Int), (x.1.2 : Int))) ?ownA ?assign ?body ?done ?stop
  case ownA =>
    rintro x a' _ A C row ⟨k, ha, hb⟩ hg hr
    exact ⟨k, ha, own_cells (β := Unit) _ _ _ rfl () A C row hb hg hr⟩
  case assign =>
    rintro l pre x V K ⟨⟨u, h1, h2, _⟩, hB, h3, h4, h5⟩ hK
    simp only [encP]
    gi_wp2
    exact hK _ _ (keepsFrom_alloc _ _ _) (cK_below ((Below.refl _ _).alloc (Nat.le_refl _) _)) ⟨⟨u, h1.alloc _, h2.alloc _, trivial⟩, hB.alloc hB.size _, h3.alloc _, h4.alloc _, h5.alloc _⟩ ⟨V.heap.size, rfl, World.alloc_heap_new V _⟩
  case body =>
    rintro l pre x a' V ⟨⟨u, h1, h2, _⟩, hB, h3, h4, h5⟩ ⟨k, rfl, hrb⟩ hlen5
    obtain ⟨⟨p, e⟩, hx1, hx2⟩ := x
    simp only at hx1 hx2 hrb
    have r0 := hrb.c0
    have r1 := hrb.c1
    have c1 := h1.cell
    have c1' := h1.frozen
    have c3 := h3.cell
    have c4 := h4.cell
    have c4' := h4.frozen
    have c5 := h5.cell
    have c5' := h5.frozen
    have hsz := hB.size
    obtain ⟨m, hm⟩ : ∃ m, (pv pre).length = m := ⟨_, rfl⟩
    have hml : pre.length = m := by rw [← hm]; unfold pv; simp
    have HM := Lib.hid hml
    rw [hm] at h2
    obtain ⟨ua, uc, rfl⟩ := own_form2 h2
    have hrow7 := h2.alloc (.cells #[.int .i64 (p : Int), .int .i64 (e : Int)] 31)
    by_cases hmn : m = N
    · subst hmn
      gi_wp2_with fail
      exact ⟨((KeepsOthers.setCell _ _ _).trans (KeepsOthers.setCell _ _ _)).from _, rfl, by rw [List.length_append, List.length_singleton, HM.out]; omega⟩
    · have hmn2 : ((m : Int) == (N : Int)) = false := by simp; omega
      have hmn3 : ¬ (m : Int) = (N : Int) := by omega
      gi_wp2_with (gi_at_builtin; refine wpListIn_append_lies _ rfl _ _ 22 rfl w.heap.size 31 i0 (.agg #[.int .i64 0, .int .i64 0]) 2 16 Try.underlying22 hi hz0 hz1 hz2 rfl (by decide) _ _ _ rfl hrow7 ⟨V.heap.size, 0, none⟩ 1 1 [.int .i64 (p : Int), .int .i64 (e : Int)] rfl rfl ?c1 ?c2 (by decide) ?c3 ?c4 ?c5 _ rfl ?_)
      try case c1 => exact cell_two_new V _ _ _
      case c2 => first | exact ⟨rfl, rfl⟩ | (intro u hu; simp at hu; rcases hu with rfl | rfl <;> rfl)
      case c3 => unfold maxLen; omega
      case c4 => omega
      case c5 => first | omega | (simp; omega)
      intro g' cap' w1 hown' hgrow hli hlt'
      have hli2 : (Value.slice ua m uc).ownBlock = some g' ∨ V.heap.size ≤ g' := hli.imp id (fun e => by omega)
      have KA := Lib.hid (cK_append h1 (by decide) h2 hsz (by omega) hown' hgrow hli2 hlt')
      obtain ⟨a1, a2, a3, a4, a5⟩ := h1.appended (by decide) h2 hsz (by omega) hown' hgrow
      have z3 := (h3.alloc (.cells #[.int .i64 (p : Int), .int .i64 (e : Int)] 31)).kept hgrow ((h3.not_row (by decide) h2))
      have z4 := (h4.alloc (.cells #[.int .i64 (p : Int), .int .i64 (e : Int)] 31)).kept hgrow ((h4.not_row (by decide) h2))
      have z5 := (h5.alloc (.cells #[.int .i64 (p : Int), .int .i64 (e : Int)] 31)).kept hgrow ((h5.not_row (by decide) h2))
      have hc1 := a1.cell
      have hfz1 := a1.frozen
      have A2 := Lib.hid a2
      have A3 := Lib.hid a3
      have A4 := Lib.hid a4
      have A5 := Lib.hid (hB.trans (a5.mono (Nat.le_refl _)))
      clear a1 a2 a3 a4 a5 hown' hgrow
      gi_wp2_with fail
      refine ⟨A4.out.from _, KA.out, ⟨⟨_, A2.out, ?_, trivial⟩, A5.out, z3.other (by omega) _, z4.other (by omega) _, z5.other (by omega) _⟩⟩
      have hq : pv (pre ++ [⟨(p, e), hx1, hx2⟩]) = pv pre ++ [(p, e)] := by unfold pv; rw [List.map_append, List.map_singleton]
      rw [hq, List.length_append, List.length_singleton, toI_snoc', rowS_snoc, show (pv pre).length = m by unfold pv; rw [List.length_map]; exact HM.out]
      exact A3.out
  case done =>
    rintro D ys V hD hys ⟨⟨u, h1, h2, _⟩, hB, h3, h4, h5⟩ hK
    have hpy : pv ys = xs := hys
    rw [hpy] at h2
    obtain ⟨ua, uc, rfl⟩ := own_form2 h2
    have c1 := h1.cell
    have c1' := h1.frozen
    have c4 := h4.cell
    have c4' := h4.frozen
    have c5 := h5.cell
    have c5' := h5.frozen
    have hDl := (Array.getElem?_eq_some_iff.1 hK).1
    have hKe : ∀ W2 : World, (∀ j, j ≠ w.heap.size + 1 → j ≠ w.heap.size + 2 → W2.heap[j]? = V.heap[j]?) → W2.heap[D]? = some (.deferred (some [])) := fun W2 h => (h D (by omega) (by omega)).trans hK
    gi_wp2_with fail
    obtain ⟨V2, hV2⟩ : ∃ V2, ((V.setCell ⟨w.heap.size + 1, 0, none⟩ (.slice ua xs.length uc)).setCell ⟨w.heap.size + 2, 0, none⟩ (.bool true)) = V2 := ⟨_, rfl⟩
    have e4 : Boxed V2 (w.heap.size + 1) 22 (.slice ua xs.length uc) := by rw [← hV2]; exact (h4.set _).other (by omega) _
    have e5 : Boxed V2 (w.heap.size + 2) 4 (.bool true) := by rw [← hV2]; exact (h5.other (by omega) _).set _
    have e2 : V2.ownsRow w.heap.size 31 2 (.slice ua xs.length uc) xs.length (rowS (toI xs)) := by
      rw [← hV2]
      have g1 := h2.kept (grownBy_setCell' V (w.heap.size + 1) (.slice ua xs.length uc)) (.inr (h4.not_row (by decide) h2).symm)
      have h5' := h5.other (B' := w.heap.size + 1) (by omega) (.slice ua xs.length uc)
      exact g1.kept (grownBy_setCell' _ (w.heap.size + 2) (.bool true)) (.inr (h5'.not_row (by decide) g1).symm)
    have eB : Below w.heap.size w V2 := by rw [← hV2]; exact (hB.setCell (by dsimp only; omega) _).setCell (by dsimp only; omega) _
    have eK : V2.heap[D]? = some (.deferred (some [])) := hKe V2 (fun j j1 j2 => by rw [← hV2]; exact (Below.heap_setCell _ _ _ _ j2).trans (Below.heap_setCell _ _ _ _ j1))
    rw [hV2]
    have x4 : (V2.putObj D (.deferred none)).cell? ⟨w.heap.size + 1, 0, none⟩ = some (.slice ua xs.length uc) := by
      rw [World.cell?_of_block (w := V2) (World.putObj_heap_other (by show w.heap.size + 1 ≠ D; omega))]; exact e4.cell
    have x5 : (V2.putObj D (.deferred none)).cell? ⟨w.heap.size + 2, 0, none⟩ = some (.bool true) := by
      rw [World.cell?_of_block (w := V2) (World.putObj_heap_other (by show w.heap.size + 2 ≠ D; omega))]; exact e5.cell
    refine ⟨by simp, .inl ⟨D, _, rfl, run_takeDeferred eK, ?_⟩⟩
    refine ⟨.tuple #[.slice ua xs.length uc, .bool true], by simp [results, Try.results39, go_sem, x4, x5], _, rfl, ?_, eB.trans (belowK_b (w := w) (Nat.le_refl _) V2 D _ _ (by omega) eK rfl rfl)⟩
    have := ownsRow_putObj e2 (.deferred none) eK rfl
    unfold SOwn
    rw [toI_len]
    exact this
  case stop =>
    rintro D c pre V hD hSp h hK
    obtain ⟨r, hr⟩ := hSp
    have := congrArg List.length hr
    simp at this
    have h2 := h.2
    exact absurd h2 (by omega)
set_option maxRecDepth 100000 in
/-- The pieces of a set, gathered. -/
theorem pieces_is (L : List Sp) (hL : SetL 0 L) (z : Nat) (hz1 : 1 ≤ z) (hz2 : z ≤ 1024) (N : Nat) (hN : (pcL z L).length ≤ N) (hN2 : N ≤ 1024) (BK BA : Nat) (u : Value) (w : World) (hbK : Boxed w BK 22 u) (hu : SAt w u (toI L)) (hbA : Boxed w BA 3 (.int .i64 z)) :
    Calls Try.prog 39 #[.func (.func 72) #[] #[.pointer (some ⟨BK, 0, none⟩), .pointer (some ⟨BA, 0, none⟩)], .int .i64 N] w fun e w' => ∃ u, e = .returned (.tuple #[u, .bool true]) ∧ SOwn w' w.heap.size u (toI (pcL z L)) ∧ Below w.heap.size w w' := by
  refine (callsIn_wide (n := 6)).1 (coll_in 72 #[.pointer (some ⟨BK, 0, none⟩), .pointer (some ⟨BA, 0, none⟩)] (enters_of Try.func72 (by kernel_rfl) rfl) (pcL z L) N hN hN2 w fun V hV hG hnil => ?_)
  have hb : Below w.heap.size w V := hV
  refine it_g 5 (by decide) BK BA L hL z hz1 hz2 u _ _ _ (cons_c (w.heap.size + 3) 22) V hG ⟨by have := hbA.lt; omega, fun v hv => by rw [hnil v hv]; simp [Value.ownBlock]⟩ (fun hne k hk => ⟨?_, fun v hv => by rw [hnil v hv]; simp [Value.ownBlock]⟩) (hbK.kept (grown_of_below hb) (by simp)) (hu.later hb) (hbA.kept (grown_of_below hb) (by simp))
  have := SAt.own_lt hu (fun h1 => hne (List.eq_nil_of_length_eq_zero (by rw [← toI_len, h1]; rfl))) k hk
  omega
end Go.Proofs.Ytgljfiihaehedaa
