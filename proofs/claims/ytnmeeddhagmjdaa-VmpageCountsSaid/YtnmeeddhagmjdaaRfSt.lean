/- States: their cells; clone, Start. -/
import Derived.Test.YtnmeeddhagmjdaaRfHt
import Derived.Test.YtnmeeddhagmjdaaShelf
namespace Go.Proofs.Ytnmeeddhagmjdaa
open Go.RowKit Go.Shelf
attribute [local go_sem] Oper.semAt_some

theorem Try.infoRl : (Try.prog.info? 134).map (fun i => (i.zero, i.size, i.bytes)) = some (some (.agg #[.int .i64 0, .int .i64 0, .int .i64 0, .int .i64 0]), 4, 32) := by kernel_rfl
theorem rowU_cells {W : World} {b o : Nat} {l : List RlI} (hc : ∀ (j : Nat) (x : RlI), l[j]? = some x → W.cell? ⟨b, o + j * 4, none⟩ = some (.int .i64 x.k) ∧ W.cell? ⟨b, o + j * 4 + 1, none⟩ = some (.int .i64 x.f) ∧ W.cell? ⟨b, o + j * 4 + 2, none⟩ = some (.int .i64 x.e) ∧ W.cell? ⟨b, o + j * 4 + 3, none⟩ = some (.int .i64 x.t)) : ∀ j u, (rowU l)[j]? = some u → W.cell? ⟨b, o + j, none⟩ = some u := by
  intro j u hu
  have hj : j < 4 * l.length := by have := (List.getElem?_eq_some_iff.1 hu).1; rwa [rowU_len] at this
  obtain ⟨x, hx⟩ : ∃ x, l[j / 4]? = some x := ⟨_, List.getElem?_eq_getElem (by omega)⟩
  obtain ⟨r0, r1, r2, r3⟩ := rowU_at l (j / 4) x hx
  obtain ⟨c0, c1, c2, c3⟩ := hc (j / 4) x hx
  have hm : j % 4 = 0 ∨ j % 4 = 1 ∨ j % 4 = 2 ∨ j % 4 = 3 := by omega
  rcases hm with hm | hm | hm | hm
  · rw [show 4 * (j / 4) = j by omega, hu] at r0
    rw [show o + j / 4 * 4 = o + j by omega] at c0
    rw [c0, ← r0]
  · rw [show 4 * (j / 4) + 1 = j by omega, hu] at r1
    rw [show o + j / 4 * 4 + 1 = o + j by omega] at c1
    rw [c1, ← r1]
  · rw [show 4 * (j / 4) + 2 = j by omega, hu] at r2
    rw [show o + j / 4 * 4 + 2 = o + j by omega] at c2
    rw [c2, ← r2]
  · rw [show 4 * (j / 4) + 3 = j by omega, hu] at r3
    rw [show o + j / 4 * 4 + 3 = o + j by omega] at c3
    rw [c3, ← r3]
theorem rowU_one (l : List RlI) : ∀ u ∈ rowU l, u.oneCell' = true := by
  intro u hu
  unfold rowU at hu
  obtain ⟨x, _, hx⟩ := List.mem_flatMap.1 hu
  simp at hx
  rcases hx with rfl | rfl | rfl | rfl <;> rfl

/-- slices.Clone of an empty slice, whatever its address. -/
theorem Clone_empty {P : Program} {ρ : Ren} (L : SlLaysE0.n41 P ρ) (i0 : TypeInfo) (z : Value) (size bytes : Nat) (hi : P.info? (ρ.t 23) = some i0) (hz0 : i0.zero = some z) (hz1 : i0.size = size) (hz2 : i0.bytes = bytes) (hzs : z.cells.size = size) (hsz : 0 < size)
    (z23 : ∀ w, (Go.sizeOf (ρ.t 23)).run P w = .ok size w) (a : Addr) (w : World) :
    Calls P (ρ.f 41) #[.slice (some a) 0 0] w fun e w' => ∃ v', e = .returned v' ∧ w'.ownsRow w.heap.size (ρ.t 23) size v' 0 [] ∧ Below w.heap.size w w' := by
  have mixed := L.mixed; have t4 := L.t4; have a4 := L.a4; have z4 := L.z4; have v4 := L.v4; have t22 := L.t22; have a22 := L.a22; have z22 := L.z22; have v22 := L.v22
  have q22 : ∀ (w : World) (a : Option Addr) (n c n' c' : Nat), (binOp .eql (ρ.t 22) (.slice a n c) (.slice none n' c')).run P w = .ok (.bool a.isNone) w := fun w a n c n' c' => Lib.run_eql_slice_nil w _ _ a n c n' c' L.t22
  have u22 : ∀ w, Sem.run P (underlying (ρ.t 22)) w = .ok (TypeDesc.slice (ρ.t 23)) w := run_underlying t22
  obtain ⟨_, _, FG⟩ := L.f41
  go_enter FG, SlBodyN.n41_ntmps ρ
  go_wp2_with (at_builtin; refine wpList_append_own _ rfl _ _ (ρ.t 22) rfl w.heap.size (ρ.t 23) i0 z size bytes t22 hi hz0 hz1 hz2 hzs hsz _ _ _ rfl (World.ownsRow_made w #[] 0 (Nat.le_refl _) (Nat.zero_le _) (by simp)) a 0 0 [] rfl ?qc1 ?qc2 ?qc3 ?qc4 ?qc5 ?qc6 ?_)
  case qc1 => simp
  case qc2 => intro j u hj; simp at hj
  case qc3 => intro u hu; cases hu
  case qc4 => simp
  case qc5 => simp
  case qc6 => simp
  intro v' w1 hown hgrow hnil
  go_wp2
  go_ret
  refine ⟨v', rfl, by simpa using hown, ?_⟩
  exact ((Below.refl _ w).alloc (Nat.le_refl _) _).grown hgrow (by simp) (by intro k hk; simp [Value.ownBlock] at hk; omega)
theorem Clone_is (l : List RlI) (hl : l.length ≤ 4000000) (v : Value) (w : World) (h : RAt w v l) :
    Calls Try.prog 82 #[v] w fun e w' => ∃ u, e = .returned u ∧ UOwn w' w.heap.size u l ∧ Below w.heap.size w w' := by
  rcases h with ⟨⟨a, rfl⟩, rfl⟩ | ⟨b, off, cap, rfl, h1, h2, hc⟩
  · cases a with
    | none =>
      have hcon := AnyE.slices_Clone_nil Try.cloneRl 0 0 w
      change Calls Try.prog 82 _ _ _ at hcon
      refine hcon.mono ?_
      rintro e w' ⟨rfl, rfl⟩
      exact ⟨_, rfl, World.ownsRow_nil _ _ _ _, Below.refl _ _⟩
    | some a =>
      obtain ⟨i0, hi, hz0, hz1, hz2⟩ := info_parts Try.infoRl
      have hcon := Clone_empty Try.cloneRl i0 (.agg #[.int .i64 0, .int .i64 0, .int .i64 0, .int .i64 0]) 4 32 hi hz0 hz1 hz2 rfl (by decide) Try.sizeOf134 a w
      change Calls Try.prog 82 _ _ _ at hcon
      refine hcon.mono ?_
      rintro e w' ⟨u, rfl, ho, hB⟩
      exact ⟨u, rfl, ho, hB⟩
  · obtain ⟨i0, hi, hz0, hz1, hz2⟩ := info_parts Try.infoRl
    have hcon := AnyE.slices_Clone Try.cloneRl i0 (.agg #[.int .i64 0, .int .i64 0, .int .i64 0, .int .i64 0]) 4 32 hi hz0 hz1 hz2 rfl (by decide) Try.sizeOf134 b off l.length cap (rowU l) w (by rw [rowU_len]; omega) (by omega) (by omega) (fun j u hu => rowU_cells hc j u hu) (rowU_one l)
    change Calls Try.prog 82 _ _ _ at hcon
    refine hcon.mono ?_
    rintro e w' ⟨u, rfl, ho, _, hB⟩
    exact ⟨u, rfl, ho, hB⟩
set_option maxRecDepth 100000 in
set_option maxHeartbeats 1000000 in
theorem clone_is (l : List RlI) (hl : l.length ≤ 4000000) (v : Value) (w : World) (h : RAt w v l) :
    Calls Try.prog 76 #[.agg #[v]] w fun e w' => ∃ u, e = .returned (.agg #[u]) ∧ RAt w' u l ∧ (∀ b, u.ownBlock = some b → w.heap.size ≤ b ∧ b < w'.heap.size) ∧ Below w.heap.size w w' := by
  obtain ⟨WL, hWL⟩ : ∃ x, (w.alloc (.cells #[v] 24)).alloc (.cells #[.slice none 0 0] 24) = x := ⟨_, rfl⟩
  have hb : Below w.heap.size w WL := by rw [← hWL]; exact ((Below.refl _ _).alloc (Nat.le_refl _) _).alloc (by simp) _
  have b1 : Boxed WL w.heap.size 24 v := by rw [← hWL]; exact (Boxed.new w _ _).alloc _
  have b2 : Boxed WL (w.heap.size + 1) 24 (.slice none 0 0) := by
    have := Boxed.new (w.alloc (.cells #[v] 24)) 24 (.slice none 0 0)
    rw [World.size_alloc] at this
    rw [← hWL]; exact this
  have q1 := b1.cell
  go_enter Try.func76, Try.ntmps76
  go_wp2_with fail
  try rw [hWL]
  refine (Clone_is l hl v WL (h.later hb)).mono ?_
  rintro e w1 ⟨u, rfl, ho, B1⟩
  have b3 : Boxed w1 (w.heap.size + 1) 24 (.slice none 0 0) := b2.kept (grown_of_below B1) (by simp)
  have q2 := b3.frozen
  have q3 := b3.cell
  have hl3 := b3.lt
  have hsz := hb.size
  have ho' := UOwn.at ho
  obtain ⟨ua, uc, rfl⟩ := ho'.form
  have hB1 : Below w.heap.size w w1 := hb.trans (B1.mono hsz)
  have HO := Lib.hid ho
  clear hWL ho
  go_wp2_with fail
  have b4 : Boxed (w1.setCell ⟨w.heap.size + 1, 0, none⟩ (.slice ua l.length uc)) (w.heap.size + 1) 24 (.slice ua l.length uc) := b3.set _
  have q4 := b4.cell
  refine bodyPost_ret (v := .agg #[.slice ua l.length uc]) (by simp [results, Try.results76, go_sem, q4]) rfl ⟨_, rfl, ?_, fun b hb2 => ⟨Nat.le_trans hsz (World.ownsRow.lt HO.out b hb2).1, Nat.lt_of_lt_of_le (World.ownsRow.lt HO.out b hb2).2 (KeepsWalks.setCell w1 _ _).size⟩, hB1.setCell (by dsimp only; omega) _⟩
  have hg := grownBy_setCell' w1 (w.heap.size + 1) (.slice ua l.length uc)
  exact UOwn.at (World.ownsRow.kept HO.out hg (.inr (fun e => by have := (World.ownsRow.lt HO.out _ e).1; have := b2.lt; omega)))
end Go.Proofs.Ytnmeeddhagmjdaa
