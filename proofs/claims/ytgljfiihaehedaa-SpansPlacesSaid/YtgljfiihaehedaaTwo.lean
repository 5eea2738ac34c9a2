/- Union, Meet, Minus, Not and Of: both ways answer the same; the law SpansSets, the law SpansOf. -/
import Derived.Test.YtgljfiihaehedaaRComb
import Derived.Test.YtgljfiihaehedaaROf
import Derived.Test.YtgljfiihaehedaaAwk
namespace Go.Proofs.Ytgljfiihaehedaa
open Go.RowKit
attribute [local go_sem] Oper.semAt_some

theorem canonF (f : Nat → Bool) : ∀ p, p ≤ 1024 → ∃ acc, RInv f p acc
  | 0, _ => ⟨[], RInv.start f⟩
  | p + 1, h => by
    obtain ⟨acc, hI⟩ := canonF f p (by omega)
    cases hf : f p with
    | false => exact ⟨_, hI.skip hf⟩
    | true =>
      by_cases hg : 0 < p ∧ f (p - 1) = true
      · obtain ⟨pre, s, n, _, _, h2⟩ := hI.grow hf hg.1 hg.2 (by omega)
        exact ⟨_, h2⟩
      · exact ⟨_, hI.add hf (by rcases Nat.eq_zero_or_pos p with h | h; exact .inl h; exact .inr (by cases h2 : f (p - 1); rfl; exact absurd ⟨h, h2⟩ hg)) (by omega)⟩
/-- There is a set with just the pages that are given. -/
theorem canon (f : Nat → Bool) : ∃ M, SetL 0 M ∧ ∀ x, x < 1024 → inS M x = f x := by
  obtain ⟨M, h⟩ := canonF f 1024 (Nat.le_refl _)
  exact ⟨M, h.set, fun x hx => by rw [h.pages]; simp [hx]⟩
theorem both_cases (la lb : List SpI) (h : bothB la lb = 0) : ∃ La Lb, la = toI La ∧ lb = toI Lb ∧ SetL 0 La ∧ SetL 0 Lb := by
  unfold bothB at h
  by_cases h3 : chkS la = 0
  · rw [if_neg (by simp [h3])] at h
    obtain ⟨La, rfl, sa⟩ := chkS_ok h3
    obtain ⟨Lb, rfl, sb⟩ := chkS_ok h
    exact ⟨La, Lb, rfl, rfl, sa, sb⟩
  · rw [if_pos h3] at h; exact absurd h h3

theorem two_Union (la lb : List SpI) (fa : Fit la) (fb : Fit lb) : ∃ (M : List Sp) (c : Int), M.length ≤ 2000 ∧ (∀ u v w, SAt w u la → SAt w v lb → Calls Try.prog 18 #[u, v] w fun e w' => RetS w M c e w') ∧ (∀ u v w, SAt w u la → SAt w v lb → Calls Try.prog 19 #[u, v] w fun e w' => RetS w M c e w') := by
  by_cases hc : bothB la lb = 0
  · obtain ⟨La, Lb, rfl, rfl, sa, sb⟩ := both_cases la lb hc
    obtain ⟨N, sN, pN⟩ := canon fun x => combB 1 (inS La x) (inS Lb x)
    refine ⟨N, 0, set_len sN, fun u v w h1 h2 => ?_, fun u v w h1 h2 => ?_⟩
    · refine (Union_ok La Lb sa sb u v w h1 h2).mono ?_
      rintro e w' ⟨M, hM, hp, hr⟩
      rw [set_eq sN hM fun x hx => by rw [pN x hx, hp x]; rfl]
      exact hr
    · refine (RUnion_is _ _ fa fb u v w h1 h2).mono ?_
      rintro e w' (⟨hb, _⟩ | ⟨_, Lc, Ld, M, e1, e2, _, _, hM, hp, hr⟩)
      · exact absurd hc hb
      · have ec := toI_inj e1
        have ed := toI_inj e2
        subst ec; subst ed
        rw [set_eq sN hM fun x hx => by rw [pN x hx, hp x hx]]
        exact hr
  · refine ⟨[], bothB la lb, by simp, fun u v w h1 h2 => Union_bad la lb fa fb _ rfl hc u v w h1 h2, fun u v w h1 h2 => ?_⟩
    refine (RUnion_is _ _ fa fb u v w h1 h2).mono ?_
    rintro e w' (⟨_, hr⟩ | ⟨hb, _⟩)
    · exact hr
    · exact absurd hb hc

theorem two_Meet (la lb : List SpI) (fa : Fit la) (fb : Fit lb) : ∃ (M : List Sp) (c : Int), M.length ≤ 2000 ∧ (∀ u v w, SAt w u la → SAt w v lb → Calls Try.prog 20 #[u, v] w fun e w' => RetS w M c e w') ∧ (∀ u v w, SAt w u la → SAt w v lb → Calls Try.prog 21 #[u, v] w fun e w' => RetS w M c e w') := by
  by_cases hc : bothB la lb = 0
  · obtain ⟨La, Lb, rfl, rfl, sa, sb⟩ := both_cases la lb hc
    obtain ⟨N, sN, pN⟩ := canon fun x => combB 2 (inS La x) (inS Lb x)
    refine ⟨N, 0, set_len sN, fun u v w h1 h2 => ?_, fun u v w h1 h2 => ?_⟩
    · refine (Meet_ok La Lb sa sb u v w h1 h2).mono ?_
      rintro e w' ⟨M, hM, hp, hr⟩
      rw [set_eq sN hM fun x hx => by rw [pN x hx, hp x hx]; rfl]
      exact hr
    · refine (RMeet_is _ _ fa fb u v w h1 h2).mono ?_
      rintro e w' (⟨hb, _⟩ | ⟨_, Lc, Ld, M, e1, e2, _, _, hM, hp, hr⟩)
      · exact absurd hc hb
      · have ec := toI_inj e1
        have ed := toI_inj e2
        subst ec; subst ed
        rw [set_eq sN hM fun x hx => by rw [pN x hx, hp x hx]]
        exact hr
  · refine ⟨[], bothB la lb, by simp, fun u v w h1 h2 => Meet_bad la lb fa fb _ rfl hc u v w h1 h2, fun u v w h1 h2 => ?_⟩
    refine (RMeet_is _ _ fa fb u v w h1 h2).mono ?_
    rintro e w' (⟨_, hr⟩ | ⟨hb, _⟩)
    · exact hr
    · exact absurd hb hc

theorem two_Minus (la lb : List SpI) (fa : Fit la) (fb : Fit lb) : ∃ (M : List Sp) (c : Int), M.length ≤ 2000 ∧ (∀ u v w, SAt w u la → SAt w v lb → Calls Try.prog 22 #[u, v] w fun e w' => RetS w M c e w') ∧ (∀ u v w, SAt w u la → SAt w v lb → Calls Try.prog 23 #[u, v] w fun e w' => RetS w M c e w') := by
  by_cases hc : bothB la lb = 0
  · obtain ⟨La, Lb, rfl, rfl, sa, sb⟩ := both_cases la lb hc
    obtain ⟨N, sN, pN⟩ := canon fun x => combB 3 (inS La x) (inS Lb x)
    refine ⟨N, 0, set_len sN, fun u v w h1 h2 => ?_, fun u v w h1 h2 => ?_⟩
    · refine (Minus_ok La Lb sa sb u v w h1 h2).mono ?_
      rintro e w' ⟨M, hM, hp, hr⟩
      rw [set_eq sN hM fun x hx => by rw [pN x hx, hp x hx]; rfl]
      exact hr
    · refine (RMinus_is _ _ fa fb u v w h1 h2).mono ?_
      rintro e w' (⟨hb, _⟩ | ⟨_, Lc, Ld, M, e1, e2, _, _, hM, hp, hr⟩)
      · exact absurd hc hb
      · have ec := toI_inj e1
        have ed := toI_inj e2
        subst ec; subst ed
        rw [set_eq sN hM fun x hx => by rw [pN x hx, hp x hx]]
        exact hr
  · refine ⟨[], bothB la lb, by simp, fun u v w h1 h2 => Minus_bad la lb fa fb _ rfl hc u v w h1 h2, fun u v w h1 h2 => ?_⟩
    refine (RMinus_is _ _ fa fb u v w h1 h2).mono ?_
    rintro e w' (⟨_, hr⟩ | ⟨hb, _⟩)
    · exact hr
    · exact absurd hb hc

theorem two_Not (l : List SpI) (fl : Fit l) (x : SpI) (fx : I64 x.1) : ∃ (M : List Sp) (c : Int), M.length ≤ 2000 ∧ (∀ u w, SAt w u l → Calls Try.prog 24 #[u, sv x] w fun e w' => RetS w M c e w') ∧ (∀ u w, SAt w u l → Calls Try.prog 25 #[u, sv x] w fun e w' => RetS w M c e w') := by
  obtain ⟨p, q⟩ := x
  by_cases hc : withB l (p, q) = 0
  · have hc2 := hc
    unfold withB at hc2
    by_cases h3 : chkS l = 0
    · rw [if_neg (by simp [h3])] at hc2
      obtain ⟨L, rfl, sl⟩ := chkS_ok h3
      have hv : vld (p, q) = true := by
        cases hv : vld (p, q) with
        | true => rfl
        | false => rw [hv] at hc2; simp at hc2
      obtain ⟨a, b, hab, hb1, hb2⟩ := vld_nat hv
      cases hab
      obtain ⟨N, sN, pN⟩ := canon fun x => decide (a ≤ x) && decide (x < a + b) && !inS L x
      refine ⟨N, 0, set_len sN, fun u w h1 => ?_, fun u w h1 => ?_⟩
      · refine (Not_ok L sl a b ⟨hb1, hb2⟩ u w h1).mono ?_
        rintro e w' ⟨M, hM, hp, hr⟩
        rw [set_eq sN hM fun x hx => by rw [pN x hx, hp x]]
        exact hr
      · refine (RNot_ok L sl a b ⟨hb1, hb2⟩ u w h1).mono ?_
        rintro e w' ⟨M, hM, hp, hr⟩
        rw [set_eq sN hM fun x hx => by rw [pN x hx, hp x hx]]
        exact hr
    · rw [if_pos h3] at hc2; exact absurd hc2 h3
  · exact ⟨[], withB l (p, q), by simp, fun u w h1 => Not_bad l p q fl fx _ rfl hc u w h1, fun u w h1 => RNot_bad l p q fl fx _ rfl hc u w h1⟩

theorem two_Of (l : List SpI) (fl : Fit l) (h64 : l.length ≤ 9223372036854775807) : ∃ (M : List Sp) (c : Int), M.length ≤ 2000 ∧ (c = 0 → SetL 0 M) ∧ (∀ u w, SAt w u l → Calls Try.prog 13 #[u] w fun e w' => RetS w M c e w') ∧ (∀ u w, SAt w u l → Calls Try.prog 14 #[u] w fun e w' => RetS w M c e w') := by
  by_cases hc : chkL l 2000 = 0
  · obtain ⟨L, hl, hV, hn⟩ : ∃ L : List Sp, l = toI L ∧ ValL L ∧ L.length ≤ 2000 := by
      unfold chkL at hc
      split at hc
      · cases hc
      · rename_i h1
        split at hc
        · rename_i h2
          obtain ⟨L, rfl, hV⟩ := allV_nat h2
          exact ⟨L, rfl, hV, by rw [toI_len] at h1; omega⟩
        · cases hc
    subst hl
    obtain ⟨N, sN, pN⟩ := canon fun x => inS L x
    refine ⟨N, 0, set_len sN, fun _ => sN, fun u w h1 => ?_, fun u w h1 => ?_⟩
    · refine (Of_ok L hV hn u w h1).mono ?_
      rintro e w' ⟨M, hM, hp, hr⟩
      rw [set_eq sN hM fun x hx => by rw [pN x hx, hp x]]
      exact hr
    · refine (ROf_is u _ fl h64 _ rfl w h1).mono ?_
      rintro e w' (⟨hb, _⟩ | ⟨_, Lc, M, e1, hM, hp, hr⟩)
      · exact absurd hc hb
      · have ec := toI_inj e1
        subst ec
        rw [set_eq sN hM fun x hx => by rw [pN x hx, hp x hx]]
        exact hr
  · refine ⟨[], chkL l 2000, by simp, fun h => absurd h hc, fun u w h1 => Of_bad l fl _ rfl hc u w h1, fun u w h1 => ?_⟩
    refine (ROf_is u _ fl h64 _ rfl w h1).mono ?_
    rintro e w' (⟨_, hr⟩ | ⟨hb, _⟩)
    · exact hr
    · exact absurd hb hc

set_option maxRecDepth 100000 in
theorem long_is (l : List SpI) (r : Bool) (hr : decide (2100 < l.length) = r) (u : Value) (w : World) (h : SAt w u l) :
    Calls Try.prog 11 #[u] w fun e w' => e = .returned (.bool r) ∧ Below w.heap.size w w' := by
  have h64 := len64 h
  obtain ⟨ua, uc, rfl⟩ := h.form
  obtain ⟨n, hn⟩ : ∃ n, l.length = n := ⟨_, rfl⟩
  rw [hn] at hr h64 ⊢
  clear hn h
  have hd : decide ((2100 : Int) < (n : Int)) = r := by rw [← hr, Bool.eq_iff_iff]; simp; omega
  cases r
  all_goals
    go_enter Try.func11, Try.ntmps11
    go_wp2
    go_ret
    exact ⟨rfl, Below.refl _ _⟩
end Go.Proofs.Ytgljfiihaehedaa
