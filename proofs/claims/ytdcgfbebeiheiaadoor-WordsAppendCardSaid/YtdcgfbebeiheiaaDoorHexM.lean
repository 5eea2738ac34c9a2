/- Hexadecimal forms: what both ways answer, and that each undoes the other. -/
import Derived.Test.YtdcgfbebeiheiaaDoorRefHex
namespace Go.Proofs.YtdcgfbebeiheiaaDoor
open Go.RowKit

/-- The bytes whose hexadecimal form is l. -/
def unhB : List UInt8 → Option (List UInt8)
  | a :: b :: r => if dvB a.toNat = 16 ∨ dvB b.toNat = 16 then none else (unhB r).map (UInt8.ofNat (16 * dvB a.toNat + dvB b.toNat) :: ·)
  | _ => some []
def unhexE (l : List UInt8) : List UInt8 × Int := if 200 < l.length then ([], 3) else if l.length % 2 = 1 then ([], 6) else match unhB l with | some r => (r, 0) | none => ([], 6)

theorem hx_toNat : ∀ n : Fin 16, ((hx n.val).toNat : Int) = hexB n.val := by decide
theorem hx_val (n : Nat) (h : n < 16) : ((hx n).toNat : Int) = hexB n := hx_toNat ⟨n, h⟩
theorem dv_hx (n : Nat) (h : n < 16) : dvB ((hx n).toNat : Int) = n := by rw [hx_val n h]; exact dvB_hex n h
theorem hx_dv (c : UInt8) (h : dvB (c.toNat : Int) < 16) : hx (dvB (c.toNat : Int)) = c := by
  have h1 := hx_val _ h
  rw [dvB_get _ h] at h1
  exact UInt8.toNat_inj.1 (by omega)
theorem unhB_hexL : ∀ l : List UInt8, unhB (hexL l) = some l
  | [] => rfl
  | c :: l => by
    have hc := c.toNat_lt
    have e : hexL (c :: l) = hx (c.toNat / 16) :: hx (c.toNat % 16) :: hexL l := rfl
    rw [e, unhB, dv_hx _ (by omega), dv_hx _ (by omega), unhB_hexL l, if_neg (by omega), show 16 * (c.toNat / 16) + c.toNat % 16 = c.toNat by omega]
    simp
theorem hexL_unhB : ∀ (l r : List UInt8), l.length % 2 = 0 → unhB l = some r → hexL r = l ∧ 2 * r.length = l.length
  | [], r, _, h => by cases h; exact ⟨rfl, rfl⟩
  | [a], r, h0, _ => by simp at h0
  | a :: b :: l, r, h0, h => by
    rw [unhB] at h
    split at h
    · cases h
    · rename_i hn
      obtain ⟨q, hq, rfl⟩ := Option.map_eq_some_iff.1 h
      have ha := dvB_le (a.toNat : Int)
      have hb := dvB_le (b.toNat : Int)
      obtain ⟨i1, i2⟩ := hexL_unhB l q (by simp at h0; omega) hq
      have e : (UInt8.ofNat (16 * dvB (a.toNat : Int) + dvB (b.toNat : Int))).toNat = 16 * dvB (a.toNat : Int) + dvB (b.toNat : Int) := by
        rw [UInt8.toNat_ofNat']; omega
      have e2 : hexL (UInt8.ofNat (16 * dvB (a.toNat : Int) + dvB (b.toNat : Int)) :: q) = hx ((UInt8.ofNat (16 * dvB (a.toNat : Int) + dvB (b.toNat : Int))).toNat / 16) :: hx ((UInt8.ofNat (16 * dvB (a.toNat : Int) + dvB (b.toNat : Int))).toNat % 16) :: hexL q := rfl
      refine ⟨?_, by simp only [List.length_cons]; omega⟩
      rw [e2, e, i1, show (16 * dvB (a.toNat : Int) + dvB (b.toNat : Int)) / 16 = dvB (a.toNat : Int) by omega, show (16 * dvB (a.toNat : Int) + dvB (b.toNat : Int)) % 16 = dvB (b.toNat : Int) by omega, hx_dv a (by omega), hx_dv b (by omega)]
theorem unhex_hex (l : List UInt8) (h : (hexE l).2 = 0) : unhexE (hexE l).1 = (l, 0) := by
  unfold hexE at *
  split at h
  · cases h
  · rename_i hn
    rw [if_neg hn]
    show unhexE (hexL l) = _
    have hl := hexL_len l
    unfold unhexE
    rw [if_neg (by omega), if_neg (by omega), unhB_hexL]
theorem hex_unhex (l : List UInt8) (h : (unhexE l).2 = 0) : hexE (unhexE l).1 = (l, 0) := by
  unfold unhexE at h ⊢
  split at h
  · cases h
  · split at h
    · cases h
    · rename_i h1 h2
      rw [if_neg h1, if_neg h2]
      cases hu : unhB l with
      | none => rw [hu] at h; cases h
      | some r =>
        obtain ⟨i1, i2⟩ := hexL_unhB l r (by omega) hu
        show hexE r = _
        unfold hexE
        rw [if_neg (by omega), i1]
theorem unhB_len : ∀ (l r : List UInt8), unhB l = some r → 2 * r.length ≤ l.length
  | [], r, h => by cases h; exact Nat.le_refl _
  | [a], r, h => by cases h; exact Nat.zero_le _
  | a :: b :: l, r, h => by
    rw [unhB] at h
    split at h
    · cases h
    · obtain ⟨q, hq, rfl⟩ := Option.map_eq_some_iff.1 h
      have := unhB_len l q hq
      simp only [List.length_cons]; omega
theorem unhexE_len (l : List UInt8) : (unhexE l).1.length ≤ 100 := by
  unfold unhexE
  split
  · exact Nat.zero_le _
  · split
    · exact Nat.zero_le _
    · rename_i h _
      cases hu : unhB l with
      | none => exact Nat.zero_le _
      | some r => have := unhB_len l r hu; show r.length ≤ _; omega

/-- A slice value that reads as these bytes. -/
def BytesAt (W : World) (v : Value) (l : List UInt8) : Prop :=
  ∃ a cap, v = .slice a l.length cap ∧ l.length ≤ cap ∧ cap ≤ maxLen ∧ (0 < l.length → ∃ b off, a = some ⟨b, off, none⟩ ∧ ∀ (j : Nat) (h : j < l.length), W.cell? ⟨b, off + j, none⟩ = some (.int .u8 (l[j].toNat : Int)))
theorem BytesAt.later {w w' : World} {v : Value} {l : List UInt8} (h : BytesAt w v l) (hb : Below w.heap.size w w') : BytesAt w' v l := by
  obtain ⟨a, cap, rfl, h1, h2, h3⟩ := h
  refine ⟨a, cap, rfl, h1, h2, fun hp => ?_⟩
  obtain ⟨b, off, rfl, hc⟩ := h3 hp
  exact ⟨b, off, rfl, fun j hj => cell_later hb (hc j hj)⟩
def rowU (l : List UInt8) : List Value := l.map fun c => .int .u8 (c.toNat : Int)
theorem rowU_snoc (l : List UInt8) (c : UInt8) : rowU (l ++ [c]) = rowU l ++ [.int .u8 (c.toNat : Int)] := by simp [rowU]
theorem rowU_length (l : List UInt8) : (rowU l).length = l.length := by simp [rowU]
theorem BytesAt.of_row {W : World} {base : Nat} {e : TypeId} {v : Value} {l : List UInt8} (h : W.ownsRow base e 1 v l.length (rowU l)) : BytesAt W v l := by
  obtain ⟨a, cap, rfl⟩ := ownsRow_form h
  rcases h.2 with ⟨h1, h2⟩ | ⟨g, cap', cur, hv, _, _, hle, hmx, _⟩
  · have hl := List.eq_nil_of_length_eq_zero h2
    subst hl
    cases h1
    exact ⟨none, 0, rfl, Nat.le_refl _, by unfold maxLen; omega, fun hp => by cases hp⟩
  · simp only [Value.slice.injEq] at hv
    obtain ⟨rfl, _, rfl⟩ := hv
    exact ⟨some ⟨g, 0, none⟩, cap, rfl, hle, hmx, fun _ => ⟨g, 0, rfl, fun j hj => by
      rw [Nat.zero_add, h.cellAt _ (by omega)]
      simp [rowU, hj]⟩⟩
end Go.Proofs.YtdcgfbebeiheiaaDoor
