/- List. -/
import Derived.Test.YtdcgfbebeiheiaaGreatDoorCanon
namespace Go.Proofs.YtdcgfbebeiheiaaGreatDoor
open Go.RowKit

def okZ (z : Int) : Bool := decide (0 ≤ z ∧ z ≤ 9999)
def listA (zs : List Int) : BA × Int := if 500 < zs.length then (⟨#[]⟩, 3) else if zs.all okZ then (canonA zs, 0) else (⟨#[]⟩, 7)
theorem all_small {zs : List Int} (h : zs.all okZ = true) (j : Nat) : 0 ≤ zs[j]?.getD 0 ∧ zs[j]?.getD 0 ≤ 9999 := by
  by_cases hj : j < zs.length
  · have := List.all_eq_true.1 h zs[j] (List.getElem_mem hj)
    unfold okZ at this
    simpa [hj] using this
  · simp [List.getElem?_eq_none (Nat.le_of_not_lt hj)]

set_option maxHeartbeats 1000000 in
theorem List_any (b off cap : Nat) (zs : List Int) (hcap : zs.length ≤ cap) (hcap2 : cap ≤ maxLen) (w : World) (hgd : Gd w)
    (hc : ∀ j : Nat, j < zs.length → w.cell? ⟨b, off + j, none⟩ = some (.int .i64 (zs[j]?.getD 0))) :
    Calls Tryz.prog 8 #[.slice (some ⟨b, off, none⟩) zs.length cap] w fun e w' => e = .returned (.tuple #[.string (listA zs).1, .int .i64 (listA zs).2]) ∧ Below w.heap.size w w' := by
  have hcm : zs.length ≤ 9223372036854775807 := by unfold maxLen at hcap2; omega
  have HC := Lib.hid hc
  clear hc
  by_cases h5 : 500 < zs.length
  · have hd : Hid (listA zs = (⟨#[]⟩, 3)) := by unfold Hid listA; rw [if_pos h5]
    go_enter Tryz.func8, Tryz.ntmps8
    go_wp2
    go_ret2
    rw [hd.out]
    exact ⟨rfl, Below.refl _ _⟩
  have hd : Hid (listA zs = if zs.all okZ then (canonA zs, 0) else (⟨#[]⟩, 7)) := by unfold Hid listA; rw [if_neg h5]
  go_enter Tryz.func8, Tryz.ntmps8
  go_wp2
  go_loop [11] (fun i => ∃ k : Nat, k ≤ zs.length ∧ i = .int .i64 k ∧ Hid (zs.all okZ = (zs.drop k).all okZ)) (fun i => zs.length - (intOf i).toNat)
  case atStart => exact ⟨0, Nat.zero_le _, rfl, rfl⟩
  case round =>
    obtain ⟨k, hk, rfl, HR⟩ := hrel
    by_cases hlt : k < zs.length
    · have hdr : Hid (zs.drop k = zs[k] :: zs.drop (k + 1)) := List.drop_eq_getElem_cons hlt
      have hck := HC.out k hlt
      by_cases h1 : 0 ≤ zs[k] <;> by_cases h2 : zs[k] ≤ 9999
      · have hok : Hid (okZ zs[k] = true) := by unfold Hid okZ; exact decide_eq_true ⟨h1, h2⟩
        go_wp2
        all_goals first | (exfalso; omega) | skip
        go_round
        case rel => exact ⟨k + 1, by omega, by go_num, by unfold Hid; rw [HR.out, hdr.out, List.all_cons, hok.out]; rfl⟩
        case measure => simp [intOf]; omega
      all_goals
        have hok : Hid (okZ zs[k] = false) := by unfold Hid okZ; exact decide_eq_false (by omega)
        go_wp2
        all_goals first | (exfalso; omega) | (go_ret2; rw [hd.out, HR.out, hdr.out, List.all_cons, hok.out]; exact ⟨rfl, Below.refl _ _⟩)
    · have h0 : Hid (zs.drop k = []) := List.drop_eq_nil_of_le (by omega)
      have hall : Hid (zs.all okZ = true) := by unfold Hid; rw [HR.out, h0.out]; rfl
      clear HR h0
      go_wp2_with (go_at_call 22; refine (canonical_any b off cap zs (by omega) hcap hcap2 (all_small hall.out) w hgd HC.out).mono ?_; rintro e w' ⟨rfl, hB⟩)
      go_ret2
      rw [hd.out, hall.out]
      exact ⟨rfl, hB⟩
end Go.Proofs.YtdcgfbebeiheiaaGreatDoor
