/- Hexadecimal digits, the other way: its walk. -/
import Derived.Test.YtdcgfbebeiheiaaDoorHexR
import Derived.Test.YtdcgfbebeiheiaaDoorLaw
namespace Go.Proofs.YtdcgfbebeiheiaaDoor
open Go.RowKit

def hexL (l : List UInt8) : List UInt8 := l.flatMap fun c => [hx (c.toNat / 16), hx (c.toNat % 16)]
def hexE (l : List UInt8) : List UInt8 × Int := if 100 < l.length then ([], 3) else (hexL l, 0)
theorem hexL_len (l : List UInt8) : (hexL l).length = 2 * l.length := by
  induction l with
  | nil => rfl
  | cons c l ih =>
    have e : hexL (c :: l) = hx (c.toNat / 16) :: hx (c.toNat % 16) :: hexL l := rfl
    rw [e, List.length_cons, List.length_cons, List.length_cons, ih]; omega
theorem hexL_snoc (l : List UInt8) (c : UInt8) : hexL (l ++ [c]) = hexL l ++ [hx (c.toNat / 16), hx (c.toNat % 16)] := by
  unfold hexL; rw [List.flatMap_append]; rfl

theorem nibble_is (z : Int) (n : Nat) (hz : z = (n : Int)) (h : n < 16) (w : World) :
    Calls Tryd.prog 45 #[.int .u8 z] w fun e w' => e = .returned (.string ⟨#[hx n]⟩) ∧ w = w' := by
  subst hz; exact nibble_any n h w

theorem wrap_small (x : Int) (h0 : 0 ≤ x) (h1 : x ≤ 255) : IntKind.u8.wrap x = x := by
  unfold IntKind.wrap
  simp [IntKind.signed, IntKind.bits]
  omega

set_option maxRecDepth 100000 in
set_option maxHeartbeats 8000000 in
theorem refHex_any (b off cap : Nat) (l : List UInt8) (hcap : l.length ≤ cap) (hcap2 : cap ≤ maxLen) (w : World)
    (hc : ∀ j : Nat, (hj : j < l.length) → w.cell? ⟨b, off + j, none⟩ = some (.int .u8 (l[j].toNat : Int))) :
    Calls Tryd.prog 23 #[.slice (some ⟨b, off, none⟩) l.length cap] w fun e w' => e = .returned (.tuple #[.string ⟨(hexE l).1.toArray⟩, .int .i64 (hexE l).2]) ∧ Below w.heap.size w w' := by
  have hcm : l.length ≤ 9223372036854775807 := by unfold maxLen at hcap2; omega
  have HC := Lib.hid hc
  clear hc
  by_cases h5 : 100 < l.length
  · have hd : Hid (hexE l = ([], 3)) := by unfold Hid hexE; rw [if_pos h5]
    go_enter Tryd.func23, Tryd.ntmps23
    go_wp2
    go_ret2
    rw [hd.out]
    exact ⟨rfl, Below.refl _ _⟩
  have hd : Hid (hexE l = (hexL l, 0)) := by unfold Hid hexE; rw [if_neg h5]
  go_enter Tryd.func23, Tryd.ntmps23
  go_wp2
  go_loopw [4, 5] (fun o i wr => ∃ (k : Nat) (a : ByteArray), k ≤ l.length ∧ i = .int .i64 k ∧ o = .string a ∧ a.size = 2 * k ∧ Hid (a.data.toList = hexL (l.take k)) ∧ Below w.heap.size w wr) (fun _ i _ => l.length - (intOf i).toNat)
  case atStart => exact ⟨0, ⟨#[]⟩, Nat.zero_le _, rfl, rfl, rfl, rfl, Below.refl _ _⟩
  case round =>
    obtain ⟨k, a, hk, rfl, rfl, hsz, HR, hB⟩ := hrel
    by_cases hlt : k < l.length
    · have hck := HC.out k hlt
      have hblt := World.block_lt_of_cell? _ _ hck
      have hcw := cell_later hB hck
      clear hck
      obtain ⟨c, hcc⟩ : ∃ c, l[k] = c := ⟨_, rfl⟩
      rw [hcc] at hcw
      have hrow : Hid (hexL (l.take (k + 1)) = hexL (l.take k) ++ [hx (c.toNat / 16), hx (c.toNat % 16)]) := by
        unfold Hid; rw [List.take_succ_eq_append_getElem hlt, hexL_snoc, hcc]
      have hk1 : (k : Int) < (l.length : Int) := by omega
      have hk3 : k < cap := by omega
      have hcb := c.toNat_lt
      clear hcc
      have hs1 : (⟨#[hx (c.toNat / 16)]⟩ : ByteArray).size = 1 := rfl
      have hs2 : (⟨#[hx (c.toNat % 16)]⟩ : ByteArray).size = 1 := rfl
      have hk0 : (0 : Int) ≤ (k : Int) := by omega
      have hr1 : ∀ w' : World, (Op.stringOp .add a ⟨#[hx (c.toNat / 16)]⟩).run Tryd.prog w' = .ok (.string (a ++ ⟨#[hx (c.toNat / 16)]⟩)) w' := fun w' => run_string_add_sum w' _ _ (by rw [hs1]; omega)
      have hr2 : ∀ w' : World, (Op.stringOp .add (a ++ ⟨#[hx (c.toNat / 16)]⟩) ⟨#[hx (c.toNat % 16)]⟩).run Tryd.prog w' = .ok (.string (a ++ ⟨#[hx (c.toNat / 16)]⟩ ++ ⟨#[hx (c.toNat % 16)]⟩)) w' := fun w' => run_string_add_sum w' _ _ (by rw [ByteArray.size_append, hs1, hs2]; omega)
      have hci0 : (0 : Int) ≤ (c.toNat : Int) := by omega
      have hci : (c.toNat : Int) ≤ 255 := by omega
      have hx1 : ((c.toNat : Int) / 16) = ((c.toNat / 16 : Nat) : Int) := by omega
      have hx2 : ((c.toNat : Int) % 16) = ((c.toNat % 16 : Nat) : Int) := by omega
      have hx3 : IntKind.u8.wrap ((c.toNat : Int) / 16) = ((c.toNat / 16 : Nat) : Int) := by rw [wrap_small _ (by omega) (by omega)]; omega
      have hx4 : IntKind.u8.wrap ((c.toNat : Int) % 16) = ((c.toNat % 16 : Nat) : Int) := by rw [wrap_small _ (by omega) (by omega)]; omega
      have HX3 := Lib.hid hx3
      have HX4 := Lib.hid hx4
      have HX1 := Lib.hid hx1
      have HX2 := Lib.hid hx2
      clear hx1 hx2 hx3 hx4
      go_wp2_with fail
      first | go_region_held3 (fun w' => w'.cell? ⟨b, off + k, none⟩ = some (.int .u8 (c.toNat : Int))) (go_keep) (first | (go_at_call 45; refine (nibble_is _ (c.toNat / 16) HX1.out (by omega) _).mono ?_; rintro e w' ⟨rfl, rfl⟩) | (go_at_call 45; refine (nibble_is _ (c.toNat / 16) HX3.out (by omega) _).mono ?_; rintro e w' ⟨rfl, rfl⟩) | (go_at_call 45; refine (nibble_is _ (c.toNat % 16) HX2.out (by omega) _).mono ?_; rintro e w' ⟨rfl, rfl⟩) | (go_at_call 45; refine (nibble_is _ (c.toNat % 16) HX4.out (by omega) _).mono ?_; rintro e w' ⟨rfl, rfl⟩)) | fail
      all_goals
        go_wp2
        go_roundw
        case rel => exact ⟨k + 1, _, by omega, by go_num, rfl, by rw [ByteArray.size_append, ByteArray.size_append, hsz, hs1, hs2]; omega, by
          unfold Hid
          rw [hrow.out, ← HR.out, cat_list, cat_list]
          simp, hB.drew⟩
        case measure => simp [intOf]; omega
    · have hE : Hid (l.take k = l) := List.take_of_length_le (by omega)
      go_wp2
      go_ret2
      rw [hd.out]
      exact ⟨ret_str (ba_of_list (by rw [HR.out, hE.out])) rfl, hB⟩
end Go.Proofs.YtdcgfbebeiheiaaDoor
