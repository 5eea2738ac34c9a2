/- One half byte, the other way. -/
import Derived.Test.YtdcgfbebeiheiaaDoorRefQ
namespace Go.Proofs.YtdcgfbebeiheiaaDoor
open Go.RowKit

/-- The byte that stands for the half byte n. -/
def hx (n : Nat) : UInt8 := UInt8.ofNat (if n < 10 then 48 + n else 87 + n)
theorem hx_piece : ∀ n : Fin 16, ((⟨#[48, 49, 50, 51, 52, 53, 54, 55, 56, 57, 97, 98, 99, 100, 101, 102]⟩ : ByteArray).extract n.val (n.val + 1)).data.toList = [hx n.val] := by decide +kernel

set_option maxRecDepth 100000 in
theorem nibble_any (n : Nat) (h : n < 16) (w : World) :
    Calls Tryd.prog 45 #[.int .u8 n] w fun e w' => e = .returned (.string ⟨#[hx n]⟩) ∧ w = w' := by
  have hp := hx_piece ⟨n, h⟩
  have e : ((⟨#[48, 49, 50, 51, 52, 53, 54, 55, 56, 57, 97, 98, 99, 100, 101, 102]⟩ : ByteArray).extract n (n + 1)) = ⟨#[hx n]⟩ := ba_of_list hp
  clear hp
  have HE := Lib.hid e
  clear e
  go_enter Tryd.func45, Tryd.ntmps45
  go_wp2
  go_ret
  exact ⟨by rw [← HE.out]; rfl, rfl⟩
end Go.Proofs.YtdcgfbebeiheiaaDoor
