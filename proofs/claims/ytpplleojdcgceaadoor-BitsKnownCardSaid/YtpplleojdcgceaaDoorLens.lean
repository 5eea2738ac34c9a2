/- The answers are short. -/
import Derived.Test.YtpplleojdcgceaaDoorRefOps
import Derived.Test.YtpplleojdcgceaaDoorRefGet
import Derived.Test.YtpplleojdcgceaaDoorSame
import Derived.Test.YtpplleojdcgceaaDoorFinds
namespace Go.Proofs.YtpplleojdcgceaaDoor
open Go.RowKit

theorem mk_len_le {N : Int} {f : Nat → Bool} (h : N ≤ 4096) : (mkW N.toNat f).length ≤ 1000000 := by rw [mkW_len]; omega
theorem newB_len {N : Int} {on : Bool} {K c : Int} {ws : List Nat} (h : newB N on = (K, ws, c)) : ws.length ≤ 1000000 := by
  unfold newB at h
  split at h
  · obtain ⟨_, h1⟩ := Prod.mk.inj h; obtain ⟨rfl, _⟩ := Prod.mk.inj h1; simp
  · obtain ⟨_, h1⟩ := Prod.mk.inj h; obtain ⟨rfl, _⟩ := Prod.mk.inj h1; exact mk_len_le (by omega)
theorem setB_len {N a t : Int} {on : Bool} {va : List Nat} {K c : Int} {ws : List Nat} (h : setB N va a t on = (K, ws, c)) : ws.length ≤ 1000000 := by
  unfold setB at h
  split at h
  · obtain ⟨_, h1⟩ := Prod.mk.inj h; obtain ⟨rfl, _⟩ := Prod.mk.inj h1; simp
  · rename_i hc
    obtain ⟨n, a', t', rfl, rfl, rfl, _, _, hn4, _⟩ := run_ok (by simpa using hc)
    obtain ⟨_, h1⟩ := Prod.mk.inj h; obtain ⟨rfl, _⟩ := Prod.mk.inj h1; exact mk_len_le (by omega)
theorem opB_len {q : Bool → Bool → Bool} {M N : Int} {va vb : List Nat} {K c : Int} {ws : List Nat} (h : opB q M va N vb = (K, ws, c)) : ws.length ≤ 1000000 := by
  unfold opB at h
  split at h
  · obtain ⟨_, h1⟩ := Prod.mk.inj h; obtain ⟨rfl, _⟩ := Prod.mk.inj h1; simp
  · rename_i hc
    obtain ⟨ca, _, rfl⟩ := both_ok (by simpa using hc)
    obtain ⟨n, rfl, hn4, _⟩ := check_ok ca
    obtain ⟨_, h1⟩ := Prod.mk.inj h; obtain ⟨rfl, _⟩ := Prod.mk.inj h1; exact mk_len_le (by omega)
theorem flipB_len {N : Int} {va : List Nat} {K c : Int} {ws : List Nat} (h : flipB N va = (K, ws, c)) : ws.length ≤ 1000000 := by
  unfold flipB at h
  split at h
  · obtain ⟨_, h1⟩ := Prod.mk.inj h; obtain ⟨rfl, _⟩ := Prod.mk.inj h1; simp
  · rename_i hc
    obtain ⟨n, rfl, hn4, _⟩ := check_ok (by simpa using hc)
    obtain ⟨_, h1⟩ := Prod.mk.inj h; obtain ⟨rfl, _⟩ := Prod.mk.inj h1; exact mk_len_le (by omega)
end Go.Proofs.YtpplleojdcgceaaDoor
