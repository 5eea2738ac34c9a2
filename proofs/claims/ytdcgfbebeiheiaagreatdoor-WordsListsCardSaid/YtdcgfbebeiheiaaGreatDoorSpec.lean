/- What lists are written as: the items that can start a list, and the best text of each rest. No program stands in it. -/
import Derived.Lib.ItoaNum
import Derived.Lib.ItoaLen
import Derived.Lib.Strings
import GoSem.Op.String
namespace Go.Proofs.YtdcgfbebeiheiaaGreatDoor
open Go

abbrev BA := ByteArray
def bs (l : List UInt8) : BA := ⟨l.toArray⟩
theorem bs_toList (l : List UInt8) : (bs l).data.toList = l := rfl
theorem bs_size (l : List UInt8) : (bs l).size = l.length := by unfold bs; rw [Lib.size_eq]
def numS (z : Int) : BA := ⟨(Lib.itoa z).toArray⟩
def upT (z0 z : Int) : BA := numS z0 ++ ⟨#[45]⟩ ++ numS z
def repT (z0 : Int) (n : Nat) : BA := numS n ++ ⟨#[120]⟩ ++ numS z0
def upsF (l : List Int) (n : Nat) : Nat → List (BA × Nat)
  | 0 => []
  | f + 1 => if n ≤ l.length ∧ l[n - 1]?.getD 0 = l[0]?.getD 0 + n - 1 then (upT (l[0]?.getD 0) (l[n - 1]?.getD 0), n) :: upsF l (n + 1) f else []
def repsF (l : List Int) (n : Nat) : Nat → List (BA × Nat)
  | 0 => []
  | f + 1 => if n ≤ l.length ∧ l[n - 1]?.getD 0 = l[0]?.getD 0 then (repT (l[0]?.getD 0) n, n) :: repsF l (n + 1) f else []
/-- The items that can start the list l, each with how many numbers it stands for. -/
def itemsL (l : List Int) : List (BA × Nat) := (numS (l[0]?.getD 0), 1) :: (upsF l 2 (l.length - 1) ++ repsF l 2 (l.length - 1))

theorem upsF_end (l : List Int) (n f : Nat) (h : ¬ (n ≤ l.length ∧ l[n - 1]?.getD 0 = l[0]?.getD 0 + n - 1)) : upsF l n f = [] := by
  cases f with
  | zero => rfl
  | succ f => rw [upsF, if_neg h]
theorem repsF_end (l : List Int) (n f : Nat) (h : ¬ (n ≤ l.length ∧ l[n - 1]?.getD 0 = l[0]?.getD 0)) : repsF l n f = [] := by
  cases f with
  | zero => rfl
  | succ f => rw [repsF, if_neg h]

theorem upsF_count (l : List Int) : ∀ (f n : Nat), 1 ≤ n → ∀ x ∈ upsF l n f, 1 ≤ x.2 ∧ x.2 ≤ l.length
  | 0, n, _, x, h => by cases h
  | f + 1, n, hn, x, h => by
    rw [upsF] at h
    split at h
    · rcases List.mem_cons.1 h with rfl | h
      · exact ⟨hn, by omega⟩
      · exact upsF_count l f (n + 1) (by omega) x h
    · cases h
theorem repsF_count (l : List Int) : ∀ (f n : Nat), 1 ≤ n → ∀ x ∈ repsF l n f, 1 ≤ x.2 ∧ x.2 ≤ l.length
  | 0, n, _, x, h => by cases h
  | f + 1, n, hn, x, h => by
    rw [repsF] at h
    split at h
    · rcases List.mem_cons.1 h with rfl | h
      · exact ⟨hn, by omega⟩
      · exact repsF_count l f (n + 1) (by omega) x h
    · cases h
theorem itemsL_count {l : List Int} (hl : 1 ≤ l.length) {x : BA × Nat} (h : x ∈ itemsL l) : 1 ≤ x.2 ∧ x.2 ≤ l.length := by
  unfold itemsL at h
  rcases List.mem_cons.1 h with rfl | h
  · exact ⟨Nat.le_refl _, hl⟩
  · rcases List.mem_append.1 h with h | h
    · exact upsF_count l _ _ (by decide) x h
    · exact repsF_count l _ _ (by decide) x h

def beforeA (a b : BA) : Bool := if a.size = b.size then Op.bytesLess a.toList b.toList else decide (a.size < b.size)
/-- A candidate: the item, and behind a comma the best text of what it leaves. -/
def candA (rest t : BA) : BA := if rest.toList.isEmpty then t else t ++ (⟨#[44]⟩ ++ rest)
def stepA (best : Nat → BA) (cur : BA) (it : BA × Nat) : BA :=
  if cur.toList.isEmpty || beforeA (candA (best it.2) it.1) cur then candA (best it.2) it.1 else cur
/-- The best texts of all rests of a list, the longest first. -/
def bestsA : List Int → List BA
  | [] => [⟨#[]⟩]
  | z :: zs => ((itemsL (z :: zs)).foldl (stepA fun c => (bestsA zs).getD (c - 1) ⟨#[]⟩) ⟨#[]⟩) :: bestsA zs
theorem bestsA_length (l : List Int) : (bestsA l).length = l.length + 1 := by induction l with | nil => rfl | cons z zs ih => simp [bestsA, ih]
def canonA (l : List Int) : BA := (bestsA l).getD 0 ⟨#[]⟩
end Go.Proofs.YtdcgfbebeiheiaaGreatDoor
