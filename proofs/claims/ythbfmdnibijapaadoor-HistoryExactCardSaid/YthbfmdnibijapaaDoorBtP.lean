/-
  PLAIN: what two lists have in common, from the front and from behind; the patch between them.
-/
import Derived.Test.YthbfmdnibijapaaDoorHz02
set_option linter.unusedVariables false
namespace Go.Proofs.YthbfmdnibijapaaDoor.Rw

/-- How far two lists are the same. -/
def cpl : List Int → List Int → Nat
  | a :: s, b :: t => if a = b then cpl s t + 1 else 0
  | _, _ => 0
theorem cpl_le : ∀ s t : List Int, cpl s t ≤ s.length ∧ cpl s t ≤ t.length
  | [], t => by simp [cpl]
  | a :: s, [] => by simp [cpl]
  | a :: s, b :: t => by
    have := cpl_le s t
    unfold cpl
    split <;> simp <;> omega
theorem cpl_hit {s t : List Int} {j : Nat} {a : Int} (hs : s[j]? = some a) (ht : t[j]? = some a) : cpl (s.drop j) (t.drop j) = 1 + cpl (s.drop (j + 1)) (t.drop (j + 1)) := by
  obtain ⟨h1, e1⟩ := List.getElem?_eq_some_iff.1 hs
  obtain ⟨h2, e2⟩ := List.getElem?_eq_some_iff.1 ht
  rw [List.drop_eq_getElem_cons h1, List.drop_eq_getElem_cons h2, e1, e2]
  simp only [cpl, if_true]
  omega
theorem cpl_miss {s t : List Int} {j : Nat} {a b : Int} (hs : s[j]? = some a) (ht : t[j]? = some b) (hab : a ≠ b) : cpl (s.drop j) (t.drop j) = 0 := by
  obtain ⟨h1, e1⟩ := List.getElem?_eq_some_iff.1 hs
  obtain ⟨h2, e2⟩ := List.getElem?_eq_some_iff.1 ht
  rw [List.drop_eq_getElem_cons h1, List.drop_eq_getElem_cons h2, e1, e2]
  simp only [cpl, if_neg hab]
theorem cpl_end {s t : List Int} {j : Nat} (h : s.length ≤ j ∨ t.length ≤ j) : cpl (s.drop j) (t.drop j) = 0 := by
  have := cpl_le (s.drop j) (t.drop j)
  simp only [List.length_drop] at this
  omega
/-- The patch: where, how many go, what comes. -/
def bat (s t : List Int) : Nat := cpl s t
def bsf (s t : List Int) : Nat := cpl (s.drop (bat s t)).reverse (t.drop (bat s t)).reverse
def bdel (s t : List Int) : Nat := s.length - bat s t - bsf s t
def bins (s t : List Int) : List Int := (t.drop (bat s t)).take (t.length - bat s t - bsf s t)
theorem bat_le (s t : List Int) : bat s t ≤ s.length ∧ bat s t ≤ t.length := cpl_le s t
theorem bsf_le (s t : List Int) : bsf s t ≤ s.length - bat s t ∧ bsf s t ≤ t.length - bat s t := by
  have := cpl_le (s.drop (bat s t)).reverse (t.drop (bat s t)).reverse
  simpa [bsf] using this
theorem bins_mem {s t : List Int} {r : Int} (h : r ∈ bins s t) : r ∈ t := List.mem_of_mem_drop (List.mem_of_mem_take h)
/-- From behind: the n-th last of what is left behind an offset. -/
theorem rev_at {s : List Int} {a n : Nat} (h : n < s.length - a) : (s.drop a).reverse[n]? = s[s.length - 1 - n]? := by
  rw [List.getElem?_reverse (by simpa using h), List.getElem?_drop, List.length_drop]
  congr 1
  omega
end Go.Proofs.YthbfmdnibijapaaDoor.Rw
