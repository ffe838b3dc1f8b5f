/-
  THE PATCH BETWEEN TWO TEXTS, APPLIED TO THE ONE, MAKES THE OTHER.
-/
import Derived.Test.YthbfmdnibijapaaDoorBtP
set_option linter.unusedVariables false
namespace Go.Proofs.YthbfmdnibijapaaDoor
open Go Go.RowKit

theorem Rw.cpl_take : ∀ s t : List Int, s.take (cpl s t) = t.take (cpl s t)
  | [], t => by simp [cpl]
  | a :: s, [] => by simp [cpl]
  | a :: s, b :: t => by
    unfold cpl
    split
    · rename_i h
      subst h
      rw [List.take_succ_cons, List.take_succ_cons, cpl_take s t]
    · rfl
theorem Rw.suf {s t : List Int} (q : Nat) (hs : q ≤ s.length) (ht : q ≤ t.length) (h : s.reverse.take q = t.reverse.take q) : s.drop (s.length - q) = t.drop (t.length - q) := by
  rw [List.take_reverse, List.take_reverse] at h
  have := congrArg List.reverse h
  simpa using this
/-- The patch between two texts, applied to the one, makes the other. -/
theorem Rw.app (s t : List Int) : s.take (bat s t) ++ bins s t ++ s.drop (bat s t + bdel s t) = t := by
  obtain ⟨h1, h2⟩ := bat_le s t
  obtain ⟨h3, h4⟩ := bsf_le s t
  have e1 : s.take (bat s t) = t.take (bat s t) := cpl_take s t
  have e2 : (s.drop (bat s t)).drop ((s.drop (bat s t)).length - bsf s t) = (t.drop (bat s t)).drop ((t.drop (bat s t)).length - bsf s t) :=
    suf _ (by rw [List.length_drop]; exact h3) (by rw [List.length_drop]; exact h4) (cpl_take _ _)
  rw [List.drop_drop, List.length_drop, List.length_drop] at e2
  have e3 : s.drop (bat s t + bdel s t) = (t.drop (bat s t)).drop (t.length - bat s t - bsf s t) := by
    rw [← e2]
    rfl
  rw [e1, e3]
  unfold bins
  rw [List.append_assoc, List.take_append_drop, List.take_append_drop]
theorem Rw.app_le (s t : List Int) : bat s t + bdel s t ≤ s.length := by
  obtain ⟨h1, h2⟩ := bat_le s t
  obtain ⟨h3, h4⟩ := bsf_le s t
  unfold bdel
  omega
end Go.Proofs.YthbfmdnibijapaaDoor
