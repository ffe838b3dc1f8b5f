/-
  PLAIN: motions by paragraphs.
-/
import Derived.Test.YtfkcofnoccanbaaDoorSkP
set_option linter.unusedVariables false
namespace Go.Proofs.YtfkcofnoccanbaaDoor.Rw

theorem pdn_end {t : List Int} {f k : Nat} (h : en t k = t.length) : pdn t (f + 1) k = t.length := by unfold pdn; rw [if_pos h]
theorem pdn_hit {t : List Int} {f k : Nat} (h : en t k ≠ t.length) (h1 : beg t k < en t k) (h2 : en t (en t k + 1) = en t k + 1) : pdn t (f + 1) k = en t k + 1 := by
  unfold pdn; rw [if_neg h, if_pos ⟨h1, h2⟩]
theorem pdn_next {t : List Int} {f k : Nat} (h : en t k ≠ t.length) (h1 : ¬ (beg t k < en t k ∧ en t (en t k + 1) = en t k + 1)) : pdn t (f + 1) k = pdn t f (en t k + 1) := by
  rw [show pdn t (f + 1) k = _ from rfl]
  unfold pdn
  rw [if_neg h, if_neg h1]
  cases f <;> rfl
theorem pup_end {t : List Int} {f k : Nat} (h : beg t k = 0) : pup t (f + 1) k = 0 := by unfold pup; rw [if_pos h]
theorem pup_hit {t : List Int} {f k : Nat} (h : beg t k ≠ 0) (h1 : beg t k < en t k) (h2 : beg t (beg t k - 1) = beg t k - 1) : pup t (f + 1) k = beg t k - 1 := by
  unfold pup; rw [if_neg h, if_pos ⟨h1, h2⟩]
theorem pup_next {t : List Int} {f k : Nat} (h : beg t k ≠ 0) (h1 : ¬ (beg t k < en t k ∧ beg t (beg t k - 1) = beg t k - 1)) : pup t (f + 1) k = pup t f (beg t k - 1) := by
  rw [show pup t (f + 1) k = _ from rfl]
  unfold pup
  rw [if_neg h, if_neg h1]
  cases f <;> rfl
/-- The begin of a row ahead of another one is behind a newline: the row above ends there. -/
theorem en_above {t : List Int} {k : Nat} (h : beg t k ≠ 0) : en t (beg t k - 1) = beg t k - 1 := by
  rcases beg_ahead t k with h1 | h1
  · exact absurd h1 h
  · exact en_stop h1
theorem pmv_fix (t : List Int) (g : Nat → Nat) (e : Nat) (h : g e = e) : ∀ n, pmv t g n e = e
  | 0 => rfl
  | n + 1 => by show pmv t g n (g e) = e; rw [h]; exact pmv_fix t g e h n
theorem pmv_le (t : List Int) (g : Nat → Nat) (m : Nat) (h : ∀ k, k ≤ m → g k ≤ m) : ∀ n k, k ≤ m → pmv t g n k ≤ m
  | 0, k, hk => hk
  | n + 1, k, hk => pmv_le t g m h n (g k) (h k hk)
/-- One step of a key. -/
def pst (t : List Int) (key : Int) (k : Nat) : Nat := if key = 125 then pdn t (t.length + 1) k else pup t (t.length + 1) k
theorem pst_le (t : List Int) (key : Int) (k : Nat) (h : k ≤ t.length) : pst t key k ≤ t.length := by
  unfold pst
  split
  · exact pdn_le t _ k h
  · exact Nat.le_trans (pup_le t _ k) h
end Go.Proofs.YtfkcofnoccanbaaDoor.Rw
