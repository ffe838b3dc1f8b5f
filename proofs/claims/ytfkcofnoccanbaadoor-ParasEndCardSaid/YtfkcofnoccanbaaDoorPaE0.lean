/-
  MOTIONS BY PARAGRAPHS, PLAIN: each step moves on; where a stop stands.
-/
import Derived.Test.YtfkcofnoccanbaaDoorPaA
set_option linter.unusedVariables false
namespace Go.Proofs.YtfkcofnoccanbaaDoor.Rw

theorem pdn_len (t : List Int) (f : Nat) : pdn t (f + 1) t.length = t.length := pdn_end (by have := en_le t t.length (Nat.le_refl _); have := en_ge t t.length; omega)
theorem pdn_more (t : List Int) : ∀ f k, k < t.length → t.length + 1 ≤ f + k → k < pdn t f k
  | 0, k, h1, h2 => by omega
  | f + 1, k, h1, h2 => by
    have g := en_ge t k
    have g2 := en_le t k (by omega)
    by_cases he : en t k = t.length
    · rw [pdn_end he]; exact h1
    · by_cases hh : beg t k < en t k ∧ en t (en t k + 1) = en t k + 1
      · rw [pdn_hit he hh.1 hh.2]; omega
      · rw [pdn_next he hh]
        by_cases hl : en t k + 1 = t.length
        · obtain ⟨f', rfl⟩ : ∃ f', f = f' + 1 := ⟨f - 1, by omega⟩
          rw [hl, pdn_len]; exact h1
        · have := pdn_more t f (en t k + 1) (by omega) (by omega)
          omega
theorem pdn_bare (t : List Int) : ∀ f k, k ≤ t.length → pdn t f k < t.length → 0 < pdn t f k ∧ t[pdn t f k]? = some 10 ∧ t[pdn t f k - 1]? = some 10
  | 0, k, h1, h2 => by unfold pdn at h2; omega
  | f + 1, k, h1, h2 => by
    have g := en_ge t k
    have g2 := en_le t k (by omega)
    by_cases he : en t k = t.length
    · rw [pdn_end he] at h2; omega
    · by_cases hh : beg t k < en t k ∧ en t (en t k + 1) = en t k + 1
      · rw [pdn_hit he hh.1 hh.2] at h2 ⊢
        refine ⟨by omega, ?_, ?_⟩
        · have := en_at t (en t k + 1) (by rw [hh.2]; exact h2)
          rwa [hh.2] at this
        · exact en_at t k (by omega)
      · rw [pdn_next he hh] at h2 ⊢
        exact pdn_bare t f _ (by omega) h2
theorem pup_less (t : List Int) : ∀ f k, 0 < k → pup t f k < k
  | 0, k, h1 => h1
  | f + 1, k, h1 => by
    have g := beg_le t k
    by_cases he : beg t k = 0
    · rw [pup_end he]; exact h1
    · by_cases hh : beg t k < en t k ∧ beg t (beg t k - 1) = beg t k - 1
      · rw [pup_hit he hh.1 hh.2]; omega
      · rw [pup_next he hh]
        have := pup_le t f (beg t k - 1)
        omega
end Go.Proofs.YtfkcofnoccanbaaDoor.Rw
