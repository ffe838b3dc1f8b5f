/-
  PLAIN: what an operator works on, where the cursor is behind it, and what is left (chapter 18), on lists of runes.
-/
import Derived.Test.YtbofjefblhnkoaaGreatDoorZM0
set_option linter.unusedVariables false
namespace Go.Proofs.YtbofjefblhnkoaaGreatDoor.Rw

/-- Where normal mode's cursor stands. -/
def rstP (t : List Int) (k : Nat) : Nat := if en t k = k ∧ beg t k < k then k - 1 else k
/-- May it be a piece? Whole rows, if it says so. -/
def Rng (t : List Int) (lo hi : Nat) (line : Bool) : Prop := lo ≤ hi ∧ hi ≤ t.length ∧ (line = true → beg t lo = lo ∧ en t hi = hi)
theorem beg_iff {t : List Int} {k : Nat} : beg t k = k ↔ k = 0 ∨ t[k - 1]? = some 10 := by
  cases k with
  | zero => simp [beg]
  | succ n =>
    simp only [Nat.add_sub_cancel]
    by_cases h : t[n]? = some 10
    · rw [beg_stop h]; simp [h]
    · rw [beg_step h]
      have := beg_le t n
      constructor
      · intro e; omega
      · rintro (e | e)
        · omega
        · exact absurd e h
theorem en_iff {t : List Int} {k : Nat} (hk : k ≤ t.length) : en t k = k ↔ k = t.length ∨ t[k]? = some 10 := by
  by_cases hl : k = t.length
  · rw [en_end (by omega)]; simp [hl]
  · have hlt : k < t.length := by omega
    have hc : t[k]? = some t[k] := List.getElem?_eq_getElem hlt
    by_cases h : t[k] = 10
    · rw [en_stop (by rw [hc, h])]; simp [hc, h]
    · have h1 := en_step hc h
      have h2 := en_ge t (k + 1)
      constructor
      · intro e; omega
      · rintro (e | e)
        · omega
        · rw [hc] at e; injection e with e; exact absurd e h
/-- The offset ahead of Rest. -/
def spt (t : List Int) (lo : Nat) (line : Bool) (at' : Nat) : Nat := if line then min (en t lo) (lo + (at' - beg t at')) else lo
theorem spt_le {t : List Int} {lo : Nat} {line : Bool} {at' : Nat} (h : lo ≤ t.length) : spt t lo line at' ≤ t.length := by
  have := en_le t lo h
  unfold spt
  split <;> omega
/-- Rows lie alike where newlines do. -/
theorem beg_same {s t : List Int} (h : ∀ i : Nat, s[i]? = some 10 ↔ t[i]? = some 10) : ∀ k, beg s k = beg t k
  | 0 => rfl
  | k + 1 => by
    by_cases hk : s[k]? = some 10
    · rw [beg_stop hk, beg_stop ((h k).1 hk)]
    · rw [beg_step hk, beg_step (fun e => hk ((h k).2 e)), beg_same h k]
theorem en_same {s t : List Int} (hl : s.length = t.length) (h : ∀ i : Nat, s[i]? = some 10 ↔ t[i]? = some 10) (k : Nat) (hk : k ≤ s.length) : en s k = en t k := by
  refine en_of s k (en t k) (en_ge t k) ?_ (fun j h1 h2 e => ?_) (by rw [hl]; exact en_le t k (by omega))
  · by_cases hlt : en t k < t.length
    · exact en_stop ((h _).2 (en_at t k hlt))
    · exact en_end (by omega)
  · exact en_none t k j h1 h2 ((h j).1 e)
theorem rst_same {s t : List Int} (hl : s.length = t.length) (h : ∀ i : Nat, s[i]? = some 10 ↔ t[i]? = some 10) (k : Nat) (hk : k ≤ s.length) : rstP s k = rstP t k := by
  unfold rstP
  rw [beg_same h k, en_same hl h k hk]
/-- A letter turned: small (117), great (85), the other one (126). -/
def trn (key c : Int) : Int := if 65 ≤ c ∧ c ≤ 90 ∧ key ≠ 85 then c + 32 else if 97 ≤ c ∧ c ≤ 122 ∧ key ≠ 117 then c - 32 else c
theorem trn_10 (key c : Int) : trn key c = 10 ↔ c = 10 := by
  unfold trn
  by_cases h1 : 65 ≤ c ∧ c ≤ 90 ∧ key ≠ 85
  · rw [if_pos h1]; omega
  · rw [if_neg h1]
    by_cases h2 : 97 ≤ c ∧ c ≤ 122 ∧ key ≠ 117
    · rw [if_pos h2]; omega
    · rw [if_neg h2]
/-- A piece turned. -/
def csd (t : List Int) (lo hi : Nat) (key : Int) : List Int := t.take lo ++ ((t.take hi).drop lo).map (trn key) ++ t.drop hi
/-- What is left where a piece goes; with whole rows a newline goes. -/
def dlo (t : List Int) (lo hi : Nat) (line : Bool) : Nat := if line = true ∧ ¬ hi < t.length ∧ 0 < lo then lo - 1 else lo
def dhi (t : List Int) (lo hi : Nat) (line : Bool) : Nat := if line = true ∧ hi < t.length then hi + 1 else hi
def lft (t : List Int) (lo hi : Nat) : List Int := t.take lo ++ t.drop hi
theorem lft_sub (t : List Int) (lo hi : Nat) (h : lo ≤ hi) : List.Sublist (lft t lo hi) t := by
  unfold lft
  have h1 : List.Sublist (t.drop hi) (t.drop lo) := by
    rw [show hi = lo + (hi - lo) by omega, ← List.drop_drop]
    exact List.drop_sublist _ _
  have := h1.append_left (t.take lo)
  rwa [List.take_append_drop] at this
end Go.Proofs.YtbofjefblhnkoaaGreatDoor.Rw
