/-
  PLAIN: where each motion by rows leads (chapter 12), on a list of runes.
-/
import Derived.Test.YtohmhjeimeilcaaDoorRowP
set_option linter.unusedVariables false
namespace Go.Proofs.YtohmhjeimeilcaaDoor.Rw

/-- The row with that number, from 1 on; the last one, if there are fewer. -/
def nth (t : List Int) (count : Nat) : Nat := fst t (wd t 0 (count - 1))
theorem nth_go (t : List Int) (c : Nat) : nth t c = (match dn t 0 (c - 1) with | none => fst t t.length | some x => fst t x) := by
  unfold nth
  rw [wd_dn t _ 0 (Nat.zero_le _) rfl]
  cases dn t 0 (c - 1) with
  | none => simp [fst, beg_beg]
  | some x => rfl
/-- Where a motion leads. -/
def to (t : List Int) (k : Nat) (key : Int) (count : Nat) : Option Nat :=
  let n := max count 1
  if key = 104 then (if max (beg t k) (k - n) = k then none else some (max (beg t k) (k - n)))
  else if key = 108 then (if min (en t k) (k + n) = k then none else some (min (en t k) (k + n)))
  else if key = 48 then some (beg t k)
  else if key = 94 then some (fst t k)
  else if key = 36 then (dn t k (n - 1)).map (en t)
  else if key = 106 then (dn t k n).map fun x => min (en t x) (x + (k - beg t k))
  else if key = 107 then (up t k n).map fun x => min (en t x) (x + (k - beg t k))
  else if key = 43 then (dn t k n).map (fst t)
  else if key = 45 then (up t k n).map (fst t)
  else if key = 95 then (dn t k (n - 1)).map (fst t)
  else if key = 71 then some (if count = 0 then fst t t.length else nth t count)
  else some (if count = 0 then fst t 0 else nth t count)
/-- Its kind. -/
def kd (key : Int) : Int := if key = 104 ∨ key = 108 ∨ key = 48 ∨ key = 94 then 0 else if key = 36 then 1 else 2
/-- Is it a key of these? -/
def Line (key : Int) : Prop := key = 104 ∨ key = 108 ∨ key = 48 ∨ key = 94 ∨ key = 36 ∨ key = 106 ∨ key = 107 ∨ key = 43 ∨ key = 45 ∨ key = 95 ∨ key = 71 ∨ key = 16777319
instance (key : Int) : Decidable (Line key) := by unfold Line; infer_instance
theorem to_le (t : List Int) (k : Nat) (key : Int) (count : Nat) (h : k ≤ t.length) (x : Nat) (hx : to t k key count = some x) : x ≤ t.length := by
  have hb := beg_le t k
  have he := en_le t k h
  have hf := fst_le t k h
  have hend : ∀ y, y ≤ t.length → fst t y ≤ t.length := fun y hy => Nat.le_trans (fst_le t y hy) (en_le t y hy)
  have hw := wd_le t (count - 1) 0 (Nat.zero_le _) rfl
  have hd : ∀ m y, dn t k m = some y → y ≤ t.length := fun m y hy => (dn_some t m k y h hy).1
  have hu : ∀ m y, up t k m = some y → y ≤ t.length := fun m y hy => Nat.le_trans (up_some t m k y hy).1 h
  unfold to at hx
  dsimp only at hx
  by_cases c : key = 104
  · rw [if_pos c] at hx
    split at hx
    · cases hx
    · injection hx with hx; omega
  rw [if_neg c] at hx
  clear c
  by_cases c : key = 108
  · rw [if_pos c] at hx
    split at hx
    · cases hx
    · injection hx with hx; omega
  rw [if_neg c] at hx
  clear c
  by_cases c : key = 48
  · rw [if_pos c] at hx
    injection hx with hx; omega
  rw [if_neg c] at hx
  clear c
  by_cases c : key = 94
  · rw [if_pos c] at hx
    injection hx with hx; subst hx; exact hend _ h
  rw [if_neg c] at hx
  clear c
  by_cases c : key = 36
  · rw [if_pos c] at hx
    obtain ⟨y, hy, rfl⟩ := Option.map_eq_some_iff.1 hx
    exact en_le t y (hd _ y hy)
  rw [if_neg c] at hx
  clear c
  by_cases c : key = 106
  · rw [if_pos c] at hx
    obtain ⟨y, hy, rfl⟩ := Option.map_eq_some_iff.1 hx
    exact Nat.le_trans (Nat.min_le_left _ _) (en_le t y (hd _ y hy))
  rw [if_neg c] at hx
  clear c
  by_cases c : key = 107
  · rw [if_pos c] at hx
    obtain ⟨y, hy, rfl⟩ := Option.map_eq_some_iff.1 hx
    exact Nat.le_trans (Nat.min_le_left _ _) (en_le t y (hu _ y hy))
  rw [if_neg c] at hx
  clear c
  by_cases c : key = 43
  · rw [if_pos c] at hx
    obtain ⟨y, hy, rfl⟩ := Option.map_eq_some_iff.1 hx
    exact hend y (hd _ y hy)
  rw [if_neg c] at hx
  clear c
  by_cases c : key = 45
  · rw [if_pos c] at hx
    obtain ⟨y, hy, rfl⟩ := Option.map_eq_some_iff.1 hx
    exact hend y (hu _ y hy)
  rw [if_neg c] at hx
  clear c
  by_cases c : key = 95
  · rw [if_pos c] at hx
    obtain ⟨y, hy, rfl⟩ := Option.map_eq_some_iff.1 hx
    exact hend y (hd _ y hy)
  rw [if_neg c] at hx
  clear c
  have h1 := hend t.length (Nat.le_refl _)
  have h2 := hend 0 (Nat.zero_le _)
  have h3 : nth t count ≤ t.length := hend _ hw
  split at hx <;> (injection hx with hx; split at hx <;> omega)
end Go.Proofs.YtohmhjeimeilcaaDoor.Rw
