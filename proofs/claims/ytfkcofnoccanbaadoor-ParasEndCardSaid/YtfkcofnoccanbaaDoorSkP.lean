/-
  PLAIN: the rune that is sought within a row; stops between paragraphs.
-/
import Derived.Test.YtfkcofnoccanbaaDoorMvP
set_option linter.unusedVariables false
namespace Go.Proofs.YtfkcofnoccanbaaDoor.Rw

/-- From k on, by steps of b, within low and high: where the c-th r stands. -/
def fnd (t : List Int) (low high b r : Int) : Nat → Int → Nat → Option Int
  | 0, _, _ => none
  | f + 1, k, c => if low ≤ k ∧ k < high then (if t[k.toNat]? = some r then (if c ≤ 1 then some k else fnd t low high b r f (k + b) (c - 1)) else fnd t low high b r f (k + b) c) else none
theorem fnd_out {t : List Int} {low high b r k : Int} {f c : Nat} (h : ¬ (low ≤ k ∧ k < high)) : fnd t low high b r f k c = none := by
  cases f with
  | zero => rfl
  | succ f => unfold fnd; rw [if_neg h]
theorem fnd_hit {t : List Int} {low high b r k : Int} {f c : Nat} (h : low ≤ k ∧ k < high) (hr : t[k.toNat]? = some r) (hc : c ≤ 1) : fnd t low high b r (f + 1) k c = some k := by
  unfold fnd; rw [if_pos h, if_pos hr, if_pos hc]
theorem fnd_next {t : List Int} {low high b r k : Int} {f c : Nat} (h : low ≤ k ∧ k < high) (hr : t[k.toNat]? = some r) (hc : 1 < c) : fnd t low high b r (f + 1) k c = fnd t low high b r f (k + b) (c - 1) := by
  rw [show fnd t low high b r (f + 1) k c = _ from rfl]
  unfold fnd
  rw [if_pos h, if_pos hr, if_neg (by omega)]
  cases f <;> rfl
theorem fnd_skip {t : List Int} {low high b r k : Int} {f c : Nat} (h : low ≤ k ∧ k < high) (hr : t[k.toNat]? ≠ some r) : fnd t low high b r (f + 1) k c = fnd t low high b r f (k + b) c := by
  rw [show fnd t low high b r (f + 1) k c = _ from rfl]
  unfold fnd
  rw [if_pos h, if_neg hr]
  cases f <;> rfl
theorem fnd_in {t : List Int} {low high b r : Int} : ∀ (f : Nat) (k : Int) (c : Nat) (x : Int), fnd t low high b r f k c = some x → low ≤ x ∧ x < high
  | 0, k, c, x, h => by cases h
  | f + 1, k, c, x, h => by
    by_cases hk : low ≤ k ∧ k < high
    · by_cases hr : t[k.toNat]? = some r
      · by_cases hc : c ≤ 1
        · rw [fnd_hit hk hr hc] at h
          injection h with h
          omega
        · rw [fnd_next hk hr (by omega)] at h
          exact fnd_in f _ _ x h
      · rw [fnd_skip hk hr] at h
        exact fnd_in f _ _ x h
    · rw [fnd_out hk] at h
      cases h
/-- Is it a key of these? -/
def Seek (key : Int) : Prop := key = 102 ∨ key = 70 ∨ key = 116 ∨ key = 84
instance (key : Int) : Decidable (Seek key) := by unfold Seek; infer_instance
/-- The step of a key; how far beside the rune it stands. -/
def by_ (key : Int) : Int := if key = 102 ∨ key = 116 then 1 else -1
def beside (key : Int) : Int := if key = 116 then -1 else if key = 84 then 1 else 0
/-- Where the motion leads. -/
def find (t : List Int) (k : Nat) (key r : Int) (c : Nat) : Option Int := (fnd t (beg t k) (en t k) (by_ key) r (t.length + 2) (k + by_ key) c).map (· + beside key)

/-- The next row without runes below, under one that has some; else the end. -/
def pdn (t : List Int) : Nat → Nat → Nat
  | 0, _ => t.length
  | f + 1, k => if en t k = t.length then t.length else if beg t k < en t k ∧ en t (en t k + 1) = en t k + 1 then en t k + 1 else pdn t f (en t k + 1)
/-- The next one above, over one that has some; else 0. -/
def pup (t : List Int) : Nat → Nat → Nat
  | 0, _ => 0
  | f + 1, k => if beg t k = 0 then 0 else if beg t k < en t k ∧ beg t (beg t k - 1) = beg t k - 1 then beg t k - 1 else pup t f (beg t k - 1)
theorem pdn_le (t : List Int) : ∀ f k, k ≤ t.length → pdn t f k ≤ t.length
  | 0, k, h => Nat.le_refl _
  | f + 1, k, h => by
    have he := en_le t k h
    unfold pdn
    by_cases h1 : en t k = t.length
    · rw [if_pos h1]; exact Nat.le_refl _
    · rw [if_neg h1]
      split
      · omega
      · exact pdn_le t f _ (by omega)
theorem pup_le (t : List Int) : ∀ f k, pup t f k ≤ k
  | 0, k => Nat.zero_le _
  | f + 1, k => by
    have hb := beg_le t k
    unfold pup
    split
    · omega
    · split
      · omega
      · have := pup_le t f (beg t k - 1); omega
/-- So many times. -/
def pmv (t : List Int) (g : Nat → Nat) : Nat → Nat → Nat
  | 0, k => k
  | n + 1, k => pmv t g n (g k)
end Go.Proofs.YtfkcofnoccanbaaDoor.Rw
