/-
  PLAIN: how many newlines stand ahead of an offset; rows are counted by them.
-/
import Derived.Test.YtpgoikecignldaaDoorMvP
set_option linter.unusedVariables false
namespace Go.Proofs.YtpgoikecignldaaDoor.Rw

/-- The row of an offset: the newlines ahead of it. -/
def nl (t : List Int) (k : Nat) : Nat := (t.take k).count 10
theorem nl_zero (t : List Int) : nl t 0 = 0 := by simp [nl]
theorem nl_le (t : List Int) (k : Nat) : nl t k ≤ k := by
  have h1 := List.count_le_length (a := (10 : Int)) (l := t.take k)
  have h2 := List.length_take_le k t
  unfold nl
  omega
theorem nl_up {t : List Int} {k : Nat} (h : t[k]? = some 10) : nl t (k + 1) = nl t k + 1 := by
  unfold nl
  rw [List.take_add_one, h, List.count_append]
  rfl
theorem nl_stay {t : List Int} {k : Nat} (h : t[k]? ≠ some 10) : nl t (k + 1) = nl t k := by
  unfold nl
  rw [List.take_add_one, List.count_append]
  cases hc : t[k]? with
  | none => rfl
  | some c =>
    have : c ≠ 10 := fun e => h (by rw [hc, e])
    have hb : (c == 10) = false := by simpa using this
    simp [List.count_cons, hb]
theorem nl_same (t : List Int) (k j : Nat) (hkj : k ≤ j) (h : ∀ i, k ≤ i → i < j → t[i]? ≠ some 10) : nl t j = nl t k := by
  obtain ⟨d, rfl⟩ : ∃ d, j = k + d := ⟨j - k, by omega⟩
  clear hkj
  induction d with
  | zero => rfl
  | succ d ih =>
    rw [show k + (d + 1) = (k + d) + 1 by omega, nl_stay (h (k + d) (by omega) (by omega))]
    exact ih fun i h1 h2 => h i h1 (by omega)
/-- Within a row. -/
theorem nl_row (t : List Int) (k j : Nat) (hk : beg t k ≤ j) (hj : j ≤ en t k) : nl t j = nl t k := by
  have hn : ∀ i, beg t k ≤ i → i < en t k → t[i]? ≠ some 10 := fun i h1 h2 => by
    by_cases hi : i < k
    · exact beg_none t k i h1 hi
    · exact en_none t k i (by omega) h2
  have h1 := nl_same t (beg t k) j hk fun i h1 h2 => hn i h1 (by omega)
  have h2 := nl_same t (beg t k) k (beg_le t k) fun i h1 h2 => hn i h1 (by have := en_ge t k; omega)
  omega
theorem dn_snoc (t : List Int) : ∀ (n x : Nat), x ≤ t.length → dn t x (n + 1) = (dn t x n).bind fun y => dn t y 1
  | 0, x, hx => by
    show dn t x 1 = dn t (beg t x) 1
    rw [dn_beg t x hx]
  | n + 1, x, hx => by
    show (if en t x = t.length then none else dn t (en t x + 1) (n + 1)) = (if en t x = t.length then none else dn t (en t x + 1) n).bind _
    by_cases he : en t x = t.length
    · rw [if_pos he, if_pos he]; rfl
    · have := en_le t x hx
      rw [if_neg he, if_neg he, dn_snoc t n (en t x + 1) (by omega)]
theorem dn_nl (t : List Int) : ∀ k, k ≤ t.length → dn t 0 (nl t k) = some (beg t k)
  | 0, _ => by rw [nl_zero]; rfl
  | k + 1, hk => by
    have ih := dn_nl t k (by omega)
    by_cases h : t[k]? = some 10
    · rw [nl_up h, dn_snoc t _ 0 (Nat.zero_le _), ih, beg_stop h]
      show dn t (beg t k) 1 = _
      rw [dn_beg t k (by omega), dn_one t k (by omega), en_stop h, if_neg (by omega)]
    · rw [nl_stay h, beg_step h, ih]
/-- G of a row's number is there. -/
theorem nth_nl (t : List Int) (k : Nat) (hk : k ≤ t.length) : nth t (nl t k + 1) = fst t k := by
  rw [nth_go, show nl t k + 1 - 1 = nl t k by omega, dn_nl t k hk]
  show fst t (beg t k) = fst t k
  unfold fst
  rw [beg_beg]
/-- k behind j. -/
theorem down_up (t : List Int) (k y : Nat) (hk : k ≤ t.length) (hy : dn t k 1 = some y) :
    let x := min (en t y) (y + (k - beg t k))
    x ≤ t.length ∧ nl t x = nl t k + 1 ∧ up t x 1 = some (beg t k) ∧ (let z := min (en t (beg t k)) (beg t k + (x - beg t x)); z ≤ k ∧ nl t z = nl t k) := by
  rw [dn_one t k hk] at hy
  by_cases he : en t k = t.length
  · rw [if_pos he] at hy; cases hy
  · rw [if_neg he] at hy
    injection hy with hy
    have hlt : en t k < t.length := by have := en_le t k hk; omega
    have h10 := en_at t k hlt
    have hby : beg t y = y := by rw [← hy]; exact beg_stop h10
    have hyl : y ≤ t.length := by omega
    have hg := en_ge t y
    have hl := en_le t y hyl
    have hb := beg_le t k
    intro x
    have hx1 : y ≤ x := by omega
    have hx2 : x ≤ en t y := by omega
    have hbx : beg t x = y := beg_of t y x hby hx1 fun i h1 h2 => en_none t y i h1 (by omega)
    have hnx : nl t x = nl t y := nl_row t y x (by rw [hby]; exact hx1) hx2
    have hny : nl t y = nl t k + 1 := by
      rw [← hy, nl_up h10, nl_row t k (en t k) (by have := en_ge t k; omega) (Nat.le_refl _)]
    refine ⟨by omega, by omega, ?_, ?_⟩
    · show (if beg t x = 0 then none else up t (beg t x - 1) 0) = _
      rw [hbx, if_neg (by omega)]
      show some (beg t (y - 1)) = _
      rw [← hy, show en t k + 1 - 1 = en t k by omega, beg_en]
    · intro z
      have hz : z = min (en t (beg t k)) (beg t k + (x - y)) := by show min _ _ = _; rw [hbx]
      have heb := en_beg t k hk
      refine ⟨by omega, ?_⟩
      exact nl_row t k z (by have := en_ge t k; omega) (by omega)
end Go.Proofs.YtpgoikecignldaaDoor.Rw
