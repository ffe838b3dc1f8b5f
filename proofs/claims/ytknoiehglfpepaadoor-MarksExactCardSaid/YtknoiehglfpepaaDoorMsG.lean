/-
  MARKS, PLAIN: which may be, where one is.
-/
import Derived.Lib.Hide
set_option linter.unusedVariables false
namespace Go.Proofs.YtknoiehglfpepaaDoor.Rw

/-- Marks that may be. -/
def mOk (M : List (List Int)) : Prop :=
  ∀ (i : Nat) (x y : Int), M[i]? = some [x, y] → (97 ≤ x ∧ x ≤ 122) ∧ (0 ≤ y ∧ y ≤ 4000) ∧ ∀ x' y' : Int, 1 ≤ i → M[i - 1]? = some [x', y'] → x' < x
/-- Where the mark of a name is. -/
def mget : List (List Int) → Int → Option Int
  | [], _ => none
  | [x, y] :: M, k => if x = k then some y else mget M k
  | _ :: M, k => mget M k
theorem mget_hit : ∀ {M : List (List Int)} {i : Nat} {k y : Int}, M[i]? = some [k, y] → (∀ (j : Nat) (y' : Int), j < i → M[j]? ≠ some [k, y']) → mget M k = some y
  | [], i, k, y, h, _ => by simp at h
  | r :: M, 0, k, y, h, _ => by
    simp only [List.getElem?_cons_zero, Option.some.injEq] at h
    subst h
    simp [mget]
  | r :: M, i + 1, k, y, h, hn => by
    have ih : mget M k = some y := mget_hit (i := i) (by simpa using h) (fun j y' hj => by have := hn (j + 1) y' (by omega); simpa using this)
    have h0 := fun y' => hn 0 y' (by omega)
    match r with
    | [] => simpa [mget] using ih
    | [a] => simpa [mget] using ih
    | [a, b] =>
      have : a ≠ k := fun e => by subst e; exact h0 b rfl
      simpa [mget, this] using ih
    | a :: b :: c :: l => simpa [mget] using ih
theorem mget_none : ∀ {M : List (List Int)} {k : Int}, (∀ (j : Nat) (y : Int), M[j]? ≠ some [k, y]) → mget M k = none
  | [], k, _ => rfl
  | r :: M, k, hn => by
    have ih : mget M k = none := mget_none (fun j y => by have := hn (j + 1) y; simpa using this)
    have h0 := fun y' => hn 0 y'
    match r with
    | [] => simpa [mget] using ih
    | [a] => simpa [mget] using ih
    | [a, b] =>
      have : a ≠ k := fun e => by subst e; exact h0 b rfl
      simpa [mget, this] using ih
    | a :: b :: c :: l => simpa [mget] using ih
theorem mget_get : ∀ {M : List (List Int)} {k y : Int}, mget M k = some y → ∃ i : Nat, M[i]? = some [k, y]
  | [], k, y, h => by simp [mget] at h
  | r :: M, k, y, h => by
    have ih := fun h' : mget M k = some y => (mget_get h').elim fun i hi => (⟨i + 1, by simpa using hi⟩ : ∃ i : Nat, (r :: M)[i]? = some [k, y])
    match r, h with
    | [], h => exact ih (by simpa [mget] using h)
    | [a], h => exact ih (by simpa [mget] using h)
    | [a, b], h =>
      simp only [mget] at h
      split at h
      · next e => injection h with hb; subst hb; subst e; exact ⟨0, rfl⟩
      · exact ih h
    | a :: b :: c :: l, h => exact ih (by simpa [mget] using h)
/-- The names grow. -/
theorem mOk.lt {M : List (List Int)} (h : mOk M) (hl : ∀ r ∈ M, r.length = 2) : ∀ (j i : Nat) (x y x' y' : Int), M[i]? = some [x, y] → M[j]? = some [x', y'] → i < j → x < x'
  | 0, i, x, y, x', y', _, _, hij => by omega
  | j + 1, i, x, y, x', y', hi, hj, hij => by
    have hjl : j < M.length := by
      by_cases hjl : j < M.length
      · exact hjl
      · rw [List.getElem?_eq_none (by omega)] at hj; cases hj
    have hm : M[j]? = some M[j] := List.getElem?_eq_getElem hjl
    have hl2 := hl _ (List.mem_of_getElem? hm)
    match hr : M[j], hl2 with
    | [u, v], _ =>
      rw [hr] at hm
      have h1 := (h (j + 1) x' y' hj).2.2 u v (by omega) (by simpa using hm)
      by_cases hij' : i = j
      · subst hij'
        rw [hm] at hi
        injection hi with hi
        injection hi with e1 _
        omega
      · have := mOk.lt h hl j i x y u v hi hm (by omega)
        omega
theorem mOk.range {M : List (List Int)} (h : mOk M) {k y : Int} (hg : mget M k = some y) : 0 ≤ y ∧ y ≤ 4000 := by
  obtain ⟨i, hi⟩ := mget_get hg
  exact (h i k y hi).2.1
end Go.Proofs.YtknoiehglfpepaaDoor.Rw
