/-
  MOTIONS' KEYS: what a key's motion goes by.
  MOTIONS, PLAIN: marks that may be, where a mark is, and where any motion leads.
-/
import Derived.Test.YtbofjefblhnkoaaGreatDoorZMd
import Derived.Test.YtbofjefblhnkoaaGreatDoorZM0
set_option linter.unusedVariables false
namespace Go.Proofs.YtbofjefblhnkoaaGreatDoor
open Go Go.RowKit

namespace Rw
/-- What a key's motion goes by; 0: it is no motion's. -/
def kin (key : Int) : Int :=
  if key = 104 ∨ key = 108 ∨ key = 106 ∨ key = 107 ∨ key = 48 ∨ key = 94 ∨ key = 36 ∨ key = 71 ∨ key = 43 ∨ key = 45 ∨ key = 95 ∨ key = 16777319 then 1
  else if key = 119 ∨ key = 98 ∨ key = 101 ∨ key = 87 ∨ key = 66 ∨ key = 69 then 2
  else if key = 102 ∨ key = 70 ∨ key = 116 ∨ key = 84 then 3
  else if key = 59 ∨ key = 44 then 4
  else if key = 123 ∨ key = 125 then 5
  else if key = 37 then 6
  else if key = 39 ∨ key = 96 then 7
  else 0
end Rw
set_option maxRecDepth 100000 in
set_option maxHeartbeats 4000000 in
theorem kindOf_any (key : Int) (w : World) : Calls Tryz.prog 49 #[.int .i64 key] w fun e w' => e = .returned (.int .u8 (Rw.kin key)) ∧ w' = w := by
  by_cases hm : key ∈ ([104, 108, 106, 107, 48, 94, 36, 71, 43, 45, 95, 16777319, 119, 98, 101, 87, 66, 69, 102, 70, 116, 84, 59, 44, 123, 125, 37, 39, 96] : List Int)
  · simp only [List.mem_cons, List.not_mem_nil, or_false] at hm
    rcases hm with rfl | rfl | rfl | rfl | rfl | rfl | rfl | rfl | rfl | rfl | rfl | rfl | rfl | rfl | rfl | rfl | rfl | rfl | rfl | rfl | rfl | rfl | rfl | rfl | rfl | rfl | rfl | rfl | rfl
    all_goals
      go_enter Tryz.func49, Tryz.ntmps49
      go_wp2
      go_ret
      exact ⟨rfl, rfl⟩
  · simp only [List.mem_cons, List.not_mem_nil, or_false, not_or] at hm
    obtain ⟨n0, n1, n2, n3, n4, n5, n6, n7, n8, n9, n10, n11, n12, n13, n14, n15, n16, n17, n18, n19, n20, n21, n22, n23, n24, n25, n26, n27, n28⟩ := hm
    have hv : Hid (Rw.kin key = 0) := by
      show _ = _
      unfold Rw.kin
      simp only [n0, n1, n2, n3, n4, n5, n6, n7, n8, n9, n10, n11, n12, n13, n14, n15, n16, n17, n18, n19, n20, n21, n22, n23, n24, n25, n26, n27, n28, or_self, if_false]
    have b0 : (key == 104) = false := beq_eq_false_iff_ne.2 n0
    have b1 : (key == 108) = false := beq_eq_false_iff_ne.2 n1
    have b2 : (key == 106) = false := beq_eq_false_iff_ne.2 n2
    have b3 : (key == 107) = false := beq_eq_false_iff_ne.2 n3
    have b4 : (key == 48) = false := beq_eq_false_iff_ne.2 n4
    have b5 : (key == 94) = false := beq_eq_false_iff_ne.2 n5
    have b6 : (key == 36) = false := beq_eq_false_iff_ne.2 n6
    have b7 : (key == 71) = false := beq_eq_false_iff_ne.2 n7
    have b8 : (key == 43) = false := beq_eq_false_iff_ne.2 n8
    have b9 : (key == 45) = false := beq_eq_false_iff_ne.2 n9
    have b10 : (key == 95) = false := beq_eq_false_iff_ne.2 n10
    have b11 : (key == 16777319) = false := beq_eq_false_iff_ne.2 n11
    have b12 : (key == 119) = false := beq_eq_false_iff_ne.2 n12
    have b13 : (key == 98) = false := beq_eq_false_iff_ne.2 n13
    have b14 : (key == 101) = false := beq_eq_false_iff_ne.2 n14
    have b15 : (key == 87) = false := beq_eq_false_iff_ne.2 n15
    have b16 : (key == 66) = false := beq_eq_false_iff_ne.2 n16
    have b17 : (key == 69) = false := beq_eq_false_iff_ne.2 n17
    have b18 : (key == 102) = false := beq_eq_false_iff_ne.2 n18
    have b19 : (key == 70) = false := beq_eq_false_iff_ne.2 n19
    have b20 : (key == 116) = false := beq_eq_false_iff_ne.2 n20
    have b21 : (key == 84) = false := beq_eq_false_iff_ne.2 n21
    have b22 : (key == 59) = false := beq_eq_false_iff_ne.2 n22
    have b23 : (key == 44) = false := beq_eq_false_iff_ne.2 n23
    have b24 : (key == 123) = false := beq_eq_false_iff_ne.2 n24
    have b25 : (key == 125) = false := beq_eq_false_iff_ne.2 n25
    have b26 : (key == 37) = false := beq_eq_false_iff_ne.2 n26
    have b27 : (key == 39) = false := beq_eq_false_iff_ne.2 n27
    have b28 : (key == 96) = false := beq_eq_false_iff_ne.2 n28
    clear n0 n1 n2 n3 n4 n5 n6 n7 n8 n9 n10 n11 n12 n13 n14 n15 n16 n17 n18 n19 n20 n21 n22 n23 n24 n25 n26 n27 n28
    go_enter Tryz.func49, Tryz.ntmps49
    go_wp2
    go_ret
    rw [hv.out]
    exact ⟨rfl, rfl⟩
end Go.Proofs.YtbofjefblhnkoaaGreatDoor
namespace Go.Proofs.YtbofjefblhnkoaaGreatDoor.Rw

/-- Marks that may be. -/
def mOk (M : List (List Int)) : Prop :=
  ∀ (i : Nat) (x y : Int), M[i]? = some [x, y] → (97 ≤ x ∧ x ≤ 122) ∧ (0 ≤ y ∧ y ≤ 4000) ∧ ∀ x' y' : Int, 1 ≤ i → M[i - 1]? = some [x', y'] → x' < x
/-- Where the mark of a name is. -/
def mget : List (List Int) → Int → Option Int
  | [], _ => none
  | [x, y] :: M, k => if x = k then some y else mget M k
  | _ :: M, k => mget M k
theorem mget_hit : ∀ {M : List (List Int)} {i : Nat} {k y : Int}, M[i]? = some [k, y] → (∀ (j : Nat) (y' : Int), j < i → M[j]? ≠ some [k, y']) → mget M k = some y
  | [], i, k, y, h, _ => by simp at h
  | r :: M, 0, k, y, h, _ => by
    simp only [List.getElem?_cons_zero, Option.some.injEq] at h
    subst h
    simp [mget]
  | r :: M, i + 1, k, y, h, hn => by
    have ih : mget M k = some y := mget_hit (i := i) (by simpa using h) (fun j y' hj => by have := hn (j + 1) y' (by omega); simpa using this)
    have h0 := fun y' => hn 0 y' (by omega)
    match r with
    | [] => simpa [mget] using ih
    | [a] => simpa [mget] using ih
    | [a, b] =>
      have : a ≠ k := fun e => by subst e; exact h0 b rfl
      simpa [mget, this] using ih
    | a :: b :: c :: l => simpa [mget] using ih
theorem mget_none : ∀ {M : List (List Int)} {k : Int}, (∀ (j : Nat) (y : Int), M[j]? ≠ some [k, y]) → mget M k = none
  | [], k, _ => rfl
  | r :: M, k, hn => by
    have ih : mget M k = none := mget_none (fun j y => by have := hn (j + 1) y; simpa using this)
    have h0 := fun y' => hn 0 y'
    match r with
    | [] => simpa [mget] using ih
    | [a] => simpa [mget] using ih
    | [a, b] =>
      have : a ≠ k := fun e => by subst e; exact h0 b rfl
      simpa [mget, this] using ih
    | a :: b :: c :: l => simpa [mget] using ih
theorem mget_get : ∀ {M : List (List Int)} {k y : Int}, mget M k = some y → ∃ i : Nat, M[i]? = some [k, y]
  | [], k, y, h => by simp [mget] at h
  | r :: M, k, y, h => by
    have ih := fun h' : mget M k = some y => (mget_get h').elim fun i hi => (⟨i + 1, by simpa using hi⟩ : ∃ i : Nat, (r :: M)[i]? = some [k, y])
    match r, h with
    | [], h => exact ih (by simpa [mget] using h)
    | [a], h => exact ih (by simpa [mget] using h)
    | [a, b], h =>
      simp only [mget] at h
      split at h
      · next e => injection h with hb; subst hb; subst e; exact ⟨0, rfl⟩
      · exact ih h
    | a :: b :: c :: l, h => exact ih (by simpa [mget] using h)
/-- The names grow. -/
theorem mOk.lt {M : List (List Int)} (h : mOk M) (hl : ∀ r ∈ M, r.length = 2) : ∀ (j i : Nat) (x y x' y' : Int), M[i]? = some [x, y] → M[j]? = some [x', y'] → i < j → x < x'
  | 0, i, x, y, x', y', _, _, hij => by omega
  | j + 1, i, x, y, x', y', hi, hj, hij => by
    have hjl : j < M.length := by
      by_cases hjl : j < M.length
      · exact hjl
      · rw [List.getElem?_eq_none (by omega)] at hj; cases hj
    have hm : M[j]? = some M[j] := List.getElem?_eq_getElem hjl
    have hl2 := hl _ (List.mem_of_getElem? hm)
    match hr : M[j], hl2 with
    | [u, v], _ =>
      rw [hr] at hm
      have h1 := (h (j + 1) x' y' hj).2.2 u v (by omega) (by simpa using hm)
      by_cases hij' : i = j
      · subst hij'
        rw [hm] at hi
        injection hi with hi
        injection hi with e1 _
        omega
      · have := mOk.lt h hl j i x y u v hi hm (by omega)
        omega
theorem mOk.range {M : List (List Int)} (h : mOk M) {k y : Int} (hg : mget M k = some y) : 0 ≤ y ∧ y ≤ 4000 := by
  obtain ⟨i, hi⟩ := mget_get hg
  exact (h i k y hi).2.1
/-- The other way. -/
def turn (key : Int) : Int := if key = 102 then 70 else if key = 70 then 102 else if key = 116 then 84 else 116
theorem turn_seek (key : Int) : Seek (turn key) := by
  unfold turn Seek
  repeat' split
  all_goals simp_all
/-- The times that a count says. -/
def times (c : Nat) : Nat := max 1 c
/-- Where a search leads, and what is sought then. -/
def goSeek (t : List Int) (k : Nat) (key r : Int) (n : Nat) (x y : Int) : Option (Int × Int × Int × Int) := (find t k key r n).map fun a => (a, if key = 102 ∨ key = 116 then 1 else 0, x, y)
/-- Where the mark leads. -/
def goMark (t : List Int) (key r x y : Int) (M : List (List Int)) : Option (Int × Int × Int × Int) :=
  match mget M r with
  | none => none
  | some a => if a ≤ t.length then (if key = 39 then some ((fst t a.toNat : Nat), 2, x, y) else some (a, 0, x, y)) else none
/-- Where any motion leads: the offset, the kind, what is sought then. -/
def goM (t : List Int) (k : Nat) (key r : Int) (c : Nat) (x y : Int) (M : List (List Int)) : Option (Int × Int × Int × Int) :=
  if kin key = 2 then (wmv t k key (times c)).map fun a => (a, if key = 101 ∨ key = 69 then 1 else 0, x, y)
  else if kin key = 3 then goSeek t k key r (times c) key r
  else if kin key = 4 then (if x = 0 then none else goSeek t k (if key = 44 then turn x else x) y (times c) x y)
  else if kin key = 5 then (if pmv t (pst t key) (times c) k = k then none else some ((pmv t (pst t key) (times c) k : Nat), 0, x, y))
  else if kin key = 6 then (pair t k).map fun a => ((a : Nat), 1, x, y)
  else if kin key = 7 then goMark t key r x y M
  else (Rw.to t k key c).map fun a => ((a : Nat), kd key, x, y)
theorem by_line {key : Int} : kin key = 1 ↔ Line key := by
  unfold kin Line
  constructor
  · intro h
    split at h
    · omega
    · repeat' split at h
      all_goals simp at h
  · intro h
    rw [if_pos (by omega)]
theorem by_word {key : Int} : kin key = 2 ↔ Word key := by
  unfold kin Word
  constructor
  · intro h
    repeat' split at h
    all_goals first | omega | simp at h
  · intro h
    rw [if_neg (by omega), if_pos (by omega)]
theorem by_seek {key : Int} : kin key = 3 ↔ Seek key := by
  unfold kin Seek
  constructor
  · intro h
    repeat' split at h
    all_goals first | omega | simp at h
  · intro h
    rw [if_neg (by omega), if_neg (by omega), if_pos (by omega)]
theorem by_again {key : Int} : kin key = 4 ↔ (key = 59 ∨ key = 44) := by
  unfold kin
  constructor
  · intro h
    repeat' split at h
    all_goals first | omega | simp at h
  · intro h
    rw [if_neg (by omega), if_neg (by omega), if_neg (by omega), if_pos (by omega)]
theorem by_paras {key : Int} : kin key = 5 ↔ (key = 123 ∨ key = 125) := by
  unfold kin
  constructor
  · intro h
    repeat' split at h
    all_goals first | omega | simp at h
  · intro h
    rw [if_neg (by omega), if_neg (by omega), if_neg (by omega), if_neg (by omega), if_pos (by omega)]
theorem by_pair {key : Int} : kin key = 6 ↔ key = 37 := by
  unfold kin
  constructor
  · intro h
    repeat' split at h
    all_goals first | omega | simp at h
  · intro h
    rw [if_neg (by omega), if_neg (by omega), if_neg (by omega), if_neg (by omega), if_neg (by omega), if_pos (by omega)]
theorem by_mark {key : Int} : kin key = 7 ↔ (key = 39 ∨ key = 96) := by
  unfold kin
  constructor
  · intro h
    repeat' split at h
    all_goals first | omega | simp at h
  · intro h
    rw [if_neg (by omega), if_neg (by omega), if_neg (by omega), if_neg (by omega), if_neg (by omega), if_neg (by omega), if_pos (by omega)]
end Go.Proofs.YtbofjefblhnkoaaGreatDoor.Rw
