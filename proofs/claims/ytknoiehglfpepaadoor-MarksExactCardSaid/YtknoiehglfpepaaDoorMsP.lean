/-
  MARKS, PLAIN: what becomes of marks where one is set, and behind a patch.
-/
import Derived.Test.YtknoiehglfpepaaDoorMsG
set_option linter.unusedVariables false
namespace Go.Proofs.YtknoiehglfpepaaDoor.Rw

theorem get_lt {α : Type} {l : List α} {i : Nat} {x : α} (h : l[i]? = some x) : i < l.length := by
  by_cases hi : i < l.length
  · exact hi
  · rw [List.getElem?_eq_none (by omega)] at h; cases h
/-- Where a name's mark is, or would be: m; f: is it there? -/
structure SetAt (M : List (List Int)) (z : Int) (m f : Nat) : Prop where
  le : m ≤ M.length
  lb : ∀ (j : Nat) (a b : Int), M[j]? = some [a, b] → (j < m ↔ a < z)
  f : (f = 1 ∧ ∃ y, M[m]? = some [z, y]) ∨ (f = 0 ∧ ¬ ∃ y, M[m]? = some [z, y])
/-- Marks with one set. -/
def mset (M : List (List Int)) (z y : Int) (m f : Nat) : List (List Int) := M.take m ++ [z, y] :: M.drop (m + f)
theorem SetAt.mf {M : List (List Int)} {z : Int} {m f : Nat} (h : SetAt M z m f) : m + f ≤ M.length := by
  rcases h.f with ⟨rfl, y, hy⟩ | ⟨rfl, _⟩
  · have := get_lt hy; omega
  · have := h.le; omega
theorem SetAt.f1 {M : List (List Int)} {z : Int} {m f : Nat} (h : SetAt M z m f) : f ≤ 1 := by
  rcases h.f with ⟨rfl, _⟩ | ⟨rfl, _⟩ <;> omega
theorem mset_len {M : List (List Int)} {z y : Int} {m f : Nat} (h : m + f ≤ M.length) : (mset M z y m f).length = M.length + 1 - f := by
  unfold mset
  rw [List.length_append, List.length_take, List.length_cons, List.length_drop]
  omega
theorem mset_lt {M : List (List Int)} {z y : Int} {m f i : Nat} (h : m + f ≤ M.length) (hi : i < m) : (mset M z y m f)[i]? = M[i]? := by
  unfold mset
  rw [List.getElem?_append_left (by rw [List.length_take]; omega), List.getElem?_take, if_pos hi]
theorem mset_eq {M : List (List Int)} {z y : Int} {m f : Nat} (h : m + f ≤ M.length) : (mset M z y m f)[m]? = some [z, y] := by
  unfold mset
  rw [List.getElem?_append_right (by rw [List.length_take]; omega), List.length_take]
  rw [show m - min m M.length = 0 by omega]
  rfl
theorem mset_gt {M : List (List Int)} {z y : Int} {m f i : Nat} (h : m + f ≤ M.length) (hi : m < i) : (mset M z y m f)[i]? = M[i - 1 + f]? := by
  unfold mset
  rw [List.getElem?_append_right (by rw [List.length_take]; omega), List.length_take]
  obtain ⟨k, hk⟩ : ∃ k, i - min m M.length = k + 1 := ⟨i - min m M.length - 1, by omega⟩
  rw [hk, List.getElem?_cons_succ, List.getElem?_drop]
  congr 1
  omega
/-- As the reference goes: what stands there behind k marks. -/
def mseg (M : List (List Int)) (z y : Int) (m f k : Nat) : List (List Int) := if k ≤ m then M.take k else M.take m ++ [z, y] :: (M.take k).drop (m + f)
theorem mseg_all {M : List (List Int)} {z y : Int} {m f : Nat} (h : m < M.length) : mseg M z y m f M.length = mset M z y m f := by
  unfold mseg mset
  rw [if_neg (by omega), List.take_of_length_le (Nat.le_refl _)]
theorem mseg_end {M : List (List Int)} {z y : Int} {f : Nat} (h : M.length + f ≤ M.length) : mseg M z y M.length f M.length ++ [[z, y]] = mset M z y M.length f := by
  unfold mseg mset
  rw [if_pos (Nat.le_refl _), List.drop_of_length_le (by omega)]
theorem mseg_lt {M : List (List Int)} {z y : Int} {m f k : Nat} {r : List Int} (hk : k < m) (hr : M[k]? = some r) : mseg M z y m f (k + 1) = mseg M z y m f k ++ [r] := by
  unfold mseg
  rw [if_pos (by omega), if_pos (by omega), List.take_add_one, hr]
  rfl
theorem mseg_at0 {M : List (List Int)} {z y : Int} {m : Nat} {r : List Int} (hr : M[m]? = some r) : mseg M z y m 0 (m + 1) = mseg M z y m 0 m ++ [[z, y]] ++ [r] := by
  have := get_lt hr
  unfold mseg
  rw [if_neg (by omega), if_pos (by omega), List.take_add_one, hr]
  simp only [Option.toList_some, Nat.add_zero]
  rw [List.drop_append_of_le_length (by rw [List.length_take]; omega), List.drop_of_length_le (by rw [List.length_take]; omega)]
  simp
theorem mseg_at1 {M : List (List Int)} {z y : Int} {m : Nat} : mseg M z y m 1 (m + 1) = mseg M z y m 1 m ++ [[z, y]] := by
  unfold mseg
  rw [if_neg (by omega), if_pos (by omega), List.drop_of_length_le (by rw [List.length_take]; omega)]
theorem mseg_gt {M : List (List Int)} {z y : Int} {m f k : Nat} {r : List Int} (hf : f ≤ 1) (hk : m < k) (hr : M[k]? = some r) : mseg M z y m f (k + 1) = mseg M z y m f k ++ [r] := by
  have := get_lt hr
  unfold mseg
  rw [if_neg (by omega), if_neg (by omega), List.take_add_one, hr]
  simp only [Option.toList_some]
  rw [List.drop_append_of_le_length (by rw [List.length_take]; omega)]
  simp
theorem mset_rows {M : List (List Int)} {z y : Int} {m f : Nat} {P : List Int → Prop} (h : ∀ r ∈ M, P r) (h0 : P [z, y]) : ∀ r ∈ mset M z y m f, P r := by
  intro r hr
  unfold mset at hr
  rcases List.mem_append.1 hr with hr | hr
  · exact h r (List.mem_of_mem_take hr)
  · rcases List.mem_cons.1 hr with rfl | hr
    · exact h0
    · exact h r (List.mem_of_mem_drop hr)
theorem mset_ok {M : List (List Int)} {z y : Int} {m f : Nat} (h : SetAt M z m f) (hM : mOk M) (hl : ∀ r ∈ M, r.length = 2) (hz : 97 ≤ z ∧ z ≤ 122) (hy : 0 ≤ y ∧ y ≤ 4000) : mOk (mset M z y m f) := by
  have hmf := h.mf
  have hf1 := h.f1
  intro i x v hi
  rcases Nat.lt_trichotomy i m with hlt | rfl | hgt
  · rw [mset_lt hmf hlt] at hi
    obtain ⟨h1, h2, h3⟩ := hM i x v hi
    exact ⟨h1, h2, fun x' y' hi1 hx => h3 x' y' hi1 (by rwa [mset_lt hmf (by omega)] at hx)⟩
  · rw [mset_eq hmf] at hi
    injection hi with hi
    injection hi with e1 e2
    injection e2 with e2 _
    subst e1
    subst e2
    refine ⟨hz, hy, fun x' y' hi1 hx => ?_⟩
    rw [mset_lt hmf (by omega)] at hx
    exact (h.lb _ _ _ hx).1 (by omega)
  · rw [mset_gt hmf hgt] at hi
    obtain ⟨h1, h2, h3⟩ := hM _ x v hi
    refine ⟨h1, h2, fun x' y' hi1 hx => ?_⟩
    by_cases hm1 : i - 1 = m
    · rw [hm1, mset_eq hmf] at hx
      injection hx with hx
      injection hx with e1 e2
      subst e1
      have h4 := h.lb _ _ _ hi
      rcases h.f with ⟨rfl, q, hq⟩ | ⟨rfl, hno⟩
      · exact hM.lt hl _ m z q x v hq hi (by omega)
      · have : ¬ x < z := fun e => by have := h4.2 e; omega
        have hne : x ≠ z := by
          rintro rfl
          exact hno ⟨v, by rw [show m = i - 1 + 0 by omega]; exact hi⟩
        omega
    · rw [mset_gt hmf (by omega)] at hx
      exact hM.lt hl _ _ _ _ _ _ hx hi (by omega)
theorem mget_sorted {M : List (List Int)} (hM : mOk M) (hl : ∀ r ∈ M, r.length = 2) {i : Nat} {k y : Int} (h : M[i]? = some [k, y]) : mget M k = some y :=
  mget_hit h (fun j y' hj e => by have := hM.lt hl i j k y' k y e h hj; omega)
theorem mget_miss {M : List (List Int)} (hM : mOk M) (hl : ∀ r ∈ M, r.length = 2) {k : Int} (h : mget M k = none) (i : Nat) (y : Int) : M[i]? ≠ some [k, y] := by
  intro e
  rw [mget_sorted hM hl e] at h
  cases h
theorem mget_set {M : List (List Int)} {z y : Int} {m f : Nat} (h : SetAt M z m f) (hM : mOk M) (hl : ∀ r ∈ M, r.length = 2) (hz : 97 ≤ z ∧ z ≤ 122) (hy : 0 ≤ y ∧ y ≤ 4000) (k : Int) :
    mget (mset M z y m f) k = if k = z then some y else mget M k := by
  have hmf := h.mf
  have hf1 := h.f1
  have hS := mset_ok (y := y) h hM hl hz hy
  have hlS : ∀ r ∈ mset M z y m f, r.length = 2 := mset_rows hl rfl
  by_cases hk : k = z
  · subst hk
    rw [if_pos rfl]
    exact mget_sorted hS hlS (mset_eq hmf)
  · rw [if_neg hk]
    cases hg : mget M k with
    | none =>
      refine mget_none (fun j v hj => ?_)
      rcases Nat.lt_trichotomy j m with hlt | rfl | hgt
      · rw [mset_lt hmf hlt] at hj
        exact mget_miss hM hl hg _ _ hj
      · rw [mset_eq hmf] at hj
        injection hj with hj
        injection hj with e _
        exact hk e.symm
      · rw [mset_gt hmf hgt] at hj
        exact mget_miss hM hl hg _ _ hj
    | some v =>
      obtain ⟨i, hi⟩ := mget_get hg
      by_cases him : i < m
      · exact mget_sorted hS hlS (by rw [mset_lt hmf him]; exact hi)
      · have hif : m + f ≤ i := by
          rcases h.f with ⟨rfl, q, hq⟩ | ⟨rfl, _⟩
          · by_cases e : i = m
            · subst e
              rw [hi] at hq
              injection hq with hq
              injection hq with e _
              exact absurd e hk
            · omega
          · omega
        refine mget_sorted (i := i + 1 - f) hS hlS ?_
        rw [mset_gt hmf (by omega), show i + 1 - f - 1 + f = i by omega]
        exact hi
/-- Where an offset is behind a patch. -/
def msh (a d : Int) (n : Nat) (x : Int) : Int := if x ≤ a then x else if x < a + d then a else x + n - d
/-- Marks behind a patch: of one. -/
def mmv1 (a d : Int) (n : Nat) : List Int → List (List Int)
  | [x, y] => if a < y ∧ y < a + d then [] else [[x, min (msh a d n y) 4000]]
  | _ => []
/-- Marks behind a patch. -/
def mmv (M : List (List Int)) (a d : Int) (n : Nat) : List (List Int) := M.flatMap (mmv1 a d n)
theorem mmv_step {M : List (List Int)} {a d : Int} {n k : Nat} {x y : Int} (h : M[k]? = some [x, y]) : mmv (M.take (k + 1)) a d n = mmv (M.take k) a d n ++ mmv1 a d n [x, y] := by
  unfold mmv
  rw [List.take_add_one, h]
  simp
theorem mmv_zero (M : List (List Int)) (a d : Int) (n : Nat) : mmv (M.take 0) a d n = [] := by simp [mmv]
theorem mmv_len (M : List (List Int)) (a d : Int) (n : Nat) : (mmv M a d n).length ≤ M.length := by
  induction M with
  | nil => exact Nat.le_refl _
  | cons r M ih =>
    have h1 : (mmv1 a d n r).length ≤ 1 := by
      match r with
      | [] => simp [mmv1]
      | [x] => simp [mmv1]
      | [x, y] => simp only [mmv1]; split <;> simp
      | x :: y :: z :: l => simp [mmv1]
    unfold mmv at *
    rw [List.flatMap_cons, List.length_append, List.length_cons]
    omega
theorem mmv0_one {a : Int} {n : Nat} {x y : Int} : mmv1 a 0 n [x, y] = [[x, min (msh a 0 n y) 4000]] := by
  simp only [mmv1]
  rw [if_neg (by omega)]
theorem mmv0_get : ∀ {M : List (List Int)} {a : Int} {n i : Nat}, (∀ r ∈ M, r.length = 2) → (mmv M a 0 n)[i]? = (M[i]?).map fun r => [r.headD 0, min (msh a 0 n (r.tail.headD 0)) 4000]
  | [], a, n, i, _ => by simp [mmv]
  | r :: M, a, n, i, hl => by
    have h2 := hl r List.mem_cons_self
    have ih := fun j => mmv0_get (M := M) (a := a) (n := n) (i := j) (fun q hq => hl q (List.mem_cons_of_mem _ hq))
    match r, h2 with
    | [x, y], _ =>
      have e : mmv ([x, y] :: M) a 0 n = [x, min (msh a 0 n y) 4000] :: mmv M a 0 n := by
        unfold mmv
        rw [List.flatMap_cons, mmv0_one]
        rfl
      rw [e]
      cases i with
      | zero => rfl
      | succ j => rw [List.getElem?_cons_succ, List.getElem?_cons_succ]; exact ih j
theorem msh_range {a : Int} {n : Nat} {y : Int} (ha : 0 ≤ a) (hy : 0 ≤ y ∧ y ≤ 4000) : 0 ≤ min (msh a 0 n y) 4000 ∧ min (msh a 0 n y) 4000 ≤ 4000 := by
  unfold msh
  split
  · omega
  · split <;> omega
theorem mmv0_ok {M : List (List Int)} {a : Int} {n : Nat} (hM : mOk M) (hl : ∀ r ∈ M, r.length = 2) (ha : 0 ≤ a) : mOk (mmv M a 0 n) := by
  intro i x v hi
  rw [mmv0_get hl] at hi
  cases hr : M[i]? with
  | none => rw [hr] at hi; cases hi
  | some r =>
    have h2 := hl r (List.mem_of_getElem? hr)
    match r, h2 with
    | [x', y'], _ =>
      rw [hr] at hi
      simp only [Option.map_some, Option.some.injEq] at hi
      injection hi with e1 e2
      injection e2 with e2 _
      obtain ⟨h1, h3, h4⟩ := hM i x' y' hr
      have e1' : x' = x := e1
      subst e1'
      refine ⟨h1, by rw [← e2]; exact msh_range ha h3, fun u w hi1 hu => ?_⟩
      rw [mmv0_get hl] at hu
      cases hs : M[i - 1]? with
      | none => rw [hs] at hu; cases hu
      | some s =>
        have h2' := hl s (List.mem_of_getElem? hs)
        match s, h2' with
        | [x'', y''], _ =>
          rw [hs] at hu
          simp only [Option.map_some, Option.some.injEq] at hu
          injection hu with f1 f2
          have f1' : x'' = u := f1
          subst f1'
          exact h4 _ _ hi1 hs
theorem mmv0_len2 {M : List (List Int)} {a : Int} {n : Nat} (hl : ∀ r ∈ M, r.length = 2) : ∀ r ∈ mmv M a 0 n, r.length = 2 := by
  intro r hr
  obtain ⟨i, hi, rfl⟩ := List.getElem_of_mem hr
  have h := List.getElem?_eq_getElem hi
  rw [mmv0_get hl] at h
  cases hs : M[i]? with
  | none => rw [hs] at h; cases h
  | some s =>
    rw [hs] at h
    simp only [Option.map_some, Option.some.injEq] at h
    rw [← h]
    rfl
theorem mmv0_mget {M : List (List Int)} {a : Int} {n : Nat} {k y : Int} (hM : mOk M) (hl : ∀ r ∈ M, r.length = 2) (ha : 0 ≤ a) (h : mget M k = some y) : mget (mmv M a 0 n) k = some (min (msh a 0 n y) 4000) := by
  obtain ⟨i, hi⟩ := mget_get h
  refine mget_sorted (mmv0_ok hM hl ha) (mmv0_len2 hl) (i := i) ?_
  rw [mmv0_get hl, hi]
  rfl
theorem mmv0_at {M : List (List Int)} {a : Int} {n : Nat} {k : Int} (hM : mOk M) (hl : ∀ r ∈ M, r.length = 2) (ha : 0 ≤ a ∧ a ≤ 4000) (h : mget M k = some a) : mget (mmv M a 0 n) k = some a := by
  rw [mmv0_mget hM hl ha.1 h]
  unfold msh
  rw [if_pos (Int.le_refl _)]
  congr 1
  omega
end Go.Proofs.YtknoiehglfpepaaDoor.Rw
