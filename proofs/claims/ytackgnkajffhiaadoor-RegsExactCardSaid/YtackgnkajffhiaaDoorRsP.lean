/-
  REGISTERS, PLAIN: which may be; what becomes of them.
-/
import Derived.Test.YtackgnkajffhiaaDoorRunes
set_option linter.unusedVariables false
namespace Go.Proofs.YtackgnkajffhiaaDoor

/-- A register. -/
structure RegS where
  n : Int
  s : ByteArray
  b : Bool
deriving DecidableEq
instance : Inhabited RegS := ⟨⟨0, .empty, false⟩⟩
namespace Rs
def Nm (n : Int) : Prop := n = 34 ∨ n = 45 ∨ (48 ≤ n ∧ n ≤ 57) ∨ (97 ≤ n ∧ n ≤ 122)
def Gt (n : Int) : Prop := 65 ≤ n ∧ n ≤ 90
def Sm (n : Int) : Prop := 97 ≤ n ∧ n ≤ 122
def Td (n : Int) : Prop := n = 0 ∨ n = 95 ∨ Gt n ∨ Nm n
instance (n : Int) : Decidable (Nm n) := by unfold Nm; infer_instance
instance (n : Int) : Decidable (Gt n) := by unfold Gt; infer_instance
instance (n : Int) : Decidable (Sm n) := by unfold Sm; infer_instance
instance (n : Int) : Decidable (Td n) := by unfold Td; infer_instance
/-- Of the register at i. -/
def okAt (M : List RegS) (i : Nat) : Prop := ∀ r, M[i]? = some r → (Nm r.n ∧ mayB r.s = true) ∧ ∀ q, 1 ≤ i → M[i - 1]? = some q → q.n < r.n
/-- Registers that may be. -/
def ok (M : List RegS) : Prop := ∀ i, okAt M i
def okB : List RegS → Bool
  | [] => true
  | [r] => decide (Nm r.n) && mayB r.s
  | r :: q :: l => decide (Nm r.n) && mayB r.s && decide (r.n < q.n) && okB (q :: l)
theorem ok_of : ∀ {M : List RegS}, okB M = true → ok M
  | [], _ => fun i r h => by simp at h
  | [r], h => fun i x hx => by
    simp only [okB, Bool.and_eq_true, decide_eq_true_eq] at h
    match i, hx with
    | 0, hx =>
      simp only [List.getElem?_cons_zero, Option.some.injEq] at hx
      subst hx
      exact ⟨h, fun q h1 => by omega⟩
    | i + 1, hx => simp at hx
  | r :: q :: l, h => fun i x hx => by
    simp only [okB, Bool.and_eq_true, decide_eq_true_eq] at h
    have ih := ok_of (M := q :: l) h.2
    match i, hx with
    | 0, hx =>
      simp only [List.getElem?_cons_zero, Option.some.injEq] at hx
      subst hx
      exact ⟨h.1.1, fun y h1 => by omega⟩
    | 1, hx =>
      have h1 := ih 0 x (by simpa using hx)
      refine ⟨h1.1, fun y _ hy => ?_⟩
      simp only [List.getElem?_cons_succ, List.getElem?_cons_zero, Option.some.injEq] at hx
      simp only [Nat.sub_self, List.getElem?_cons_zero, Option.some.injEq] at hy
      subst hx hy
      exact h.1.2
    | i + 2, hx =>
      have h1 := ih (i + 1) x (by simpa using hx)
      exact ⟨h1.1, fun y _ hy => h1.2 y (by omega) (by simpa using hy)⟩
/-- The register of a name. -/
def get (M : List RegS) (z : Int) : Option RegS := M.find? fun r => decide (r.n = z)
/-- Those of other names. -/
def wo (M : List RegS) (z : Int) : List RegS := M.filter fun r => decide (r.n ≠ z)
/-- How many names are less. -/
def below : List RegS → Int → Nat
  | [], _ => 0
  | r :: M, z => if r.n < z then below M z + 1 else 0
/-- A register, put there. -/
def put (M : List RegS) (r : RegS) : List RegS := (wo M r.n).take (below (wo M r.n) r.n) ++ r :: (wo M r.n).drop (below (wo M r.n) r.n)
def turn1 (r : RegS) : RegS := if 49 ≤ r.n ∧ r.n ≤ 56 then ⟨r.n + 1, r.s, r.b⟩ else r
def turn (M : List RegS) : List RegS := (wo M 57).map turn1
theorem wo_step {M : List RegS} {k : Nat} {r : RegS} {z : Int} (h : M[k]? = some r) : wo (M.take (k + 1)) z = wo (M.take k) z ++ (if r.n ≠ z then [r] else []) := by
  unfold wo
  rw [List.take_add_one, h, List.filter_append]
  by_cases hz : r.n = z <;> simp [hz]
theorem wo_len (M : List RegS) (z : Int) : (wo M z).length ≤ M.length := List.length_filter_le _ _
theorem below_le : ∀ (M : List RegS) (z : Int), below M z ≤ M.length
  | [], _ => Nat.le_refl _
  | r :: M, z => by
    have := below_le M z
    unfold below
    split
    · rw [List.length_cons]; omega
    · omega
theorem below_lt : ∀ {M : List RegS} {z : Int} {i : Nat} {r : RegS}, i < below M z → M[i]? = some r → r.n < z
  | q :: M, z, 0, r, h, hr => by
    simp only [List.getElem?_cons_zero, Option.some.injEq] at hr
    subst hr
    unfold below at h
    split at h
    · assumption
    · omega
  | q :: M, z, i + 1, r, h, hr => by
    unfold below at h
    split at h
    · exact below_lt (M := M) (i := i) (by omega) (by simpa using hr)
    · omega
theorem below_at : ∀ {M : List RegS} {z : Int} {r : RegS}, M[below M z]? = some r → ¬ r.n < z
  | q :: M, z, r, hr => by
    unfold below at hr
    split at hr
    · exact below_at (M := M) (by simpa using hr)
    · simp only [List.getElem?_cons_zero, Option.some.injEq] at hr
      subst hr
      assumption
theorem get_hit : ∀ {M : List RegS} {i : Nat} {r : RegS}, M[i]? = some r → (∀ (j : Nat) (q : RegS), j < i → M[j]? = some q → q.n ≠ r.n) → get M r.n = some r
  | [], i, r, h, _ => by simp at h
  | q :: M, 0, r, h, _ => by
    simp only [List.getElem?_cons_zero, Option.some.injEq] at h
    subst h
    simp [get]
  | q :: M, i + 1, r, h, hn => by
    have ih := get_hit (M := M) (i := i) (by simpa using h) (fun j x hj hx => hn (j + 1) x (by omega) (by simpa using hx))
    have h0 := hn 0 q (by omega) rfl
    unfold get at *
    rw [List.find?_cons_of_neg (by simpa using h0)]
    exact ih
theorem get_none {M : List RegS} {z : Int} (h : ∀ (j : Nat) (q : RegS), M[j]? = some q → q.n ≠ z) : get M z = none := by
  unfold get
  rw [List.find?_eq_none]
  intro q hq
  obtain ⟨j, hj, rfl⟩ := List.getElem_of_mem hq
  simpa using h j _ (List.getElem?_eq_getElem hj)
end Rs
end Go.Proofs.YtackgnkajffhiaaDoor
