/-
  CAUSAL ORDER: the law's lists, reckoned; Add, Old and Ready by values; wakes; a script opened.
-/
import Derived.Test.YtpgicfbaefcbmaaDoorCaQ
import Derived.Test.YtpgicfbaefcbmaaDoorCdE
import Derived.Laws.AppendOwnNone
set_option linter.unusedVariables false
namespace Go.Proofs.YtpgicfbaefcbmaaDoor
open Go Go.RowKit Go.ChangeShapes Go.WideShapes Go.ChangeAt

namespace Cd
def allR : Bool := (List.range 7).all fun m => (List.range 3).all fun t => (List.range (2 * (m + 1))).all fun k => okR (m + 1) t k
def allE : Bool := (List.range 7).all fun m => (List.range 3).all fun t => okE (m + 1) t
set_option maxRecDepth 100000 in
theorem allR_yes : allR = true := by decide +kernel
set_option maxRecDepth 100000 in
theorem allE_yes : allE = true := by decide +kernel
theorem okR_at {n t k : Nat} (hn : 1 ≤ n) (hn7 : n ≤ 7) (ht : t < 3) (hk : k < 2 * n) : okR n t k = true := by
  have h := allR_yes
  unfold allR at h
  rw [List.all_eq_true] at h
  have h1 := h (n - 1) (List.mem_range.2 (by omega))
  rw [show n - 1 + 1 = n by omega, List.all_eq_true] at h1
  have h2 := h1 t (List.mem_range.2 ht)
  rw [List.all_eq_true] at h2
  exact h2 k (List.mem_range.2 hk)
theorem okE_at {n t : Nat} (hn : 1 ≤ n) (hn7 : n ≤ 7) (ht : t < 3) : okE n t = true := by
  have h := allE_yes
  unfold allE at h
  rw [List.all_eq_true] at h
  have h1 := h (n - 1) (List.mem_range.2 (by omega))
  rw [show n - 1 + 1 = n by omega, List.all_eq_true] at h1
  exact h1 t (List.mem_range.2 ht)
/-- What a round finds, and what it leaves. -/
theorem round_all {n t k : Nat} (hn : 1 ≤ n) (hn7 : n ≤ 7) (ht : t < 3) (hk : k < 2 * n) : ∃ (a : Nat) (V V' : List Int) (W W' L A A' : List OpP), (at1 n t k = a ∧ run n t k = (V, W, A) ∧ run n t (k + 1) = (V', W', A')) ∧ add 20 V W (op1 a) = some (L, V', W') ∧ A' = A ++ L ∧
    vecOk V ∧ (∀ o ∈ W, opOk o) ∧ (W.length ≤ 14 ∧ A'.length ≤ 14 ∧ W'.length ≤ 14) ∧ opOk (op1 a) ∧ ∀ o ∈ W', ¬ od V' o ∧ ¬ rd V' o := by
  have h := okR_at hn hn7 ht hk
  unfold okR at h
  simp only [Bool.and_eq_true, decide_eq_true_eq, List.all_eq_true] at h
  obtain ⟨⟨⟨⟨⟨⟨h1, h2⟩, h3⟩, h4⟩, h5⟩, h6⟩, h7⟩ := h
  obtain ⟨r, hr⟩ := Option.isSome_iff_exists.1 h6
  have e : run n t (k + 1) = (r.2.1, r.2.2, (run n t k).2.2 ++ r.1) := by rw [run, hr]
  rw [e] at h7 h4
  refine ⟨_, _, r.2.1, _, r.2.2, r.1, _, _, ⟨rfl, rfl, e⟩, hr, rfl, h1, h2, ⟨h3, h4⟩, h5, fun o ho => ?_⟩
  have h8 := h7 o ho
  simp only [Bool.not_eq_true'] at h8
  exact ⟨fun h => by rw [odB_iff.2 h] at h8; exact absurd h8.1 (by simp), fun h => by rw [rdB_iff.2 h] at h8; exact absurd h8.2 (by simp)⟩
/-- How a turn ends. -/
theorem end_all {n t : Nat} (hn : 1 ≤ n) (hn7 : n ≤ 7) (ht : t < 3) (hz : ¬ (t = 2 ∧ n % 3 = 0)) : ∃ (V : List Int) (A : List OpP), run n t (2 * n) = (V, [], A) ∧ V[1]? = some (n : Int) ∧ A.length = n ∧ ∀ (i : Nat) (o : OpP), A[i]? = some o → o.nn = (i : Int) + 1 := by
  have h := okE_at hn hn7 ht
  unfold okE at h
  rw [Bool.or_eq_true] at h
  rcases h with h | h
  · simp only [Bool.and_eq_true, decide_eq_true_eq] at h
    exact absurd h hz
  · simp only [Bool.and_eq_true, decide_eq_true_eq] at h
    obtain ⟨⟨h1, h2⟩, h3⟩ := h
    have hl := congrArg List.length h1
    simp only [List.length_map, List.length_range] at hl
    refine ⟨_, (run n t (2 * n)).2.2, by rw [← h2], h3, hl, fun i o ho => ?_⟩
    have hi : i < n := by rw [← hl]; exact (List.getElem?_eq_some_iff.1 ho).1
    have h4 := congrArg (fun l => l[i]?) h1
    simp only [List.getElem?_map, ho, List.getElem?_range hi, Option.map_some, Option.some.injEq] at h4
    exact h4
end Cd
end Go.Proofs.YtpgicfbaefcbmaaDoor
