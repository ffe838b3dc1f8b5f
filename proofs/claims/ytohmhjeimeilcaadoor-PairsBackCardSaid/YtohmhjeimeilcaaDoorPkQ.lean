/-
  PLAIN: the pair around a place between two mates lies between them.
-/
import Derived.Test.YtohmhjeimeilcaaDoorPkP
set_option linter.unusedVariables false
namespace Go.Proofs.YtohmhjeimeilcaaDoor.Rw

theorem stk_sorted (t : List Int) (k : Nat) : ∀ j, (stk t k j).Pairwise (· > ·)
  | 0 => by simp [stk]
  | j + 1 => by
    by_cases h1 : t[j]? = some (opn k)
    · rw [stk_open h1, List.pairwise_cons]
      exact ⟨fun a ha => (stk_mem j a ha).1, stk_sorted t k j⟩
    · by_cases h2 : t[j]? = some (sht k)
      · rw [stk_shut h2]
        have := stk_sorted t k j
        cases hs : stk t k j with
        | nil => simp
        | cons a l => rw [hs] at this; simpa using (List.pairwise_cons.1 this).2
      · rw [stk_else h1 h2]
        exact stk_sorted t k j
/-- Brackets of a kind are nested. -/
theorem mate_nest {t : List Int} {k lo hi a : Nat} (hk : k < 3) (h : mate t lo = some hi) (ho : t[lo]? = some (opn k)) (ha : t[a]? = some (opn k)) (h1 : lo < a) (h2 : a < hi) : ∃ b, mate t a = some b ∧ b < hi := by
  rw [mate_open hk ho] at h
  obtain ⟨hs, hh⟩ := (mateO_iff ho).1 h
  have hl : hi < t.length := (List.getElem?_eq_some_iff.1 hs).1
  rcases mate_state ha hi h2 (by omega) with ⟨d, hd, hsd, _⟩ | ⟨m, hm1, hm2, hm3, _⟩
  · exfalso
    have hmem : a ∈ stk t k hi := List.mem_of_getElem? hsd
    have hso := stk_sorted t k hi
    cases hst : stk t k hi with
    | nil => rw [hst] at hmem; simp at hmem
    | cons x l =>
      rw [hst] at hh hso hmem
      simp only [List.head?_cons, Option.some.injEq] at hh
      subst hh
      rcases List.mem_cons.1 hmem with e | e
      · omega
      · have := (List.pairwise_cons.1 hso).1 a e
        omega
  · exact ⟨m, by rw [mate_open hk ha]; exact hm3, hm1⟩
/-- The pair around a place between two mates. -/
theorem arn_within {t : List Int} {k lo hi mid : Nat} (hk : k < 3) (h : mate t lo = some hi) (ho : t[lo]? = some (opn k)) (h1 : lo ≤ mid) (h2 : mid ≤ hi) : ∀ j, lo < j → j ≤ mid + 1 →
    ∃ a b : Nat, arn t (mid : Int) (opn k) j 1 = some (a, (b : Int)) ∧ lo ≤ a ∧ a ≤ mid ∧ mid ≤ b ∧ b ≤ hi := by
  intro j hj
  obtain ⟨n, rfl⟩ : ∃ n, j = lo + 1 + n := ⟨j - (lo + 1), by omega⟩
  clear hj
  induction n with
  | zero =>
    intro _
    have hm : mt t lo = (hi : Int) := by unfold mt; rw [h]
    refine ⟨lo, hi, ?_, Nat.le_refl _, h1, h2, Nat.le_refl _⟩
    rw [Nat.add_zero]
    unfold arn
    rw [hm, if_pos ⟨ho, by omega⟩, if_pos (by omega)]
  | succ n ih =>
    intro hj
    rw [show lo + 1 + (n + 1) = (lo + 1 + n) + 1 by omega]
    unfold arn
    by_cases hc : t[lo + 1 + n]? = some (opn k) ∧ (mid : Int) ≤ mt t (lo + 1 + n)
    · rw [if_pos hc, if_pos (by omega)]
      obtain ⟨c1, c2⟩ := hc
      have hne : lo + 1 + n ≠ hi := by
        intro e
        rw [mate_open hk ho] at h
        have := ((mateO_iff ho).1 h).1
        rw [← e, c1] at this
        injection this with this
        exact opn_sht k k this
      obtain ⟨b, hb, hbh⟩ := mate_nest hk h ho c1 (by omega) (by omega)
      have hm : mt t (lo + 1 + n) = (b : Int) := by unfold mt; rw [hb]
      rw [hm] at c2 ⊢
      exact ⟨_, b, rfl, by omega, by omega, by omega, by omega⟩
    · rw [if_neg hc]
      exact ih (by omega)
/-- The same, whichever of the two is asked. -/
theorem around_within {t : List Int} {i m : Nat} (h : mate t i = some m) : ∃ (k a b : Nat), k < 3 ∧ t[min i m]? = some (opn k) ∧ around t ((i + m) / 2) (opn k) 1 = some (a, (b : Int)) ∧ min i m ≤ a ∧ a ≤ (i + m) / 2 ∧ (i + m) / 2 ≤ b ∧ b ≤ max i m := by
  obtain ⟨hmm, hne, hml, hil⟩ := mate_mate h
  obtain ⟨k, hk, ⟨c1, c2, c3⟩ | ⟨c1, c2, c3⟩⟩ := mate_kind h
  · have e1 : min i m = i := by omega
    have e2 : max i m = m := by omega
    obtain ⟨a, b, h1, h2, h3, h4, h5⟩ := arn_within hk h c1 (mid := (i + m) / 2) (by omega) (by omega) (min ((i + m) / 2 + 1) t.length) (by omega) (by omega)
    exact ⟨k, a, b, hk, by rw [e1]; exact c1, h1, by omega, h3, h4, by omega⟩
  · have e1 : min i m = m := by omega
    have e2 : max i m = i := by omega
    obtain ⟨a, b, h1, h2, h3, h4, h5⟩ := arn_within hk hmm c2 (mid := (i + m) / 2) (by omega) (by omega) (min ((i + m) / 2 + 1) t.length) (by omega) (by omega)
    exact ⟨k, a, b, hk, by rw [e1]; exact c2, h1, by omega, h3, h4, by omega⟩
end Go.Proofs.YtohmhjeimeilcaaDoor.Rw
