/-
  PLAIN: which cells are begins and ends, asked of a cell's neighbours in the list.
-/
import Derived.Test.YtohmhjeimeilcaaDoorWdP
set_option linter.unusedVariables false
namespace Go.Proofs.YtohmhjeimeilcaaDoor.Rw

theorem isC_R {t : List Int} {i : Nat} (h : isR t i = true) : isC t i = true := by unfold isC; simp [h]
theorem isC_beg {t : List Int} {i : Nat} (h : beg t i = i) : isC t i = true := by unfold isC; simp [h]
theorem at_R {t : List Int} {big : Bool} {i : Nat} (h : isR t i = true) : at_ t big i ≠ 3 := by
  have := clsB_range big (t.getD i 0)
  unfold at_
  rw [if_pos h]
  omega
theorem R_at {t : List Int} {big : Bool} {i : Nat} (h : at_ t big i ≠ 3) : isR t i = true := by
  cases hr : isR t i with
  | true => rfl
  | false => exact absurd (at_no big hr) h
/-- Behind a rune of the row no row begins; behind a newline one does. -/
theorem beg_R {t : List Int} {i : Nat} (h0 : 0 < i) : beg t i = i ↔ ¬ (isR t (i - 1) = true ∨ t.length ≤ i - 1) := by
  obtain ⟨n, rfl⟩ : ∃ n, i = n + 1 := ⟨i - 1, by omega⟩
  simp only [Nat.add_sub_cancel]
  by_cases h : t[n]? = some 10
  · rw [beg_stop h]
    have hl : n < t.length := by
      by_cases hl : n < t.length
      · exact hl
      · rw [List.getElem?_eq_none (by omega)] at h; cases h
    simp [isR_10 h]
    omega
  · rw [beg_step h]
    have hb := beg_le t n
    constructor
    · intro e; omega
    · intro e
      exfalso
      apply e
      by_cases hl : n < t.length
      · have hc : t[n]? = some t[n] := List.getElem?_eq_getElem hl
        exact .inl (isR_of hc (fun e2 => h (by rw [hc, e2])))
      · exact .inr (by omega)
theorem cel_idx {t : List Int} {n i : Nat} (h : isC t i = true) (hi : i < n) : ∃ k : Nat, (cel t n)[k]? = some i := List.mem_iff_getElem?.1 (mem_cel.2 ⟨hi, h⟩)
theorem cel_inj {t : List Int} {n j k i : Nat} (hj : (cel t n)[j]? = some i) (hk : (cel t n)[k]? = some i) : j = k := by
  rcases Nat.lt_trichotomy j k with h | h | h
  · have := cel_lt hj hk h; omega
  · exact h
  · have := cel_lt hk hj h; omega
theorem cel_prev {t : List Int} {n k i : Nat} (h : (cel t n)[k]? = some i) (h0 : 0 < i) (hc : isC t (i - 1) = true) : ∃ k', k = k' + 1 ∧ (cel t n)[k']? = some (i - 1) := by
  have hi := (mem_cel.1 (List.mem_of_getElem? h)).1
  have hci := (mem_cel.1 (List.mem_of_getElem? h)).2
  obtain ⟨k', hk'⟩ := cel_idx (n := n) hc (by omega)
  have e : i - 1 + 1 = i := by omega
  have := cel_next hk' (by omega) (by rw [e]; exact hci)
  rw [e] at this
  exact ⟨k', cel_inj h this, hk'⟩
theorem cel_C {t : List Int} {n k i : Nat} (h : (cel t n)[k]? = some i) : isC t i = true := (mem_cel.1 (List.mem_of_getElem? h)).2
theorem cel_lt_n {t : List Int} {n k i : Nat} (h : (cel t n)[k]? = some i) : i < n := (mem_cel.1 (List.mem_of_getElem? h)).1
theorem cel_at0 {t : List Int} {n i : Nat} (h : (cel t (n + 1))[0]? = some i) : i = 0 := by
  rw [cel_zero] at h
  injection h with h
  exact h.symm
/-- A cell of an empty row begins it. -/
theorem beg_3 {t : List Int} {big : Bool} {i : Nat} (hc : isC t i = true) (h : at_ t big i = 3) : beg t i = i := by
  have hr : isR t i ≠ true := fun h2 => at_R h2 h
  unfold isC at hc
  simp only [Bool.or_eq_true, decide_eq_true_eq] at hc
  rcases hc with h1 | h1
  · exact absurd h1 hr
  · exact h1
theorem isB_0 {t : List Int} {big : Bool} {i : Nat} (h : at_ t big i = 0) : isB t big i = false := by unfold isB; simp [h]
theorem isE_0 {t : List Int} {big : Bool} {i : Nat} (h : at_ t big i = 0) : isE t big i = false := by unfold isE; simp [h]
theorem isB_first {t : List Int} {big : Bool} {i : Nat} (hc : isC t i = true) (h : at_ t big i ≠ 0) (hb : beg t i = i) : isB t big i = true := by
  unfold isB
  simp [hc, h, hb]
theorem isB_prev {t : List Int} {big : Bool} {i : Nat} (hc : isC t i = true) (h : at_ t big i ≠ 0) (hb : at_ t big (i - 1) ≠ at_ t big i) : isB t big i = true := by
  unfold isB
  simp [hc, h, hb]
theorem isB_no {t : List Int} {big : Bool} {i : Nat} (hb : beg t i ≠ i) (h : at_ t big (i - 1) = at_ t big i) : isB t big i = false := by
  unfold isB
  simp [hb, h]
theorem isB_3 {t : List Int} {big : Bool} {i : Nat} (hc : isC t i = true) (h : at_ t big i = 3) : isB t big i = true := isB_first hc (by rw [h]; decide) (beg_3 hc h)
theorem isE_3 {t : List Int} {big : Bool} {i : Nat} (hc : isC t i = true) (h : at_ t big i = 3) : isE t big i = true := by
  have hr : isR t i = false := by
    cases hr : isR t i with
    | false => rfl
    | true => exact absurd h (at_R hr)
  unfold isE
  simp [hc, h, hr]
theorem isE_last {t : List Int} {big : Bool} {i : Nat} (hc : isC t i = true) (h : at_ t big i ≠ 0) (hl : isR t (i + 1) = false) : isE t big i = true := by
  unfold isE
  simp [hc, h, hl]
theorem isE_next {t : List Int} {big : Bool} {i : Nat} (hc : isC t i = true) (h : at_ t big i ≠ 0) (hl : at_ t big (i + 1) ≠ at_ t big i) : isE t big i = true := by
  unfold isE
  simp [hc, h, hl]
theorem isE_no {t : List Int} {big : Bool} {i : Nat} (h1 : isR t i = true) (h2 : isR t (i + 1) = true) (h : at_ t big (i + 1) = at_ t big i) : isE t big i = false := by
  unfold isE
  simp [h1, h2, h]
/-- Is it the row's last cell? -/
def lastB (t : List Int) (i : Nat) : Bool := !isR t i || !isR t (i + 1)
/-- The reference's question of a cell that is neither a blank nor an empty row: of the one ahead. -/
theorem edgeB_first {t : List Int} {big : Bool} {n i : Nat} (h : (cel t (n + 1))[0]? = some i) (h0 : at_ t big i ≠ 0) : isB t big i = true := by
  have hc := cel_C h
  obtain rfl := cel_at0 h
  exact isB_first hc h0 rfl
theorem edgeB_far {t : List Int} {big : Bool} {n k i j : Nat} (h : (cel t n)[k + 1]? = some i) (hj : (cel t n)[k]? = some j) (hne : j + 1 ≠ i) (h0 : at_ t big i ≠ 0) (h3 : at_ t big i ≠ 3) : isB t big i = true := by
  have hlt := cel_lt hj h (by omega)
  by_cases hr : isR t (i - 1) = true
  · obtain ⟨k', e, hk'⟩ := cel_prev h (by omega) (isC_R hr)
    obtain rfl : k = k' := by omega
    rw [hj] at hk'
    injection hk' with hk'
    omega
  · have hr' : isR t (i - 1) = false := by simpa using hr
    exact isB_prev (cel_C h) h0 (by rw [at_no big hr']; exact fun e => h3 e.symm)
theorem edgeB_near {t : List Int} {big : Bool} {n k i : Nat} (h : (cel t n)[k + 1]? = some (i + 1)) (hj : (cel t n)[k]? = some i) (h0 : at_ t big (i + 1) ≠ 0) (h3 : at_ t big (i + 1) ≠ 3) : isB t big (i + 1) = (at_ t big i != at_ t big (i + 1)) := by
  by_cases he : at_ t big i = at_ t big (i + 1)
  · rw [he]
    have hr : isR t i = true := R_at (big := big) (by rw [he]; exact h3)
    have hb : beg t (i + 1) ≠ i + 1 := by
      intro e
      exact (beg_R (by omega)).1 e (.inl hr)
    rw [isB_no hb he]
    simp
  · rw [isB_prev (cel_C h) h0 he]
    simpa using he
theorem edgeE_end {t : List Int} {big : Bool} {k i : Nat} (h : (cel t (t.length + 1))[k]? = some i) (hl : (cel t (t.length + 1)).length ≤ k + 1) (h0 : at_ t big i ≠ 0) : isE t big i = true := by
  refine isE_last (cel_C h) h0 ?_
  cases hr : isR t (i + 1) with
  | false => rfl
  | true =>
    have := cel_next h (by have := isR_lt hr; omega) (isC_R hr)
    rw [List.getElem?_eq_none hl] at this
    cases this
theorem edgeE_far {t : List Int} {big : Bool} {k i j : Nat} (h : (cel t (t.length + 1))[k]? = some i) (hj : (cel t (t.length + 1))[k + 1]? = some j) (hne : j ≠ i + 1) (h0 : at_ t big i ≠ 0) : isE t big i = true := by
  refine isE_last (cel_C h) h0 ?_
  cases hr : isR t (i + 1) with
  | false => rfl
  | true =>
    have := cel_next h (by have := isR_lt hr; omega) (isC_R hr)
    rw [hj] at this
    injection this with this
    exact absurd this hne
theorem edgeE_near {t : List Int} {big : Bool} {n k i : Nat} (h : (cel t n)[k]? = some i) (h0 : at_ t big i ≠ 0) (h3 : at_ t big i ≠ 3) : isE t big i = (at_ t big (i + 1) != at_ t big i) := by
  by_cases he : at_ t big (i + 1) = at_ t big i
  · rw [he]
    have hr : isR t i = true := R_at (big := big) h3
    have hr1 : isR t (i + 1) = true := R_at (big := big) (by rw [he]; exact h3)
    rw [isE_no hr hr1 he]
    simp
  · rw [isE_next (cel_C h) h0 he]
    simpa using he
/-- The program's: a cell that does not begin its row has its neighbour ahead of it. -/
theorem progB {t : List Int} {n k i : Nat} (h : (cel t n)[k]? = some i) (hb : beg t i ≠ i) : ∃ k' i', k = k' + 1 ∧ i = i' + 1 ∧ (cel t n)[k']? = some i' := by
  have h0 : 0 < i := by
    rcases Nat.eq_zero_or_pos i with e | e
    · subst e; exact absurd rfl hb
    · exact e
  have hc := cel_C h
  have hr : isR t (i - 1) = true := by
    have : isR t (i - 1) = true ∨ t.length ≤ i - 1 := Classical.byContradiction fun h => hb ((beg_R h0).2 h)
    rcases this with h1 | h1
    · exact h1
    · have : isR t i = true := by
        unfold isC at hc
        simp only [Bool.or_eq_true, decide_eq_true_eq] at hc
        rcases hc with h2 | h2
        · exact h2
        · exact absurd (.inr h1) ((beg_R h0).1 h2)
      have := isR_lt this
      omega
  obtain ⟨k', e, hk'⟩ := cel_prev h h0 (isC_R hr)
  exact ⟨k', i - 1, e, by omega, hk'⟩
theorem progB_val {t : List Int} {big : Bool} {i : Nat} (hc : isC t (i + 1) = true) (h0 : at_ t big (i + 1) ≠ 0) (hb : beg t (i + 1) ≠ i + 1) : isB t big (i + 1) = (at_ t big i != at_ t big (i + 1)) := by
  by_cases he : at_ t big i = at_ t big (i + 1)
  · rw [he, isB_no hb he]
    simp
  · rw [isB_prev hc h0 he]
    simpa using he
theorem progE {t : List Int} {k i : Nat} (h : (cel t (t.length + 1))[k]? = some i) (hl : lastB t i = false) : (cel t (t.length + 1))[k + 1]? = some (i + 1) := by
  unfold lastB at hl
  simp only [Bool.or_eq_false_iff, Bool.not_eq_false'] at hl
  exact cel_next h (by have := isR_lt hl.2; omega) (isC_R hl.2)
theorem progE_last {t : List Int} {big : Bool} {i : Nat} (hc : isC t i = true) (h0 : at_ t big i ≠ 0) (hl : lastB t i = true) : isE t big i = true := by
  unfold lastB at hl
  unfold isE
  simp only [Bool.or_eq_true] at hl
  rcases hl with h | h
  · simp only [Bool.not_eq_true'] at h
    simp [hc, h0, h]
  · simp only [Bool.not_eq_true'] at h
    simp [hc, h0, h]
theorem progE_val {t : List Int} {big : Bool} {i : Nat} (hc : isC t i = true) (h0 : at_ t big i ≠ 0) (hl : lastB t i = false) : isE t big i = (at_ t big (i + 1) != at_ t big i) := by
  unfold lastB at hl
  simp only [Bool.or_eq_false_iff, Bool.not_eq_false'] at hl
  by_cases he : at_ t big (i + 1) = at_ t big i
  · rw [he, isE_no hl.1 hl.2 he]
    simp
  · rw [isE_next hc h0 he]
    simpa using he
end Go.Proofs.YtohmhjeimeilcaaDoor.Rw
