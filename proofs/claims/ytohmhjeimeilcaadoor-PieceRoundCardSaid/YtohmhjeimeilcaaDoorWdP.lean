/-
  PLAIN: where words begin and end (chapter 10), on a list of runes; so many steps among stops in order.
-/
import Derived.Test.YtohmhjeimeilcaaDoorRowP
set_option linter.unusedVariables false
namespace Go.Proofs.YtohmhjeimeilcaaDoor.Rw

/-- The class of a rune; that of big words. -/
def clsB (big : Bool) (r : Int) : Int := if big = true ∧ cls r = 2 then 1 else cls r
theorem cls_range (r : Int) : 0 ≤ cls r ∧ cls r ≤ 2 := by unfold cls; (repeat' split) <;> omega
theorem clsB_range (big : Bool) (r : Int) : 0 ≤ clsB big r ∧ clsB big r ≤ 2 := by
  have := cls_range r
  unfold clsB
  split <;> omega
/-- A rune of a row? -/
def isR (t : List Int) (i : Nat) : Bool := match t[i]? with | some c => c != 10 | none => false
theorem isR_lt {t : List Int} {i : Nat} (h : isR t i = true) : i < t.length := by
  unfold isR at h
  by_cases hi : i < t.length
  · exact hi
  · rw [List.getElem?_eq_none (by omega)] at h; cases h
theorem isR_ne {t : List Int} {i : Nat} (h : isR t i = true) : t[i]? ≠ some 10 := by
  intro e
  unfold isR at h
  rw [e] at h
  cases h
theorem isR_of {t : List Int} {i : Nat} {c : Int} (h : t[i]? = some c) (hc : c ≠ 10) : isR t i = true := by
  unfold isR
  rw [h]
  simpa using hc
theorem isR_10 {t : List Int} {i : Nat} (h : t[i]? = some 10) : isR t i = false := by
  unfold isR
  rw [h]
  rfl
theorem isR_out {t : List Int} {i : Nat} (h : t.length ≤ i) : isR t i = false := by
  unfold isR
  rw [List.getElem?_eq_none h]
/-- May the cursor stand there? -/
def isC (t : List Int) (i : Nat) : Bool := isR t i || decide (beg t i = i)
/-- The class of a cell. -/
def at_ (t : List Int) (big : Bool) (i : Nat) : Int := if isR t i then clsB big (t.getD i 0) else 3
theorem at_range (t : List Int) (big : Bool) (i : Nat) : 0 ≤ at_ t big i ∧ at_ t big i ≤ 3 := by
  have := clsB_range big (t.getD i 0)
  unfold at_
  split <;> omega
theorem at_of {t : List Int} {i : Nat} {c : Int} (big : Bool) (h : t[i]? = some c) (hc : c ≠ 10) : at_ t big i = clsB big c := by
  unfold at_
  rw [if_pos (isR_of h hc)]
  congr 1
  simp [List.getD, h]
theorem at_no {t : List Int} {i : Nat} (big : Bool) (h : isR t i = false) : at_ t big i = 3 := by
  unfold at_
  rw [if_neg (by rw [h]; decide)]
/-- Does a word begin there? Does one end? -/
def isB (t : List Int) (big : Bool) (i : Nat) : Bool := isC t i && at_ t big i != 0 && (decide (beg t i = i) || at_ t big (i - 1) != at_ t big i)
def isE (t : List Int) (big : Bool) (i : Nat) : Bool := isC t i && at_ t big i != 0 && (!isR t i || !isR t (i + 1) || at_ t big (i + 1) != at_ t big i)
/-- Cells below an offset, in order. -/
def cel (t : List Int) (n : Nat) : List Nat := (List.range n).filter (isC t)
theorem cel_succ_yes {t : List Int} {n : Nat} (h : isC t n = true) : cel t (n + 1) = cel t n ++ [n] := by
  unfold cel
  rw [List.range_succ, List.filter_append]
  simp [h]
theorem cel_succ_no {t : List Int} {n : Nat} (h : isC t n = false) : cel t (n + 1) = cel t n := by
  unfold cel
  rw [List.range_succ, List.filter_append]
  simp [h]
theorem cel_len (t : List Int) (n : Nat) : (cel t n).length ≤ n := by
  have := List.length_filter_le (isC t) (List.range n)
  simpa [cel] using this
theorem mem_cel {t : List Int} {n i : Nat} : i ∈ cel t n ↔ i < n ∧ isC t i = true := by
  unfold cel
  simp
theorem range_sorted (n : Nat) : (List.range n).Pairwise (· < ·) := List.pairwise_lt_range
theorem cel_sorted (t : List Int) (n : Nat) : (cel t n).Pairwise (· < ·) := (range_sorted n).filter _
theorem isC_zero (t : List Int) : isC t 0 = true := by unfold isC; simp [beg]
/-- The first cell is 0. -/
theorem cel_zero (t : List Int) (n : Nat) : (cel t (n + 1))[0]? = some 0 := by
  induction n with
  | zero => simp [cel, isC_zero]
  | succ n ih =>
    cases h : isC t (n + 1) with
    | true =>
      rw [cel_succ_yes h, List.getElem?_append_left]
      · exact ih
      · by_cases hl : 0 < (cel t (n + 1)).length
        · exact hl
        · rw [List.getElem?_eq_none (by omega)] at ih; cases ih
    | false => rw [cel_succ_no h]; exact ih
/-- The last cell. -/
def lst (t : List Int) : Nat := (cel t (t.length + 1)).getLastD 0
/-- Neighbours: the cell behind a rune of a row, if there is one in the row, is the next cell. -/
theorem cel_next {t : List Int} {n k i : Nat} (h : (cel t n)[k]? = some i) (hn : i + 1 < n) (hc : isC t (i + 1) = true) : (cel t n)[k + 1]? = some (i + 1) := by
  induction n with
  | zero => omega
  | succ n ih =>
    cases hc' : isC t n with
    | true =>
      rw [cel_succ_yes hc'] at h ⊢
      by_cases hk : k < (cel t n).length
      · rw [List.getElem?_append_left hk] at h
        by_cases hi : i + 1 < n
        · have := ih h hi
          have hl : k + 1 < (cel t n).length := by
            by_cases hl : k + 1 < (cel t n).length
            · exact hl
            · rw [List.getElem?_eq_none (by omega)] at this; cases this
          rw [List.getElem?_append_left hl]
          exact this
        · have hin : i + 1 = n := by
            have := (mem_cel.1 (List.mem_of_getElem? h)).1
            omega
          have hlen : (cel t n).length = k + 1 := by
            have hn1 : n = i + 1 := hin.symm
            subst hn1
            have hci := (mem_cel.1 (List.mem_of_getElem? h)).2
            rw [cel_succ_yes hci] at h hk ⊢
            simp only [List.length_append, List.length_singleton] at hk ⊢
            by_cases hk2 : k < (cel t i).length
            · rw [List.getElem?_append_left hk2] at h
              have := (mem_cel.1 (List.mem_of_getElem? h)).1
              omega
            · omega
          rw [← hlen, List.getElem?_append_right (Nat.le_refl _)]
          simp [hin]
      · have hin : i = n := by
          rw [List.getElem?_append_right (by omega)] at h
          have := List.mem_of_getElem? h
          simpa using this
        omega
    | false =>
      rw [cel_succ_no hc'] at h ⊢
      have : i + 1 ≠ n := fun e => by rw [e, hc'] at hc; cases hc
      exact ih h (by omega)
theorem cel_lt {t : List Int} {n j k a b : Nat} (hj : (cel t n)[j]? = some a) (hk : (cel t n)[k]? = some b) (hjk : j < k) : a < b := by
  have hs := cel_sorted t n
  rw [List.pairwise_iff_getElem] at hs
  obtain ⟨h1, e1⟩ := List.getElem?_eq_some_iff.1 hj
  obtain ⟨h2, e2⟩ := List.getElem?_eq_some_iff.1 hk
  have := hs j k h1 h2 hjk
  omega

/-- The least stop behind an offset, else the last cell; the greatest one ahead of it, else 0. -/
def nx (S : List Nat) (L x : Nat) : Nat := (S.find? (fun a => decide (x < a))).getD L
def pv (S : List Nat) (x : Nat) : Nat := ((S.filter (fun a => decide (a < x))).getLast?).getD 0
/-- So many times. -/
def its (f : Nat → Nat) : Nat → Nat → Nat
  | 0, x => x
  | c + 1, x => its f c (f x)
theorem its_same {f : Nat → Nat} {x : Nat} (h : f x = x) : ∀ c, its f c x = x
  | 0 => rfl
  | c + 1 => by
    unfold its
    rw [h]
    exact its_same h c
theorem nx_of (S : List Nat) (L x m : Nat) (h : ∀ j a, S[j]? = some a → (j < m ↔ a ≤ x)) (hm : m ≤ S.length) : nx S L x = (S[m]?).getD L := by
  unfold nx
  induction S generalizing m with
  | nil => rfl
  | cons a S ih =>
    have h0 := h 0 a rfl
    by_cases hx : x < a
    · have : m = 0 := by omega
      subst this
      rw [List.find?_cons_of_pos (by simpa using hx)]
      rfl
    · obtain ⟨m', rfl⟩ : ∃ m', m = m' + 1 := ⟨m - 1, by omega⟩
      rw [List.find?_cons_of_neg (by simpa using hx)]
      rw [ih m' (fun j b hj => by have := h (j + 1) b (by simpa using hj); omega) (by simp at hm; omega)]
      simp
theorem its_nx (S : List Nat) (L : Nat) (hs : S.Pairwise (· < ·)) (hL : ∀ a ∈ S, a ≤ L) : ∀ (c x m : Nat), (∀ j a, S[j]? = some a → (j < m ↔ a ≤ x)) → m ≤ S.length → its (nx S L) (c + 1) x = (S[m + c]?).getD L
  | 0, x, m, h, hm => by
    show nx S L x = _
    rw [nx_of S L x m h hm]
    rfl
  | c + 1, x, m, h, hm => by
    show its (nx S L) (c + 1) (nx S L x) = _
    rw [nx_of S L x m h hm]
    by_cases hl : m < S.length
    · have e : S[m]? = some S[m] := List.getElem?_eq_getElem hl
      rw [e]
      show its (nx S L) (c + 1) S[m] = _
      rw [its_nx S L hs hL c S[m] (m + 1) (fun j a hj => ?_) (by omega), show m + 1 + c = m + (c + 1) by omega]
      obtain ⟨h1, h2⟩ := List.getElem?_eq_some_iff.1 hj
      have hp := List.pairwise_iff_getElem.1 hs
      rcases Nat.lt_trichotomy j m with h3 | h3 | h3
      · have := hp j m h1 hl h3; omega
      · subst h3; omega
      · have := hp m j hl h1 h3; omega
    · have hm' : m = S.length := by omega
      subst hm'
      rw [List.getElem?_eq_none (Nat.le_refl _), List.getElem?_eq_none (by omega)]
      show its (nx S L) (c + 1) L = L
      rw [its_nx S L hs hL c L S.length (fun j a hj => ?_) (Nat.le_refl _), List.getElem?_eq_none (by omega)]
      · rfl
      · have h1 := (List.getElem?_eq_some_iff.1 hj).1
        have := hL a (List.mem_of_getElem? hj)
        omega
theorem pv_of (S : List Nat) (x m : Nat) (h : ∀ j a, S[j]? = some a → (j < m ↔ a < x)) (hm : m ≤ S.length) : pv S x = if m = 0 then 0 else (S[m - 1]?).getD 0 := by
  have hf : S.filter (fun a => decide (a < x)) = S.take m := by
    clear hm
    induction S generalizing m with
    | nil => simp
    | cons a S ih =>
      have h0 := h 0 a rfl
      by_cases hx : a < x
      · obtain ⟨m', rfl⟩ : ∃ m', m = m' + 1 := ⟨m - 1, by omega⟩
        rw [List.filter_cons_of_pos (by simpa using hx), List.take_succ_cons, ih m' (fun j b hj => by have := h (j + 1) b (by simpa using hj); omega)]
      · have : m = 0 := by omega
        subst this
        rw [List.filter_cons_of_neg (by simpa using hx), ih 0 (fun j b hj => by have := h (j + 1) b (by simpa using hj); omega)]
        rfl
  unfold pv
  rw [hf]
  by_cases h0 : m = 0
  · subst h0; simp
  · rw [if_neg h0, List.getLast?_eq_getElem?, List.length_take, Nat.min_eq_left hm, List.getElem?_take, if_pos (by omega)]
theorem its_pv (S : List Nat) (hs : S.Pairwise (· < ·)) : ∀ (c x m : Nat), (∀ j a, S[j]? = some a → (j < m ↔ a < x)) → m ≤ S.length → its (pv S) (c + 1) x = if c + 1 ≤ m then (S[m - (c + 1)]?).getD 0 else 0
  | 0, x, m, h, hm => by
    show pv S x = _
    rw [pv_of S x m h hm]
    by_cases h0 : m = 0
    · rw [if_pos h0, if_neg (by omega)]
    · rw [if_neg h0, if_pos (by omega)]
  | c + 1, x, m, h, hm => by
    show its (pv S) (c + 1) (pv S x) = _
    rw [pv_of S x m h hm]
    by_cases h0 : m = 0
    · rw [if_pos h0, its_pv S hs c 0 0 (fun j a _ => by omega) (Nat.zero_le _), if_neg (by omega), if_neg (by omega)]
    · have hl : m - 1 < S.length := by omega
      have e : S[m - 1]? = some S[m - 1] := List.getElem?_eq_getElem hl
      rw [if_neg h0, e]
      show its (pv S) (c + 1) S[m - 1] = _
      rw [its_pv S hs c S[m - 1] (m - 1) (fun j a hj => ?_) (by omega)]
      · by_cases hc : c + 1 ≤ m - 1
        · rw [if_pos hc, if_pos (by omega), show m - 1 - (c + 1) = m - (c + 1 + 1) by omega]
        · rw [if_neg hc, if_neg (by omega)]
      · obtain ⟨h1, h2⟩ := List.getElem?_eq_some_iff.1 hj
        have hp := List.pairwise_iff_getElem.1 hs
        rcases Nat.lt_trichotomy j (m - 1) with h3 | h3 | h3
        · have := hp j (m - 1) h1 hl h3; omega
        · subst h3; omega
        · have := hp (m - 1) j hl h1 h3; omega
/-- The stops of a key: 'e' and 'E' ask for ends. -/
def stp (t : List Int) (big e : Bool) : List Nat := (cel t (t.length + 1)).filter (fun i => if e then isE t big i else isB t big i)
theorem stp_sorted (t : List Int) (big e : Bool) : (stp t big e).Pairwise (· < ·) := (cel_sorted t _).filter _
theorem getLastD_mem {l : List Nat} {d a : Nat} (hs : l.Pairwise (· < ·)) (h : a ∈ l) : a ≤ l.getLastD d := by
  induction l generalizing a d with
  | nil => cases h
  | cons b l ih =>
    rw [List.getLastD_cons]
    rw [List.pairwise_cons] at hs
    rcases List.mem_cons.1 h with rfl | h
    · cases l with
      | nil => exact Nat.le_refl _
      | cons c l =>
        have h1 := hs.1 c (by simp)
        have h2 := ih (d := a) hs.2 (show c ∈ c :: l from List.mem_cons_self)
        omega
    · exact ih hs.2 h
theorem stp_le (t : List Int) (big e : Bool) : ∀ a ∈ stp t big e, a ≤ lst t := fun a ha => getLastD_mem (cel_sorted t _) (List.mem_filter.1 ha).1
/-- Is it a key of these? A big one? One that goes ahead? To ends? -/
def Word (key : Int) : Prop := key = 119 ∨ key = 98 ∨ key = 101 ∨ key = 87 ∨ key = 66 ∨ key = 69
instance (key : Int) : Decidable (Word key) := by unfold Word; infer_instance
def bigK (key : Int) : Bool := decide (key < 97)
/-- Where one step leads. -/
def one (t : List Int) (key : Int) (x : Nat) : Nat :=
  if key = 98 ∨ key = 66 then pv (stp t (bigK key) false) x else nx (stp t (bigK key) (decide (key = 101 ∨ key = 69))) (lst t) x
def wgo (t : List Int) (k : Nat) (key : Int) (c : Nat) : Nat := its (one t key) c k
/-- The answer: none where it stays. -/
def wmv (t : List Int) (k : Nat) (key : Int) (c : Nat) : Option Int := if wgo t k key c = k then none else some (wgo t k key c)
end Go.Proofs.YtohmhjeimeilcaaDoor.Rw
