/-
  PLAIN LAWS ON LISTS OF RUNES: where a row begins and ends, its first rune that is no blank, and rows below and above.
-/
import Derived.Laws.CopyOwn
set_option linter.unusedVariables false
namespace Go.Proofs.YthbfmdnibijapaaDoor.Rw

/-- Where the row of an offset begins. -/
def beg (t : List Int) : Nat → Nat
  | 0 => 0
  | n + 1 => if t[n]? = some 10 then n + 1 else beg t n
theorem beg_stop {t : List Int} {n : Nat} (h : t[n]? = some 10) : beg t (n + 1) = n + 1 := by simp [beg, h]
theorem beg_step {t : List Int} {n : Nat} (h : t[n]? ≠ some 10) : beg t (n + 1) = beg t n := by simp [beg, h]
theorem beg_le (t : List Int) : ∀ n, beg t n ≤ n
  | 0 => Nat.le_refl _
  | n + 1 => by
    by_cases h : t[n]? = some 10
    · rw [beg_stop h]; exact Nat.le_refl _
    · rw [beg_step h]; have := beg_le t n; omega
theorem beg_ahead (t : List Int) : ∀ n, beg t n = 0 ∨ t[beg t n - 1]? = some 10
  | 0 => .inl rfl
  | n + 1 => by
    by_cases h : t[n]? = some 10
    · rw [beg_stop h]; right; simpa using h
    · rw [beg_step h]; exact beg_ahead t n
theorem beg_beg (t : List Int) (n : Nat) : beg t (beg t n) = beg t n := by
  rcases beg_ahead t n with h | h
  · rw [h]; rfl
  · by_cases h0 : beg t n = 0
    · rw [h0]; rfl
    · obtain ⟨k, hk⟩ : ∃ k, beg t n = k + 1 := ⟨beg t n - 1, by omega⟩
      rw [hk] at h ⊢
      exact beg_stop (by simpa using h)
/-- No newline between a row's begin and the offset. -/
theorem beg_none (t : List Int) : ∀ n j, beg t n ≤ j → j < n → t[j]? ≠ some 10
  | 0, j, _, h => by omega
  | n + 1, j, h1, h2 => by
    by_cases h : t[n]? = some 10
    · rw [beg_stop h] at h1; omega
    · rw [beg_step h] at h1
      by_cases hj : j = n
      · subst hj; exact h
      · exact beg_none t n j h1 (by omega)
theorem beg_of (t : List Int) (b n : Nat) (hb : beg t b = b) (hbn : b ≤ n) (h : ∀ j, b ≤ j → j < n → t[j]? ≠ some 10) : beg t n = b := by
  induction n with
  | zero => have : b = 0 := by omega
            subst this; rfl
  | succ n ih =>
    by_cases hn : b = n + 1
    · subst hn; exact hb
    · rw [beg_step (h n (by omega) (by omega))]
      exact ih (by omega) fun j h1 h2 => h j h1 (by omega)

def lenTo : List Int → Nat
  | [] => 0
  | c :: r => if c = 10 then 0 else lenTo r + 1
/-- Where the row of an offset ends. -/
def en (t : List Int) (at' : Nat) : Nat := at' + lenTo (t.drop at')
theorem drop_cons {t : List Int} {k : Nat} {c : Int} (h : t[k]? = some c) : t.drop k = c :: t.drop (k + 1) := by
  obtain ⟨hk, he⟩ := List.getElem?_eq_some_iff.1 h
  rw [List.drop_eq_getElem_cons hk, he]
theorem en_stop {t : List Int} {k : Nat} (h : t[k]? = some 10) : en t k = k := by
  unfold en
  rw [drop_cons h]
  simp [lenTo]
theorem en_end {t : List Int} {k : Nat} (h : t.length ≤ k) : en t k = k := by
  unfold en
  rw [List.drop_eq_nil_of_le h]
  rfl
theorem en_step {t : List Int} {k : Nat} {c : Int} (h : t[k]? = some c) (hc : c ≠ 10) : en t (k + 1) = en t k := by
  unfold en
  rw [drop_cons h]
  simp [lenTo, hc]
  omega
theorem en_ge (t : List Int) (k : Nat) : k ≤ en t k := by unfold en; omega
theorem lenTo_le : ∀ l : List Int, lenTo l ≤ l.length
  | [] => Nat.le_refl _
  | c :: r => by
    have := lenTo_le r
    unfold lenTo
    split <;> simp <;> omega
theorem en_le (t : List Int) (k : Nat) (h : k ≤ t.length) : en t k ≤ t.length := by
  have := lenTo_le (t.drop k)
  rw [List.length_drop] at this
  unfold en
  omega
theorem lenTo_at : ∀ l : List Int, lenTo l < l.length → l[lenTo l]? = some 10
  | [], h => by simp at h
  | c :: r, h => by
    unfold lenTo at h ⊢
    by_cases hc : c = 10
    · rw [if_pos hc]; simp [hc]
    · rw [if_neg hc] at h ⊢
      have := lenTo_at r (by simp at h; omega)
      simpa using this
theorem en_at (t : List Int) (k : Nat) (h : en t k < t.length) : t[en t k]? = some 10 := by
  unfold en at h ⊢
  have := lenTo_at (t.drop k) (by rw [List.length_drop]; omega)
  rwa [List.getElem?_drop] at this
theorem lenTo_none : ∀ (l : List Int) (j : Nat), j < lenTo l → l[j]? ≠ some 10
  | [], j, h => by simp [lenTo] at h
  | c :: r, j, h => by
    unfold lenTo at h
    by_cases hc : c = 10
    · rw [if_pos hc] at h; omega
    · rw [if_neg hc] at h
      match j with
      | 0 => simp [hc]
      | j + 1 => simpa using lenTo_none r j (by omega)
theorem en_none (t : List Int) (k j : Nat) (h1 : k ≤ j) (h2 : j < en t k) : t[j]? ≠ some 10 := by
  unfold en at h2
  have := lenTo_none (t.drop k) (j - k) (by omega)
  rwa [List.getElem?_drop, show k + (j - k) = j by omega] at this
theorem en_of (t : List Int) (k e : Nat) (hk : k ≤ e) (he : en t e = e) (h : ∀ j, k ≤ j → j < e → t[j]? ≠ some 10) (hl : e ≤ t.length) : en t k = e := by
  obtain ⟨d, rfl⟩ : ∃ d, e = k + d := ⟨e - k, by omega⟩
  clear hk
  induction d generalizing k with
  | zero => exact he
  | succ d ih =>
    have hlt : k < t.length := by omega
    have hc : t[k]? = some t[k] := List.getElem?_eq_getElem hlt
    have hne : t[k] ≠ 10 := fun e => h k (Nat.le_refl _) (by omega) (by rw [hc, e])
    rw [← en_step hc hne]
    have := ih (k + 1) (by rw [show k + 1 + d = k + (d + 1) by omega]; exact he) (fun j h1 h2 => h j (by omega) (by omega)) (by omega)
    rw [this]; omega
theorem en_beg (t : List Int) (k : Nat) (h : k ≤ t.length) : en t (beg t k) = en t k := by
  refine en_of t (beg t k) (en t k) (Nat.le_trans (beg_le t k) (en_ge t k)) ?_ (fun j h1 h2 => ?_) (en_le t k h)
  · by_cases hl : en t k < t.length
    · exact en_stop (en_at t k hl)
    · exact en_end (by omega)
  · by_cases hj : j < k
    · exact beg_none t k j h1 hj
    · exact en_none t k j (by omega) h2
theorem beg_en (t : List Int) (k : Nat) : beg t (en t k) = beg t k := by
  refine beg_of t (beg t k) (en t k) (beg_beg t k) (Nat.le_trans (beg_le t k) (en_ge t k)) fun j h1 h2 => ?_
  by_cases hj : j < k
  · exact beg_none t k j h1 hj
  · exact en_none t k j (by omega) h2

/-- The class of a rune. -/
def cls (r : Int) : Int := if r = 32 ∨ r = 9 then 0 else if (97 ≤ r ∧ r ≤ 122) ∨ (65 ≤ r ∧ r ≤ 90) ∨ (48 ≤ r ∧ r ≤ 57) ∨ r = 95 ∨ 128 ≤ r then 1 else 2
def lenBl : List Int → Nat
  | [] => 0
  | c :: r => if c ≠ 10 ∧ cls c = 0 then lenBl r + 1 else 0
/-- The first rune from an offset on, within its row, that is no blank; or the row's end. -/
def skp (t : List Int) (k : Nat) : Nat := k + lenBl (t.drop k)
theorem skp_end {t : List Int} {k : Nat} (h : t.length ≤ k) : skp t k = k := by
  unfold skp
  rw [List.drop_eq_nil_of_le h]
  rfl
theorem skp_stop {t : List Int} {k : Nat} {c : Int} (h : t[k]? = some c) (hc : c = 10 ∨ cls c ≠ 0) : skp t k = k := by
  unfold skp
  rw [drop_cons h]
  have : ¬ (c ≠ 10 ∧ cls c = 0) := by omega
  simp only [lenBl, if_neg this, Nat.add_zero]
theorem skp_step {t : List Int} {k : Nat} {c : Int} (h : t[k]? = some c) (h1 : c ≠ 10) (h2 : cls c = 0) : skp t (k + 1) = skp t k := by
  unfold skp
  rw [drop_cons h]
  simp only [lenBl, if_pos (And.intro h1 h2)]
  omega
theorem lenBl_le : ∀ l : List Int, lenBl l ≤ lenTo l
  | [] => Nat.le_refl _
  | c :: r => by
    have := lenBl_le r
    unfold lenBl lenTo
    by_cases h : c = 10
    · simp [h]
    · by_cases h2 : cls c = 0
      · simp [h, h2, this]
      · simp [h, h2]
theorem skp_ge (t : List Int) (k : Nat) : k ≤ skp t k := by unfold skp; omega
theorem skp_le (t : List Int) (k : Nat) : skp t k ≤ en t k := by
  have := lenBl_le (t.drop k)
  unfold skp en
  omega
/-- First of the row of an offset. -/
def fst (t : List Int) (k : Nat) : Nat := skp t (beg t k)
theorem fst_ge (t : List Int) (k : Nat) : beg t k ≤ fst t k := skp_ge _ _
theorem fst_le (t : List Int) (k : Nat) (h : k ≤ t.length) : fst t k ≤ en t k := by
  have := skp_le t (beg t k)
  rwa [en_beg t k h] at this

/-- The begin of the row so many below. -/
def dn (t : List Int) : Nat → Nat → Option Nat
  | k, 0 => some (beg t k)
  | k, n + 1 => if en t k = t.length then none else dn t (en t k + 1) n
/-- The begin of the row so many above. -/
def up (t : List Int) : Nat → Nat → Option Nat
  | k, 0 => some (beg t k)
  | k, n + 1 => if beg t k = 0 then none else up t (beg t k - 1) n
theorem dn_beg (t : List Int) (k : Nat) (h : k ≤ t.length) (n : Nat) : dn t (beg t k) n = dn t k n := by
  cases n with
  | zero => simp [dn, beg_beg]
  | succ n => simp [dn, en_beg t k h]
theorem dn_some (t : List Int) : ∀ (n k x : Nat), k ≤ t.length → dn t k n = some x → x ≤ t.length ∧ beg t x = x ∧ (0 < n → k + n ≤ x)
  | 0, k, x, hk, h => by
    simp only [dn, Option.some.injEq] at h
    subst h
    exact ⟨Nat.le_trans (beg_le t k) hk, beg_beg t k, fun h => by omega⟩
  | n + 1, k, x, hk, h => by
    unfold dn at h
    by_cases he : en t k = t.length
    · simp [he] at h
    · rw [if_neg he] at h
      have hl := en_le t k hk
      have hg := en_ge t k
      obtain ⟨h1, h2, h3⟩ := dn_some t n (en t k + 1) x (by omega) h
      refine ⟨h1, h2, fun _ => ?_⟩
      cases n with
      | zero =>
        simp only [dn, Option.some.injEq] at h
        subst h
        rw [beg_stop (en_at t k (by omega))]
        omega
      | succ n => have := h3 (by omega); omega
theorem up_some (t : List Int) : ∀ (n k x : Nat), up t k n = some x → x ≤ k ∧ beg t x = x
  | 0, k, x, h => by
    simp only [up, Option.some.injEq] at h
    subst h
    exact ⟨beg_le t k, beg_beg t k⟩
  | n + 1, k, x, h => by
    unfold up at h
    by_cases he : beg t k = 0
    · simp [he] at h
    · rw [if_neg he] at h
      obtain ⟨h1, h2⟩ := up_some t n _ x h
      have := beg_le t k
      exact ⟨by omega, h2⟩
/-- So many rows below, as far as there are rows. -/
def wd (t : List Int) : Nat → Nat → Nat
  | k, 0 => k
  | k, n + 1 => match dn t k 1 with
    | none => k
    | some x => wd t x n
theorem dn_one (t : List Int) (k : Nat) (h : k ≤ t.length) : dn t k 1 = if en t k = t.length then none else some (en t k + 1) := by
  by_cases he : en t k = t.length
  · simp [dn, he]
  · have hl := en_le t k h
    simp only [dn, if_neg he, beg_stop (en_at t k (by omega))]
theorem wd_dn (t : List Int) : ∀ (n k : Nat), k ≤ t.length → beg t k = k → wd t k n = (match dn t k n with | none => beg t t.length | some x => x)
  | 0, k, h, hb => by simp [wd, dn, hb]
  | n + 1, k, h, hb => by
    unfold wd
    rw [dn_one t k h]
    by_cases he : en t k = t.length
    · simp only [he, if_true, dn]
      have := beg_en t k
      rw [he] at this
      rw [this, hb]
    · have hl := en_le t k h
      have hx := wd_dn t n (en t k + 1) (by omega) (beg_stop (en_at t k (by omega)))
      simp only [if_neg he, dn]
      exact hx
theorem wd_le (t : List Int) (n k : Nat) (h : k ≤ t.length) (hb : beg t k = k) : wd t k n ≤ t.length := by
  rw [wd_dn t n k h hb]
  split
  · exact beg_le _ _
  · rename_i x hx; exact (dn_some t n k x h hx).1
theorem wd_far (t : List Int) (k : Nat) (h : k ≤ t.length) (hb : beg t k = k) : wd t k t.length = beg t t.length := by
  rw [wd_dn t _ k h hb]
  split
  · rfl
  · rename_i x hx
    obtain ⟨h1, h2, h3⟩ := dn_some t _ k x h hx
    by_cases h0 : t.length = 0
    · have : x = 0 := by omega
      subst this; rw [h0]; rfl
    · have := h3 (by omega)
      have : x = t.length := by omega
      rw [← this, h2]
/-- The row so many below (by is positive) or above (by is negative). -/
def go (t : List Int) (k : Nat) (by' : Int) : Option Nat := if 0 ≤ by' then dn t k by'.toNat else up t k (-by').toNat
theorem go_le {t : List Int} {k x : Nat} {b : Int} (h : k ≤ t.length) (hx : go t k b = some x) : x ≤ t.length := by
  unfold go at hx
  split at hx
  · exact (dn_some t _ k x h hx).1
  · have := (up_some t _ k x hx).1; omega
theorem go_beg {t : List Int} {k x : Nat} {b : Int} (h : k ≤ t.length) (hx : go t k b = some x) : beg t x = x := by
  unfold go at hx
  split at hx
  · exact (dn_some t _ k x h hx).2.1
  · exact (up_some t _ k x hx).2
end Go.Proofs.YthbfmdnibijapaaDoor.Rw
