/-
  PLAIN LAWS ON LISTS OF RUNES: where a row begins and ends, its first rune that is no blank, and rows below and above.
  PLAIN: where each motion by rows leads (chapter 12), on a list of runes.
  PLAIN: how many newlines stand ahead of an offset; rows are counted by them.
  PLAIN: what an operator works on, where the cursor is behind it, and what is left (chapter 18), on lists of runes.
  PLAIN: what two lists have in common, from the front and from behind; the patch between them.
-/
import Derived.Laws.CopyOwn
set_option linter.unusedVariables false
namespace Go.Proofs.YtilkogohiealhaaDoor.Rw

/-- Where the row of an offset begins. -/
def beg (t : List Int) : Nat → Nat
  | 0 => 0
  | n + 1 => if t[n]? = some 10 then n + 1 else beg t n
theorem beg_stop {t : List Int} {n : Nat} (h : t[n]? = some 10) : beg t (n + 1) = n + 1 := by simp [beg, h]
theorem beg_step {t : List Int} {n : Nat} (h : t[n]? ≠ some 10) : beg t (n + 1) = beg t n := by simp [beg, h]
theorem beg_le (t : List Int) : ∀ n, beg t n ≤ n
  | 0 => Nat.le_refl _
  | n + 1 => by
    by_cases h : t[n]? = some 10
    · rw [beg_stop h]; exact Nat.le_refl _
    · rw [beg_step h]; have := beg_le t n; omega
theorem beg_ahead (t : List Int) : ∀ n, beg t n = 0 ∨ t[beg t n - 1]? = some 10
  | 0 => .inl rfl
  | n + 1 => by
    by_cases h : t[n]? = some 10
    · rw [beg_stop h]; right; simpa using h
    · rw [beg_step h]; exact beg_ahead t n
theorem beg_beg (t : List Int) (n : Nat) : beg t (beg t n) = beg t n := by
  rcases beg_ahead t n with h | h
  · rw [h]; rfl
  · by_cases h0 : beg t n = 0
    · rw [h0]; rfl
    · obtain ⟨k, hk⟩ : ∃ k, beg t n = k + 1 := ⟨beg t n - 1, by omega⟩
      rw [hk] at h ⊢
      exact beg_stop (by simpa using h)
/-- No newline between a row's begin and the offset. -/
theorem beg_none (t : List Int) : ∀ n j, beg t n ≤ j → j < n → t[j]? ≠ some 10
  | 0, j, _, h => by omega
  | n + 1, j, h1, h2 => by
    by_cases h : t[n]? = some 10
    · rw [beg_stop h] at h1; omega
    · rw [beg_step h] at h1
      by_cases hj : j = n
      · subst hj; exact h
      · exact beg_none t n j h1 (by omega)
theorem beg_of (t : List Int) (b n : Nat) (hb : beg t b = b) (hbn : b ≤ n) (h : ∀ j, b ≤ j → j < n → t[j]? ≠ some 10) : beg t n = b := by
  induction n with
  | zero => have : b = 0 := by omega
            subst this; rfl
  | succ n ih =>
    by_cases hn : b = n + 1
    · subst hn; exact hb
    · rw [beg_step (h n (by omega) (by omega))]
      exact ih (by omega) fun j h1 h2 => h j h1 (by omega)

def lenTo : List Int → Nat
  | [] => 0
  | c :: r => if c = 10 then 0 else lenTo r + 1
/-- Where the row of an offset ends. -/
def en (t : List Int) (at' : Nat) : Nat := at' + lenTo (t.drop at')
theorem drop_cons {t : List Int} {k : Nat} {c : Int} (h : t[k]? = some c) : t.drop k = c :: t.drop (k + 1) := by
  obtain ⟨hk, he⟩ := List.getElem?_eq_some_iff.1 h
  rw [List.drop_eq_getElem_cons hk, he]
theorem en_stop {t : List Int} {k : Nat} (h : t[k]? = some 10) : en t k = k := by
  unfold en
  rw [drop_cons h]
  simp [lenTo]
theorem en_end {t : List Int} {k : Nat} (h : t.length ≤ k) : en t k = k := by
  unfold en
  rw [List.drop_eq_nil_of_le h]
  rfl
theorem en_step {t : List Int} {k : Nat} {c : Int} (h : t[k]? = some c) (hc : c ≠ 10) : en t (k + 1) = en t k := by
  unfold en
  rw [drop_cons h]
  simp [lenTo, hc]
  omega
theorem en_ge (t : List Int) (k : Nat) : k ≤ en t k := by unfold en; omega
theorem lenTo_le : ∀ l : List Int, lenTo l ≤ l.length
  | [] => Nat.le_refl _
  | c :: r => by
    have := lenTo_le r
    unfold lenTo
    split <;> simp <;> omega
theorem en_le (t : List Int) (k : Nat) (h : k ≤ t.length) : en t k ≤ t.length := by
  have := lenTo_le (t.drop k)
  rw [List.length_drop] at this
  unfold en
  omega
theorem lenTo_at : ∀ l : List Int, lenTo l < l.length → l[lenTo l]? = some 10
  | [], h => by simp at h
  | c :: r, h => by
    unfold lenTo at h ⊢
    by_cases hc : c = 10
    · rw [if_pos hc]; simp [hc]
    · rw [if_neg hc] at h ⊢
      have := lenTo_at r (by simp at h; omega)
      simpa using this
theorem en_at (t : List Int) (k : Nat) (h : en t k < t.length) : t[en t k]? = some 10 := by
  unfold en at h ⊢
  have := lenTo_at (t.drop k) (by rw [List.length_drop]; omega)
  rwa [List.getElem?_drop] at this
theorem lenTo_none : ∀ (l : List Int) (j : Nat), j < lenTo l → l[j]? ≠ some 10
  | [], j, h => by simp [lenTo] at h
  | c :: r, j, h => by
    unfold lenTo at h
    by_cases hc : c = 10
    · rw [if_pos hc] at h; omega
    · rw [if_neg hc] at h
      match j with
      | 0 => simp [hc]
      | j + 1 => simpa using lenTo_none r j (by omega)
theorem en_none (t : List Int) (k j : Nat) (h1 : k ≤ j) (h2 : j < en t k) : t[j]? ≠ some 10 := by
  unfold en at h2
  have := lenTo_none (t.drop k) (j - k) (by omega)
  rwa [List.getElem?_drop, show k + (j - k) = j by omega] at this
theorem en_of (t : List Int) (k e : Nat) (hk : k ≤ e) (he : en t e = e) (h : ∀ j, k ≤ j → j < e → t[j]? ≠ some 10) (hl : e ≤ t.length) : en t k = e := by
  obtain ⟨d, rfl⟩ : ∃ d, e = k + d := ⟨e - k, by omega⟩
  clear hk
  induction d generalizing k with
  | zero => exact he
  | succ d ih =>
    have hlt : k < t.length := by omega
    have hc : t[k]? = some t[k] := List.getElem?_eq_getElem hlt
    have hne : t[k] ≠ 10 := fun e => h k (Nat.le_refl _) (by omega) (by rw [hc, e])
    rw [← en_step hc hne]
    have := ih (k + 1) (by rw [show k + 1 + d = k + (d + 1) by omega]; exact he) (fun j h1 h2 => h j (by omega) (by omega)) (by omega)
    rw [this]; omega
theorem en_beg (t : List Int) (k : Nat) (h : k ≤ t.length) : en t (beg t k) = en t k := by
  refine en_of t (beg t k) (en t k) (Nat.le_trans (beg_le t k) (en_ge t k)) ?_ (fun j h1 h2 => ?_) (en_le t k h)
  · by_cases hl : en t k < t.length
    · exact en_stop (en_at t k hl)
    · exact en_end (by omega)
  · by_cases hj : j < k
    · exact beg_none t k j h1 hj
    · exact en_none t k j (by omega) h2
theorem beg_en (t : List Int) (k : Nat) : beg t (en t k) = beg t k := by
  refine beg_of t (beg t k) (en t k) (beg_beg t k) (Nat.le_trans (beg_le t k) (en_ge t k)) fun j h1 h2 => ?_
  by_cases hj : j < k
  · exact beg_none t k j h1 hj
  · exact en_none t k j (by omega) h2

/-- The class of a rune. -/
def cls (r : Int) : Int := if r = 32 ∨ r = 9 then 0 else if (97 ≤ r ∧ r ≤ 122) ∨ (65 ≤ r ∧ r ≤ 90) ∨ (48 ≤ r ∧ r ≤ 57) ∨ r = 95 ∨ 128 ≤ r then 1 else 2
def lenBl : List Int → Nat
  | [] => 0
  | c :: r => if c ≠ 10 ∧ cls c = 0 then lenBl r + 1 else 0
/-- The first rune from an offset on, within its row, that is no blank; or the row's end. -/
def skp (t : List Int) (k : Nat) : Nat := k + lenBl (t.drop k)
theorem skp_end {t : List Int} {k : Nat} (h : t.length ≤ k) : skp t k = k := by
  unfold skp
  rw [List.drop_eq_nil_of_le h]
  rfl
theorem skp_stop {t : List Int} {k : Nat} {c : Int} (h : t[k]? = some c) (hc : c = 10 ∨ cls c ≠ 0) : skp t k = k := by
  unfold skp
  rw [drop_cons h]
  have : ¬ (c ≠ 10 ∧ cls c = 0) := by omega
  simp only [lenBl, if_neg this, Nat.add_zero]
theorem skp_step {t : List Int} {k : Nat} {c : Int} (h : t[k]? = some c) (h1 : c ≠ 10) (h2 : cls c = 0) : skp t (k + 1) = skp t k := by
  unfold skp
  rw [drop_cons h]
  simp only [lenBl, if_pos (And.intro h1 h2)]
  omega
theorem lenBl_le : ∀ l : List Int, lenBl l ≤ lenTo l
  | [] => Nat.le_refl _
  | c :: r => by
    have := lenBl_le r
    unfold lenBl lenTo
    by_cases h : c = 10
    · simp [h]
    · by_cases h2 : cls c = 0
      · simp [h, h2, this]
      · simp [h, h2]
theorem skp_ge (t : List Int) (k : Nat) : k ≤ skp t k := by unfold skp; omega
theorem skp_le (t : List Int) (k : Nat) : skp t k ≤ en t k := by
  have := lenBl_le (t.drop k)
  unfold skp en
  omega
/-- First of the row of an offset. -/
def fst (t : List Int) (k : Nat) : Nat := skp t (beg t k)
theorem fst_ge (t : List Int) (k : Nat) : beg t k ≤ fst t k := skp_ge _ _
theorem fst_le (t : List Int) (k : Nat) (h : k ≤ t.length) : fst t k ≤ en t k := by
  have := skp_le t (beg t k)
  rwa [en_beg t k h] at this

/-- The begin of the row so many below. -/
def dn (t : List Int) : Nat → Nat → Option Nat
  | k, 0 => some (beg t k)
  | k, n + 1 => if en t k = t.length then none else dn t (en t k + 1) n
/-- The begin of the row so many above. -/
def up (t : List Int) : Nat → Nat → Option Nat
  | k, 0 => some (beg t k)
  | k, n + 1 => if beg t k = 0 then none else up t (beg t k - 1) n
theorem dn_beg (t : List Int) (k : Nat) (h : k ≤ t.length) (n : Nat) : dn t (beg t k) n = dn t k n := by
  cases n with
  | zero => simp [dn, beg_beg]
  | succ n => simp [dn, en_beg t k h]
theorem dn_some (t : List Int) : ∀ (n k x : Nat), k ≤ t.length → dn t k n = some x → x ≤ t.length ∧ beg t x = x ∧ (0 < n → k + n ≤ x)
  | 0, k, x, hk, h => by
    simp only [dn, Option.some.injEq] at h
    subst h
    exact ⟨Nat.le_trans (beg_le t k) hk, beg_beg t k, fun h => by omega⟩
  | n + 1, k, x, hk, h => by
    unfold dn at h
    by_cases he : en t k = t.length
    · simp [he] at h
    · rw [if_neg he] at h
      have hl := en_le t k hk
      have hg := en_ge t k
      obtain ⟨h1, h2, h3⟩ := dn_some t n (en t k + 1) x (by omega) h
      refine ⟨h1, h2, fun _ => ?_⟩
      cases n with
      | zero =>
        simp only [dn, Option.some.injEq] at h
        subst h
        rw [beg_stop (en_at t k (by omega))]
        omega
      | succ n => have := h3 (by omega); omega
theorem up_some (t : List Int) : ∀ (n k x : Nat), up t k n = some x → x ≤ k ∧ beg t x = x
  | 0, k, x, h => by
    simp only [up, Option.some.injEq] at h
    subst h
    exact ⟨beg_le t k, beg_beg t k⟩
  | n + 1, k, x, h => by
    unfold up at h
    by_cases he : beg t k = 0
    · simp [he] at h
    · rw [if_neg he] at h
      obtain ⟨h1, h2⟩ := up_some t n _ x h
      have := beg_le t k
      exact ⟨by omega, h2⟩
/-- So many rows below, as far as there are rows. -/
def wd (t : List Int) : Nat → Nat → Nat
  | k, 0 => k
  | k, n + 1 => match dn t k 1 with
    | none => k
    | some x => wd t x n
theorem dn_one (t : List Int) (k : Nat) (h : k ≤ t.length) : dn t k 1 = if en t k = t.length then none else some (en t k + 1) := by
  by_cases he : en t k = t.length
  · simp [dn, he]
  · have hl := en_le t k h
    simp only [dn, if_neg he, beg_stop (en_at t k (by omega))]
theorem wd_dn (t : List Int) : ∀ (n k : Nat), k ≤ t.length → beg t k = k → wd t k n = (match dn t k n with | none => beg t t.length | some x => x)
  | 0, k, h, hb => by simp [wd, dn, hb]
  | n + 1, k, h, hb => by
    unfold wd
    rw [dn_one t k h]
    by_cases he : en t k = t.length
    · simp only [he, if_true, dn]
      have := beg_en t k
      rw [he] at this
      rw [this, hb]
    · have hl := en_le t k h
      have hx := wd_dn t n (en t k + 1) (by omega) (beg_stop (en_at t k (by omega)))
      simp only [if_neg he, dn]
      exact hx
theorem wd_le (t : List Int) (n k : Nat) (h : k ≤ t.length) (hb : beg t k = k) : wd t k n ≤ t.length := by
  rw [wd_dn t n k h hb]
  split
  · exact beg_le _ _
  · rename_i x hx; exact (dn_some t n k x h hx).1
theorem wd_far (t : List Int) (k : Nat) (h : k ≤ t.length) (hb : beg t k = k) : wd t k t.length = beg t t.length := by
  rw [wd_dn t _ k h hb]
  split
  · rfl
  · rename_i x hx
    obtain ⟨h1, h2, h3⟩ := dn_some t _ k x h hx
    by_cases h0 : t.length = 0
    · have : x = 0 := by omega
      subst this; rw [h0]; rfl
    · have := h3 (by omega)
      have : x = t.length := by omega
      rw [← this, h2]
/-- The row so many below (by is positive) or above (by is negative). -/
def go (t : List Int) (k : Nat) (by' : Int) : Option Nat := if 0 ≤ by' then dn t k by'.toNat else up t k (-by').toNat
theorem go_le {t : List Int} {k x : Nat} {b : Int} (h : k ≤ t.length) (hx : go t k b = some x) : x ≤ t.length := by
  unfold go at hx
  split at hx
  · exact (dn_some t _ k x h hx).1
  · have := (up_some t _ k x hx).1; omega
theorem go_beg {t : List Int} {k x : Nat} {b : Int} (h : k ≤ t.length) (hx : go t k b = some x) : beg t x = x := by
  unfold go at hx
  split at hx
  · exact (dn_some t _ k x h hx).2.1
  · exact (up_some t _ k x hx).2
end Go.Proofs.YtilkogohiealhaaDoor.Rw
namespace Go.Proofs.YtilkogohiealhaaDoor.Rw

/-- The row with that number, from 1 on; the last one, if there are fewer. -/
def nth (t : List Int) (count : Nat) : Nat := fst t (wd t 0 (count - 1))
theorem nth_go (t : List Int) (c : Nat) : nth t c = (match dn t 0 (c - 1) with | none => fst t t.length | some x => fst t x) := by
  unfold nth
  rw [wd_dn t _ 0 (Nat.zero_le _) rfl]
  cases dn t 0 (c - 1) with
  | none => simp [fst, beg_beg]
  | some x => rfl
/-- Where a motion leads. -/
def to (t : List Int) (k : Nat) (key : Int) (count : Nat) : Option Nat :=
  let n := max count 1
  if key = 104 then (if max (beg t k) (k - n) = k then none else some (max (beg t k) (k - n)))
  else if key = 108 then (if min (en t k) (k + n) = k then none else some (min (en t k) (k + n)))
  else if key = 48 then some (beg t k)
  else if key = 94 then some (fst t k)
  else if key = 36 then (dn t k (n - 1)).map (en t)
  else if key = 106 then (dn t k n).map fun x => min (en t x) (x + (k - beg t k))
  else if key = 107 then (up t k n).map fun x => min (en t x) (x + (k - beg t k))
  else if key = 43 then (dn t k n).map (fst t)
  else if key = 45 then (up t k n).map (fst t)
  else if key = 95 then (dn t k (n - 1)).map (fst t)
  else if key = 71 then some (if count = 0 then fst t t.length else nth t count)
  else some (if count = 0 then fst t 0 else nth t count)
/-- Its kind. -/
def kd (key : Int) : Int := if key = 104 ∨ key = 108 ∨ key = 48 ∨ key = 94 then 0 else if key = 36 then 1 else 2
/-- Is it a key of these? -/
def Line (key : Int) : Prop := key = 104 ∨ key = 108 ∨ key = 48 ∨ key = 94 ∨ key = 36 ∨ key = 106 ∨ key = 107 ∨ key = 43 ∨ key = 45 ∨ key = 95 ∨ key = 71 ∨ key = 16777319
instance (key : Int) : Decidable (Line key) := by unfold Line; infer_instance
theorem to_le (t : List Int) (k : Nat) (key : Int) (count : Nat) (h : k ≤ t.length) (x : Nat) (hx : to t k key count = some x) : x ≤ t.length := by
  have hb := beg_le t k
  have he := en_le t k h
  have hf := fst_le t k h
  have hend : ∀ y, y ≤ t.length → fst t y ≤ t.length := fun y hy => Nat.le_trans (fst_le t y hy) (en_le t y hy)
  have hw := wd_le t (count - 1) 0 (Nat.zero_le _) rfl
  have hd : ∀ m y, dn t k m = some y → y ≤ t.length := fun m y hy => (dn_some t m k y h hy).1
  have hu : ∀ m y, up t k m = some y → y ≤ t.length := fun m y hy => Nat.le_trans (up_some t m k y hy).1 h
  unfold to at hx
  dsimp only at hx
  by_cases c : key = 104
  · rw [if_pos c] at hx
    split at hx
    · cases hx
    · injection hx with hx; omega
  rw [if_neg c] at hx
  clear c
  by_cases c : key = 108
  · rw [if_pos c] at hx
    split at hx
    · cases hx
    · injection hx with hx; omega
  rw [if_neg c] at hx
  clear c
  by_cases c : key = 48
  · rw [if_pos c] at hx
    injection hx with hx; omega
  rw [if_neg c] at hx
  clear c
  by_cases c : key = 94
  · rw [if_pos c] at hx
    injection hx with hx; subst hx; exact hend _ h
  rw [if_neg c] at hx
  clear c
  by_cases c : key = 36
  · rw [if_pos c] at hx
    obtain ⟨y, hy, rfl⟩ := Option.map_eq_some_iff.1 hx
    exact en_le t y (hd _ y hy)
  rw [if_neg c] at hx
  clear c
  by_cases c : key = 106
  · rw [if_pos c] at hx
    obtain ⟨y, hy, rfl⟩ := Option.map_eq_some_iff.1 hx
    exact Nat.le_trans (Nat.min_le_left _ _) (en_le t y (hd _ y hy))
  rw [if_neg c] at hx
  clear c
  by_cases c : key = 107
  · rw [if_pos c] at hx
    obtain ⟨y, hy, rfl⟩ := Option.map_eq_some_iff.1 hx
    exact Nat.le_trans (Nat.min_le_left _ _) (en_le t y (hu _ y hy))
  rw [if_neg c] at hx
  clear c
  by_cases c : key = 43
  · rw [if_pos c] at hx
    obtain ⟨y, hy, rfl⟩ := Option.map_eq_some_iff.1 hx
    exact hend y (hd _ y hy)
  rw [if_neg c] at hx
  clear c
  by_cases c : key = 45
  · rw [if_pos c] at hx
    obtain ⟨y, hy, rfl⟩ := Option.map_eq_some_iff.1 hx
    exact hend y (hu _ y hy)
  rw [if_neg c] at hx
  clear c
  by_cases c : key = 95
  · rw [if_pos c] at hx
    obtain ⟨y, hy, rfl⟩ := Option.map_eq_some_iff.1 hx
    exact hend y (hd _ y hy)
  rw [if_neg c] at hx
  clear c
  have h1 := hend t.length (Nat.le_refl _)
  have h2 := hend 0 (Nat.zero_le _)
  have h3 : nth t count ≤ t.length := hend _ hw
  split at hx <;> (injection hx with hx; split at hx <;> omega)
end Go.Proofs.YtilkogohiealhaaDoor.Rw
namespace Go.Proofs.YtilkogohiealhaaDoor.Rw

/-- The row of an offset: the newlines ahead of it. -/
def nl (t : List Int) (k : Nat) : Nat := (t.take k).count 10
theorem nl_zero (t : List Int) : nl t 0 = 0 := by simp [nl]
theorem nl_le (t : List Int) (k : Nat) : nl t k ≤ k := by
  have h1 := List.count_le_length (a := (10 : Int)) (l := t.take k)
  have h2 := List.length_take_le k t
  unfold nl
  omega
theorem nl_up {t : List Int} {k : Nat} (h : t[k]? = some 10) : nl t (k + 1) = nl t k + 1 := by
  unfold nl
  rw [List.take_add_one, h, List.count_append]
  rfl
theorem nl_stay {t : List Int} {k : Nat} (h : t[k]? ≠ some 10) : nl t (k + 1) = nl t k := by
  unfold nl
  rw [List.take_add_one, List.count_append]
  cases hc : t[k]? with
  | none => rfl
  | some c =>
    have : c ≠ 10 := fun e => h (by rw [hc, e])
    have hb : (c == 10) = false := by simpa using this
    simp [List.count_cons, hb]
theorem nl_same (t : List Int) (k j : Nat) (hkj : k ≤ j) (h : ∀ i, k ≤ i → i < j → t[i]? ≠ some 10) : nl t j = nl t k := by
  obtain ⟨d, rfl⟩ : ∃ d, j = k + d := ⟨j - k, by omega⟩
  clear hkj
  induction d with
  | zero => rfl
  | succ d ih =>
    rw [show k + (d + 1) = (k + d) + 1 by omega, nl_stay (h (k + d) (by omega) (by omega))]
    exact ih fun i h1 h2 => h i h1 (by omega)
/-- Within a row. -/
theorem nl_row (t : List Int) (k j : Nat) (hk : beg t k ≤ j) (hj : j ≤ en t k) : nl t j = nl t k := by
  have hn : ∀ i, beg t k ≤ i → i < en t k → t[i]? ≠ some 10 := fun i h1 h2 => by
    by_cases hi : i < k
    · exact beg_none t k i h1 hi
    · exact en_none t k i (by omega) h2
  have h1 := nl_same t (beg t k) j hk fun i h1 h2 => hn i h1 (by omega)
  have h2 := nl_same t (beg t k) k (beg_le t k) fun i h1 h2 => hn i h1 (by have := en_ge t k; omega)
  omega
theorem dn_snoc (t : List Int) : ∀ (n x : Nat), x ≤ t.length → dn t x (n + 1) = (dn t x n).bind fun y => dn t y 1
  | 0, x, hx => by
    show dn t x 1 = dn t (beg t x) 1
    rw [dn_beg t x hx]
  | n + 1, x, hx => by
    show (if en t x = t.length then none else dn t (en t x + 1) (n + 1)) = (if en t x = t.length then none else dn t (en t x + 1) n).bind _
    by_cases he : en t x = t.length
    · rw [if_pos he, if_pos he]; rfl
    · have := en_le t x hx
      rw [if_neg he, if_neg he, dn_snoc t n (en t x + 1) (by omega)]
theorem dn_nl (t : List Int) : ∀ k, k ≤ t.length → dn t 0 (nl t k) = some (beg t k)
  | 0, _ => by rw [nl_zero]; rfl
  | k + 1, hk => by
    have ih := dn_nl t k (by omega)
    by_cases h : t[k]? = some 10
    · rw [nl_up h, dn_snoc t _ 0 (Nat.zero_le _), ih, beg_stop h]
      show dn t (beg t k) 1 = _
      rw [dn_beg t k (by omega), dn_one t k (by omega), en_stop h, if_neg (by omega)]
    · rw [nl_stay h, beg_step h, ih]
/-- G of a row's number is there. -/
theorem nth_nl (t : List Int) (k : Nat) (hk : k ≤ t.length) : nth t (nl t k + 1) = fst t k := by
  rw [nth_go, show nl t k + 1 - 1 = nl t k by omega, dn_nl t k hk]
  show fst t (beg t k) = fst t k
  unfold fst
  rw [beg_beg]
/-- k behind j. -/
theorem down_up (t : List Int) (k y : Nat) (hk : k ≤ t.length) (hy : dn t k 1 = some y) :
    let x := min (en t y) (y + (k - beg t k))
    x ≤ t.length ∧ nl t x = nl t k + 1 ∧ up t x 1 = some (beg t k) ∧ (let z := min (en t (beg t k)) (beg t k + (x - beg t x)); z ≤ k ∧ nl t z = nl t k) := by
  rw [dn_one t k hk] at hy
  by_cases he : en t k = t.length
  · rw [if_pos he] at hy; cases hy
  · rw [if_neg he] at hy
    injection hy with hy
    have hlt : en t k < t.length := by have := en_le t k hk; omega
    have h10 := en_at t k hlt
    have hby : beg t y = y := by rw [← hy]; exact beg_stop h10
    have hyl : y ≤ t.length := by omega
    have hg := en_ge t y
    have hl := en_le t y hyl
    have hb := beg_le t k
    intro x
    have hx1 : y ≤ x := by omega
    have hx2 : x ≤ en t y := by omega
    have hbx : beg t x = y := beg_of t y x hby hx1 fun i h1 h2 => en_none t y i h1 (by omega)
    have hnx : nl t x = nl t y := nl_row t y x (by rw [hby]; exact hx1) hx2
    have hny : nl t y = nl t k + 1 := by
      rw [← hy, nl_up h10, nl_row t k (en t k) (by have := en_ge t k; omega) (Nat.le_refl _)]
    refine ⟨by omega, by omega, ?_, ?_⟩
    · show (if beg t x = 0 then none else up t (beg t x - 1) 0) = _
      rw [hbx, if_neg (by omega)]
      show some (beg t (y - 1)) = _
      rw [← hy, show en t k + 1 - 1 = en t k by omega, beg_en]
    · intro z
      have hz : z = min (en t (beg t k)) (beg t k + (x - y)) := by show min _ _ = _; rw [hbx]
      have heb := en_beg t k hk
      refine ⟨by omega, ?_⟩
      exact nl_row t k z (by have := en_ge t k; omega) (by omega)
end Go.Proofs.YtilkogohiealhaaDoor.Rw
namespace Go.Proofs.YtilkogohiealhaaDoor.Rw

/-- Where normal mode's cursor stands. -/
def rstP (t : List Int) (k : Nat) : Nat := if en t k = k ∧ beg t k < k then k - 1 else k
/-- May it be a piece? Whole rows, if it says so. -/
def Rng (t : List Int) (lo hi : Nat) (line : Bool) : Prop := lo ≤ hi ∧ hi ≤ t.length ∧ (line = true → beg t lo = lo ∧ en t hi = hi)
theorem beg_iff {t : List Int} {k : Nat} : beg t k = k ↔ k = 0 ∨ t[k - 1]? = some 10 := by
  cases k with
  | zero => simp [beg]
  | succ n =>
    simp only [Nat.add_sub_cancel]
    by_cases h : t[n]? = some 10
    · rw [beg_stop h]; simp [h]
    · rw [beg_step h]
      have := beg_le t n
      constructor
      · intro e; omega
      · rintro (e | e)
        · omega
        · exact absurd e h
theorem en_iff {t : List Int} {k : Nat} (hk : k ≤ t.length) : en t k = k ↔ k = t.length ∨ t[k]? = some 10 := by
  by_cases hl : k = t.length
  · rw [en_end (by omega)]; simp [hl]
  · have hlt : k < t.length := by omega
    have hc : t[k]? = some t[k] := List.getElem?_eq_getElem hlt
    by_cases h : t[k] = 10
    · rw [en_stop (by rw [hc, h])]; simp [hc, h]
    · have h1 := en_step hc h
      have h2 := en_ge t (k + 1)
      constructor
      · intro e; omega
      · rintro (e | e)
        · omega
        · rw [hc] at e; injection e with e; exact absurd e h
/-- The offset ahead of Rest. -/
def spt (t : List Int) (lo : Nat) (line : Bool) (at' : Nat) : Nat := if line then min (en t lo) (lo + (at' - beg t at')) else lo
theorem spt_le {t : List Int} {lo : Nat} {line : Bool} {at' : Nat} (h : lo ≤ t.length) : spt t lo line at' ≤ t.length := by
  have := en_le t lo h
  unfold spt
  split <;> omega
/-- Rows lie alike where newlines do. -/
theorem beg_same {s t : List Int} (h : ∀ i : Nat, s[i]? = some 10 ↔ t[i]? = some 10) : ∀ k, beg s k = beg t k
  | 0 => rfl
  | k + 1 => by
    by_cases hk : s[k]? = some 10
    · rw [beg_stop hk, beg_stop ((h k).1 hk)]
    · rw [beg_step hk, beg_step (fun e => hk ((h k).2 e)), beg_same h k]
theorem en_same {s t : List Int} (hl : s.length = t.length) (h : ∀ i : Nat, s[i]? = some 10 ↔ t[i]? = some 10) (k : Nat) (hk : k ≤ s.length) : en s k = en t k := by
  refine en_of s k (en t k) (en_ge t k) ?_ (fun j h1 h2 e => ?_) (by rw [hl]; exact en_le t k (by omega))
  · by_cases hlt : en t k < t.length
    · exact en_stop ((h _).2 (en_at t k hlt))
    · exact en_end (by omega)
  · exact en_none t k j h1 h2 ((h j).1 e)
theorem rst_same {s t : List Int} (hl : s.length = t.length) (h : ∀ i : Nat, s[i]? = some 10 ↔ t[i]? = some 10) (k : Nat) (hk : k ≤ s.length) : rstP s k = rstP t k := by
  unfold rstP
  rw [beg_same h k, en_same hl h k hk]
/-- A letter turned: small (117), great (85), the other one (126). -/
def trn (key c : Int) : Int := if 65 ≤ c ∧ c ≤ 90 ∧ key ≠ 85 then c + 32 else if 97 ≤ c ∧ c ≤ 122 ∧ key ≠ 117 then c - 32 else c
theorem trn_10 (key c : Int) : trn key c = 10 ↔ c = 10 := by
  unfold trn
  by_cases h1 : 65 ≤ c ∧ c ≤ 90 ∧ key ≠ 85
  · rw [if_pos h1]; omega
  · rw [if_neg h1]
    by_cases h2 : 97 ≤ c ∧ c ≤ 122 ∧ key ≠ 117
    · rw [if_pos h2]; omega
    · rw [if_neg h2]
/-- A piece turned. -/
def csd (t : List Int) (lo hi : Nat) (key : Int) : List Int := t.take lo ++ ((t.take hi).drop lo).map (trn key) ++ t.drop hi
/-- What is left where a piece goes; with whole rows a newline goes. -/
def dlo (t : List Int) (lo hi : Nat) (line : Bool) : Nat := if line = true ∧ ¬ hi < t.length ∧ 0 < lo then lo - 1 else lo
def dhi (t : List Int) (lo hi : Nat) (line : Bool) : Nat := if line = true ∧ hi < t.length then hi + 1 else hi
def lft (t : List Int) (lo hi : Nat) : List Int := t.take lo ++ t.drop hi
theorem lft_sub (t : List Int) (lo hi : Nat) (h : lo ≤ hi) : List.Sublist (lft t lo hi) t := by
  unfold lft
  have h1 : List.Sublist (t.drop hi) (t.drop lo) := by
    rw [show hi = lo + (hi - lo) by omega, ← List.drop_drop]
    exact List.drop_sublist _ _
  have := h1.append_left (t.take lo)
  rwa [List.take_append_drop] at this
end Go.Proofs.YtilkogohiealhaaDoor.Rw
namespace Go.Proofs.YtilkogohiealhaaDoor.Rw

/-- How far two lists are the same. -/
def cpl : List Int → List Int → Nat
  | a :: s, b :: t => if a = b then cpl s t + 1 else 0
  | _, _ => 0
theorem cpl_le : ∀ s t : List Int, cpl s t ≤ s.length ∧ cpl s t ≤ t.length
  | [], t => by simp [cpl]
  | a :: s, [] => by simp [cpl]
  | a :: s, b :: t => by
    have := cpl_le s t
    unfold cpl
    split <;> simp <;> omega
theorem cpl_hit {s t : List Int} {j : Nat} {a : Int} (hs : s[j]? = some a) (ht : t[j]? = some a) : cpl (s.drop j) (t.drop j) = 1 + cpl (s.drop (j + 1)) (t.drop (j + 1)) := by
  obtain ⟨h1, e1⟩ := List.getElem?_eq_some_iff.1 hs
  obtain ⟨h2, e2⟩ := List.getElem?_eq_some_iff.1 ht
  rw [List.drop_eq_getElem_cons h1, List.drop_eq_getElem_cons h2, e1, e2]
  simp only [cpl, if_true]
  omega
theorem cpl_miss {s t : List Int} {j : Nat} {a b : Int} (hs : s[j]? = some a) (ht : t[j]? = some b) (hab : a ≠ b) : cpl (s.drop j) (t.drop j) = 0 := by
  obtain ⟨h1, e1⟩ := List.getElem?_eq_some_iff.1 hs
  obtain ⟨h2, e2⟩ := List.getElem?_eq_some_iff.1 ht
  rw [List.drop_eq_getElem_cons h1, List.drop_eq_getElem_cons h2, e1, e2]
  simp only [cpl, if_neg hab]
theorem cpl_end {s t : List Int} {j : Nat} (h : s.length ≤ j ∨ t.length ≤ j) : cpl (s.drop j) (t.drop j) = 0 := by
  have := cpl_le (s.drop j) (t.drop j)
  simp only [List.length_drop] at this
  omega
/-- The patch: where, how many go, what comes. -/
def bat (s t : List Int) : Nat := cpl s t
def bsf (s t : List Int) : Nat := cpl (s.drop (bat s t)).reverse (t.drop (bat s t)).reverse
def bdel (s t : List Int) : Nat := s.length - bat s t - bsf s t
def bins (s t : List Int) : List Int := (t.drop (bat s t)).take (t.length - bat s t - bsf s t)
theorem bat_le (s t : List Int) : bat s t ≤ s.length ∧ bat s t ≤ t.length := cpl_le s t
theorem bsf_le (s t : List Int) : bsf s t ≤ s.length - bat s t ∧ bsf s t ≤ t.length - bat s t := by
  have := cpl_le (s.drop (bat s t)).reverse (t.drop (bat s t)).reverse
  simpa [bsf] using this
theorem bins_mem {s t : List Int} {r : Int} (h : r ∈ bins s t) : r ∈ t := List.mem_of_mem_drop (List.mem_of_mem_take h)
/-- From behind: the n-th last of what is left behind an offset. -/
theorem rev_at {s : List Int} {a n : Nat} (h : n < s.length - a) : (s.drop a).reverse[n]? = s[s.length - 1 - n]? := by
  rw [List.getElem?_reverse (by simpa using h), List.getElem?_drop, List.length_drop]
  congr 1
  omega
end Go.Proofs.YtilkogohiealhaaDoor.Rw
