/-
  PLAIN LAWS ON LISTS OF RUNES: where a row begins and ends, its first rune that is no blank, and rows below and above.
  PLAIN: where each motion by rows leads (chapter 12), on a list of runes.
  PLAIN: the rune that is sought within a row; stops between paragraphs.
  PLAIN: motions by paragraphs.
  PLAIN: where words begin and end (chapter 10), on a list of runes; so many steps among stops in order.
  PLAIN: brackets and their mates (chapter 14), on a list of runes: by a stack, and by counting.
-/
import Derived.Laws.CopyOwn
set_option linter.unusedVariables false
namespace Go.Proofs.YtbofjefblhnkoaaGreatDoor.Rw

/-- Where the row of an offset begins. -/
def beg (t : List Int) : Nat → Nat
  | 0 => 0
  | n + 1 => if t[n]? = some 10 then n + 1 else beg t n
theorem beg_stop {t : List Int} {n : Nat} (h : t[n]? = some 10) : beg t (n + 1) = n + 1 := by simp [beg, h]
theorem beg_step {t : List Int} {n : Nat} (h : t[n]? ≠ some 10) : beg t (n + 1) = beg t n := by simp [beg, h]
theorem beg_le (t : List Int) : ∀ n, beg t n ≤ n
  | 0 => Nat.le_refl _
  | n + 1 => by
    by_cases h : t[n]? = some 10
    · rw [beg_stop h]; exact Nat.le_refl _
    · rw [beg_step h]; have := beg_le t n; omega
theorem beg_ahead (t : List Int) : ∀ n, beg t n = 0 ∨ t[beg t n - 1]? = some 10
  | 0 => .inl rfl
  | n + 1 => by
    by_cases h : t[n]? = some 10
    · rw [beg_stop h]; right; simpa using h
    · rw [beg_step h]; exact beg_ahead t n
theorem beg_beg (t : List Int) (n : Nat) : beg t (beg t n) = beg t n := by
  rcases beg_ahead t n with h | h
  · rw [h]; rfl
  · by_cases h0 : beg t n = 0
    · rw [h0]; rfl
    · obtain ⟨k, hk⟩ : ∃ k, beg t n = k + 1 := ⟨beg t n - 1, by omega⟩
      rw [hk] at h ⊢
      exact beg_stop (by simpa using h)
/-- No newline between a row's begin and the offset. -/
theorem beg_none (t : List Int) : ∀ n j, beg t n ≤ j → j < n → t[j]? ≠ some 10
  | 0, j, _, h => by omega
  | n + 1, j, h1, h2 => by
    by_cases h : t[n]? = some 10
    · rw [beg_stop h] at h1; omega
    · rw [beg_step h] at h1
      by_cases hj : j = n
      · subst hj; exact h
      · exact beg_none t n j h1 (by omega)
theorem beg_of (t : List Int) (b n : Nat) (hb : beg t b = b) (hbn : b ≤ n) (h : ∀ j, b ≤ j → j < n → t[j]? ≠ some 10) : beg t n = b := by
  induction n with
  | zero => have : b = 0 := by omega
            subst this; rfl
  | succ n ih =>
    by_cases hn : b = n + 1
    · subst hn; exact hb
    · rw [beg_step (h n (by omega) (by omega))]
      exact ih (by omega) fun j h1 h2 => h j h1 (by omega)

def lenTo : List Int → Nat
  | [] => 0
  | c :: r => if c = 10 then 0 else lenTo r + 1
/-- Where the row of an offset ends. -/
def en (t : List Int) (at' : Nat) : Nat := at' + lenTo (t.drop at')
theorem drop_cons {t : List Int} {k : Nat} {c : Int} (h : t[k]? = some c) : t.drop k = c :: t.drop (k + 1) := by
  obtain ⟨hk, he⟩ := List.getElem?_eq_some_iff.1 h
  rw [List.drop_eq_getElem_cons hk, he]
theorem en_stop {t : List Int} {k : Nat} (h : t[k]? = some 10) : en t k = k := by
  unfold en
  rw [drop_cons h]
  simp [lenTo]
theorem en_end {t : List Int} {k : Nat} (h : t.length ≤ k) : en t k = k := by
  unfold en
  rw [List.drop_eq_nil_of_le h]
  rfl
theorem en_step {t : List Int} {k : Nat} {c : Int} (h : t[k]? = some c) (hc : c ≠ 10) : en t (k + 1) = en t k := by
  unfold en
  rw [drop_cons h]
  simp [lenTo, hc]
  omega
theorem en_ge (t : List Int) (k : Nat) : k ≤ en t k := by unfold en; omega
theorem lenTo_le : ∀ l : List Int, lenTo l ≤ l.length
  | [] => Nat.le_refl _
  | c :: r => by
    have := lenTo_le r
    unfold lenTo
    split <;> simp <;> omega
theorem en_le (t : List Int) (k : Nat) (h : k ≤ t.length) : en t k ≤ t.length := by
  have := lenTo_le (t.drop k)
  rw [List.length_drop] at this
  unfold en
  omega
theorem lenTo_at : ∀ l : List Int, lenTo l < l.length → l[lenTo l]? = some 10
  | [], h => by simp at h
  | c :: r, h => by
    unfold lenTo at h ⊢
    by_cases hc : c = 10
    · rw [if_pos hc]; simp [hc]
    · rw [if_neg hc] at h ⊢
      have := lenTo_at r (by simp at h; omega)
      simpa using this
theorem en_at (t : List Int) (k : Nat) (h : en t k < t.length) : t[en t k]? = some 10 := by
  unfold en at h ⊢
  have := lenTo_at (t.drop k) (by rw [List.length_drop]; omega)
  rwa [List.getElem?_drop] at this
theorem lenTo_none : ∀ (l : List Int) (j : Nat), j < lenTo l → l[j]? ≠ some 10
  | [], j, h => by simp [lenTo] at h
  | c :: r, j, h => by
    unfold lenTo at h
    by_cases hc : c = 10
    · rw [if_pos hc] at h; omega
    · rw [if_neg hc] at h
      match j with
      | 0 => simp [hc]
      | j + 1 => simpa using lenTo_none r j (by omega)
theorem en_none (t : List Int) (k j : Nat) (h1 : k ≤ j) (h2 : j < en t k) : t[j]? ≠ some 10 := by
  unfold en at h2
  have := lenTo_none (t.drop k) (j - k) (by omega)
  rwa [List.getElem?_drop, show k + (j - k) = j by omega] at this
theorem en_of (t : List Int) (k e : Nat) (hk : k ≤ e) (he : en t e = e) (h : ∀ j, k ≤ j → j < e → t[j]? ≠ some 10) (hl : e ≤ t.length) : en t k = e := by
  obtain ⟨d, rfl⟩ : ∃ d, e = k + d := ⟨e - k, by omega⟩
  clear hk
  induction d generalizing k with
  | zero => exact he
  | succ d ih =>
    have hlt : k < t.length := by omega
    have hc : t[k]? = some t[k] := List.getElem?_eq_getElem hlt
    have hne : t[k] ≠ 10 := fun e => h k (Nat.le_refl _) (by omega) (by rw [hc, e])
    rw [← en_step hc hne]
    have := ih (k + 1) (by rw [show k + 1 + d = k + (d + 1) by omega]; exact he) (fun j h1 h2 => h j (by omega) (by omega)) (by omega)
    rw [this]; omega
theorem en_beg (t : List Int) (k : Nat) (h : k ≤ t.length) : en t (beg t k) = en t k := by
  refine en_of t (beg t k) (en t k) (Nat.le_trans (beg_le t k) (en_ge t k)) ?_ (fun j h1 h2 => ?_) (en_le t k h)
  · by_cases hl : en t k < t.length
    · exact en_stop (en_at t k hl)
    · exact en_end (by omega)
  · by_cases hj : j < k
    · exact beg_none t k j h1 hj
    · exact en_none t k j (by omega) h2
theorem beg_en (t : List Int) (k : Nat) : beg t (en t k) = beg t k := by
  refine beg_of t (beg t k) (en t k) (beg_beg t k) (Nat.le_trans (beg_le t k) (en_ge t k)) fun j h1 h2 => ?_
  by_cases hj : j < k
  · exact beg_none t k j h1 hj
  · exact en_none t k j (by omega) h2

/-- The class of a rune. -/
def cls (r : Int) : Int := if r = 32 ∨ r = 9 then 0 else if (97 ≤ r ∧ r ≤ 122) ∨ (65 ≤ r ∧ r ≤ 90) ∨ (48 ≤ r ∧ r ≤ 57) ∨ r = 95 ∨ 128 ≤ r then 1 else 2
def lenBl : List Int → Nat
  | [] => 0
  | c :: r => if c ≠ 10 ∧ cls c = 0 then lenBl r + 1 else 0
/-- The first rune from an offset on, within its row, that is no blank; or the row's end. -/
def skp (t : List Int) (k : Nat) : Nat := k + lenBl (t.drop k)
theorem skp_end {t : List Int} {k : Nat} (h : t.length ≤ k) : skp t k = k := by
  unfold skp
  rw [List.drop_eq_nil_of_le h]
  rfl
theorem skp_stop {t : List Int} {k : Nat} {c : Int} (h : t[k]? = some c) (hc : c = 10 ∨ cls c ≠ 0) : skp t k = k := by
  unfold skp
  rw [drop_cons h]
  have : ¬ (c ≠ 10 ∧ cls c = 0) := by omega
  simp only [lenBl, if_neg this, Nat.add_zero]
theorem skp_step {t : List Int} {k : Nat} {c : Int} (h : t[k]? = some c) (h1 : c ≠ 10) (h2 : cls c = 0) : skp t (k + 1) = skp t k := by
  unfold skp
  rw [drop_cons h]
  simp only [lenBl, if_pos (And.intro h1 h2)]
  omega
theorem lenBl_le : ∀ l : List Int, lenBl l ≤ lenTo l
  | [] => Nat.le_refl _
  | c :: r => by
    have := lenBl_le r
    unfold lenBl lenTo
    by_cases h : c = 10
    · simp [h]
    · by_cases h2 : cls c = 0
      · simp [h, h2, this]
      · simp [h, h2]
theorem skp_ge (t : List Int) (k : Nat) : k ≤ skp t k := by unfold skp; omega
theorem skp_le (t : List Int) (k : Nat) : skp t k ≤ en t k := by
  have := lenBl_le (t.drop k)
  unfold skp en
  omega
/-- First of the row of an offset. -/
def fst (t : List Int) (k : Nat) : Nat := skp t (beg t k)
theorem fst_ge (t : List Int) (k : Nat) : beg t k ≤ fst t k := skp_ge _ _
theorem fst_le (t : List Int) (k : Nat) (h : k ≤ t.length) : fst t k ≤ en t k := by
  have := skp_le t (beg t k)
  rwa [en_beg t k h] at this

/-- The begin of the row so many below. -/
def dn (t : List Int) : Nat → Nat → Option Nat
  | k, 0 => some (beg t k)
  | k, n + 1 => if en t k = t.length then none else dn t (en t k + 1) n
/-- The begin of the row so many above. -/
def up (t : List Int) : Nat → Nat → Option Nat
  | k, 0 => some (beg t k)
  | k, n + 1 => if beg t k = 0 then none else up t (beg t k - 1) n
theorem dn_beg (t : List Int) (k : Nat) (h : k ≤ t.length) (n : Nat) : dn t (beg t k) n = dn t k n := by
  cases n with
  | zero => simp [dn, beg_beg]
  | succ n => simp [dn, en_beg t k h]
theorem dn_some (t : List Int) : ∀ (n k x : Nat), k ≤ t.length → dn t k n = some x → x ≤ t.length ∧ beg t x = x ∧ (0 < n → k + n ≤ x)
  | 0, k, x, hk, h => by
    simp only [dn, Option.some.injEq] at h
    subst h
    exact ⟨Nat.le_trans (beg_le t k) hk, beg_beg t k, fun h => by omega⟩
  | n + 1, k, x, hk, h => by
    unfold dn at h
    by_cases he : en t k = t.length
    · simp [he] at h
    · rw [if_neg he] at h
      have hl := en_le t k hk
      have hg := en_ge t k
      obtain ⟨h1, h2, h3⟩ := dn_some t n (en t k + 1) x (by omega) h
      refine ⟨h1, h2, fun _ => ?_⟩
      cases n with
      | zero =>
        simp only [dn, Option.some.injEq] at h
        subst h
        rw [beg_stop (en_at t k (by omega))]
        omega
      | succ n => have := h3 (by omega); omega
theorem up_some (t : List Int) : ∀ (n k x : Nat), up t k n = some x → x ≤ k ∧ beg t x = x
  | 0, k, x, h => by
    simp only [up, Option.some.injEq] at h
    subst h
    exact ⟨beg_le t k, beg_beg t k⟩
  | n + 1, k, x, h => by
    unfold up at h
    by_cases he : beg t k = 0
    · simp [he] at h
    · rw [if_neg he] at h
      obtain ⟨h1, h2⟩ := up_some t n _ x h
      have := beg_le t k
      exact ⟨by omega, h2⟩
/-- So many rows below, as far as there are rows. -/
def wd (t : List Int) : Nat → Nat → Nat
  | k, 0 => k
  | k, n + 1 => match dn t k 1 with
    | none => k
    | some x => wd t x n
theorem dn_one (t : List Int) (k : Nat) (h : k ≤ t.length) : dn t k 1 = if en t k = t.length then none else some (en t k + 1) := by
  by_cases he : en t k = t.length
  · simp [dn, he]
  · have hl := en_le t k h
    simp only [dn, if_neg he, beg_stop (en_at t k (by omega))]
theorem wd_dn (t : List Int) : ∀ (n k : Nat), k ≤ t.length → beg t k = k → wd t k n = (match dn t k n with | none => beg t t.length | some x => x)
  | 0, k, h, hb => by simp [wd, dn, hb]
  | n + 1, k, h, hb => by
    unfold wd
    rw [dn_one t k h]
    by_cases he : en t k = t.length
    · simp only [he, if_true, dn]
      have := beg_en t k
      rw [he] at this
      rw [this, hb]
    · have hl := en_le t k h
      have hx := wd_dn t n (en t k + 1) (by omega) (beg_stop (en_at t k (by omega)))
      simp only [if_neg he, dn]
      exact hx
theorem wd_le (t : List Int) (n k : Nat) (h : k ≤ t.length) (hb : beg t k = k) : wd t k n ≤ t.length := by
  rw [wd_dn t n k h hb]
  split
  · exact beg_le _ _
  · rename_i x hx; exact (dn_some t n k x h hx).1
theorem wd_far (t : List Int) (k : Nat) (h : k ≤ t.length) (hb : beg t k = k) : wd t k t.length = beg t t.length := by
  rw [wd_dn t _ k h hb]
  split
  · rfl
  · rename_i x hx
    obtain ⟨h1, h2, h3⟩ := dn_some t _ k x h hx
    by_cases h0 : t.length = 0
    · have : x = 0 := by omega
      subst this; rw [h0]; rfl
    · have := h3 (by omega)
      have : x = t.length := by omega
      rw [← this, h2]
/-- The row so many below (by is positive) or above (by is negative). -/
def go (t : List Int) (k : Nat) (by' : Int) : Option Nat := if 0 ≤ by' then dn t k by'.toNat else up t k (-by').toNat
theorem go_le {t : List Int} {k x : Nat} {b : Int} (h : k ≤ t.length) (hx : go t k b = some x) : x ≤ t.length := by
  unfold go at hx
  split at hx
  · exact (dn_some t _ k x h hx).1
  · have := (up_some t _ k x hx).1; omega
theorem go_beg {t : List Int} {k x : Nat} {b : Int} (h : k ≤ t.length) (hx : go t k b = some x) : beg t x = x := by
  unfold go at hx
  split at hx
  · exact (dn_some t _ k x h hx).2.1
  · exact (up_some t _ k x hx).2
end Go.Proofs.YtbofjefblhnkoaaGreatDoor.Rw
namespace Go.Proofs.YtbofjefblhnkoaaGreatDoor.Rw

/-- The row with that number, from 1 on; the last one, if there are fewer. -/
def nth (t : List Int) (count : Nat) : Nat := fst t (wd t 0 (count - 1))
theorem nth_go (t : List Int) (c : Nat) : nth t c = (match dn t 0 (c - 1) with | none => fst t t.length | some x => fst t x) := by
  unfold nth
  rw [wd_dn t _ 0 (Nat.zero_le _) rfl]
  cases dn t 0 (c - 1) with
  | none => simp [fst, beg_beg]
  | some x => rfl
/-- Where a motion leads. -/
def to (t : List Int) (k : Nat) (key : Int) (count : Nat) : Option Nat :=
  let n := max count 1
  if key = 104 then (if max (beg t k) (k - n) = k then none else some (max (beg t k) (k - n)))
  else if key = 108 then (if min (en t k) (k + n) = k then none else some (min (en t k) (k + n)))
  else if key = 48 then some (beg t k)
  else if key = 94 then some (fst t k)
  else if key = 36 then (dn t k (n - 1)).map (en t)
  else if key = 106 then (dn t k n).map fun x => min (en t x) (x + (k - beg t k))
  else if key = 107 then (up t k n).map fun x => min (en t x) (x + (k - beg t k))
  else if key = 43 then (dn t k n).map (fst t)
  else if key = 45 then (up t k n).map (fst t)
  else if key = 95 then (dn t k (n - 1)).map (fst t)
  else if key = 71 then some (if count = 0 then fst t t.length else nth t count)
  else some (if count = 0 then fst t 0 else nth t count)
/-- Its kind. -/
def kd (key : Int) : Int := if key = 104 ∨ key = 108 ∨ key = 48 ∨ key = 94 then 0 else if key = 36 then 1 else 2
/-- Is it a key of these? -/
def Line (key : Int) : Prop := key = 104 ∨ key = 108 ∨ key = 48 ∨ key = 94 ∨ key = 36 ∨ key = 106 ∨ key = 107 ∨ key = 43 ∨ key = 45 ∨ key = 95 ∨ key = 71 ∨ key = 16777319
instance (key : Int) : Decidable (Line key) := by unfold Line; infer_instance
theorem to_le (t : List Int) (k : Nat) (key : Int) (count : Nat) (h : k ≤ t.length) (x : Nat) (hx : to t k key count = some x) : x ≤ t.length := by
  have hb := beg_le t k
  have he := en_le t k h
  have hf := fst_le t k h
  have hend : ∀ y, y ≤ t.length → fst t y ≤ t.length := fun y hy => Nat.le_trans (fst_le t y hy) (en_le t y hy)
  have hw := wd_le t (count - 1) 0 (Nat.zero_le _) rfl
  have hd : ∀ m y, dn t k m = some y → y ≤ t.length := fun m y hy => (dn_some t m k y h hy).1
  have hu : ∀ m y, up t k m = some y → y ≤ t.length := fun m y hy => Nat.le_trans (up_some t m k y hy).1 h
  unfold to at hx
  dsimp only at hx
  by_cases c : key = 104
  · rw [if_pos c] at hx
    split at hx
    · cases hx
    · injection hx with hx; omega
  rw [if_neg c] at hx
  clear c
  by_cases c : key = 108
  · rw [if_pos c] at hx
    split at hx
    · cases hx
    · injection hx with hx; omega
  rw [if_neg c] at hx
  clear c
  by_cases c : key = 48
  · rw [if_pos c] at hx
    injection hx with hx; omega
  rw [if_neg c] at hx
  clear c
  by_cases c : key = 94
  · rw [if_pos c] at hx
    injection hx with hx; subst hx; exact hend _ h
  rw [if_neg c] at hx
  clear c
  by_cases c : key = 36
  · rw [if_pos c] at hx
    obtain ⟨y, hy, rfl⟩ := Option.map_eq_some_iff.1 hx
    exact en_le t y (hd _ y hy)
  rw [if_neg c] at hx
  clear c
  by_cases c : key = 106
  · rw [if_pos c] at hx
    obtain ⟨y, hy, rfl⟩ := Option.map_eq_some_iff.1 hx
    exact Nat.le_trans (Nat.min_le_left _ _) (en_le t y (hd _ y hy))
  rw [if_neg c] at hx
  clear c
  by_cases c : key = 107
  · rw [if_pos c] at hx
    obtain ⟨y, hy, rfl⟩ := Option.map_eq_some_iff.1 hx
    exact Nat.le_trans (Nat.min_le_left _ _) (en_le t y (hu _ y hy))
  rw [if_neg c] at hx
  clear c
  by_cases c : key = 43
  · rw [if_pos c] at hx
    obtain ⟨y, hy, rfl⟩ := Option.map_eq_some_iff.1 hx
    exact hend y (hd _ y hy)
  rw [if_neg c] at hx
  clear c
  by_cases c : key = 45
  · rw [if_pos c] at hx
    obtain ⟨y, hy, rfl⟩ := Option.map_eq_some_iff.1 hx
    exact hend y (hu _ y hy)
  rw [if_neg c] at hx
  clear c
  by_cases c : key = 95
  · rw [if_pos c] at hx
    obtain ⟨y, hy, rfl⟩ := Option.map_eq_some_iff.1 hx
    exact hend y (hd _ y hy)
  rw [if_neg c] at hx
  clear c
  have h1 := hend t.length (Nat.le_refl _)
  have h2 := hend 0 (Nat.zero_le _)
  have h3 : nth t count ≤ t.length := hend _ hw
  split at hx <;> (injection hx with hx; split at hx <;> omega)
end Go.Proofs.YtbofjefblhnkoaaGreatDoor.Rw
namespace Go.Proofs.YtbofjefblhnkoaaGreatDoor.Rw

/-- From k on, by steps of b, within low and high: where the c-th r stands. -/
def fnd (t : List Int) (low high b r : Int) : Nat → Int → Nat → Option Int
  | 0, _, _ => none
  | f + 1, k, c => if low ≤ k ∧ k < high then (if t[k.toNat]? = some r then (if c ≤ 1 then some k else fnd t low high b r f (k + b) (c - 1)) else fnd t low high b r f (k + b) c) else none
theorem fnd_out {t : List Int} {low high b r k : Int} {f c : Nat} (h : ¬ (low ≤ k ∧ k < high)) : fnd t low high b r f k c = none := by
  cases f with
  | zero => rfl
  | succ f => unfold fnd; rw [if_neg h]
theorem fnd_hit {t : List Int} {low high b r k : Int} {f c : Nat} (h : low ≤ k ∧ k < high) (hr : t[k.toNat]? = some r) (hc : c ≤ 1) : fnd t low high b r (f + 1) k c = some k := by
  unfold fnd; rw [if_pos h, if_pos hr, if_pos hc]
theorem fnd_next {t : List Int} {low high b r k : Int} {f c : Nat} (h : low ≤ k ∧ k < high) (hr : t[k.toNat]? = some r) (hc : 1 < c) : fnd t low high b r (f + 1) k c = fnd t low high b r f (k + b) (c - 1) := by
  rw [show fnd t low high b r (f + 1) k c = _ from rfl]
  unfold fnd
  rw [if_pos h, if_pos hr, if_neg (by omega)]
  cases f <;> rfl
theorem fnd_skip {t : List Int} {low high b r k : Int} {f c : Nat} (h : low ≤ k ∧ k < high) (hr : t[k.toNat]? ≠ some r) : fnd t low high b r (f + 1) k c = fnd t low high b r f (k + b) c := by
  rw [show fnd t low high b r (f + 1) k c = _ from rfl]
  unfold fnd
  rw [if_pos h, if_neg hr]
  cases f <;> rfl
theorem fnd_in {t : List Int} {low high b r : Int} : ∀ (f : Nat) (k : Int) (c : Nat) (x : Int), fnd t low high b r f k c = some x → low ≤ x ∧ x < high
  | 0, k, c, x, h => by cases h
  | f + 1, k, c, x, h => by
    by_cases hk : low ≤ k ∧ k < high
    · by_cases hr : t[k.toNat]? = some r
      · by_cases hc : c ≤ 1
        · rw [fnd_hit hk hr hc] at h
          injection h with h
          omega
        · rw [fnd_next hk hr (by omega)] at h
          exact fnd_in f _ _ x h
      · rw [fnd_skip hk hr] at h
        exact fnd_in f _ _ x h
    · rw [fnd_out hk] at h
      cases h
/-- Is it a key of these? -/
def Seek (key : Int) : Prop := key = 102 ∨ key = 70 ∨ key = 116 ∨ key = 84
instance (key : Int) : Decidable (Seek key) := by unfold Seek; infer_instance
/-- The step of a key; how far beside the rune it stands. -/
def by_ (key : Int) : Int := if key = 102 ∨ key = 116 then 1 else -1
def beside (key : Int) : Int := if key = 116 then -1 else if key = 84 then 1 else 0
/-- Where the motion leads. -/
def find (t : List Int) (k : Nat) (key r : Int) (c : Nat) : Option Int := (fnd t (beg t k) (en t k) (by_ key) r (t.length + 2) (k + by_ key) c).map (· + beside key)

/-- The next row without runes below, under one that has some; else the end. -/
def pdn (t : List Int) : Nat → Nat → Nat
  | 0, _ => t.length
  | f + 1, k => if en t k = t.length then t.length else if beg t k < en t k ∧ en t (en t k + 1) = en t k + 1 then en t k + 1 else pdn t f (en t k + 1)
/-- The next one above, over one that has some; else 0. -/
def pup (t : List Int) : Nat → Nat → Nat
  | 0, _ => 0
  | f + 1, k => if beg t k = 0 then 0 else if beg t k < en t k ∧ beg t (beg t k - 1) = beg t k - 1 then beg t k - 1 else pup t f (beg t k - 1)
theorem pdn_le (t : List Int) : ∀ f k, k ≤ t.length → pdn t f k ≤ t.length
  | 0, k, h => Nat.le_refl _
  | f + 1, k, h => by
    have he := en_le t k h
    unfold pdn
    by_cases h1 : en t k = t.length
    · rw [if_pos h1]; exact Nat.le_refl _
    · rw [if_neg h1]
      split
      · omega
      · exact pdn_le t f _ (by omega)
theorem pup_le (t : List Int) : ∀ f k, pup t f k ≤ k
  | 0, k => Nat.zero_le _
  | f + 1, k => by
    have hb := beg_le t k
    unfold pup
    split
    · omega
    · split
      · omega
      · have := pup_le t f (beg t k - 1); omega
/-- So many times. -/
def pmv (t : List Int) (g : Nat → Nat) : Nat → Nat → Nat
  | 0, k => k
  | n + 1, k => pmv t g n (g k)
end Go.Proofs.YtbofjefblhnkoaaGreatDoor.Rw
namespace Go.Proofs.YtbofjefblhnkoaaGreatDoor.Rw

theorem pdn_end {t : List Int} {f k : Nat} (h : en t k = t.length) : pdn t (f + 1) k = t.length := by unfold pdn; rw [if_pos h]
theorem pdn_hit {t : List Int} {f k : Nat} (h : en t k ≠ t.length) (h1 : beg t k < en t k) (h2 : en t (en t k + 1) = en t k + 1) : pdn t (f + 1) k = en t k + 1 := by
  unfold pdn; rw [if_neg h, if_pos ⟨h1, h2⟩]
theorem pdn_next {t : List Int} {f k : Nat} (h : en t k ≠ t.length) (h1 : ¬ (beg t k < en t k ∧ en t (en t k + 1) = en t k + 1)) : pdn t (f + 1) k = pdn t f (en t k + 1) := by
  rw [show pdn t (f + 1) k = _ from rfl]
  unfold pdn
  rw [if_neg h, if_neg h1]
  cases f <;> rfl
theorem pup_end {t : List Int} {f k : Nat} (h : beg t k = 0) : pup t (f + 1) k = 0 := by unfold pup; rw [if_pos h]
theorem pup_hit {t : List Int} {f k : Nat} (h : beg t k ≠ 0) (h1 : beg t k < en t k) (h2 : beg t (beg t k - 1) = beg t k - 1) : pup t (f + 1) k = beg t k - 1 := by
  unfold pup; rw [if_neg h, if_pos ⟨h1, h2⟩]
theorem pup_next {t : List Int} {f k : Nat} (h : beg t k ≠ 0) (h1 : ¬ (beg t k < en t k ∧ beg t (beg t k - 1) = beg t k - 1)) : pup t (f + 1) k = pup t f (beg t k - 1) := by
  rw [show pup t (f + 1) k = _ from rfl]
  unfold pup
  rw [if_neg h, if_neg h1]
  cases f <;> rfl
/-- The begin of a row ahead of another one is behind a newline: the row above ends there. -/
theorem en_above {t : List Int} {k : Nat} (h : beg t k ≠ 0) : en t (beg t k - 1) = beg t k - 1 := by
  rcases beg_ahead t k with h1 | h1
  · exact absurd h1 h
  · exact en_stop h1
theorem pmv_fix (t : List Int) (g : Nat → Nat) (e : Nat) (h : g e = e) : ∀ n, pmv t g n e = e
  | 0 => rfl
  | n + 1 => by show pmv t g n (g e) = e; rw [h]; exact pmv_fix t g e h n
theorem pmv_le (t : List Int) (g : Nat → Nat) (m : Nat) (h : ∀ k, k ≤ m → g k ≤ m) : ∀ n k, k ≤ m → pmv t g n k ≤ m
  | 0, k, hk => hk
  | n + 1, k, hk => pmv_le t g m h n (g k) (h k hk)
/-- One step of a key. -/
def pst (t : List Int) (key : Int) (k : Nat) : Nat := if key = 125 then pdn t (t.length + 1) k else pup t (t.length + 1) k
theorem pst_le (t : List Int) (key : Int) (k : Nat) (h : k ≤ t.length) : pst t key k ≤ t.length := by
  unfold pst
  split
  · exact pdn_le t _ k h
  · exact Nat.le_trans (pup_le t _ k) h
end Go.Proofs.YtbofjefblhnkoaaGreatDoor.Rw
namespace Go.Proofs.YtbofjefblhnkoaaGreatDoor.Rw

/-- The class of a rune; that of big words. -/
def clsB (big : Bool) (r : Int) : Int := if big = true ∧ cls r = 2 then 1 else cls r
theorem cls_range (r : Int) : 0 ≤ cls r ∧ cls r ≤ 2 := by unfold cls; (repeat' split) <;> omega
theorem clsB_range (big : Bool) (r : Int) : 0 ≤ clsB big r ∧ clsB big r ≤ 2 := by
  have := cls_range r
  unfold clsB
  split <;> omega
/-- A rune of a row? -/
def isR (t : List Int) (i : Nat) : Bool := match t[i]? with | some c => c != 10 | none => false
theorem isR_lt {t : List Int} {i : Nat} (h : isR t i = true) : i < t.length := by
  unfold isR at h
  by_cases hi : i < t.length
  · exact hi
  · rw [List.getElem?_eq_none (by omega)] at h; cases h
theorem isR_ne {t : List Int} {i : Nat} (h : isR t i = true) : t[i]? ≠ some 10 := by
  intro e
  unfold isR at h
  rw [e] at h
  cases h
theorem isR_of {t : List Int} {i : Nat} {c : Int} (h : t[i]? = some c) (hc : c ≠ 10) : isR t i = true := by
  unfold isR
  rw [h]
  simpa using hc
theorem isR_10 {t : List Int} {i : Nat} (h : t[i]? = some 10) : isR t i = false := by
  unfold isR
  rw [h]
  rfl
theorem isR_out {t : List Int} {i : Nat} (h : t.length ≤ i) : isR t i = false := by
  unfold isR
  rw [List.getElem?_eq_none h]
/-- May the cursor stand there? -/
def isC (t : List Int) (i : Nat) : Bool := isR t i || decide (beg t i = i)
/-- The class of a cell. -/
def at_ (t : List Int) (big : Bool) (i : Nat) : Int := if isR t i then clsB big (t.getD i 0) else 3
theorem at_range (t : List Int) (big : Bool) (i : Nat) : 0 ≤ at_ t big i ∧ at_ t big i ≤ 3 := by
  have := clsB_range big (t.getD i 0)
  unfold at_
  split <;> omega
theorem at_of {t : List Int} {i : Nat} {c : Int} (big : Bool) (h : t[i]? = some c) (hc : c ≠ 10) : at_ t big i = clsB big c := by
  unfold at_
  rw [if_pos (isR_of h hc)]
  congr 1
  simp [List.getD, h]
theorem at_no {t : List Int} {i : Nat} (big : Bool) (h : isR t i = false) : at_ t big i = 3 := by
  unfold at_
  rw [if_neg (by rw [h]; decide)]
/-- Does a word begin there? Does one end? -/
def isB (t : List Int) (big : Bool) (i : Nat) : Bool := isC t i && at_ t big i != 0 && (decide (beg t i = i) || at_ t big (i - 1) != at_ t big i)
def isE (t : List Int) (big : Bool) (i : Nat) : Bool := isC t i && at_ t big i != 0 && (!isR t i || !isR t (i + 1) || at_ t big (i + 1) != at_ t big i)
/-- Cells below an offset, in order. -/
def cel (t : List Int) (n : Nat) : List Nat := (List.range n).filter (isC t)
theorem cel_succ_yes {t : List Int} {n : Nat} (h : isC t n = true) : cel t (n + 1) = cel t n ++ [n] := by
  unfold cel
  rw [List.range_succ, List.filter_append]
  simp [h]
theorem cel_succ_no {t : List Int} {n : Nat} (h : isC t n = false) : cel t (n + 1) = cel t n := by
  unfold cel
  rw [List.range_succ, List.filter_append]
  simp [h]
theorem cel_len (t : List Int) (n : Nat) : (cel t n).length ≤ n := by
  have := List.length_filter_le (isC t) (List.range n)
  simpa [cel] using this
theorem mem_cel {t : List Int} {n i : Nat} : i ∈ cel t n ↔ i < n ∧ isC t i = true := by
  unfold cel
  simp
theorem range_sorted (n : Nat) : (List.range n).Pairwise (· < ·) := List.pairwise_lt_range
theorem cel_sorted (t : List Int) (n : Nat) : (cel t n).Pairwise (· < ·) := (range_sorted n).filter _
theorem isC_zero (t : List Int) : isC t 0 = true := by unfold isC; simp [beg]
/-- The first cell is 0. -/
theorem cel_zero (t : List Int) (n : Nat) : (cel t (n + 1))[0]? = some 0 := by
  induction n with
  | zero => simp [cel, isC_zero]
  | succ n ih =>
    cases h : isC t (n + 1) with
    | true =>
      rw [cel_succ_yes h, List.getElem?_append_left]
      · exact ih
      · by_cases hl : 0 < (cel t (n + 1)).length
        · exact hl
        · rw [List.getElem?_eq_none (by omega)] at ih; cases ih
    | false => rw [cel_succ_no h]; exact ih
/-- The last cell. -/
def lst (t : List Int) : Nat := (cel t (t.length + 1)).getLastD 0
/-- Neighbours: the cell behind a rune of a row, if there is one in the row, is the next cell. -/
theorem cel_next {t : List Int} {n k i : Nat} (h : (cel t n)[k]? = some i) (hn : i + 1 < n) (hc : isC t (i + 1) = true) : (cel t n)[k + 1]? = some (i + 1) := by
  induction n with
  | zero => omega
  | succ n ih =>
    cases hc' : isC t n with
    | true =>
      rw [cel_succ_yes hc'] at h ⊢
      by_cases hk : k < (cel t n).length
      · rw [List.getElem?_append_left hk] at h
        by_cases hi : i + 1 < n
        · have := ih h hi
          have hl : k + 1 < (cel t n).length := by
            by_cases hl : k + 1 < (cel t n).length
            · exact hl
            · rw [List.getElem?_eq_none (by omega)] at this; cases this
          rw [List.getElem?_append_left hl]
          exact this
        · have hin : i + 1 = n := by
            have := (mem_cel.1 (List.mem_of_getElem? h)).1
            omega
          have hlen : (cel t n).length = k + 1 := by
            have hn1 : n = i + 1 := hin.symm
            subst hn1
            have hci := (mem_cel.1 (List.mem_of_getElem? h)).2
            rw [cel_succ_yes hci] at h hk ⊢
            simp only [List.length_append, List.length_singleton] at hk ⊢
            by_cases hk2 : k < (cel t i).length
            · rw [List.getElem?_append_left hk2] at h
              have := (mem_cel.1 (List.mem_of_getElem? h)).1
              omega
            · omega
          rw [← hlen, List.getElem?_append_right (Nat.le_refl _)]
          simp [hin]
      · have hin : i = n := by
          rw [List.getElem?_append_right (by omega)] at h
          have := List.mem_of_getElem? h
          simpa using this
        omega
    | false =>
      rw [cel_succ_no hc'] at h ⊢
      have : i + 1 ≠ n := fun e => by rw [e, hc'] at hc; cases hc
      exact ih h (by omega)
theorem cel_lt {t : List Int} {n j k a b : Nat} (hj : (cel t n)[j]? = some a) (hk : (cel t n)[k]? = some b) (hjk : j < k) : a < b := by
  have hs := cel_sorted t n
  rw [List.pairwise_iff_getElem] at hs
  obtain ⟨h1, e1⟩ := List.getElem?_eq_some_iff.1 hj
  obtain ⟨h2, e2⟩ := List.getElem?_eq_some_iff.1 hk
  have := hs j k h1 h2 hjk
  omega

/-- The least stop behind an offset, else the last cell; the greatest one ahead of it, else 0. -/
def nx (S : List Nat) (L x : Nat) : Nat := (S.find? (fun a => decide (x < a))).getD L
def pv (S : List Nat) (x : Nat) : Nat := ((S.filter (fun a => decide (a < x))).getLast?).getD 0
/-- So many times. -/
def its (f : Nat → Nat) : Nat → Nat → Nat
  | 0, x => x
  | c + 1, x => its f c (f x)
theorem its_same {f : Nat → Nat} {x : Nat} (h : f x = x) : ∀ c, its f c x = x
  | 0 => rfl
  | c + 1 => by
    unfold its
    rw [h]
    exact its_same h c
theorem nx_of (S : List Nat) (L x m : Nat) (h : ∀ j a, S[j]? = some a → (j < m ↔ a ≤ x)) (hm : m ≤ S.length) : nx S L x = (S[m]?).getD L := by
  unfold nx
  induction S generalizing m with
  | nil => rfl
  | cons a S ih =>
    have h0 := h 0 a rfl
    by_cases hx : x < a
    · have : m = 0 := by omega
      subst this
      rw [List.find?_cons_of_pos (by simpa using hx)]
      rfl
    · obtain ⟨m', rfl⟩ : ∃ m', m = m' + 1 := ⟨m - 1, by omega⟩
      rw [List.find?_cons_of_neg (by simpa using hx)]
      rw [ih m' (fun j b hj => by have := h (j + 1) b (by simpa using hj); omega) (by simp at hm; omega)]
      simp
theorem its_nx (S : List Nat) (L : Nat) (hs : S.Pairwise (· < ·)) (hL : ∀ a ∈ S, a ≤ L) : ∀ (c x m : Nat), (∀ j a, S[j]? = some a → (j < m ↔ a ≤ x)) → m ≤ S.length → its (nx S L) (c + 1) x = (S[m + c]?).getD L
  | 0, x, m, h, hm => by
    show nx S L x = _
    rw [nx_of S L x m h hm]
    rfl
  | c + 1, x, m, h, hm => by
    show its (nx S L) (c + 1) (nx S L x) = _
    rw [nx_of S L x m h hm]
    by_cases hl : m < S.length
    · have e : S[m]? = some S[m] := List.getElem?_eq_getElem hl
      rw [e]
      show its (nx S L) (c + 1) S[m] = _
      rw [its_nx S L hs hL c S[m] (m + 1) (fun j a hj => ?_) (by omega), show m + 1 + c = m + (c + 1) by omega]
      obtain ⟨h1, h2⟩ := List.getElem?_eq_some_iff.1 hj
      have hp := List.pairwise_iff_getElem.1 hs
      rcases Nat.lt_trichotomy j m with h3 | h3 | h3
      · have := hp j m h1 hl h3; omega
      · subst h3; omega
      · have := hp m j hl h1 h3; omega
    · have hm' : m = S.length := by omega
      subst hm'
      rw [List.getElem?_eq_none (Nat.le_refl _), List.getElem?_eq_none (by omega)]
      show its (nx S L) (c + 1) L = L
      rw [its_nx S L hs hL c L S.length (fun j a hj => ?_) (Nat.le_refl _), List.getElem?_eq_none (by omega)]
      · rfl
      · have h1 := (List.getElem?_eq_some_iff.1 hj).1
        have := hL a (List.mem_of_getElem? hj)
        omega
theorem pv_of (S : List Nat) (x m : Nat) (h : ∀ j a, S[j]? = some a → (j < m ↔ a < x)) (hm : m ≤ S.length) : pv S x = if m = 0 then 0 else (S[m - 1]?).getD 0 := by
  have hf : S.filter (fun a => decide (a < x)) = S.take m := by
    clear hm
    induction S generalizing m with
    | nil => simp
    | cons a S ih =>
      have h0 := h 0 a rfl
      by_cases hx : a < x
      · obtain ⟨m', rfl⟩ : ∃ m', m = m' + 1 := ⟨m - 1, by omega⟩
        rw [List.filter_cons_of_pos (by simpa using hx), List.take_succ_cons, ih m' (fun j b hj => by have := h (j + 1) b (by simpa using hj); omega)]
      · have : m = 0 := by omega
        subst this
        rw [List.filter_cons_of_neg (by simpa using hx), ih 0 (fun j b hj => by have := h (j + 1) b (by simpa using hj); omega)]
        rfl
  unfold pv
  rw [hf]
  by_cases h0 : m = 0
  · subst h0; simp
  · rw [if_neg h0, List.getLast?_eq_getElem?, List.length_take, Nat.min_eq_left hm, List.getElem?_take, if_pos (by omega)]
theorem its_pv (S : List Nat) (hs : S.Pairwise (· < ·)) : ∀ (c x m : Nat), (∀ j a, S[j]? = some a → (j < m ↔ a < x)) → m ≤ S.length → its (pv S) (c + 1) x = if c + 1 ≤ m then (S[m - (c + 1)]?).getD 0 else 0
  | 0, x, m, h, hm => by
    show pv S x = _
    rw [pv_of S x m h hm]
    by_cases h0 : m = 0
    · rw [if_pos h0, if_neg (by omega)]
    · rw [if_neg h0, if_pos (by omega)]
  | c + 1, x, m, h, hm => by
    show its (pv S) (c + 1) (pv S x) = _
    rw [pv_of S x m h hm]
    by_cases h0 : m = 0
    · rw [if_pos h0, its_pv S hs c 0 0 (fun j a _ => by omega) (Nat.zero_le _), if_neg (by omega), if_neg (by omega)]
    · have hl : m - 1 < S.length := by omega
      have e : S[m - 1]? = some S[m - 1] := List.getElem?_eq_getElem hl
      rw [if_neg h0, e]
      show its (pv S) (c + 1) S[m - 1] = _
      rw [its_pv S hs c S[m - 1] (m - 1) (fun j a hj => ?_) (by omega)]
      · by_cases hc : c + 1 ≤ m - 1
        · rw [if_pos hc, if_pos (by omega), show m - 1 - (c + 1) = m - (c + 1 + 1) by omega]
        · rw [if_neg hc, if_neg (by omega)]
      · obtain ⟨h1, h2⟩ := List.getElem?_eq_some_iff.1 hj
        have hp := List.pairwise_iff_getElem.1 hs
        rcases Nat.lt_trichotomy j (m - 1) with h3 | h3 | h3
        · have := hp j (m - 1) h1 hl h3; omega
        · subst h3; omega
        · have := hp (m - 1) j hl h1 h3; omega
/-- The stops of a key: 'e' and 'E' ask for ends. -/
def stp (t : List Int) (big e : Bool) : List Nat := (cel t (t.length + 1)).filter (fun i => if e then isE t big i else isB t big i)
theorem stp_sorted (t : List Int) (big e : Bool) : (stp t big e).Pairwise (· < ·) := (cel_sorted t _).filter _
theorem getLastD_mem {l : List Nat} {d a : Nat} (hs : l.Pairwise (· < ·)) (h : a ∈ l) : a ≤ l.getLastD d := by
  induction l generalizing a d with
  | nil => cases h
  | cons b l ih =>
    rw [List.getLastD_cons]
    rw [List.pairwise_cons] at hs
    rcases List.mem_cons.1 h with rfl | h
    · cases l with
      | nil => exact Nat.le_refl _
      | cons c l =>
        have h1 := hs.1 c (by simp)
        have h2 := ih (d := a) hs.2 (show c ∈ c :: l from List.mem_cons_self)
        omega
    · exact ih hs.2 h
theorem stp_le (t : List Int) (big e : Bool) : ∀ a ∈ stp t big e, a ≤ lst t := fun a ha => getLastD_mem (cel_sorted t _) (List.mem_filter.1 ha).1
/-- Is it a key of these? A big one? One that goes ahead? To ends? -/
def Word (key : Int) : Prop := key = 119 ∨ key = 98 ∨ key = 101 ∨ key = 87 ∨ key = 66 ∨ key = 69
instance (key : Int) : Decidable (Word key) := by unfold Word; infer_instance
def bigK (key : Int) : Bool := decide (key < 97)
/-- Where one step leads. -/
def one (t : List Int) (key : Int) (x : Nat) : Nat :=
  if key = 98 ∨ key = 66 then pv (stp t (bigK key) false) x else nx (stp t (bigK key) (decide (key = 101 ∨ key = 69))) (lst t) x
def wgo (t : List Int) (k : Nat) (key : Int) (c : Nat) : Nat := its (one t key) c k
/-- The answer: none where it stays. -/
def wmv (t : List Int) (k : Nat) (key : Int) (c : Nat) : Option Int := if wgo t k key c = k then none else some (wgo t k key c)
end Go.Proofs.YtbofjefblhnkoaaGreatDoor.Rw
namespace Go.Proofs.YtbofjefblhnkoaaGreatDoor.Rw

def opn : Nat → Int
  | 0 => 40
  | 1 => 91
  | _ => 123
def sht : Nat → Int
  | 0 => 41
  | 1 => 93
  | _ => 125
theorem opn_sht (k k' : Nat) : opn k ≠ sht k' := by
  unfold opn sht
  split <;> split <;> decide
theorem opn_inj {k k' : Nat} (hk : k < 3) (hk' : k' < 3) (h : opn k = opn k') : k = k' := by
  match k, hk, k', hk', h with
  | 0, _, 0, _, _ => rfl
  | 1, _, 1, _, _ => rfl
  | 2, _, 2, _, _ => rfl
  | 0, _, 1, _, h => simp [opn] at h
  | 0, _, 2, _, h => simp [opn] at h
  | 1, _, 0, _, h => simp [opn] at h
  | 1, _, 2, _, h => simp [opn] at h
  | 2, _, 0, _, h => simp [opn] at h
  | 2, _, 1, _, h => simp [opn] at h
theorem sht_inj {k k' : Nat} (hk : k < 3) (hk' : k' < 3) (h : sht k = sht k') : k = k' := by
  match k, hk, k', hk', h with
  | 0, _, 0, _, _ => rfl
  | 1, _, 1, _, _ => rfl
  | 2, _, 2, _, _ => rfl
  | 0, _, 1, _, h => simp [sht] at h
  | 0, _, 2, _, h => simp [sht] at h
  | 1, _, 0, _, h => simp [sht] at h
  | 1, _, 2, _, h => simp [sht] at h
  | 2, _, 0, _, h => simp [sht] at h
  | 2, _, 1, _, h => simp [sht] at h
/-- The kind of an opening bracket; of a closing one. -/
def kdo (c : Int) : Option Nat := if c = 40 then some 0 else if c = 91 then some 1 else if c = 123 then some 2 else none
def kds (c : Int) : Option Nat := if c = 41 then some 0 else if c = 93 then some 1 else if c = 125 then some 2 else none
theorem kdo_some {c : Int} {k : Nat} (h : kdo c = some k) : c = opn k ∧ k < 3 := by
  unfold kdo at h
  split at h
  · injection h with h; subst h; exact ⟨by assumption, by omega⟩
  split at h
  · injection h with h; subst h; exact ⟨by assumption, by omega⟩
  split at h
  · injection h with h; subst h; exact ⟨by assumption, by omega⟩
  · cases h
theorem kds_some {c : Int} {k : Nat} (h : kds c = some k) : c = sht k ∧ k < 3 := by
  unfold kds at h
  split at h
  · injection h with h; subst h; exact ⟨by assumption, by omega⟩
  split at h
  · injection h with h; subst h; exact ⟨by assumption, by omega⟩
  split at h
  · injection h with h; subst h; exact ⟨by assumption, by omega⟩
  · cases h
theorem kdo_opn {k : Nat} (h : k < 3) : kdo (opn k) = some k := by
  match k, h with
  | 0, _ => rfl
  | 1, _ => rfl
  | 2, _ => rfl
theorem kds_sht {k : Nat} (h : k < 3) : kds (sht k) = some k := by
  match k, h with
  | 0, _ => rfl
  | 1, _ => rfl
  | 2, _ => rfl
theorem kdo_none {c : Int} (h : kdo c = none) (k : Nat) : c ≠ opn k := by
  rintro rfl
  unfold kdo opn at h
  revert h
  split <;> decide
theorem kds_none {c : Int} (h : kds c = none) (k : Nat) : c ≠ sht k := by
  rintro rfl
  unfold kds sht at h
  revert h
  split <;> decide
theorem kdo_sht (k : Nat) : kdo (sht k) = none := by
  unfold kdo sht
  split <;> decide
/-- The brackets of a kind that stand open ahead of an offset, the last one first. -/
def stk (t : List Int) (k : Nat) : Nat → List Nat
  | 0 => []
  | i + 1 => if t[i]? = some (opn k) then i :: stk t k i else if t[i]? = some (sht k) then (stk t k i).tail else stk t k i
theorem stk_open {t : List Int} {k i : Nat} (h : t[i]? = some (opn k)) : stk t k (i + 1) = i :: stk t k i := by simp [stk, h]
theorem stk_shut {t : List Int} {k i : Nat} (h : t[i]? = some (sht k)) : stk t k (i + 1) = (stk t k i).tail := by
  have : t[i]? ≠ some (opn k) := by rw [h]; intro e; injection e with e; exact opn_sht k k e.symm
  rw [stk, if_neg this, if_pos h]
theorem stk_else {t : List Int} {k i : Nat} (h1 : t[i]? ≠ some (opn k)) (h2 : t[i]? ≠ some (sht k)) : stk t k (i + 1) = stk t k i := by
  rw [stk, if_neg h1, if_neg h2]
theorem stk_mem {t : List Int} {k : Nat} : ∀ j p, p ∈ stk t k j → p < j ∧ t[p]? = some (opn k)
  | 0, p, h => by simp [stk] at h
  | j + 1, p, h => by
    by_cases h1 : t[j]? = some (opn k)
    · rw [stk_open h1] at h
      rcases List.mem_cons.1 h with rfl | h
      · exact ⟨by omega, h1⟩
      · have := stk_mem j p h
        exact ⟨by omega, this.2⟩
    · by_cases h2 : t[j]? = some (sht k)
      · rw [stk_shut h2] at h
        have := stk_mem j p (List.mem_of_mem_tail h)
        exact ⟨by omega, this.2⟩
      · rw [stk_else h1 h2] at h
        have := stk_mem j p h
        exact ⟨by omega, this.2⟩
theorem stk_len (t : List Int) (k j : Nat) : (stk t k j).length ≤ j := by
  induction j with
  | zero => simp [stk]
  | succ j ih =>
    by_cases h1 : t[j]? = some (opn k)
    · rw [stk_open h1]; simp; omega
    · by_cases h2 : t[j]? = some (sht k)
      · rw [stk_shut h2, List.length_tail]; omega
      · rw [stk_else h1 h2]; omega
theorem stk_nodup (t : List Int) (k : Nat) : ∀ j, (stk t k j).Nodup
  | 0 => by simp [stk]
  | j + 1 => by
    by_cases h1 : t[j]? = some (opn k)
    · rw [stk_open h1, List.nodup_cons]
      exact ⟨fun h => by have := (stk_mem j j h).1; omega, stk_nodup t k j⟩
    · by_cases h2 : t[j]? = some (sht k)
      · rw [stk_shut h2]
        have := stk_nodup t k j
        cases hs : stk t k j with
        | nil => simp
        | cons a l => rw [hs] at this; simpa using (List.nodup_cons.1 this).2
      · rw [stk_else h1 h2]
        exact stk_nodup t k j
/-- Counting to the right, from an offset, so deep. -/
def fsc (t : List Int) (k : Nat) : Nat → Nat → Nat → Option Nat
  | 0, _, _ => none
  | f + 1, j, d => if t[j]? = some (opn k) then fsc t k f (j + 1) (d + 1) else if t[j]? = some (sht k) then (if d ≤ 1 then some j else fsc t k f (j + 1) (d - 1)) else fsc t k f (j + 1) d
/-- Counting to the left, from ahead of an offset, so deep. -/
def rsc (t : List Int) (k : Nat) : Nat → Nat → Option Nat
  | 0, _ => none
  | j + 1, d => if t[j]? = some (opn k) then (if d ≤ 1 then some j else rsc t k j (d - 1)) else if t[j]? = some (sht k) then rsc t k j (d + 1) else rsc t k j d
theorem fsc_ge {t : List Int} {k : Nat} : ∀ f j d m, fsc t k f j d = some m → j ≤ m ∧ m < j + f ∧ t[m]? = some (sht k)
  | 0, j, d, m, h => by simp [fsc] at h
  | f + 1, j, d, m, h => by
    unfold fsc at h
    split at h
    · have := fsc_ge f _ _ m h; exact ⟨by omega, by omega, this.2.2⟩
    · split at h
      · split at h
        · injection h with h; subst h; exact ⟨by omega, by omega, by assumption⟩
        · have := fsc_ge f _ _ m h; exact ⟨by omega, by omega, this.2.2⟩
      · have := fsc_ge f _ _ m h; exact ⟨by omega, by omega, this.2.2⟩
theorem rsc_stk (t : List Int) (k : Nat) : ∀ j d, 1 ≤ d → rsc t k j d = (stk t k j)[d - 1]?
  | 0, d, h => by simp [rsc, stk]
  | j + 1, d, h => by
    unfold rsc
    by_cases h1 : t[j]? = some (opn k)
    · rw [if_pos h1, stk_open h1]
      by_cases hd : d ≤ 1
      · rw [if_pos hd, show d - 1 = 0 by omega]; rfl
      · rw [if_neg hd, rsc_stk t k j (d - 1) (by omega)]
        obtain ⟨e, rfl⟩ : ∃ e, d = e + 2 := ⟨d - 2, by omega⟩
        simp
    · rw [if_neg h1]
      by_cases h2 : t[j]? = some (sht k)
      · rw [if_pos h2, stk_shut h2, rsc_stk t k j (d + 1) (by omega), List.getElem?_tail]
        rw [show d + 1 - 1 = d - 1 + 1 by omega]
      · rw [if_neg h2, stk_else h1 h2, rsc_stk t k j d h]
/-- Where the mate of an opening bracket stands; of a closing one. -/
def mateO (t : List Int) (k i : Nat) : Option Nat := fsc t k (t.length - (i + 1)) (i + 1) 1
theorem mate_state {t : List Int} {k i : Nat} (hi : t[i]? = some (opn k)) : ∀ j, i < j → j ≤ t.length →
    (∃ d, 1 ≤ d ∧ (stk t k j)[d - 1]? = some i ∧ mateO t k i = fsc t k (t.length - j) j d) ∨
    (∃ m, m < j ∧ i < m ∧ mateO t k i = some m ∧ t[m]? = some (sht k) ∧ (stk t k m).head? = some i ∧ i ∉ stk t k j) := by
  intro j hij
  obtain ⟨n, rfl⟩ : ∃ n, j = i + 1 + n := ⟨j - (i + 1), by omega⟩
  clear hij
  induction n with
  | zero =>
    intro hl
    refine .inl ⟨1, by omega, ?_, rfl⟩
    rw [Nat.add_zero, stk_open hi]
    rfl
  | succ n ih =>
    intro hl
    have hlt : i + 1 + n < t.length := by omega
    obtain ⟨f, hf⟩ : ∃ f, t.length - (i + 1 + n) = f + 1 := ⟨t.length - (i + 1 + n) - 1, by omega⟩
    have hf' : t.length - (i + 1 + (n + 1)) = f := by omega
    rcases ih (by omega) with ⟨d, hd, hs, hm⟩ | ⟨m, h1, h2, h3, h4, h5, h6⟩
    · rw [hf] at hm
      rw [hf', show i + 1 + (n + 1) = i + 1 + n + 1 by omega]
      generalize i + 1 + n = j at *
      by_cases c1 : t[j]? = some (opn k)
      · refine .inl ⟨d + 1, by omega, ?_, ?_⟩
        · rw [stk_open c1]
          obtain ⟨e, rfl⟩ : ∃ e, d = e + 1 := ⟨d - 1, by omega⟩
          simpa using hs
        · rw [hm, fsc, if_pos c1]
      · by_cases c2 : t[j]? = some (sht k)
        · by_cases hd1 : d ≤ 1
          · have hd2 : d = 1 := by omega
            subst hd2
            have hh : (stk t k j).head? = some i := by rw [List.head?_eq_getElem?]; exact hs
            have hmem : i ∈ stk t k j := List.mem_of_getElem? hs
            refine .inr ⟨j, by omega, (stk_mem j i hmem).1, ?_, c2, hh, ?_⟩
            · rw [hm, fsc, if_neg c1, if_pos c2, if_pos hd1]
            · rw [stk_shut c2]
              have hnd := stk_nodup t k j
              cases hst : stk t k j with
              | nil => rw [hst] at hmem; simp at hmem
              | cons a l =>
                rw [hst] at hh hnd
                simp only [List.head?_cons, Option.some.injEq] at hh
                subst hh
                exact (List.nodup_cons.1 hnd).1
          · refine .inl ⟨d - 1, by omega, ?_, ?_⟩
            · rw [stk_shut c2, List.getElem?_tail, show d - 1 - 1 + 1 = d - 1 by omega]
              exact hs
            · rw [hm, fsc, if_neg c1, if_pos c2, if_neg hd1]
        · refine .inl ⟨d, hd, ?_, ?_⟩
          · rw [stk_else c1 c2]; exact hs
          · rw [hm, fsc, if_neg c1, if_neg c2]
    · refine .inr ⟨m, by omega, h2, h3, h4, h5, ?_⟩
      rw [show i + 1 + (n + 1) = i + 1 + n + 1 by omega]
      by_cases c1 : t[i + 1 + n]? = some (opn k)
      · rw [stk_open c1]
        intro h
        rcases List.mem_cons.1 h with h | h
        · omega
        · exact h6 h
      · by_cases c2 : t[i + 1 + n]? = some (sht k)
        · rw [stk_shut c2]
          exact fun h => h6 (List.mem_of_mem_tail h)
        · rw [stk_else c1 c2]; exact h6
/-- The mate of an opening bracket is the closing one at which it lies on top. -/
theorem mateO_iff {t : List Int} {k i j : Nat} (hi : t[i]? = some (opn k)) : mateO t k i = some j ↔ t[j]? = some (sht k) ∧ (stk t k j).head? = some i := by
  constructor
  · intro h
    obtain ⟨g1, g2, g3⟩ := fsc_ge _ _ _ _ h
    have hil : i < t.length := (List.getElem?_eq_some_iff.1 hi).1
    rcases mate_state hi (j + 1) (by omega) (by omega) with ⟨d, hd, hs, hm⟩ | ⟨m, h1, h2, h3, h4, h5, h6⟩
    · rw [hm] at h
      have := fsc_ge _ _ _ _ h
      omega
    · rw [h] at h3
      injection h3 with h3
      subst h3
      exact ⟨h4, h5⟩
  · rintro ⟨h1, h2⟩
    have hjl : j < t.length := (List.getElem?_eq_some_iff.1 h1).1
    have hmem : i ∈ stk t k j := List.mem_of_head? h2
    rcases mate_state hi j (stk_mem j i hmem).1 (by omega) with ⟨d, hd, hs, hm⟩ | ⟨m, _, _, _, _, _, h6⟩
    · rw [List.head?_eq_getElem?] at h2
      have hnd := stk_nodup t k j
      have hlen : d - 1 < (stk t k j).length := (List.getElem?_eq_some_iff.1 hs).1
      have hd1 : d - 1 = 0 := by
        exact (List.getElem?_inj hlen hnd).1 (hs.trans h2.symm)
      have hd2 : d = 1 := by omega
      subst hd2
      obtain ⟨f, hf⟩ : ∃ f, t.length - j = f + 1 := ⟨t.length - j - 1, by omega⟩
      rw [hm, hf, fsc, if_neg (by rw [h1]; intro e; injection e with e; exact opn_sht k k e.symm), if_pos h1, if_pos (by omega)]
    · exact absurd hmem h6
/-- Where the mate of a rune stands; none: it is no bracket, or has none. -/
def mate (t : List Int) (i : Nat) : Option Nat := match t[i]? with
  | none => none
  | some c => match kdo c with
    | some k => mateO t k i
    | none => match kds c with
      | some k => (stk t k i).head?
      | none => none
theorem mate_open {t : List Int} {i k : Nat} (hk : k < 3) (h : t[i]? = some (opn k)) : mate t i = mateO t k i := by simp [mate, h, kdo_opn hk]
theorem mate_shut {t : List Int} {i k : Nat} (hk : k < 3) (h : t[i]? = some (sht k)) : mate t i = (stk t k i).head? := by simp [mate, h, kdo_sht, kds_sht hk]
theorem mate_none {t : List Int} {i : Nat} {c : Int} (h : t[i]? = some c) (h1 : kdo c = none) (h2 : kds c = none) : mate t i = none := by simp [mate, h, h1, h2]
theorem mate_far {t : List Int} {i : Nat} (h : t.length ≤ i) : mate t i = none := by simp [mate, List.getElem?_eq_none h]
/-- The mate's mate. -/
theorem mate_mate {t : List Int} {i m : Nat} (h : mate t i = some m) : mate t m = some i ∧ m ≠ i ∧ m < t.length ∧ i < t.length := by
  cases hc : t[i]? with
  | none => simp [mate, hc] at h
  | some c =>
    have hil : i < t.length := (List.getElem?_eq_some_iff.1 hc).1
    cases ho : kdo c with
    | some k =>
      obtain ⟨rfl, hk⟩ := kdo_some ho
      rw [mate_open hk hc] at h
      obtain ⟨h1, h2⟩ := (mateO_iff hc).1 h
      have := (stk_mem m i (List.mem_of_head? h2)).1
      exact ⟨by rw [mate_shut hk h1]; exact h2, by omega, (List.getElem?_eq_some_iff.1 h1).1, hil⟩
    | none =>
      cases hs : kds c with
      | some k =>
        obtain ⟨rfl, hk⟩ := kds_some hs
        rw [mate_shut hk hc] at h
        obtain ⟨h1, h2⟩ := stk_mem i m (List.mem_of_head? h)
        refine ⟨?_, by omega, by omega, hil⟩
        rw [mate_open hk h2]
        exact (mateO_iff h2).2 ⟨hc, h⟩
      | none => rw [mate_none hc ho hs] at h; cases h
theorem mate_kind {t : List Int} {i m : Nat} (h : mate t i = some m) : ∃ k, k < 3 ∧ ((t[i]? = some (opn k) ∧ t[m]? = some (sht k) ∧ i < m) ∨ (t[i]? = some (sht k) ∧ t[m]? = some (opn k) ∧ m < i)) := by
  cases hc : t[i]? with
  | none => simp [mate, hc] at h
  | some c =>
    cases ho : kdo c with
    | some k =>
      obtain ⟨rfl, hk⟩ := kdo_some ho
      rw [mate_open hk hc] at h
      obtain ⟨h1, h2⟩ := (mateO_iff hc).1 h
      exact ⟨k, hk, .inl ⟨rfl, h1, (stk_mem m i (List.mem_of_head? h2)).1⟩⟩
    | none =>
      cases hs : kds c with
      | some k =>
        obtain ⟨rfl, hk⟩ := kds_some hs
        rw [mate_shut hk hc] at h
        obtain ⟨h1, h2⟩ := stk_mem i m (List.mem_of_head? h)
        exact ⟨k, hk, .inr ⟨rfl, h2, h1⟩⟩
      | none => rw [mate_none hc ho hs] at h; cases h
/-- The mates that are known behind so many runes; -1: none is. -/
def mm (t : List Int) (j i : Nat) : Int := if i < j then (match mate t i with | some m => if m < j then (m : Int) else -1 | none => -1) else 0
def mls (t : List Int) (j : Nat) : List Int := (List.range t.length).map (mm t j)
theorem mls_len (t : List Int) (j : Nat) : (mls t j).length = t.length := by simp [mls]
theorem mls_get {t : List Int} {j i : Nat} (h : i < t.length) : (mls t j)[i]? = some (mm t j i) := by simp [mls, h]
theorem mls_zero (t : List Int) : mls t 0 = List.replicate t.length 0 := by
  apply List.ext_getElem?
  intro i
  by_cases h : i < t.length
  · rw [mls_get h, List.getElem?_replicate, if_pos h]; simp [mm]
  · rw [List.getElem?_eq_none (by rw [mls_len]; omega), List.getElem?_eq_none (by simp; omega)]
/-- The mate of a rune as a number; -1: none. -/
def mt (t : List Int) (i : Nat) : Int := match mate t i with | some m => (m : Int) | none => -1
theorem mls_all {t : List Int} {i : Nat} (h : i < t.length) : (mls t t.length)[i]? = some (mt t i) := by
  rw [mls_get h]
  unfold mm mt
  rw [if_pos h]
  cases hm : mate t i with
  | none => rfl
  | some m => simp only [if_pos (mate_mate hm).2.2.1]
/-- A rune without a mate at or ahead of it. -/
theorem mls_step {t : List Int} {j : Nat} (h : j < t.length) (hj : ∀ m, mate t j = some m → j < m) : mls t (j + 1) = (mls t j).set j (-1) := by
  apply List.ext_getElem?
  intro i
  by_cases hi : i < t.length
  · rw [mls_get hi]
    by_cases e : i = j
    · subst e
      rw [List.getElem?_set_self (by rw [mls_len]; exact hi)]
      unfold mm
      rw [if_pos (by omega)]
      cases hm : mate t i with
      | none => rfl
      | some m => have := hj m hm; simp only [if_neg (show ¬ m < i + 1 by omega)]
    · rw [List.getElem?_set_ne (fun e' => e e'.symm), mls_get hi]
      unfold mm
      by_cases hij : i < j
      · rw [if_pos hij, if_pos (by omega)]
        cases hm : mate t i with
        | none => rfl
        | some m =>
          have hne : m ≠ j := by
            rintro rfl
            have := hj i (mate_mate hm).1
            omega
          by_cases hmj : m < j
          · simp only [if_pos hmj, if_pos (show m < j + 1 by omega)]
          · simp only [if_neg hmj, if_neg (show ¬ m < j + 1 by omega)]
      · rw [if_neg hij, if_neg (by omega)]
  · rw [List.getElem?_eq_none (by rw [mls_len]; omega), List.getElem?_eq_none (by rw [List.length_set, mls_len]; omega)]
/-- A closing bracket whose mate stands ahead. -/
theorem mls_pair {t : List Int} {j p : Nat} (h : j < t.length) (hj : mate t j = some p) (hp : p < j) : mls t (j + 1) = (((mls t j).set j (-1)).set j (p : Int)).set p (j : Int) := by
  have hmp := (mate_mate hj).1
  apply List.ext_getElem?
  intro i
  by_cases hi : i < t.length
  · rw [mls_get hi]
    by_cases e : i = p
    · subst e
      rw [List.getElem?_set_self (by rw [List.length_set, List.length_set, mls_len]; exact hi)]
      unfold mm
      rw [if_pos (by omega), hmp]
      simp
    · rw [List.getElem?_set_ne (fun e' => e e'.symm)]
      by_cases e2 : i = j
      · subst e2
        rw [List.getElem?_set_self (by rw [List.length_set, mls_len]; exact hi)]
        unfold mm
        rw [if_pos (by omega), hj]
        simp only [if_pos (show p < i + 1 by omega)]
      · rw [List.getElem?_set_ne (fun e' => e2 e'.symm), List.getElem?_set_ne (fun e' => e2 e'.symm), mls_get hi]
        unfold mm
        by_cases hij : i < j
        · rw [if_pos hij, if_pos (by omega)]
          cases hm : mate t i with
          | none => rfl
          | some m =>
            have hne : m ≠ j := by
              rintro rfl
              have := (mate_mate hm).1
              rw [hj] at this
              injection this with this
              exact e this.symm
            by_cases hmj : m < j
            · simp only [if_pos hmj, if_pos (show m < j + 1 by omega)]
            · simp only [if_neg hmj, if_neg (show ¬ m < j + 1 by omega)]
        · rw [if_neg hij, if_neg (by omega)]
  · rw [List.getElem?_eq_none (by rw [mls_len]; omega), List.getElem?_eq_none (by rw [List.length_set, List.length_set, List.length_set, mls_len]; omega)]
/-- A bracket? -/
def isBr (c : Int) : Bool := (kdo c).isSome || (kds c).isSome
theorem isBr_iff {c : Int} : isBr c = true ↔ c = 40 ∨ c = 91 ∨ c = 123 ∨ c = 41 ∨ c = 93 ∨ c = 125 := by
  unfold isBr kdo kds
  constructor
  · intro h
    by_cases h1 : c = 40
    · exact .inl h1
    by_cases h2 : c = 91
    · exact .inr (.inl h2)
    by_cases h3 : c = 123
    · exact .inr (.inr (.inl h3))
    by_cases h4 : c = 41
    · exact .inr (.inr (.inr (.inl h4)))
    by_cases h5 : c = 93
    · exact .inr (.inr (.inr (.inr (.inl h5))))
    by_cases h6 : c = 125
    · exact .inr (.inr (.inr (.inr (.inr h6))))
    simp [h1, h2, h3, h4, h5, h6] at h
  · rintro (rfl | rfl | rfl | rfl | rfl | rfl) <;> decide
theorem mate_nobr {t : List Int} {i : Nat} {c : Int} (h : t[i]? = some c) (hb : isBr c = false) : mate t i = none := by
  unfold isBr at hb
  rw [Bool.or_eq_false_iff] at hb
  exact mate_none h (by simpa using hb.1) (by simpa using hb.2)
/-- The first bracket's mate, from an offset on, up to another one. -/
def prm (t : List Int) (h : Nat) : Nat → Nat → Option Nat
  | 0, _ => none
  | f + 1, j => if j < h then (match t[j]? with | some c => if isBr c = true then mate t j else prm t h f (j + 1) | none => none) else none
def pair (t : List Int) (at' : Nat) : Option Nat := prm t (en t at') (t.length + 1) at'
theorem prm_out {t : List Int} {h f j : Nat} (hj : ¬ j < h) : prm t h f j = none := by
  cases f with
  | zero => rfl
  | succ f => rw [prm, if_neg hj]
theorem prm_hit {t : List Int} {h f j : Nat} {c : Int} (hj : j < h) (hc : t[j]? = some c) (hb : isBr c = true) : prm t h (f + 1) j = mate t j := by
  rw [prm, if_pos hj, hc]
  simp only [if_pos hb]
theorem prm_skip {t : List Int} {h f j : Nat} {c : Int} (hj : j < h) (hc : t[j]? = some c) (hb : isBr c = false) : prm t h (f + 1) j = prm t h f (j + 1) := by
  rw [prm, if_pos hj, hc]
  simp [hb]
/-- The so-manieth pair around an offset, going to the left from ahead of one. -/
def arn (t : List Int) (at' : Int) (kind : Int) : Nat → Nat → Option (Nat × Int)
  | 0, _ => none
  | j + 1, c => if t[j]? = some kind ∧ at' ≤ mt t j then (if c ≤ 1 then some (j, mt t j) else arn t at' kind j (c - 1)) else arn t at' kind j c
def around (t : List Int) (at' : Nat) (kind : Int) (count : Nat) : Option (Nat × Int) := arn t at' kind (min (at' + 1) t.length) count
theorem arn_some {t : List Int} {a : Int} {kind : Int} : ∀ j c x y, 0 ≤ a → arn t a kind j c = some (x, y) → x < j ∧ t[x]? = some kind ∧ a ≤ y ∧ y = mt t x
  | 0, c, x, y, _, h => by simp [arn] at h
  | j + 1, c, x, y, ha, h => by
    unfold arn at h
    split at h
    · rename_i hc
      split at h
      · injection h with h
        injection h with h1 h2
        subst h1 h2
        exact ⟨by omega, hc.1, hc.2, rfl⟩
      · have := arn_some j _ x y ha h; exact ⟨by omega, this.2⟩
    · have := arn_some j _ x y ha h; exact ⟨by omega, this.2⟩
end Go.Proofs.YtbofjefblhnkoaaGreatDoor.Rw
