/-
  PLAIN: pieces of a text (chapter 15), on a list of runes: words, quotes, brackets, paragraphs.
-/
import Derived.Test.YtbofjefblhnkoaaGreatDoorZM0
set_option linter.unusedVariables false
namespace Go.Proofs.YtbofjefblhnkoaaGreatDoor.Rw

/-- The class of what stands at an offset; 9: a newline, or nothing. -/
def cl (t : List Int) (big : Bool) (i : Nat) : Int := match t[i]? with
  | some c => if c = 10 then 9 else clsB big c
  | none => 9
theorem cl_some {t : List Int} {big : Bool} {i : Nat} {c : Int} (h : t[i]? = some c) (hc : c ≠ 10) : cl t big i = clsB big c := by simp [cl, h, hc]
theorem cl_nl {t : List Int} {big : Bool} {i : Nat} (h : t[i]? = some 10) : cl t big i = 9 := by simp [cl, h]
theorem cl_range (t : List Int) (big : Bool) (i : Nat) : 0 ≤ cl t big i ∧ cl t big i ≤ 9 := by
  unfold cl
  split
  · split
    · omega
    · have := clsB_range big (by assumption); omega
  · omega
/-- Where all of one class begins, going to the left; where it ends. -/
def rlo (t : List Int) (big : Bool) (q : Int) : Nat → Nat
  | 0 => 0
  | j + 1 => if cl t big j = q then rlo t big q j else j + 1
def rhi (t : List Int) (big : Bool) (q : Int) : Nat → Nat → Nat
  | 0, j => j
  | f + 1, j => if j < t.length ∧ cl t big j = q then rhi t big q f (j + 1) else j
theorem rlo_stop {t : List Int} {big : Bool} {q : Int} {j : Nat} (h : cl t big j ≠ q) : rlo t big q (j + 1) = j + 1 := by simp [rlo, h]
theorem rlo_step {t : List Int} {big : Bool} {q : Int} {j : Nat} (h : cl t big j = q) : rlo t big q (j + 1) = rlo t big q j := by simp [rlo, h]
theorem rlo_le (t : List Int) (big : Bool) (q : Int) : ∀ j, rlo t big q j ≤ j
  | 0 => Nat.le_refl _
  | j + 1 => by
    by_cases h : cl t big j = q
    · rw [rlo_step h]; have := rlo_le t big q j; omega
    · rw [rlo_stop h]; exact Nat.le_refl _
theorem rhi_stop {t : List Int} {big : Bool} {q : Int} {f j : Nat} (h : ¬ (j < t.length ∧ cl t big j = q)) : rhi t big q f j = j := by
  cases f with
  | zero => rfl
  | succ f => rw [rhi, if_neg h]
theorem rhi_step {t : List Int} {big : Bool} {q : Int} {f j : Nat} (h : j < t.length) (h2 : cl t big j = q) : rhi t big q (f + 1) j = rhi t big q f (j + 1) := by rw [rhi, if_pos ⟨h, h2⟩]
theorem rhi_ge (t : List Int) (big : Bool) (q : Int) : ∀ f j, j ≤ rhi t big q f j
  | 0, j => Nat.le_refl _
  | f + 1, j => by
    unfold rhi
    split
    · have := rhi_ge t big q f (j + 1); omega
    · exact Nat.le_refl _
theorem rhi_le (t : List Int) (big : Bool) (q : Int) : ∀ f j, j ≤ t.length → rhi t big q f j ≤ t.length
  | 0, j, h => h
  | f + 1, j, h => by
    unfold rhi
    split
    · exact rhi_le t big q f (j + 1) (by omega)
    · exact h
/-- A class that isn't a newline's: it stays within the row. -/
theorem rlo_row {t : List Int} {big : Bool} {q : Int} (hq : q ≠ 9) : ∀ j, beg t j ≤ rlo t big q j
  | 0 => Nat.le_refl _
  | j + 1 => by
    by_cases h10 : t[j]? = some 10
    · rw [beg_stop h10, rlo_stop (by rw [cl_nl h10]; exact fun e => hq e.symm)]
      exact Nat.le_refl _
    · rw [beg_step h10]
      by_cases h : cl t big j = q
      · rw [rlo_step h]; exact rlo_row hq j
      · rw [rlo_stop h]; have := beg_le t j; omega
theorem rhi_row {t : List Int} {big : Bool} {q : Int} (hq : q ≠ 9) : ∀ f j, rhi t big q f j ≤ en t j
  | 0, j => en_ge t j
  | f + 1, j => by
    unfold rhi
    split
    · rename_i h
      obtain ⟨h1, h2⟩ := h
      have hc : t[j]? = some t[j] := List.getElem?_eq_getElem h1
      have hne : t[j] ≠ 10 := fun e => by rw [e] at hc; rw [cl_nl hc] at h2; exact hq h2.symm
      rw [← en_step hc hne]
      exact rhi_row hq f (j + 1)
    · exact en_ge t j
/-- A word: its range; none: there is none. -/
def wrd (t : List Int) (big : Bool) (wide : Int) (k : Nat) : Option (Nat × Nat) :=
  if t.length ≤ k ∨ t[k]? = some 10 then none
  else
    let lo := rlo t big (cl t big k) k
    let hi := rhi t big (cl t big k) (t.length - k) k
    if wide = 105 then some (lo, hi)
    else if cl t big k = 0 then (if hi = en t k then none else some (lo, rhi t big (cl t big hi) (t.length - hi) hi))
    else if hi < en t k ∧ cl t big hi = 0 then some (lo, rhi t big 0 (t.length - hi) hi)
    else if beg t k < lo ∧ cl t big (lo - 1) = 0 then some (rlo t big 0 (lo - 1), hi)
    else some (lo, hi)
/-- Quotes: where the pair opens and closes that is around an offset, or behind it. -/
def quo (t : List Int) (k h : Nat) : Nat → Nat → Option Nat → Option (Nat × Nat)
  | 0, _, _ => none
  | f + 1, j, o => if j < h then (if t[j]? = some 34 then (match o with
      | none => quo t k h f (j + 1) (some j)
      | some p => if k ≤ j then some (p, j) else quo t k h f (j + 1) none) else quo t k h f (j + 1) o) else none
theorem quo_out {t : List Int} {k h f j : Nat} {o : Option Nat} (hj : ¬ j < h) : quo t k h f j o = none := by
  cases f with
  | zero => rfl
  | succ f => unfold quo; rw [if_neg hj]
theorem quo_skip {t : List Int} {k h f j : Nat} {o : Option Nat} (hj : j < h) (hc : t[j]? ≠ some 34) : quo t k h (f + 1) j o = quo t k h f (j + 1) o := by
  conv => lhs; unfold quo
  rw [if_pos hj, if_neg hc]
theorem quo_open {t : List Int} {k h f j : Nat} (hj : j < h) (hc : t[j]? = some 34) : quo t k h (f + 1) j none = quo t k h f (j + 1) (some j) := by rw [quo, if_pos hj, if_pos hc]
theorem quo_hit {t : List Int} {k h f j p : Nat} (hj : j < h) (hc : t[j]? = some 34) (hk : k ≤ j) : quo t k h (f + 1) j (some p) = some (p, j) := by
  rw [quo, if_pos hj, if_pos hc]
  simp only [if_pos hk]
theorem quo_miss {t : List Int} {k h f j p : Nat} (hj : j < h) (hc : t[j]? = some 34) (hk : ¬ k ≤ j) : quo t k h (f + 1) j (some p) = quo t k h f (j + 1) none := by
  rw [quo, if_pos hj, if_pos hc]
  simp only [if_neg hk]
def qtd (t : List Int) (k : Nat) : Option (Nat × Nat) := quo t k (en t k) (t.length + 1) (beg t k) none
theorem quo_bound {t : List Int} {k h : Nat} : ∀ f j o x y, (∀ p, o = some p → p < j) → quo t k h f j o = some (x, y) → x < y ∧ y < h ∧ k ≤ y
  | 0, j, o, x, y, _, e => by simp [quo] at e
  | f + 1, j, o, x, y, ho, e => by
    unfold quo at e
    split at e
    · rename_i hj
      split at e
      · cases o with
        | none => exact quo_bound f (j + 1) (some j) x y (fun p hp => by injection hp with hp; omega) e
        | some p =>
          simp only at e
          split at e
          · rename_i hk
            injection e with e
            injection e with e1 e2
            subst e1 e2
            exact ⟨ho p rfl, hj, hk⟩
          · exact quo_bound f (j + 1) none x y (fun p hp => by cases hp) e
      · exact quo_bound f (j + 1) o x y (fun p hp => by have := ho p hp; omega) e
    · cases e
/-- Rows that have runes, or have none, together: up, and down. -/
def bup (t : List Int) (e : Bool) : Nat → Nat → Nat
  | 0, l => l
  | f + 1, l => if 0 < l ∧ decide (beg t (l - 1) = l - 1) = e then bup t e f (beg t (l - 1)) else l
def bdn (t : List Int) (e : Bool) : Nat → Nat → Nat
  | 0, h => h
  | f + 1, h => if h < t.length ∧ decide (en t (h + 1) = h + 1) = e then bdn t e f (en t (h + 1)) else h
theorem bup_stop {t : List Int} {e : Bool} {f l : Nat} (h : ¬ (0 < l ∧ decide (beg t (l - 1) = l - 1) = e)) : bup t e f l = l := by
  cases f with
  | zero => rfl
  | succ f => rw [bup, if_neg h]
theorem bup_step {t : List Int} {e : Bool} {f l : Nat} (h1 : 0 < l) (h2 : decide (beg t (l - 1) = l - 1) = e) : bup t e (f + 1) l = bup t e f (beg t (l - 1)) := by rw [bup, if_pos ⟨h1, h2⟩]
theorem bdn_stop {t : List Int} {e : Bool} {f l : Nat} (h : ¬ (l < t.length ∧ decide (en t (l + 1) = l + 1) = e)) : bdn t e f l = l := by
  cases f with
  | zero => rfl
  | succ f => rw [bdn, if_neg h]
theorem bdn_step {t : List Int} {e : Bool} {f l : Nat} (h1 : l < t.length) (h2 : decide (en t (l + 1) = l + 1) = e) : bdn t e (f + 1) l = bdn t e f (en t (l + 1)) := by rw [bdn, if_pos ⟨h1, h2⟩]
theorem bup_le (t : List Int) (e : Bool) : ∀ f l, bup t e f l ≤ l
  | 0, l => Nat.le_refl _
  | f + 1, l => by
    unfold bup
    split
    · have := bup_le t e f (beg t (l - 1)); have := beg_le t (l - 1); omega
    · exact Nat.le_refl _
theorem bup_beg (t : List Int) (e : Bool) : ∀ f l, beg t l = l → beg t (bup t e f l) = bup t e f l
  | 0, l, h => h
  | f + 1, l, h => by
    unfold bup
    split
    · exact bup_beg t e f _ (beg_beg t _)
    · exact h
theorem bdn_ge (t : List Int) (e : Bool) : ∀ f l, l ≤ bdn t e f l
  | 0, l => Nat.le_refl _
  | f + 1, l => by
    unfold bdn
    split
    · have := bdn_ge t e f (en t (l + 1)); have := en_ge t (l + 1); omega
    · exact Nat.le_refl _
theorem bdn_le (t : List Int) (e : Bool) : ∀ f l, l ≤ t.length → bdn t e f l ≤ t.length
  | 0, l, h => h
  | f + 1, l, h => by
    unfold bdn
    split
    · rename_i hh
      exact bdn_le t e f _ (en_le t (l + 1) (by omega))
    · exact h
theorem en_en (t : List Int) (k : Nat) (h : k ≤ t.length) : en t (en t k) = en t k := by
  by_cases hl : en t k < t.length
  · exact en_stop (en_at t k hl)
  · exact en_end (by omega)
theorem bdn_en (t : List Int) (e : Bool) : ∀ f l, l ≤ t.length → en t l = l → en t (bdn t e f l) = bdn t e f l
  | 0, l, _, h => h
  | f + 1, l, hl, h => by
    unfold bdn
    split
    · rename_i hh
      exact bdn_en t e f _ (en_le t (l + 1) (by omega)) (en_en t (l + 1) (by omega))
    · exact h
/-- A row without runes at an offset? -/
def bare (t : List Int) (k : Nat) : Bool := decide (beg t k = en t k)
/-- A paragraph. -/
def par (t : List Int) (wide : Int) (k : Nat) : Option (Nat × Nat) :=
  let e := bare t k
  let lo := bup t e (t.length + 1) (beg t k)
  let hi := bdn t e (t.length + 1) (en t k)
  if wide = 105 then some (lo, hi)
  else if hi < t.length then some (lo, bdn t (!e) (t.length + 1) (en t (hi + 1)))
  else if 0 < lo then some (bup t (!e) (t.length + 1) (beg t (lo - 1)), hi)
  else none
/-- The row ahead of a row's begin: is it without runes? -/
theorem bare_up {t : List Int} {l : Nat} (hb : beg t l = l) (h0 : 0 < l) : bare t (l - 1) = decide (beg t (l - 1) = l - 1) := by
  have h10 : t[l - 1]? = some 10 := by
    rcases beg_ahead t l with h | h
    · rw [hb] at h; omega
    · rwa [hb] at h
  unfold bare
  rw [en_stop h10]
theorem bare_dn {t : List Int} {l : Nat} (hl : l < t.length) (he : en t l = l) : bare t (l + 1) = decide (en t (l + 1) = l + 1) := by
  have h10 : t[l]? = some 10 := by
    have := en_at t l (by rw [he]; exact hl)
    rwa [he] at this
  unfold bare
  rw [beg_stop h10]
  by_cases h : l + 1 = en t (l + 1)
  · rw [decide_eq_true h, decide_eq_true h.symm]
  · rw [decide_eq_false h, decide_eq_false (fun e => h e.symm)]
/-- What brackets an object's key means. -/
def brk (key : Int) : Option Int := if key = 40 ∨ key = 41 ∨ key = 98 then some 40 else if key = 91 ∨ key = 93 then some 91 else if key = 123 ∨ key = 125 ∨ key = 66 then some 123 else none
/-- Is it an object's key? -/
def Obj (key : Int) : Prop := key = 119 ∨ key = 87 ∨ key = 34 ∨ key = 40 ∨ key = 41 ∨ key = 98 ∨ key = 91 ∨ key = 93 ∨ key = 123 ∨ key = 125 ∨ key = 66 ∨ key = 112
instance (key : Int) : Decidable (Obj key) := by unfold Obj; infer_instance
/-- The range between two runes, or with them. -/
def ins (wide : Int) (a b : Int) : Int × Int := if wide = 105 then (a + 1, b) else (a, b + 1)
/-- The piece that an object's key means: its range, and whether whole rows; none: it leads nowhere. -/
def pce (t : List Int) (k : Nat) (wide key : Int) (count : Nat) : Option (Int × Int × Bool) :=
  match brk key with
  | some kind => (around t k kind count).map fun p => ((ins wide p.1 p.2).1, (ins wide p.1 p.2).2, false)
  | none =>
    if 1 < count then none
    else if key = 34 then (qtd t k).map fun p => ((ins wide p.1 p.2).1, (ins wide p.1 p.2).2, false)
    else if key = 112 then (par t wide k).map fun p => ((p.1 : Int), (p.2 : Int), true)
    else (wrd t (key == 87) wide k).map fun p => ((p.1 : Int), (p.2 : Int), false)
end Go.Proofs.YtbofjefblhnkoaaGreatDoor.Rw
