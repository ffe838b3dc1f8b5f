/-
  A TEXT's RUNES, by the model's own conversion; what a text may be.
  PLAIN LAWS ON LISTS OF RUNES: where a row begins and ends, its first rune that is no blank, and rows below and above.
  TEXTS: the kind of a byte, of the program.
  utf8.ValidString, by the library's contract; Go's two tables, as the row lays them.
  TEXTS: no byte stands in a valid text that the program calls a stray one but byte 0; whether a text may be.
  WHAT THE CARDS OF THIS SEAT SHARE: a world for the witness, in which Go's two UTF-8 tables lie as the program's text lays them; an empty ask.
-/
import Derived.Test.YthkohjijppbliaaDoorLMa
import Derived.Laws.RangeString
import Derived.Laws.RangeAny
import Derived.Lib.RuneCount
import Derived.Laws.IdiomStrings
import Derived.Laws.CopyOwn
import Derived.Test.YthkohjijppbliaaDoorRows
import Derived.Test.YthkohjijppbliaaDoorShelf
import Derived.Lib.LaidU8T
import Derived.PinnedBridge
import Derived.WalkKit
import Derived.ProofKit
import Derived.OpenShut
import Derived.Deep.DeepHandedRow
import Derived.Lib.LaidTab
set_option linter.unusedVariables false
namespace Go.Proofs.YthkohjijppbliaaDoor
open Go Go.RowKit

theorem rune_at (s : ByteArray) (pos : Nat) (h : pos < s.size) : Utf.runes (s.data.toList.drop pos) = ((Utf8.decode s pos).1 : Int) :: Utf.runes (s.data.toList.drop (pos + (Utf8.decode s pos).2)) := by
  have hne : s.data.toList.drop pos ≠ [] := by
    intro e
    have := congrArg List.length e
    rw [List.length_drop] at this
    have := Lib.size_eq s
    simp at *
    omega
  rw [Utf.runes_step _ hne, Lib.decodeL_drop, List.drop_drop]
theorem rune_end (s : ByteArray) (pos : Nat) (h : ¬ pos < s.size) : Utf.runes (s.data.toList.drop pos) = [] := by
  rw [List.drop_eq_nil_of_le (by have := Lib.size_eq s; omega)]
  rfl

theorem conv_rn (s : ByteArray) (w : World) (h : (Utf.runes s.data.toList).length ≤ 70368744177664) : ∃ cap w', (Utf.runes s.data.toList).length ≤ cap ∧
    (convert 9 90 (.string s)).run Tryd.prog w = .ok (.slice (some ⟨w.heap.size, 0, none⟩) (Utf.runes s.data.toList).length cap) w' ∧ Kept (fun _ => False) w w' ∧ w.heap.size < w'.heap.size ∧
    Rn w' (some ⟨w.heap.size, 0, none⟩) (Utf.runes s.data.toList).length (Utf.runes s.data.toList) := by
  have e := Utf.convRunes_eq s
  have hz : (Conv.runesFrom s s.size 0 #[]).size = (Utf.runes s.data.toList).length := by rw [e]; simp
  have hrun := run_runes_of_string (P := Tryd.prog) w 9 90 21 s Tryd.underlying9 Tryd.underlying90 Tryd.underlying21 (by rw [hz]; exact h)
  rw [hz] at hrun
  refine ⟨_, _, ?_, hrun, ((Kept.refl _ w).drew).alloc _, by simp, rfl, fun j x hj => ⟨_, rfl, ?_⟩⟩
  · have := grownCap_ge w (Utf.runes s.data.toList).length 0 21
    omega
  · have hh : (w.drew.alloc (.cells (Conv.runesFrom s s.size 0 #[] ++ Array.replicate (grownCap w (Utf.runes s.data.toList).length 0 21 - (Utf.runes s.data.toList).length) (.int .i32 0)) 21)).heap[w.heap.size]? = _ := heap_alloc_new w.drew _
    rw [addr_add, cell_of_row _ _ _ _ _ _ hh, e]
    have hl : j < (Utf.runes s.data.toList).length := by
      by_cases hl : j < (Utf.runes s.data.toList).length
      · exact hl
      · rw [List.getElem?_eq_none (by omega)] at hj; cases hj
    simp [Array.getElem?_append, hl]
    rw [List.getElem?_eq_getElem hl] at hj
    injection hj

/-- Bytes that no rune's form has. -/
theorem enc_plain (n : Int) (h : Utf8.valid n = true) : ∀ b ∈ Utf.enc n, b.toNat ≠ 192 ∧ b.toNat ≠ 193 ∧ b.toNat < 245 := by
  have hv := Utf.int_valid h
  obtain ⟨c, rfl⟩ := Int.eq_ofNat_of_zero_le (show 0 ≤ n by omega)
  rw [Utf.enc_of h]
  intro b hb
  by_cases h1 : c < 128
  · rw [if_pos h1] at hb
    simp only [List.mem_singleton] at hb
    subst hb
    rw [Utf.toNat_ofNat (by omega)]
    omega
  rw [if_neg h1] at hb
  by_cases h2 : c < 2048
  · rw [if_pos h2] at hb
    simp only [List.mem_cons, List.not_mem_nil, or_false] at hb
    rcases hb with rfl | rfl
    · rw [Utf.toNat_ofNat (by omega)]; omega
    · rw [Utf.toNat_ofNat (by omega)]; omega
  rw [if_neg h2] at hb
  by_cases h3 : c < 65536
  · rw [if_pos h3] at hb
    simp only [List.mem_cons, List.not_mem_nil, or_false] at hb
    rcases hb with rfl | rfl | rfl
    · rw [Utf.toNat_ofNat (by omega)]; omega
    · rw [Utf.toNat_ofNat (by omega)]; omega
    · rw [Utf.toNat_ofNat (by omega)]; omega
  rw [if_neg h3] at hb
  simp only [List.mem_cons, List.not_mem_nil, or_false] at hb
  rcases hb with rfl | rfl | rfl | rfl
  · rw [Utf.toNat_ofNat (by omega)]; omega
  · rw [Utf.toNat_ofNat (by omega)]; omega
  · rw [Utf.toNat_ofNat (by omega)]; omega
  · rw [Utf.toNat_ofNat (by omega)]; omega
theorem valid_plain {l : List UInt8} (h : Lib.validD l = true) : ∀ b ∈ l, b.toNat ≠ 192 ∧ b.toNat ≠ 193 ∧ b.toNat < 245 := by
  have hb := Utf.bytes_runes h
  have hv := Utf.valid_runes h
  rw [← hb]
  generalize Utf.runes l = ns at hv
  intro b hm
  induction ns with
  | nil => cases hm
  | cons n ns ih =>
    simp only [Utf.bytes, List.mem_append] at hm
    rcases hm with hm | hm
    · exact enc_plain n (hv n (by simp)) b hm
    · exact ih (fun r hr => hv r (by simp [hr])) hm
/-- May it be a text? -/
def mayB (s : ByteArray) : Bool := decide (s.size ≤ 4000) && Lib.validD s.data.toList && s.data.toList.all (fun b => b != 0)
theorem mayB_size {s : ByteArray} (h : mayB s = true) : s.size ≤ 4000 := by
  unfold mayB at h
  simp only [Bool.and_eq_true, decide_eq_true_eq] at h
  exact h.1.1
theorem mayB_valid {s : ByteArray} (h : mayB s = true) : Lib.validD s.data.toList = true := by
  unfold mayB at h
  simp only [Bool.and_eq_true, decide_eq_true_eq] at h
  exact h.1.2
theorem mayB_zero {s : ByteArray} (h : mayB s = true) : ∀ b ∈ s.data.toList, b ≠ 0 := by
  unfold mayB at h
  simp only [Bool.and_eq_true, decide_eq_true_eq] at h
  intro b hb
  simpa using List.all_eq_true.1 h.2 b hb
/-- The runes of a text. -/
def rs (s : ByteArray) : List Int := Utf.runes s.data.toList
theorem rs_len (s : ByteArray) : (rs s).length ≤ s.size := by
  have := Utf.runes_length s.data.toList
  have hs := Lib.size_eq s
  unfold rs
  omega
theorem rs_runey {s : ByteArray} (h : Lib.validD s.data.toList = true) : Runey (rs s) := by
  intro r hr
  have hv := Utf.int_valid (Utf.valid_runes h r hr)
  omega
theorem conv_rs (s : ByteArray) (w : World) (h : s.size ≤ 70368744177664) : ∃ cap w', (rs s).length ≤ cap ∧
    (convert 9 90 (.string s)).run Tryd.prog w = .ok (.slice (some ⟨w.heap.size, 0, none⟩) (rs s).length cap) w' ∧ Kept (fun _ => False) w w' ∧ w.heap.size < w'.heap.size ∧
    Rn w' (some ⟨w.heap.size, 0, none⟩) (rs s).length (rs s) := conv_rn s w (by have := rs_len s; unfold rs at this; omega)
end Go.Proofs.YthkohjijppbliaaDoor
namespace Go.Proofs.YthkohjijppbliaaDoor.Rw

/-- Where the row of an offset begins. -/
def beg (t : List Int) : Nat → Nat
  | 0 => 0
  | n + 1 => if t[n]? = some 10 then n + 1 else beg t n
theorem beg_stop {t : List Int} {n : Nat} (h : t[n]? = some 10) : beg t (n + 1) = n + 1 := by simp [beg, h]
theorem beg_step {t : List Int} {n : Nat} (h : t[n]? ≠ some 10) : beg t (n + 1) = beg t n := by simp [beg, h]
theorem beg_le (t : List Int) : ∀ n, beg t n ≤ n
  | 0 => Nat.le_refl _
  | n + 1 => by
    by_cases h : t[n]? = some 10
    · rw [beg_stop h]; exact Nat.le_refl _
    · rw [beg_step h]; have := beg_le t n; omega
theorem beg_ahead (t : List Int) : ∀ n, beg t n = 0 ∨ t[beg t n - 1]? = some 10
  | 0 => .inl rfl
  | n + 1 => by
    by_cases h : t[n]? = some 10
    · rw [beg_stop h]; right; simpa using h
    · rw [beg_step h]; exact beg_ahead t n
theorem beg_beg (t : List Int) (n : Nat) : beg t (beg t n) = beg t n := by
  rcases beg_ahead t n with h | h
  · rw [h]; rfl
  · by_cases h0 : beg t n = 0
    · rw [h0]; rfl
    · obtain ⟨k, hk⟩ : ∃ k, beg t n = k + 1 := ⟨beg t n - 1, by omega⟩
      rw [hk] at h ⊢
      exact beg_stop (by simpa using h)
/-- No newline between a row's begin and the offset. -/
theorem beg_none (t : List Int) : ∀ n j, beg t n ≤ j → j < n → t[j]? ≠ some 10
  | 0, j, _, h => by omega
  | n + 1, j, h1, h2 => by
    by_cases h : t[n]? = some 10
    · rw [beg_stop h] at h1; omega
    · rw [beg_step h] at h1
      by_cases hj : j = n
      · subst hj; exact h
      · exact beg_none t n j h1 (by omega)
theorem beg_of (t : List Int) (b n : Nat) (hb : beg t b = b) (hbn : b ≤ n) (h : ∀ j, b ≤ j → j < n → t[j]? ≠ some 10) : beg t n = b := by
  induction n with
  | zero => have : b = 0 := by omega
            subst this; rfl
  | succ n ih =>
    by_cases hn : b = n + 1
    · subst hn; exact hb
    · rw [beg_step (h n (by omega) (by omega))]
      exact ih (by omega) fun j h1 h2 => h j h1 (by omega)

def lenTo : List Int → Nat
  | [] => 0
  | c :: r => if c = 10 then 0 else lenTo r + 1
/-- Where the row of an offset ends. -/
def en (t : List Int) (at' : Nat) : Nat := at' + lenTo (t.drop at')
theorem drop_cons {t : List Int} {k : Nat} {c : Int} (h : t[k]? = some c) : t.drop k = c :: t.drop (k + 1) := by
  obtain ⟨hk, he⟩ := List.getElem?_eq_some_iff.1 h
  rw [List.drop_eq_getElem_cons hk, he]
theorem en_stop {t : List Int} {k : Nat} (h : t[k]? = some 10) : en t k = k := by
  unfold en
  rw [drop_cons h]
  simp [lenTo]
theorem en_end {t : List Int} {k : Nat} (h : t.length ≤ k) : en t k = k := by
  unfold en
  rw [List.drop_eq_nil_of_le h]
  rfl
theorem en_step {t : List Int} {k : Nat} {c : Int} (h : t[k]? = some c) (hc : c ≠ 10) : en t (k + 1) = en t k := by
  unfold en
  rw [drop_cons h]
  simp [lenTo, hc]
  omega
theorem en_ge (t : List Int) (k : Nat) : k ≤ en t k := by unfold en; omega
theorem lenTo_le : ∀ l : List Int, lenTo l ≤ l.length
  | [] => Nat.le_refl _
  | c :: r => by
    have := lenTo_le r
    unfold lenTo
    split <;> simp <;> omega
theorem en_le (t : List Int) (k : Nat) (h : k ≤ t.length) : en t k ≤ t.length := by
  have := lenTo_le (t.drop k)
  rw [List.length_drop] at this
  unfold en
  omega
theorem lenTo_at : ∀ l : List Int, lenTo l < l.length → l[lenTo l]? = some 10
  | [], h => by simp at h
  | c :: r, h => by
    unfold lenTo at h ⊢
    by_cases hc : c = 10
    · rw [if_pos hc]; simp [hc]
    · rw [if_neg hc] at h ⊢
      have := lenTo_at r (by simp at h; omega)
      simpa using this
theorem en_at (t : List Int) (k : Nat) (h : en t k < t.length) : t[en t k]? = some 10 := by
  unfold en at h ⊢
  have := lenTo_at (t.drop k) (by rw [List.length_drop]; omega)
  rwa [List.getElem?_drop] at this
theorem lenTo_none : ∀ (l : List Int) (j : Nat), j < lenTo l → l[j]? ≠ some 10
  | [], j, h => by simp [lenTo] at h
  | c :: r, j, h => by
    unfold lenTo at h
    by_cases hc : c = 10
    · rw [if_pos hc] at h; omega
    · rw [if_neg hc] at h
      match j with
      | 0 => simp [hc]
      | j + 1 => simpa using lenTo_none r j (by omega)
theorem en_none (t : List Int) (k j : Nat) (h1 : k ≤ j) (h2 : j < en t k) : t[j]? ≠ some 10 := by
  unfold en at h2
  have := lenTo_none (t.drop k) (j - k) (by omega)
  rwa [List.getElem?_drop, show k + (j - k) = j by omega] at this
theorem en_of (t : List Int) (k e : Nat) (hk : k ≤ e) (he : en t e = e) (h : ∀ j, k ≤ j → j < e → t[j]? ≠ some 10) (hl : e ≤ t.length) : en t k = e := by
  obtain ⟨d, rfl⟩ : ∃ d, e = k + d := ⟨e - k, by omega⟩
  clear hk
  induction d generalizing k with
  | zero => exact he
  | succ d ih =>
    have hlt : k < t.length := by omega
    have hc : t[k]? = some t[k] := List.getElem?_eq_getElem hlt
    have hne : t[k] ≠ 10 := fun e => h k (Nat.le_refl _) (by omega) (by rw [hc, e])
    rw [← en_step hc hne]
    have := ih (k + 1) (by rw [show k + 1 + d = k + (d + 1) by omega]; exact he) (fun j h1 h2 => h j (by omega) (by omega)) (by omega)
    rw [this]; omega
theorem en_beg (t : List Int) (k : Nat) (h : k ≤ t.length) : en t (beg t k) = en t k := by
  refine en_of t (beg t k) (en t k) (Nat.le_trans (beg_le t k) (en_ge t k)) ?_ (fun j h1 h2 => ?_) (en_le t k h)
  · by_cases hl : en t k < t.length
    · exact en_stop (en_at t k hl)
    · exact en_end (by omega)
  · by_cases hj : j < k
    · exact beg_none t k j h1 hj
    · exact en_none t k j (by omega) h2
theorem beg_en (t : List Int) (k : Nat) : beg t (en t k) = beg t k := by
  refine beg_of t (beg t k) (en t k) (beg_beg t k) (Nat.le_trans (beg_le t k) (en_ge t k)) fun j h1 h2 => ?_
  by_cases hj : j < k
  · exact beg_none t k j h1 hj
  · exact en_none t k j (by omega) h2

/-- The class of a rune. -/
def cls (r : Int) : Int := if r = 32 ∨ r = 9 then 0 else if (97 ≤ r ∧ r ≤ 122) ∨ (65 ≤ r ∧ r ≤ 90) ∨ (48 ≤ r ∧ r ≤ 57) ∨ r = 95 ∨ 128 ≤ r then 1 else 2
def lenBl : List Int → Nat
  | [] => 0
  | c :: r => if c ≠ 10 ∧ cls c = 0 then lenBl r + 1 else 0
/-- The first rune from an offset on, within its row, that is no blank; or the row's end. -/
def skp (t : List Int) (k : Nat) : Nat := k + lenBl (t.drop k)
theorem skp_end {t : List Int} {k : Nat} (h : t.length ≤ k) : skp t k = k := by
  unfold skp
  rw [List.drop_eq_nil_of_le h]
  rfl
theorem skp_stop {t : List Int} {k : Nat} {c : Int} (h : t[k]? = some c) (hc : c = 10 ∨ cls c ≠ 0) : skp t k = k := by
  unfold skp
  rw [drop_cons h]
  have : ¬ (c ≠ 10 ∧ cls c = 0) := by omega
  simp only [lenBl, if_neg this, Nat.add_zero]
theorem skp_step {t : List Int} {k : Nat} {c : Int} (h : t[k]? = some c) (h1 : c ≠ 10) (h2 : cls c = 0) : skp t (k + 1) = skp t k := by
  unfold skp
  rw [drop_cons h]
  simp only [lenBl, if_pos (And.intro h1 h2)]
  omega
theorem lenBl_le : ∀ l : List Int, lenBl l ≤ lenTo l
  | [] => Nat.le_refl _
  | c :: r => by
    have := lenBl_le r
    unfold lenBl lenTo
    by_cases h : c = 10
    · simp [h]
    · by_cases h2 : cls c = 0
      · simp [h, h2, this]
      · simp [h, h2]
theorem skp_ge (t : List Int) (k : Nat) : k ≤ skp t k := by unfold skp; omega
theorem skp_le (t : List Int) (k : Nat) : skp t k ≤ en t k := by
  have := lenBl_le (t.drop k)
  unfold skp en
  omega
/-- First of the row of an offset. -/
def fst (t : List Int) (k : Nat) : Nat := skp t (beg t k)
theorem fst_ge (t : List Int) (k : Nat) : beg t k ≤ fst t k := skp_ge _ _
theorem fst_le (t : List Int) (k : Nat) (h : k ≤ t.length) : fst t k ≤ en t k := by
  have := skp_le t (beg t k)
  rwa [en_beg t k h] at this

/-- The begin of the row so many below. -/
def dn (t : List Int) : Nat → Nat → Option Nat
  | k, 0 => some (beg t k)
  | k, n + 1 => if en t k = t.length then none else dn t (en t k + 1) n
/-- The begin of the row so many above. -/
def up (t : List Int) : Nat → Nat → Option Nat
  | k, 0 => some (beg t k)
  | k, n + 1 => if beg t k = 0 then none else up t (beg t k - 1) n
theorem dn_beg (t : List Int) (k : Nat) (h : k ≤ t.length) (n : Nat) : dn t (beg t k) n = dn t k n := by
  cases n with
  | zero => simp [dn, beg_beg]
  | succ n => simp [dn, en_beg t k h]
theorem dn_some (t : List Int) : ∀ (n k x : Nat), k ≤ t.length → dn t k n = some x → x ≤ t.length ∧ beg t x = x ∧ (0 < n → k + n ≤ x)
  | 0, k, x, hk, h => by
    simp only [dn, Option.some.injEq] at h
    subst h
    exact ⟨Nat.le_trans (beg_le t k) hk, beg_beg t k, fun h => by omega⟩
  | n + 1, k, x, hk, h => by
    unfold dn at h
    by_cases he : en t k = t.length
    · simp [he] at h
    · rw [if_neg he] at h
      have hl := en_le t k hk
      have hg := en_ge t k
      obtain ⟨h1, h2, h3⟩ := dn_some t n (en t k + 1) x (by omega) h
      refine ⟨h1, h2, fun _ => ?_⟩
      cases n with
      | zero =>
        simp only [dn, Option.some.injEq] at h
        subst h
        rw [beg_stop (en_at t k (by omega))]
        omega
      | succ n => have := h3 (by omega); omega
theorem up_some (t : List Int) : ∀ (n k x : Nat), up t k n = some x → x ≤ k ∧ beg t x = x
  | 0, k, x, h => by
    simp only [up, Option.some.injEq] at h
    subst h
    exact ⟨beg_le t k, beg_beg t k⟩
  | n + 1, k, x, h => by
    unfold up at h
    by_cases he : beg t k = 0
    · simp [he] at h
    · rw [if_neg he] at h
      obtain ⟨h1, h2⟩ := up_some t n _ x h
      have := beg_le t k
      exact ⟨by omega, h2⟩
/-- So many rows below, as far as there are rows. -/
def wd (t : List Int) : Nat → Nat → Nat
  | k, 0 => k
  | k, n + 1 => match dn t k 1 with
    | none => k
    | some x => wd t x n
theorem dn_one (t : List Int) (k : Nat) (h : k ≤ t.length) : dn t k 1 = if en t k = t.length then none else some (en t k + 1) := by
  by_cases he : en t k = t.length
  · simp [dn, he]
  · have hl := en_le t k h
    simp only [dn, if_neg he, beg_stop (en_at t k (by omega))]
theorem wd_dn (t : List Int) : ∀ (n k : Nat), k ≤ t.length → beg t k = k → wd t k n = (match dn t k n with | none => beg t t.length | some x => x)
  | 0, k, h, hb => by simp [wd, dn, hb]
  | n + 1, k, h, hb => by
    unfold wd
    rw [dn_one t k h]
    by_cases he : en t k = t.length
    · simp only [he, if_true, dn]
      have := beg_en t k
      rw [he] at this
      rw [this, hb]
    · have hl := en_le t k h
      have hx := wd_dn t n (en t k + 1) (by omega) (beg_stop (en_at t k (by omega)))
      simp only [if_neg he, dn]
      exact hx
theorem wd_le (t : List Int) (n k : Nat) (h : k ≤ t.length) (hb : beg t k = k) : wd t k n ≤ t.length := by
  rw [wd_dn t n k h hb]
  split
  · exact beg_le _ _
  · rename_i x hx; exact (dn_some t n k x h hx).1
theorem wd_far (t : List Int) (k : Nat) (h : k ≤ t.length) (hb : beg t k = k) : wd t k t.length = beg t t.length := by
  rw [wd_dn t _ k h hb]
  split
  · rfl
  · rename_i x hx
    obtain ⟨h1, h2, h3⟩ := dn_some t _ k x h hx
    by_cases h0 : t.length = 0
    · have : x = 0 := by omega
      subst this; rw [h0]; rfl
    · have := h3 (by omega)
      have : x = t.length := by omega
      rw [← this, h2]
/-- The row so many below (by is positive) or above (by is negative). -/
def go (t : List Int) (k : Nat) (by' : Int) : Option Nat := if 0 ≤ by' then dn t k by'.toNat else up t k (-by').toNat
theorem go_le {t : List Int} {k x : Nat} {b : Int} (h : k ≤ t.length) (hx : go t k b = some x) : x ≤ t.length := by
  unfold go at hx
  split at hx
  · exact (dn_some t _ k x h hx).1
  · have := (up_some t _ k x hx).1; omega
theorem go_beg {t : List Int} {k x : Nat} {b : Int} (h : k ≤ t.length) (hx : go t k b = some x) : beg t x = x := by
  unfold go at hx
  split at hx
  · exact (dn_some t _ k x h hx).2.1
  · exact (up_some t _ k x hx).2
end Go.Proofs.YthkohjijppbliaaDoor.Rw
namespace Go.Proofs.YthkohjijppbliaaDoor
open Go Go.RowKit

/-- The kind of a byte. -/
def kn (b : Int) : Int :=
  if b = 32 ∨ b = 9 then 0 else if (97 ≤ b ∧ b ≤ 122) ∨ (65 ≤ b ∧ b ≤ 90) ∨ (48 ≤ b ∧ b ≤ 57) ∨ b = 95 then 1
  else if b = 10 then 10 else if b = 0 then 6 else if b = 192 ∨ b = 193 ∨ 245 ≤ b then 5 else if 128 ≤ b then 1 else 2
/-- What lies between two neighbours of these. -/
theorem kn_1 {b : Int} (h : (97 ≤ b ∧ b ≤ 122) ∨ (65 ≤ b ∧ b ≤ 90) ∨ (48 ≤ b ∧ b ≤ 57) ∨ (128 ≤ b ∧ b ≤ 191) ∨ (194 ≤ b ∧ b ≤ 244)) : kn b = 1 := by
  unfold kn
  rw [if_neg (by omega)]
  by_cases c : (97 ≤ b ∧ b ≤ 122) ∨ (65 ≤ b ∧ b ≤ 90) ∨ (48 ≤ b ∧ b ≤ 57) ∨ b = 95
  · rw [if_pos c]
  · rw [if_neg c, if_neg (by omega), if_neg (by omega), if_neg (by omega), if_pos (by omega)]
theorem kn_2 {b : Int} (h : 1 ≤ b ∧ b ≤ 127) (h1 : b ≠ 32 ∧ b ≠ 9 ∧ b ≠ 95 ∧ b ≠ 10) (h2 : b < 97 ∨ 122 < b) (h3 : b < 65 ∨ 90 < b) (h4 : b < 48 ∨ 57 < b) : kn b = 2 := by
  unfold kn
  rw [if_neg (by omega), if_neg (by omega), if_neg (by omega), if_neg (by omega), if_neg (by omega), if_neg (by omega)]
theorem kn_5 {b : Int} (h : 245 ≤ b) : kn b = 5 := by
  unfold kn
  rw [if_neg (by omega), if_neg (by omega), if_neg (by omega), if_neg (by omega), if_pos (by omega)]
theorem kn_cases (b : Int) (h : 0 ≤ b ∧ b ≤ 255) : (b = 0 ∨ b = 9 ∨ b = 10 ∨ b = 32 ∨ b = 95 ∨ b = 192 ∨ b = 193) ∨ (1 ≤ b ∧ b ≤ 8 ∧ kn b = 2) ∨ (11 ≤ b ∧ b ≤ 31 ∧ kn b = 2) ∨ (33 ≤ b ∧ b ≤ 47 ∧ kn b = 2) ∨ (48 ≤ b ∧ b ≤ 57 ∧ kn b = 1) ∨ (58 ≤ b ∧ b ≤ 64 ∧ kn b = 2) ∨ (65 ≤ b ∧ b ≤ 90 ∧ kn b = 1) ∨ (91 ≤ b ∧ b ≤ 94 ∧ kn b = 2) ∨ (96 ≤ b ∧ b ≤ 96 ∧ kn b = 2) ∨ (97 ≤ b ∧ b ≤ 122 ∧ kn b = 1) ∨ (123 ≤ b ∧ b ≤ 127 ∧ kn b = 2) ∨ (128 ≤ b ∧ b ≤ 191 ∧ kn b = 1) ∨ (194 ≤ b ∧ b ≤ 244 ∧ kn b = 1) ∨ (245 ≤ b ∧ b ≤ 255 ∧ kn b = 5) := by
  have hr : (b = 0 ∨ b = 9 ∨ b = 10 ∨ b = 32 ∨ b = 95 ∨ b = 192 ∨ b = 193) ∨ (1 ≤ b ∧ b ≤ 8) ∨ (11 ≤ b ∧ b ≤ 31) ∨ (33 ≤ b ∧ b ≤ 47) ∨ (48 ≤ b ∧ b ≤ 57) ∨ (58 ≤ b ∧ b ≤ 64) ∨ (65 ≤ b ∧ b ≤ 90) ∨ (91 ≤ b ∧ b ≤ 94) ∨ (96 ≤ b ∧ b ≤ 96) ∨ (97 ≤ b ∧ b ≤ 122) ∨ (123 ≤ b ∧ b ≤ 127) ∨ (128 ≤ b ∧ b ≤ 191) ∨ (194 ≤ b ∧ b ≤ 244) ∨ (245 ≤ b ∧ b ≤ 255) := by omega
  rcases hr with h1 | h1 | h1 | h1 | h1 | h1 | h1 | h1 | h1 | h1 | h1 | h1 | h1 | h1
  · exact .inl h1
  · exact .inr (.inl ⟨h1.1, h1.2, kn_2 (by omega) (by omega) (by omega) (by omega) (by omega)⟩)
  · exact .inr (.inr (.inl ⟨h1.1, h1.2, kn_2 (by omega) (by omega) (by omega) (by omega) (by omega)⟩))
  · exact .inr (.inr (.inr (.inl ⟨h1.1, h1.2, kn_2 (by omega) (by omega) (by omega) (by omega) (by omega)⟩)))
  · exact .inr (.inr (.inr (.inr (.inl ⟨h1.1, h1.2, kn_1 (by omega)⟩))))
  · exact .inr (.inr (.inr (.inr (.inr (.inl ⟨h1.1, h1.2, kn_2 (by omega) (by omega) (by omega) (by omega) (by omega)⟩)))))
  · exact .inr (.inr (.inr (.inr (.inr (.inr (.inl ⟨h1.1, h1.2, kn_1 (by omega)⟩))))))
  · exact .inr (.inr (.inr (.inr (.inr (.inr (.inr (.inl ⟨h1.1, h1.2, kn_2 (by omega) (by omega) (by omega) (by omega) (by omega)⟩)))))))
  · exact .inr (.inr (.inr (.inr (.inr (.inr (.inr (.inr (.inl ⟨h1.1, h1.2, kn_2 (by omega) (by omega) (by omega) (by omega) (by omega)⟩))))))))
  · exact .inr (.inr (.inr (.inr (.inr (.inr (.inr (.inr (.inr (.inl ⟨h1.1, h1.2, kn_1 (by omega)⟩)))))))))
  · exact .inr (.inr (.inr (.inr (.inr (.inr (.inr (.inr (.inr (.inr (.inl ⟨h1.1, h1.2, kn_2 (by omega) (by omega) (by omega) (by omega) (by omega)⟩))))))))))
  · exact .inr (.inr (.inr (.inr (.inr (.inr (.inr (.inr (.inr (.inr (.inr (.inl ⟨h1.1, h1.2, kn_1 (by omega)⟩)))))))))))
  · exact .inr (.inr (.inr (.inr (.inr (.inr (.inr (.inr (.inr (.inr (.inr (.inr (.inl ⟨h1.1, h1.2, kn_1 (by omega)⟩))))))))))))
  · exact .inr (.inr (.inr (.inr (.inr (.inr (.inr (.inr (.inr (.inr (.inr (.inr (.inr (⟨h1.1, h1.2, kn_5 (by omega)⟩)))))))))))))
theorem neqI (b k : Int) (h : b < k ∨ k < b) : (b == k) = false := by rw [beq_eq_false_iff_ne]; omega

theorem decI (p : Prop) [Decidable p] : (p ∧ decide p = true) ∨ (¬ p ∧ decide p = false) := by
  by_cases h : p
  · exact .inl ⟨h, by simpa using h⟩
  · exact .inr ⟨h, by simpa using h⟩
theorem kind_any (b : Int) (h : 0 ≤ b ∧ b ≤ 255) (w : World) : Calls Tryd.prog 126 #[.int .i64 b] w fun e w' => e = .returned (.int .u8 (kn b)) ∧ w' = w := by
  rcases kn_cases b h with (rfl | rfl | rfl | rfl | rfl | rfl | rfl) | h1 | h1 | h1 | h1 | h1 | h1 | h1 | h1 | h1 | h1 | h1 | h1 | h1
  case inl.inl | inl.inr.inl | inl.inr.inr.inl | inl.inr.inr.inr.inl | inl.inr.inr.inr.inr.inl | inl.inr.inr.inr.inr.inr.inl | inl.inr.inr.inr.inr.inr.inr =>
    clear h
    go_enter Tryd.func126, Tryd.ntmps126
    go_wp2
    go_ret
    exact ⟨rfl, rfl⟩
  all_goals
    obtain ⟨h1, h2, hk⟩ := h1
    have e1 := neqI b 32 (by omega)
    have e2 := neqI b 9 (by omega)
    have e3 := neqI b 95 (by omega)
    have e4 := neqI b 10 (by omega)
    have e5 := neqI b 0 (by omega)
    have e6 := neqI b 192 (by omega)
    have e7 := neqI b 193 (by omega)
    rw [hk]
    clear hk h
    rcases decI (97 ≤ b) with ⟨q0, f0⟩ | ⟨q0, f0⟩ <;> first | (exfalso; omega) | skip
    rcases decI (b ≤ 122) with ⟨q1, f1⟩ | ⟨q1, f1⟩ <;> first | (exfalso; omega) | skip
    rcases decI (65 ≤ b) with ⟨q2, f2⟩ | ⟨q2, f2⟩ <;> first | (exfalso; omega) | skip
    rcases decI (b ≤ 90) with ⟨q3, f3⟩ | ⟨q3, f3⟩ <;> first | (exfalso; omega) | skip
    rcases decI (48 ≤ b) with ⟨q4, f4⟩ | ⟨q4, f4⟩ <;> first | (exfalso; omega) | skip
    rcases decI (b ≤ 57) with ⟨q5, f5⟩ | ⟨q5, f5⟩ <;> first | (exfalso; omega) | skip
    rcases decI (245 ≤ b) with ⟨q6, f6⟩ | ⟨q6, f6⟩ <;> first | (exfalso; omega) | skip
    rcases decI (128 ≤ b) with ⟨q7, f7⟩ | ⟨q7, f7⟩ <;> first | (exfalso; omega) | skip
    clear q0 q1 q2 q3 q4 q5 q6 q7
    clear h1 h2
    go_enter Tryd.func126, Tryd.ntmps126
    go_wp2
    go_ret
    exact ⟨rfl, rfl⟩
theorem kn_range (b : Int) : 0 ≤ kn b ∧ kn b ≤ 10 := by unfold kn; (repeat' split) <;> omega
end Go.Proofs.YthkohjijppbliaaDoor
namespace Go.Proofs.YthkohjijppbliaaDoor
open Go Go.RowKit Go.Shelf Go.Lib

theorem u8extra : U8Extra Tryd.prog Tryd.lays196_ren := ⟨by kernel_rfl, by kernel_rfl, by kernel_rfl, by kernel_rfl, by kernel_rfl, by kernel_rfl, by kernel_rfl⟩
/-- Go's two tables. -/
def Tabs (w : World) : Prop := Lib.Utf8Tabs (Tryd.lays196_ren.g 3) (Tryd.lays196_ren.g 4) w
theorem tabs_of {W : World} (h : laidMetH Tryd.prog [("unicode/utf8.acceptRanges", Rows.laid_unicode_utf8_acceptRanges), ("unicode/utf8.first", Rows.laid_unicode_utf8_first)] W) : Tabs W := by
  have h' : laidMet Tryd.prog [("unicode/utf8.acceptRanges", Rows.laid_unicode_utf8_acceptRanges), ("unicode/utf8.first", Rows.laid_unicode_utf8_first)] W := h
  refine utf8Tabs_of_readsT (U8Types.of196 Tryd.lays196) u8extra ?_ ?_
  · have := laidMet.reads h' (n := "unicode/utf8.first") (d := Rows.laid_unicode_utf8_first) (by simp)
    rw [show Rows.laid_unicode_utf8_first = firstData from Pinned.utf8First_eq] at this
    exact this
  · have := laidMet.reads h' (n := "unicode/utf8.acceptRanges") (d := Rows.laid_unicode_utf8_acceptRanges) (by simp)
    rw [show Rows.laid_unicode_utf8_acceptRanges = acceptData by kernel_rfl] at this
    exact this
theorem Tabs.kept {S : Nat → Prop} {w w' : World} (h : Tabs w) (hk : Kept S w w') (h0 : ¬ S 0) (h1 : ¬ S 1) : Tabs w' := by
  have c0 : w.cell? ⟨0, 0, none⟩ = some (.int .u8 (Lib.firstT 0)) := h.1 0 (by omega)
  have c1 : w.cell? ⟨1, 0, none⟩ = some (.int .u8 (Lib.accLo 0)) := (h.2 0 (by omega)).1
  have b0 := hk.block 0 (World.block_lt_of_cell? w _ c0) h0
  have b1 := hk.block 1 (World.block_lt_of_cell? w _ c1) h1
  exact ⟨fun c hc => (World.cell?_of_block (w := w) b0).trans (h.1 c hc), fun i hi => ⟨(World.cell?_of_block (w := w) b1).trans (h.2 i hi).1, (World.cell?_of_block (w := w) b1).trans (h.2 i hi).2⟩⟩
theorem valid_any (s : ByteArray) (w : World) (hs : s.size ≤ 9223372036854775807) (hT : Tabs w) :
    Calls Tryd.prog 116 #[.string s] w fun e w' => e = .returned (.bool (Lib.validD s.data.toList)) ∧ Kept (fun _ => False) w w' :=
  (Any.utf8_ValidString Tryd.lays196 s w hs hT).mono fun _ _ ⟨he, hb⟩ => ⟨he, Kept.of_below hb⟩
end Go.Proofs.YthkohjijppbliaaDoor
namespace Go.Proofs.YthkohjijppbliaaDoor
open Go Go.RowKit

/-- A byte that no text has. -/
def strayB (b : UInt8) : Bool := decide (b.toNat = 0 ∨ b.toNat = 192 ∨ b.toNat = 193 ∨ 245 ≤ b.toNat)
theorem stray_and (b : UInt8) : (strayB b = true ∧ (kn b.toNat = 5 ∨ kn b.toNat = 6)) ∨ (strayB b = false ∧ (kn b.toNat = 0 ∨ kn b.toNat = 1 ∨ kn b.toNat = 2 ∨ kn b.toNat = 10)) := by
  have := UInt8.toNat_lt b
  unfold strayB kn
  by_cases h : b.toNat = 0 ∨ b.toNat = 192 ∨ b.toNat = 193 ∨ 245 ≤ b.toNat
  · refine .inl ⟨by simpa using h, ?_⟩
    (repeat' split) <;> omega
  · refine .inr ⟨by simpa using h, ?_⟩
    (repeat' split) <;> omega
theorem byte_at (s : ByteArray) (k : Nat) (h : k < s.size) : s.data.toList[k]? = some (s[k]'h) := by
  show s.data.toList[k]? = some (s.data[k]'h)
  rw [Array.getElem?_toList]
  exact Array.getElem?_eq_getElem h
theorem stray_any (s : ByteArray) (w : World) (hs : s.size ≤ 4000) :
    Calls Tryd.prog 117 #[.string s] w fun e w' => e = .returned (.bool (s.data.toList.any strayB)) ∧ w' = w := by
  obtain ⟨V, hV⟩ : ∃ V, s.data.toList.any strayB = V := ⟨_, rfl⟩
  rw [hV]
  have HV := Lib.hid hV
  clear hV
  go_enter Tryd.func117, Tryd.ntmps117
  go_wp2
  go_loop [6] (fun v => ∃ k : Nat, k ≤ s.size ∧ v = .int .i64 k ∧ (s.data.toList.take k).any strayB = false) (fun v => s.size - (intOf v).toNat)
  case atStart => exact ⟨0, Nat.zero_le _, rfl, rfl⟩
  case round =>
    obtain ⟨k, hk, rfl, hall⟩ := hrel
    have HA := Lib.hid hall
    clear hall
    by_cases hlt : k < s.size
    · obtain ⟨b, hb⟩ : ∃ b, s[k]'hlt = b := ⟨_, rfl⟩
      have hlist : Hid (s.data.toList[k]? = some b) := by
        rw [← hb]
        exact byte_at s k hlt
      have hr := UInt8.toNat_lt b
      have cK := kind_any b.toNat ⟨by omega, by omega⟩ w
      have x0 : bits BinOp.and IntKind.u8 0 4 = 0 := by decide
      have x1 : bits BinOp.and IntKind.u8 1 4 = 0 := by decide
      have x2 : bits BinOp.and IntKind.u8 2 4 = 0 := by decide
      have x3 : bits BinOp.and IntKind.u8 10 4 = 0 := by decide
      have x4 : bits BinOp.and IntKind.u8 6 4 = 4 := by decide
      have x5 : bits BinOp.and IntKind.u8 5 4 = 4 := by decide
      rcases stray_and b with ⟨h1, h2⟩ | ⟨h1, h2⟩
      · have hV : Hid (V = true) := by
          show _ = _
          rw [← HV.out]
          exact List.any_eq_true.2 ⟨b, List.mem_of_getElem? hlist.out, h1⟩
        clear h1
        rcases h2 with h2 | h2
        all_goals
          rw [h2] at cK
          clear h2
          go_wp2_with (go_at_call 126; refine cK.mono ?_; rintro e w' ⟨rfl, rfl⟩)
          go_ret
          rw [hV.out]
          exact ⟨rfl, rfl⟩
      · have H1 := Lib.hid h1
        clear h1
        rcases h2 with h2 | h2 | h2 | h2
        all_goals
          rw [h2] at cK
          clear h2
          go_wp2_with (go_at_call 126; refine cK.mono ?_; rintro e w' ⟨rfl, rfl⟩)
          go_round
          case rel =>
            refine ⟨k + 1, by omega, by go_num, ?_⟩
            rw [List.take_add_one, hlist.out, List.any_append, HA.out]
            simpa using H1.out
          case measure => simp [intOf]; omega
    · obtain rfl : k = s.size := by omega
      have hsz := Lib.size_eq s
      have hfin : Hid (V = false) := by
        show _ = _
        rw [← HV.out]
        have h := HA.out
        rwa [List.take_of_length_le (by omega)] at h
      clear hsz
      go_wp2
      go_ret
      rw [hfin.out]
      exact ⟨rfl, rfl⟩
theorem stray_valid {s : ByteArray} (h : Lib.validD s.data.toList = true) : s.data.toList.any strayB = !(s.data.toList.all fun b => b != 0) := by
  have hp := valid_plain h
  generalize s.data.toList = l at hp ⊢
  clear h
  induction l with
  | nil => rfl
  | cons b l ih =>
    have hb := hp b (by simp)
    have : strayB b = !(b != 0) := by
      unfold strayB
      by_cases h0 : b = 0
      · subst h0; rfl
      · have : b.toNat ≠ 0 := fun e => h0 (UInt8.toNat_inj.1 (by simpa using e))
        have e1 : (b != 0) = true := by simpa using h0
        rw [e1]
        simp
        omega
    rw [List.any_cons, List.all_cons, ih (fun c hc => hp c (by simp [hc])), this]
    cases (b != 0) <;> cases (l.all fun b => b != 0) <;> rfl
/-- Check: 0 where it may be a text, 1 where not. -/
theorem check_any (s : ByteArray) (w : World) (hs : s.size ≤ 140737488351232) (hT : Tabs w) :
    Calls Tryd.prog 102 #[.string s] w fun e w' => e = .returned (.int .i64 (if mayB s then 0 else 1)) ∧ Kept (fun _ => False) w w' := by
  by_cases h1 : s.size ≤ 4000
  · have cV := valid_any s w (by omega) hT
    have HT := Lib.hid hT
    clear hT
    have b1 : decide (4000 < s.size) = false := by simp; omega
    have b2 : decide (4000 < (s.size : Int)) = false := by simp; omega
    cases hv : Lib.validD s.data.toList
    · have hm : mayB s = false := by unfold mayB; rw [hv]; simp
      rw [hm]
      rw [hv] at cV
      clear hv hm
      go_enter Tryd.func102, Tryd.ntmps102
      go_wp2_with (go_at_call 116; refine cV.mono ?_; rintro e w1 ⟨rfl, hk1⟩)
      go_ret
      exact ⟨rfl, hk1⟩
    · have hm : mayB s = !(s.data.toList.any strayB) := by
        rw [stray_valid hv]
        unfold mayB
        rw [hv]
        simp [h1]
      rw [hm]
      rw [hv] at cV
      clear hm hv
      have cS := fun w1 => stray_any s w1 h1
      generalize s.data.toList.any strayB = V at cS ⊢
      go_enter Tryd.func102, Tryd.ntmps102
      go_wp2_with (go_at_call 116; refine cV.mono ?_; rintro e w1 ⟨rfl, hk1⟩)
      refine (cS w1).mono ?_
      rintro e w2 ⟨rfl, rfl⟩
      cases V
      · go_wp2
        go_ret
        exact ⟨rfl, hk1⟩
      · go_wp2
        go_ret
        exact ⟨rfl, hk1⟩
  · have b1 : decide (4000 < s.size) = true := by simp; omega
    have b2 : decide (4000 < (s.size : Int)) = true := by simp; omega
    have hm : mayB s = false := by unfold mayB; simp [h1]
    rw [hm]
    clear hm hT
    go_enter Tryd.func102, Tryd.ntmps102
    go_wp2
    go_ret
    exact ⟨rfl, Kept.refl _ _⟩
end Go.Proofs.YthkohjijppbliaaDoor
namespace Go.Proofs.YthkohjijppbliaaDoor
open Go Go.ChangeShapes Go.WideShapes Go.ChangeAt Go.RowKit

theorem own : ownKnob Tryd.prog.godebug = none := by kernel_rfl
/-- A world for the witness: the settled one, with the two tables as the program's text lays them. -/
noncomputable def laidWorld (os : Os) : World :=
  let w := World.holding Tryd.prog os ⟨#[], #[], []⟩
  { w with heap := (w.heap.modify 0 fun | .cells _ t f => .cells ((List.range 256).map fun c => Value.int .u8 (Lib.firstT c)).toArray t f | o => o).modify 1 fun
      | .cells _ t f => .cells ((List.range 16).flatMap fun c => [Value.int .u8 (Lib.accLo c), Value.int .u8 (Lib.accHi c)]).toArray t f | o => o }

end Go.Proofs.YthkohjijppbliaaDoor
