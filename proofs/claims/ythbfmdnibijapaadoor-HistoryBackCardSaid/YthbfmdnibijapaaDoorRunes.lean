/-
  A TEXT's RUNES, by the model's own conversion; what a text may be.
-/
import Derived.Test.YthbfmdnibijapaaDoorKept
import Derived.Laws.RangeString
import Derived.Laws.RangeAny
import Derived.Lib.RuneCount
import Derived.Laws.IdiomStrings
set_option linter.unusedVariables false
namespace Go.Proofs.YthbfmdnibijapaaDoor
open Go Go.RowKit

theorem rune_at (s : ByteArray) (pos : Nat) (h : pos < s.size) : Utf.runes (s.data.toList.drop pos) = ((Utf8.decode s pos).1 : Int) :: Utf.runes (s.data.toList.drop (pos + (Utf8.decode s pos).2)) := by
  have hne : s.data.toList.drop pos ≠ [] := by
    intro e
    have := congrArg List.length e
    rw [List.length_drop] at this
    have := Lib.size_eq s
    simp at *
    omega
  rw [Utf.runes_step _ hne, Lib.decodeL_drop, List.drop_drop]
theorem rune_end (s : ByteArray) (pos : Nat) (h : ¬ pos < s.size) : Utf.runes (s.data.toList.drop pos) = [] := by
  rw [List.drop_eq_nil_of_le (by have := Lib.size_eq s; omega)]
  rfl

/-- Bytes that no rune's form has. -/
theorem enc_plain (n : Int) (h : Utf8.valid n = true) : ∀ b ∈ Utf.enc n, b.toNat ≠ 192 ∧ b.toNat ≠ 193 ∧ b.toNat < 245 := by
  have hv := Utf.int_valid h
  obtain ⟨c, rfl⟩ := Int.eq_ofNat_of_zero_le (show 0 ≤ n by omega)
  rw [Utf.enc_of h]
  intro b hb
  by_cases h1 : c < 128
  · rw [if_pos h1] at hb
    simp only [List.mem_singleton] at hb
    subst hb
    rw [Utf.toNat_ofNat (by omega)]
    omega
  rw [if_neg h1] at hb
  by_cases h2 : c < 2048
  · rw [if_pos h2] at hb
    simp only [List.mem_cons, List.not_mem_nil, or_false] at hb
    rcases hb with rfl | rfl
    · rw [Utf.toNat_ofNat (by omega)]; omega
    · rw [Utf.toNat_ofNat (by omega)]; omega
  rw [if_neg h2] at hb
  by_cases h3 : c < 65536
  · rw [if_pos h3] at hb
    simp only [List.mem_cons, List.not_mem_nil, or_false] at hb
    rcases hb with rfl | rfl | rfl
    · rw [Utf.toNat_ofNat (by omega)]; omega
    · rw [Utf.toNat_ofNat (by omega)]; omega
    · rw [Utf.toNat_ofNat (by omega)]; omega
  rw [if_neg h3] at hb
  simp only [List.mem_cons, List.not_mem_nil, or_false] at hb
  rcases hb with rfl | rfl | rfl | rfl
  · rw [Utf.toNat_ofNat (by omega)]; omega
  · rw [Utf.toNat_ofNat (by omega)]; omega
  · rw [Utf.toNat_ofNat (by omega)]; omega
  · rw [Utf.toNat_ofNat (by omega)]; omega
theorem valid_plain {l : List UInt8} (h : Lib.validD l = true) : ∀ b ∈ l, b.toNat ≠ 192 ∧ b.toNat ≠ 193 ∧ b.toNat < 245 := by
  have hb := Utf.bytes_runes h
  have hv := Utf.valid_runes h
  rw [← hb]
  generalize Utf.runes l = ns at hv
  intro b hm
  induction ns with
  | nil => cases hm
  | cons n ns ih =>
    simp only [Utf.bytes, List.mem_append] at hm
    rcases hm with hm | hm
    · exact enc_plain n (hv n (by simp)) b hm
    · exact ih (fun r hr => hv r (by simp [hr])) hm
/-- May it be a text? -/
def mayB (s : ByteArray) : Bool := decide (s.size ≤ 4000) && Lib.validD s.data.toList && s.data.toList.all (fun b => b != 0)
theorem mayB_size {s : ByteArray} (h : mayB s = true) : s.size ≤ 4000 := by
  unfold mayB at h
  simp only [Bool.and_eq_true, decide_eq_true_eq] at h
  exact h.1.1
theorem mayB_valid {s : ByteArray} (h : mayB s = true) : Lib.validD s.data.toList = true := by
  unfold mayB at h
  simp only [Bool.and_eq_true, decide_eq_true_eq] at h
  exact h.1.2
theorem mayB_zero {s : ByteArray} (h : mayB s = true) : ∀ b ∈ s.data.toList, b ≠ 0 := by
  unfold mayB at h
  simp only [Bool.and_eq_true, decide_eq_true_eq] at h
  intro b hb
  simpa using List.all_eq_true.1 h.2 b hb
/-- The runes of a text. -/
def rs (s : ByteArray) : List Int := Utf.runes s.data.toList
theorem rs_len (s : ByteArray) : (rs s).length ≤ s.size := by
  have := Utf.runes_length s.data.toList
  have hs := Lib.size_eq s
  unfold rs
  omega
theorem rs_runey {s : ByteArray} (h : Lib.validD s.data.toList = true) : Runey (rs s) := by
  intro r hr
  have hv := Utf.int_valid (Utf.valid_runes h r hr)
  omega
end Go.Proofs.YthbfmdnibijapaaDoor
