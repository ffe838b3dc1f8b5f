/-
  A PATCH BETWEEN TWO TEXTS, APPLIED, as bytes: where a rune stands among a text's bytes; pieces of a text.
-/
import Derived.Test.YthbfmdnibijapaaDoorHiI
import Derived.Test.YthbfmdnibijapaaDoorBt
import Derived.Lib.IndexAny
import Derived.Lib.Strings
set_option linter.unusedVariables false
namespace Go.Proofs.YthbfmdnibijapaaDoor
open Go Go.RowKit

/-- How many bytes the first runes have. -/
def bpos (t : List Int) (j : Nat) : Nat := (Utf.bytes (t.take j)).length
theorem bytes_split (t : List Int) (j : Nat) : Utf.bytes t = Utf.bytes (t.take j) ++ Utf.bytes (t.drop j) := by
  rw [← Utf.bytes_append, List.take_append_drop]
theorem bpos_drop (t : List Int) (j : Nat) : (runesBytes t).data.toList.drop (bpos t j) = Utf.bytes (t.drop j) := by
  rw [txt_list, bytes_split t j]
  unfold bpos
  rw [List.drop_left]
theorem bpos_take (t : List Int) (j : Nat) : (runesBytes t).data.toList.take (bpos t j) = Utf.bytes (t.take j) := by
  rw [txt_list, bytes_split t j]
  unfold bpos
  rw [List.take_left]
theorem bpos_le (t : List Int) (j : Nat) : bpos t j ≤ (runesBytes t).size := by
  rw [txt_size]
  have := congrArg List.length (bytes_split t j)
  rw [List.length_append] at this
  unfold bpos
  omega
theorem bpos_all {t : List Int} {j : Nat} (h : t.length ≤ j) : bpos t j = (runesBytes t).size := by
  unfold bpos
  rw [txt_size, List.take_of_length_le h]
theorem bpos_zero (t : List Int) : bpos t 0 = 0 := rfl
theorem take_succ' {t : List Int} {j : Nat} {x : Int} (h : t[j]? = some x) : t.take (j + 1) = t.take j ++ [x] := by
  rw [List.take_add_one, h]
  rfl
theorem bpos_step {t : List Int} {j : Nat} {x : Int} (h : t[j]? = some x) : bpos t (j + 1) = bpos t j + (Utf.enc x).length := by
  unfold bpos
  rw [take_succ' h, Utf.bytes_append, List.length_append]
  simp [Utf.bytes]
theorem bpos_decode {t : List Int} {j : Nat} {x : Int} (hv : Vld t) (h : t[j]? = some x) : (Utf8.decode (runesBytes t) (bpos t j)).2 = (Utf.enc x).length := by
  have e := Lib.decodeL_drop (runesBytes t) (bpos t j)
  rw [bpos_drop, Rw.drop_cons h] at e
  have e2 := Utf.decodeL_enc x (hv x (List.mem_of_getElem? h)) (Utf.bytes (t.drop (j + 1)))
  have e3 : Utf.bytes (x :: t.drop (j + 1)) = Utf.enc x ++ Utf.bytes (t.drop (j + 1)) := rfl
  rw [e3, e2] at e
  rw [← e]
theorem bpos_lt {t : List Int} {j : Nat} (h : j < t.length) : bpos t j < (runesBytes t).size := by
  obtain ⟨x, hx⟩ : ∃ x, t[j]? = some x := ⟨_, List.getElem?_eq_getElem h⟩
  have h1 := bpos_step hx
  have h2 := bpos_le t (j + 1)
  have h3 := (Utf.enc_length x).1
  omega
theorem ext_mid (s : ByteArray) (x y : Nat) : (s.extract x (x + y)).data.toList = (s.data.toList.drop x).take y := by
  have := Lib.extract_toList s x (x + y)
  rw [ByteArray.toList_eq, Nat.add_sub_cancel_left] at this
  exact this
/-- The three pieces. -/
theorem piece_low {t : List Int} {a : Nat} : (runesBytes t).extract 0 (bpos t a) = runesBytes (t.take a) := by
  apply ba_ext
  rw [txt_list, ← bpos_take]
  simp
theorem piece_high {t : List Int} {a : Nat} : (runesBytes t).extract (bpos t a) (runesBytes t).size = runesBytes (t.drop a) := by
  apply ba_ext
  rw [txt_list, ← bpos_drop]
  exact Lib.extract_to_end _ _
theorem bpos_add (t : List Int) (a d : Nat) : bpos t (a + d) = bpos t a + bpos (t.drop a) d := by
  unfold bpos
  rw [List.take_add, Utf.bytes_append, List.length_append]
theorem piece_mid {t : List Int} {a d : Nat} : (runesBytes t).extract (bpos t a) (bpos t (a + d)) = runesBytes ((t.drop a).take d) := by
  apply ba_ext
  rw [bpos_add, ext_mid, bpos_drop, ← txt_list (t.drop a), bpos_take, txt_list]
end Go.Proofs.YthbfmdnibijapaaDoor
