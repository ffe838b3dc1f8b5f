/-
  WHERE A ROW BEGINS: by rows and by runes.
-/
import Derived.Test.YtbofjefblhnkoaaGreatDoorSfP
set_option linter.unusedVariables false
namespace Go.Proofs.YtbofjefblhnkoaaGreatDoor
open Go Go.RowKit

theorem lenTo_no : ∀ {u : List Int}, (10 : Int) ∉ u → Rw.lenTo u = u.length
  | [], _ => rfl
  | c :: u, h => by
    have hc : ¬ c = 10 := fun e => h (by simp [e])
    have ih := lenTo_no (u := u) (fun e => h (by simp [e]))
    unfold Rw.lenTo
    rw [if_neg hc, ih, List.length_cons]
theorem lenTo_cut : ∀ {x : List Int} (l : List Int), (10 : Int) ∉ x → Rw.lenTo (x ++ 10 :: l) = x.length
  | [], l, _ => by simp [Rw.lenTo]
  | c :: x, l, h => by
    have hc : ¬ c = 10 := fun e => h (by simp [e])
    have ih := lenTo_cut (x := x) l (fun e => h (by simp [e]))
    rw [List.cons_append]
    unfold Rw.lenTo
    rw [if_neg hc, ih, List.length_cons]
/-- The rows from an offset on: the first of them, and what follows. -/
theorem rows_at {t : List Int} {a : Nat} (ha : a ≤ t.length) : ∃ r rs, rowsOf (t.drop a) = r :: rs ∧ a + r.length = Rw.en t a ∧ (∀ x ∈ r, x ∈ t) ∧ (Rw.en t a = t.length → rs = []) ∧ (Rw.en t a ≠ t.length → rs = rowsOf (t.drop (Rw.en t a + 1)) ∧ Rw.en t a + 1 ≤ t.length) := by
  rcases ten_split (t.drop a) with h | ⟨x, l, e, h⟩
  · have hl := lenTo_no h
    have he : Rw.en t a = t.length := by
      unfold Rw.en
      rw [hl, List.length_drop]
      omega
    refine ⟨t.drop a, [], rowsOf_row h, ?_, fun x hx => List.mem_of_mem_drop hx, fun _ => rfl, fun h' => absurd he h'⟩
    rw [he, List.length_drop]
    omega
  · have hl := lenTo_cut l h
    have he : Rw.en t a = a + x.length := by
      unfold Rw.en
      rw [e, hl]
    have hlen : t.length - a = x.length + (l.length + 1) := by
      have := congrArg List.length e
      rw [List.length_drop, List.length_append, List.length_cons] at this
      exact this
    refine ⟨x, rowsOf l, by rw [e, rowsOf_cut l h], he.symm, fun y hy => ?_, fun h' => by omega, fun _ => ⟨?_, by omega⟩⟩
    · have : y ∈ t.drop a := by rw [e]; exact List.mem_append_left _ hy
      exact List.mem_of_mem_drop this
    · have : t.drop (Rw.en t a + 1) = l := by
        rw [he, show a + x.length + 1 = a + (x.length + 1) by omega, ← List.drop_drop, e]
        simp
      rw [this]
/-- Where a row begins, if there is such a row. -/
def stt (t : List Int) (row : Int) : Option Nat := if 0 ≤ row then Rw.dn t 0 row.toNat else none
theorem dn_step {t : List Int} {a n : Nat} : Rw.dn t a (n + 1) = if Rw.en t a = t.length then none else Rw.dn t (Rw.en t a + 1) n := rfl
theorem dn_zero {t : List Int} {a : Nat} (h : Rw.beg t a = a) : Rw.dn t a 0 = some a := by
  unfold Rw.dn
  rw [h]
theorem beg_next {t : List Int} {a : Nat} (ha : a ≤ t.length) (h : Rw.en t a ≠ t.length) : Rw.beg t (Rw.en t a + 1) = Rw.en t a + 1 :=
  Rw.beg_stop (Rw.en_at t a (by have := Rw.en_le t a ha; omega))
theorem beg_0 (t : List Int) : Rw.beg t 0 = 0 := by have := Rw.beg_le t 0; omega
end Go.Proofs.YtbofjefblhnkoaaGreatDoor
