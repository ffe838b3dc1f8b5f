/-
  PATCHES, what they stand on: a range over a string; runes counted.
-/
import Derived.Test.YthbfmdnibijapaaDoorTxt
import Derived.Test.YthbfmdnibijapaaDoorTk2
import Derived.Test.YthbfmdnibijapaaDoorShelf2
import Derived.Shelf.Utf8.RuneCount
import Derived.Laws.Rows
import Derived.Laws.ResultCell
import Derived.Deep.CutBlock
import Derived.Deep.CutRange
import Derived.Deep.RegionHeld3
import Derived.BigQuiet
set_option linter.unusedVariables false
namespace Go.Proofs.YthbfmdnibijapaaDoor
open Go Go.RowKit

/-- The iterator set on. -/
def setIter (w : World) (g : Nat) (s : ByteArray) (pos : Nat) : World := { w with heap := w.heap.setIfInBounds g (.stringIter s pos) }
theorem run_next_at (w : World) (g : Nat) (s : ByteArray) (pos : Nat) (ty : TypeId) (hg : w.heap[g]? = some (.stringIter s pos)) (hp : pos < s.size) :
    (Instr.next (.pointer (some ⟨g, 0, none⟩)) true ty).run Tryd.prog w = .ok (.tuple #[.bool true, .int .i64 pos, .int .i32 (Utf8.decode s pos).1]) (setIter w g s (pos + (Utf8.decode s pos).2)) := by
  simp only [Instr.next, getObj, setObj, Sem.run_bind, Sem.run, hg, Result.andThen, hp, if_true]
  simp [goInt, setIter]
theorem run_next_done (w : World) (g : Nat) (s : ByteArray) (pos : Nat) (ty : TypeId) (hg : w.heap[g]? = some (.stringIter s pos)) (hp : ¬ pos < s.size) :
    (Instr.next (.pointer (some ⟨g, 0, none⟩)) true ty).run Tryd.prog w = .ok (.tuple #[.bool false]) w := by
  simp [Instr.next, getObj, Sem.run, hg, hp]
theorem iter_same {w : World} {g : Nat} {o : Obj} {s : ByteArray} {pos : Nat} (h : w.heap[g]? = some o) : (setIter w g s pos).heap[g]? = some (.stringIter s pos) := by
  have := heap_lt h
  simp [setIter, this]
theorem iter_far {w : World} {g b : Nat} {s : ByteArray} {pos : Nat} (h : b ≠ g) : (setIter w g s pos).heap[b]? = w.heap[b]? := by
  simp [setIter, Ne.symm h]
theorem Kept.iter (w : World) (g : Nat) (s : ByteArray) (pos : Nat) : Kept (fun b => b = g) w (setIter w g s pos) :=
  ⟨rfl, rfl, rfl, by simp [setIter], fun k _ hk => iter_far hk⟩
theorem iterPos_at {w : World} {g : Nat} {s : ByteArray} {pos : Nat} (h : w.heap[g]? = some (.stringIter s pos)) : w.iterPos g = pos := by
  unfold World.iterPos
  rw [h]
theorem count_from (s : ByteArray) : ∀ (b pos : Nat), s.size ≤ pos + b → Lib.runeCountFrom s b pos = (Utf.runes (s.data.toList.drop pos)).length
  | 0, pos, h => by rw [rune_end s pos (by omega)]; rfl
  | b + 1, pos, h => by
    by_cases hp : pos < s.size
    · have hw := Lib.decode_width_pos s pos hp
      have ih := count_from s b (pos + (Utf8.decode s pos).2) (by omega)
      have e : Lib.runeCountFrom s (b + 1) pos = 1 + Lib.runeCountFrom s b (pos + (Utf8.decode s pos).2) := by
        rw [Lib.runeCountFrom, if_pos hp]
      rw [rune_at s pos hp, List.length_cons, ← ih, e]
      omega
    · rw [rune_end s pos hp, Lib.runeCountFrom_end s _ pos hp]; rfl
theorem rcount_any (s : ByteArray) (w : World) (hs : s.size ≤ 1000000) : Calls Tryd.prog 86 #[.string s] w fun e w' => e = .returned (.int .i64 (rs s).length) ∧ Kept (fun _ => False) w w' := by
  have h := Any.utf8_RuneCountInString Tryd.lays195 s w (by omega)
  have e : Lib.runeCount s = (rs s).length := by
    have := count_from s s.size 0 (by omega)
    exact this
  rw [e] at h
  exact h.mono fun e w' ⟨he, pos, hw⟩ => ⟨he, by rw [hw]; exact (Kept.refl _ w).alloc _⟩
theorem pat_cells {w : World} {g : Nat} {a d : Int} {s : ByteArray} {fr : Nat × Nat} (h : w.heap[g]? = some (.cells #[.int .i64 a, .int .i64 d, .string s] 79 fr)) :
    w.cell? ⟨g, 0, none⟩ = some (.int .i64 a) ∧ w.cell? ⟨g, 1, none⟩ = some (.int .i64 d) ∧ w.cell? ⟨g, 2, none⟩ = some (.string s) :=
  ⟨cell_of_row w g 0 _ _ _ h, cell_of_row w g 1 _ _ _ h, cell_of_row w g 2 _ _ _ h⟩
end Go.Proofs.YthbfmdnibijapaaDoor
