/-
  RANGES: as values, as blocks, as results.
-/
import Derived.Test.YtbofjefblhnkoaaGreatDoorZMg
import Derived.Laws.ResultCell
set_option linter.unusedVariables false
namespace Go.Proofs.YtbofjefblhnkoaaGreatDoor
open Go Go.RowKit

abbrev rngV (lo hi : Int) (line : Bool) : Value := .agg #[.int .i64 lo, .int .i64 hi, .bool line]
abbrev rngO (lo hi : Int) (line : Bool) : Obj := .cells #[.int .i64 lo, .int .i64 hi, .bool line] 41
theorem rng_facts {w : World} {g : Nat} {lo hi : Int} {line : Bool} (h : w.heap[g]? = some (rngO lo hi line)) :
    w.cell? ⟨g, 0, none⟩ = some (.int .i64 lo) ∧ w.cell? ⟨g, 1, none⟩ = some (.int .i64 hi) ∧ w.cell? ⟨g, 2, none⟩ = some (.bool line) :=
  ⟨by rw [cell_of_row _ _ _ _ _ _ h]; rfl, by rw [cell_of_row _ _ _ _ _ _ h]; rfl, by rw [cell_of_row _ _ _ _ _ _ h]; rfl⟩
theorem rng_three {w : World} {g : Nat} {lo hi : Int} {line : Bool} (h : w.heap[g]? = some (rngO lo hi line)) (lo' hi' : Int) (line' : Bool) :
    (((w.setCell ⟨g, 0, none⟩ (.int .i64 lo')).setCell ⟨g, 1, none⟩ (.int .i64 hi')).setCell ⟨g, 2, none⟩ (.bool line')).heap[g]? = some (rngO lo' hi' line') :=
  (heap_set (heap_set (heap_set h _) _) _).trans rfl
theorem Kept.three {S : Nat → Prop} {w w1 : World} {g : Nat} (h : Kept S w w1) (hg : S g) (v0 v1 v2 : Value) :
    Kept S w (((w1.setCell ⟨g, 0, none⟩ v0).setCell ⟨g, 1, none⟩ v1).setCell ⟨g, 2, none⟩ v2) :=
  ((h.setCell (p := ⟨g, 0, none⟩) hg _).setCell (p := ⟨g, 1, none⟩) hg _).setCell (p := ⟨g, 2, none⟩) hg _
theorem rng_free {w : World} {g : Nat} {lo hi : Int} {line : Bool} (h : w.heap[g]? = some (rngO lo hi line)) : w.frozen? ⟨g, 0, none⟩ = false ∧ w.frozen? ⟨g, 1, none⟩ = false ∧ w.frozen? ⟨g, 2, none⟩ = false := ⟨frozen_of h, frozen_of h, frozen_of h⟩
set_option maxRecDepth 100000 in
theorem res_rng {fn : Func} {p : Tmp} (h : fn.results = #[.cell p 41]) (tmps : Array Value) (w : World) (g : Nat) (a d : Int) (s : Bool) (fr : Nat × Nat) (hp : tmps.getD p undef = .pointer (some ⟨g, 0, none⟩)) (hg : w.heap[g]? = some (.cells #[.int .i64 a, .int .i64 d, .bool s] 41 fr)) :
    (results fn tmps).run Tryz.prog w = .ok (rngV a d s) w :=
  results_cell_row h tmps _ g _ _ _ _ hp hg Tryz.underlying41 rfl (by kernel_rfl)
set_option maxRecDepth 100000 in
theorem res_rng2 {fn : Func} {p u : Tmp} (h : fn.results = #[.cell p 41, .tmp u]) (tmps : Array Value) (w : World) (g : Nat) (a d : Int) (s : Bool) (fr : Nat × Nat) (hp : tmps.getD p undef = .pointer (some ⟨g, 0, none⟩)) (hg : w.heap[g]? = some (.cells #[.int .i64 a, .int .i64 d, .bool s] 41 fr)) :
    (results fn tmps).run Tryz.prog w = .ok (.tuple #[rngV a d s, tmps.getD u undef]) w := by
  rw [results_cell_tmp h, hp]
  simp [asAddr, Result.andThen, run_loadVar_row w g _ _ _ _ _ hg Tryz.underlying41 rfl (by kernel_rfl)]
/-- A range, told: or the error. -/
def ansR (o : Option (Int × Int × Bool)) : Value := match o with
  | some (a, b, l) => .tuple #[rngV a b l, .int .i64 0]
  | none => .tuple #[rngV 0 0 false, .int .i64 6]
end Go.Proofs.YtbofjefblhnkoaaGreatDoor
