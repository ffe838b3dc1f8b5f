/-
  THE GAP BUFFER: its small calls.
-/
import Derived.Test.YthhlchgnjdfpeaaDoorChecked
import Derived.Test.YthhlchgnjdfpeaaDoorUtf
import Derived.WalkKit
import Derived.Deep.QuietTactic
import Derived.BigQuiet
import Derived.Outline
set_option linter.unusedVariables false
namespace Go.Proofs.YthhlchgnjdfpeaaDoor
open Go Go.RowKit

/-- A gap buffer's block. -/
def GapAt (w : World) (rb : Nat) (room : Nat) (cv : Value) (low high moves : Nat) : Prop :=
  w.heap[rb]? = some (.cells #[.int .i64 room, cv, .int .i64 low, .int .i64 high, .int .i64 moves] 57 (0, 0))

theorem len_any (rb : Nat) (a : Option Addr) (n c low high : Nat) (w : World) (h1 : w.cell? ⟨rb, 1, none⟩ = some (.slice a n c)) (h2 : w.cell? ⟨rb, 2, none⟩ = some (.int .i64 low))
    (h3 : w.cell? ⟨rb, 3, none⟩ = some (.int .i64 high)) (hl : low ≤ high) (hh : high ≤ n) (hn : n ≤ 100000) :
    Calls Tryd.prog 20 #[.pointer (some ⟨rb, 0, none⟩)] w fun e w' => e = .returned (.int .i64 ((n : Int) - ((high : Int) - (low : Int)))) ∧ ∃ k, w' = w.drewN k := by
  go_enter Tryd.func20, Tryd.ntmps20
  go_wp2
  go_outline
  go_quiet (fail)
  go_wp2
  go_outline
  go_ret
  exact ⟨rfl, _, rfl⟩
end Go.Proofs.YthhlchgnjdfpeaaDoor
