/-
  ELEMENTS AND OPS: how much ops weigh.
-/
import Derived.Test.YthkohjijppbliaaDoorLMa
import Derived.Test.YthkohjijppbliaaDoorLMb
import Derived.BigQuiet
set_option linter.unusedVariables false
namespace Go.Proofs.YthkohjijppbliaaDoor
open Go Go.RowKit

theorem opsweight_any (A : Option Addr) (n c : Nat) (al : List OpS) (w : World) (hA : OpsM w A n al) (hn : n ≤ 140737488351232) :
    Calls Tryd.prog 27 #[.slice A n c] w fun e w' => (∃ q : Int, e = .returned (.int .i64 q) ∧ (n : Int) ≤ q ∧ q ≤ 200000000000000) ∧ w' = w := by
  have HA := Lib.hid hA
  clear hA
  go_enter Tryd.func27, Tryd.ntmps27
  go_wp2
  go_loop [3, 4] (fun m i => ∃ (k : Nat) (q : Int), k ≤ n ∧ i = .int .i64 k ∧ m = .int .i64 q ∧ (n : Int) ≤ q ∧ q ≤ 160000000000000) (fun _ i => n - (intOf i).toNat)
  case atStart => exact ⟨0, n, Nat.zero_le _, rfl, rfl, by omega, by omega⟩
  case round =>
    obtain ⟨k, q, hk, rfl, rfl, h1, h2⟩ := hrel
    by_cases hlt : k < n
    · by_cases hq : q < 1048576
      · obtain ⟨ad, b, rfl, hs, h9, hok⟩ := HA.out.at_ hlt
        have c8 := h9.c8
        have hbn := hok.n
        have bq : decide (q < 1048576) = true := by simp; omega
        clear hs h9 hok
        go_wp2
        go_round
        case rel => exact ⟨k + 1, q + b.n, by omega, by go_num, by go_num, by omega, by omega⟩
        case measure => simp [intOf]; omega
      · have bq : decide (q < 1048576) = false := by simp; omega
        have bq2 : ¬ q < 1048576 := hq
        go_wp2
        go_ret
        exact ⟨⟨q, rfl, by omega, by omega⟩, rfl⟩
    · obtain rfl : k = n := by omega
      go_wp2
      go_ret
      exact ⟨⟨q, rfl, by omega, by omega⟩, rfl⟩
end Go.Proofs.YthkohjijppbliaaDoor
