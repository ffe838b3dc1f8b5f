/-
  THE LAWS' OWN CALLS: how much an ask weighs; which offsets it asks about.
-/
import Derived.Test.YtpgicfbaefcbmaaDoorAoHn
import Derived.Test.YtpgicfbaefcbmaaDoorAsk
import Derived.Laws.AppendOwn
import Derived.Laws.Cover4
set_option linter.unusedVariables false
namespace Go.Proofs.YtpgicfbaefcbmaaDoor
open Go Go.RowKit

/-- How much texts weigh, as far as it is counted. -/
theorem texts_any (A : Option Addr) (n c : Nat) (ss : List ByteArray) (w : World) (hA : Strs w A n ss) (hn : n ≤ 8796093022208) :
    Calls Tryd.prog 38 #[.slice A n c] w fun e w' => (∃ q : Int, e = .returned (.int .i64 q) ∧ 0 ≤ q ∧ q ≤ 200000000000000 ∧ (q ≤ 6000 → ∀ s ∈ ss, s.size ≤ 6000)) ∧ w' = w := by
  have HA := Lib.hid hA
  clear hA
  go_enter Tryd.func38, Tryd.ntmps38
  go_wp2
  go_loop [3, 4] (fun m i => ∃ (k : Nat) (q : Int), k ≤ n ∧ i = .int .i64 k ∧ m = .int .i64 q ∧ 0 ≤ q ∧ q ≤ 160000000000000 ∧ ∀ j s, j < k → ss[j]? = some s → (s.size : Int) ≤ q) (fun _ i => n - (intOf i).toNat)
  case atStart => exact ⟨0, n, Nat.zero_le _, rfl, rfl, by omega, by omega, fun j s hj => by omega⟩
  case round =>
    obtain ⟨k, q, hk, rfl, rfl, h1, h2, h3⟩ := hrel
    have H3 := Lib.hid h3
    clear h3
    by_cases hlt : k < n
    · by_cases hq : q < 1048576
      · obtain ⟨ad, s, rfl, hs, hc, hsz⟩ := HA.out.cell hlt
        have HS := Lib.hid hs
        clear hs
        have bq : decide (q < 1048576) = true := by simp; omega
        go_wp2
        go_round
        case rel => exact ⟨k + 1, q + s.size, by omega, by go_num, by go_num, by omega, by omega, fun j b hj hb => by
          by_cases hjk : j < k
          · have := H3.out j b hjk hb
            omega
          · obtain rfl : j = k := by omega
            rw [HS.out] at hb
            injection hb with hb
            subst hb
            omega⟩
        case measure => simp [intOf]; omega
      · have bq : decide (q < 1048576) = false := by simp; omega
        have bq2 : ¬ q < 1048576 := hq
        go_wp2
        go_ret
        exact ⟨⟨q, rfl, by omega, by omega, fun h => by omega⟩, rfl⟩
    · obtain rfl : k = n := by omega
      go_wp2
      go_ret
      refine ⟨⟨q, rfl, by omega, by omega, fun h s hs => ?_⟩, rfl⟩
      obtain ⟨j, hj, rfl⟩ := List.getElem_of_mem hs
      have := H3.out j _ (by have := HA.out.1; omega) (List.getElem?_eq_getElem hj)
      omega
end Go.Proofs.YtpgicfbaefcbmaaDoor
