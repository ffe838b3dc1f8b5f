/-
  ROWS OF RUNES: begin, end, the first rune that is no blank, rows below and above: of the program and of the reference.
-/
import Derived.Test.YtohmhjeimeilcaaDoorTx
import Derived.Test.YtohmhjeimeilcaaDoorMvP
set_option linter.unusedVariables false
namespace Go.Proofs.YtohmhjeimeilcaaDoor
open Go Go.RowKit

theorem rbegin_any (A : Option Addr) (n c : Nat) (t : List Int) (k : Nat) (w : World) (hA : Rn w A n t) (hk : k ≤ n) (hn : n ≤ 100000) :
    Calls Tryd.prog 69 #[.slice A n c, .int .i64 k] w fun e w' => e = .returned (.int .i64 (Rw.beg t k : Nat)) ∧ w' = w := by
  have HA := Lib.hid hA
  clear hA
  go_enter Tryd.func69, Tryd.ntmps69
  go_wp2
  go_loop [1] (fun v => ∃ j : Nat, j ≤ k ∧ v = .int .i64 j ∧ Rw.beg t j = Rw.beg t k) (fun v => (intOf v).toNat)
  case atStart => exact ⟨k, Nat.le_refl _, rfl, rfl⟩
  case round =>
    obtain ⟨j, hj, rfl, hb⟩ := hrel
    have HB := Lib.hid hb
    clear hb
    by_cases h0 : j = 0
    · subst h0
      go_wp2
      go_ret
      rw [← HB.out]
      exact ⟨rfl, rfl⟩
    · obtain ⟨i, rfl⟩ : ∃ i, j = i + 1 := ⟨j - 1, by omega⟩
      clear h0
      obtain ⟨ad, x, rfl, hx, hc⟩ := HA.out.cell (j := i) (by omega)
      have HX := Lib.hid hx
      clear hx
      by_cases h10 : x = 10
      · subst h10
        go_wp2
        go_ret
        rw [← HB.out, Rw.beg_stop HX.out]
        exact ⟨rfl, rfl⟩
      · have b3 : (x != 10) = true := by rw [bne_iff_ne]; exact h10
        have H10 := Lib.hid h10
        clear h10
        go_wp2
        go_round
        case rel =>
          refine ⟨i, by omega, by go_num, ?_⟩
          rw [← HB.out, Rw.beg_step]
          rw [HX.out]
          intro e
          injection e with e
          exact H10.out e
        case measure => simp [intOf]
theorem rend_any (A : Option Addr) (n c : Nat) (t : List Int) (k : Nat) (w : World) (hA : Rn w A n t) (hk : k ≤ n) (hn : n ≤ 100000) :
    Calls Tryd.prog 68 #[.slice A n c, .int .i64 k] w fun e w' => e = .returned (.int .i64 (Rw.en t k : Nat)) ∧ w' = w := by
  have HA := Lib.hid hA
  clear hA
  go_enter Tryd.func68, Tryd.ntmps68
  go_wp2
  go_loop [1] (fun v => ∃ j : Nat, j ≤ n ∧ v = .int .i64 j ∧ Rw.en t j = Rw.en t k) (fun v => n - (intOf v).toNat)
  case atStart => exact ⟨k, hk, rfl, rfl⟩
  case round =>
    obtain ⟨j, hj, rfl, hb⟩ := hrel
    have HB := Lib.hid hb
    clear hb
    by_cases h0 : j < n
    · obtain ⟨ad, x, rfl, hx, hc⟩ := HA.out.cell h0
      have HX := Lib.hid hx
      clear hx
      by_cases h10 : x = 10
      · subst h10
        go_wp2
        go_ret
        rw [← HB.out, Rw.en_stop HX.out]
        exact ⟨rfl, rfl⟩
      · have b3 : (x != 10) = true := by rw [bne_iff_ne]; exact h10
        have H10 := Lib.hid h10
        clear h10
        go_wp2
        go_round
        case rel => exact ⟨j + 1, by omega, by go_num, by rw [← HB.out, Rw.en_step HX.out H10.out]⟩
        case measure => simp [intOf]; omega
    · obtain rfl : j = n := by omega
      go_wp2
      go_ret
      rw [← HB.out, Rw.en_end (by rw [HA.out.1]; exact Nat.le_refl _)]
      exact ⟨rfl, rfl⟩
theorem row_any (A : Option Addr) (n c : Nat) (t : List Int) (k : Nat) (w : World) (hA : Rn w A n t) (hk : k ≤ n) (hn : n ≤ 100000) :
    Calls Tryd.prog 35 #[.slice A n c, .int .i64 k] w fun e w' => e = .returned (.tuple #[.int .i64 (Rw.beg t k : Nat), .int .i64 (Rw.en t k : Nat)]) ∧ w' = w := by
  have HA := Lib.hid hA
  clear hA
  go_enter Tryd.func35, Tryd.ntmps35
  go_wp2
  go_loop [4] (fun v => ∃ j : Nat, j ≤ k ∧ v = .int .i64 j ∧ Rw.beg t j = Rw.beg t k) (fun v => (intOf v).toNat)
  case atStart => exact ⟨k, Nat.le_refl _, rfl, rfl⟩
  case round =>
    obtain ⟨j, hj, rfl, hb⟩ := hrel
    have HB := Lib.hid hb
    clear hb
    by_cases h0 : j = 0
    · subst h0
      have HB2 : Hid (Rw.beg t k = 0) := by show _ = _; rw [← HB.out]; rfl
      clear HB
      go_wp2
      go_loop [5] (fun v => ∃ j : Nat, j ≤ n ∧ v = .int .i64 j ∧ Rw.en t j = Rw.en t k) (fun v => n - (intOf v).toNat)
      case atStart => exact ⟨k, hk, rfl, rfl⟩
      case round =>
        obtain ⟨j, hj, rfl, hb⟩ := hrel
        have HB := Lib.hid hb
        clear hb
        by_cases h0 : j < n
        · obtain ⟨ad, x, rfl, hx, hc⟩ := HA.out.cell h0
          have HX := Lib.hid hx
          clear hx
          by_cases h10 : x = 10
          · subst h10
            go_wp2
            refine bodyPost_ret (v := .tuple #[.int .i64 ((0 : Nat) : Int), .int .i64 (j : Nat)]) (by simp [results, Tryd.results35, go_sem]) rfl ⟨?_, rfl⟩
            rw [HB2.out, ← HB.out, Rw.en_stop HX.out]
          · have b3 : (x != 10) = true := by rw [bne_iff_ne]; exact h10
            have H10 := Lib.hid h10
            clear h10
            go_wp2
            go_round
            case rel => exact ⟨j + 1, by omega, by go_num, by rw [← HB.out, Rw.en_step HX.out H10.out]⟩
            case measure => simp [intOf]; omega
        · obtain rfl : j = n := by omega
          go_wp2
          refine bodyPost_ret (v := .tuple #[.int .i64 ((0 : Nat) : Int), .int .i64 (j : Nat)]) (by simp [results, Tryd.results35, go_sem]) rfl ⟨?_, rfl⟩
          rw [HB2.out, ← HB.out, Rw.en_end (by rw [HA.out.1]; exact Nat.le_refl _)]
    · obtain ⟨i, rfl⟩ : ∃ i, j = i + 1 := ⟨j - 1, by omega⟩
      clear h0
      obtain ⟨ad, x, rfl, hx, hc⟩ := HA.out.cell (j := i) (by omega)
      have HX := Lib.hid hx
      clear hx
      by_cases h10 : x = 10
      · subst h10
        have HB2 : Hid (Rw.beg t k = i + 1) := by show _ = _; rw [← HB.out, Rw.beg_stop HX.out]
        clear HB HX
        go_wp2
        clear hc
        go_loop [5] (fun v => ∃ j : Nat, j ≤ n ∧ v = .int .i64 j ∧ Rw.en t j = Rw.en t k) (fun v => n - (intOf v).toNat)
        case atStart => exact ⟨k, hk, rfl, rfl⟩
        case round =>
          obtain ⟨j, hj, rfl, hb⟩ := hrel
          have HB := Lib.hid hb
          clear hb
          by_cases h0 : j < n
          · obtain ⟨ad, x, he, hx, hc⟩ := HA.out.cell h0
            cases he
            have HX := Lib.hid hx
            clear hx
            by_cases h10 : x = 10
            · subst h10
              go_wp2
              refine bodyPost_ret (v := .tuple #[.int .i64 ((i + 1 : Nat) : Int), .int .i64 (j : Nat)]) (by simp [results, Tryd.results35, go_sem]) rfl ⟨?_, rfl⟩
              rw [HB2.out, ← HB.out, Rw.en_stop HX.out]
            · have b3 : (x != 10) = true := by rw [bne_iff_ne]; exact h10
              have H10 := Lib.hid h10
              clear h10
              go_wp2
              go_round
              case rel => exact ⟨j + 1, by omega, by go_num, by rw [← HB.out, Rw.en_step HX.out H10.out]⟩
              case measure => simp [intOf]; omega
          · obtain rfl : j = n := by omega
            go_wp2
            refine bodyPost_ret (v := .tuple #[.int .i64 ((i + 1 : Nat) : Int), .int .i64 (j : Nat)]) (by simp [results, Tryd.results35, go_sem]) rfl ⟨?_, rfl⟩
            rw [HB2.out, ← HB.out, Rw.en_end (by rw [HA.out.1]; exact Nat.le_refl _)]
      · have b3 : (x != 10) = true := by rw [bne_iff_ne]; exact h10
        have H10 := Lib.hid h10
        clear h10
        go_wp2
        go_round
        case rel =>
          refine ⟨i, by omega, by go_num, ?_⟩
          rw [← HB.out, Rw.beg_step]
          rw [HX.out]
          intro e
          injection e with e
          exact H10.out e
        case measure => simp [intOf]
end Go.Proofs.YtohmhjeimeilcaaDoor
