/-
  slices.BinarySearch of numbers in order, walked.
-/
import Derived.Test.YtclmcieegoobkaaDoorWdB2
set_option linter.unusedVariables false
namespace Go.Proofs.YtclmcieegoobkaaDoor
open Go Go.RowKit

theorem cisnan (x : Int) (w : World) : Calls Tryd.prog 78 #[.int .i64 x] w fun e w' => e = .returned (.bool false) ∧ w' = w := by
  have b : (x != x) = false := by simp
  go_enter Tryd.func78, Tryd.ntmps78
  go_wp2
  go_ret
  exact ⟨rfl, rfl⟩
theorem sisnan (x : Int) (w : World) : Calls Tryd.prog 75 #[.int .i64 x] w fun e w' => e = .returned (.bool false) ∧ w' = w := by
  have b : (x != x) = false := by simp
  go_enter Tryd.func75, Tryd.ntmps75
  go_wp2
  go_ret
  exact ⟨rfl, rfl⟩
theorem less_any (x y : Int) (w : World) : Calls Tryd.prog 74 #[.int .i64 x, .int .i64 y] w fun e w' => e = .returned (.bool (decide (x < y))) ∧ w' = w := by
  obtain ⟨B, hB⟩ : ∃ B, decide (x < y) = B := ⟨_, rfl⟩
  rw [hB]
  cases B
  all_goals
    go_enter Tryd.func74, Tryd.ntmps74
    go_wp2_with (go_at_call 78; refine (cisnan _ _).mono ?_; rintro e w' ⟨rfl, rfl⟩)
    go_ret
    exact ⟨rfl, rfl⟩
theorem bs_any (A : Option Addr) (n c : Nat) (S : List Nat) (x : Nat) (w : World) (hN : Nums w A n (S.map fun (i : Nat) => (i : Int))) (hs : S.Pairwise (· < ·)) (hn : n ≤ 6001) (hx : x ≤ 6001) :
    Calls Tryd.prog 65 #[.slice A n c, .int .i64 x] w fun e w' => (∃ m : Nat, m ≤ n ∧ (∀ j a, S[j]? = some a → (j < m ↔ a < x)) ∧ e = .returned (.tuple #[.int .i64 m, .bool (decide (S[m]? = some x))])) ∧ w' = w := by
  have hl : S.length = n := by have := hN.1; simpa using this
  have HN := Lib.hid hN
  have HL := Lib.hid hl
  have hp : ∀ (i j a b : Nat), S[i]? = some a → S[j]? = some b → i < j → a < b := fun i j a b hi hj hij => by
    obtain ⟨h1, e1⟩ := List.getElem?_eq_some_iff.1 hi
    obtain ⟨h2, e2⟩ := List.getElem?_eq_some_iff.1 hj
    have := List.pairwise_iff_getElem.1 hs i j h1 h2 hij
    omega
  have HP := Lib.hid hp
  clear hN hs hl hp
  go_enter Tryd.func65, Tryd.ntmps65
  go_wp2
  go_loop [7, 8] (fun v u => ∃ I J : Nat, v = .int .i64 I ∧ u = .int .i64 J ∧ I ≤ J ∧ J ≤ n ∧ (∀ j a, S[j]? = some a → j < I → a < x) ∧ (∀ j a, S[j]? = some a → J ≤ j → x ≤ a)) (fun v u => (intOf u - intOf v).toNat)
  case atStart => exact ⟨0, n, rfl, rfl, Nat.zero_le _, Nat.le_refl _, fun j a _ h => by omega, fun j a h1 h2 => by rw [List.getElem?_eq_none (by rw [HL.out]; exact h2)] at h1; cases h1⟩
  case round =>
    obtain ⟨I, J, rfl, rfl, hIJ, hJ, h1, h2⟩ := hrel
    have H1 := Lib.hid h1
    have H2 := Lib.hid h2
    clear h1 h2
    by_cases hlt : I < J
    · obtain ⟨q, hq⟩ : ∃ q, (I + J) / 2 = q := ⟨_, rfl⟩
      have hq1 : I ≤ q ∧ q < J := by omega
      have hq2 : ((I : Int) + (J : Int)) / 2 = (q : Int) := by omega
      obtain ⟨ad, v, rfl, hv, hc⟩ := HN.out.cell (j := q) (by omega)
      have hlS : q < S.length := by rw [HL.out]; omega
      have hSq : S[q]? = some S[q] := List.getElem?_eq_getElem hlS
      have hv2 : v = ((S[q] : Nat) : Int) := by
        rw [List.getElem?_map, hSq] at hv
        injection hv with hv
        exact hv.symm
      obtain ⟨y, hy⟩ : ∃ y, S[q] = y := ⟨_, rfl⟩
      rw [hy] at hv2 hSq
      subst hv2
      have HS := Lib.hid hSq
      have HQ := Lib.hid hq
      clear hv hSq hy hlS hq
      have cL := less_any (y : Int) (x : Int) w
      by_cases hyx : y < x
      · have e1 : decide ((y : Int) < (x : Int)) = true := by simp; omega
        rw [e1] at cL
        clear e1
        go_wp2_with (go_at_call 74; refine cL.mono ?_; rintro e w' ⟨rfl, rfl⟩)
        go_round
        case rel =>
          refine ⟨q + 1, J, by go_num, rfl, by omega, hJ, fun j a h3 h4 => ?_, H2.out⟩
          by_cases hj : j = q
          · subst hj
            rw [HS.out] at h3
            injection h3 with h3
            omega
          · have := HP.out j q a y h3 HS.out (by omega); omega
        case measure => simp [intOf]; omega
      · have e1 : decide ((y : Int) < (x : Int)) = false := by simp; omega
        rw [e1] at cL
        clear e1
        go_wp2_with (go_at_call 74; refine cL.mono ?_; rintro e w' ⟨rfl, rfl⟩)
        go_round
        case rel =>
          refine ⟨I, q, rfl, rfl, by omega, by omega, H1.out, fun j a h3 h4 => ?_⟩
          by_cases hj : j = q
          · subst hj
            rw [HS.out] at h3
            injection h3 with h3
            omega
          · have := HP.out q j y a HS.out h3 (by omega); omega
        case measure => simp [intOf]; omega
    · obtain rfl : I = J := by omega
      have HF : Hid (∀ j a, S[j]? = some a → (j < I ↔ a < x)) := by
        show ∀ j a, S[j]? = some a → (j < I ↔ a < x)
        intro j a h
        have h1 := H1.out j a h
        have h2 := H2.out j a h
        omega
      by_cases hIn : I < n
      · obtain ⟨ad, v, rfl, hv, hc⟩ := HN.out.cell hIn
        have hlS : I < S.length := by rw [HL.out]; exact hIn
        have hSq : S[I]? = some S[I] := List.getElem?_eq_getElem hlS
        have hv2 : v = ((S[I] : Nat) : Int) := by
          rw [List.getElem?_map, hSq] at hv
          injection hv with hv
          exact hv.symm
        obtain ⟨y, hy⟩ : ∃ y, S[I] = y := ⟨_, rfl⟩
        rw [hy] at hv2 hSq
        subst hv2
        have HS := Lib.hid hSq
        clear hv hSq hy hlS
        have b1 : decide (I < n) = true := by simp; omega
        by_cases hyx : y = x
        · subst hyx
          have HD : Hid (decide (S[I]? = some y) = true) := by show _ = _; rw [HS.out]; simp
          go_wp2_with (go_at_call 75; refine (sisnan _ _).mono ?_; rintro e w' ⟨rfl, rfl⟩)
          refine bodyPost_ret (v := .tuple #[.int .i64 (I : Nat), .bool true]) (by simp [results, Tryd.results65, go_sem]) rfl ⟨⟨I, hJ, HF.out, by rw [HD.out]⟩, rfl⟩
        · have HD : Hid (decide (S[I]? = some x) = false) := by
            show _ = _
            rw [HS.out, decide_eq_false_iff_not]
            intro e
            injection e with e
            exact hyx e
          have e1 : ((y : Int) == (x : Int)) = false := by rw [beq_eq_false_iff_ne]; omega
          have e2 : (y == x) = false := by rw [beq_eq_false_iff_ne]; exact hyx
          clear hyx
          go_wp2_with (go_at_call 75; refine (sisnan _ _).mono ?_; rintro e w' ⟨rfl, rfl⟩)
          refine bodyPost_ret (v := .tuple #[.int .i64 (I : Nat), .bool false]) (by simp [results, Tryd.results65, go_sem]) rfl ⟨⟨I, hJ, HF.out, by rw [HD.out]⟩, rfl⟩
      · have b1 : decide (I < n) = false := by simp; omega
        have HD : Hid (decide (S[I]? = some x) = false) := by
          show _ = _
          rw [List.getElem?_eq_none (by rw [HL.out]; omega)]
          rfl
        go_wp2
        refine bodyPost_ret (v := .tuple #[.int .i64 (I : Nat), .bool false]) (by simp [results, Tryd.results65, go_sem]) rfl ⟨⟨I, hJ, HF.out, by rw [HD.out]⟩, rfl⟩
end Go.Proofs.YtclmcieegoobkaaDoor
