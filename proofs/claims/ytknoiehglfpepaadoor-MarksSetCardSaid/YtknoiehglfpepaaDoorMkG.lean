/-
  MARKS: which may be; where the mark of a name is, as the program and the reference tell it.
-/
import Derived.Test.YtknoiehglfpepaaDoorMkC
import Derived.Test.YtknoiehglfpepaaDoorMsP
import Derived.BigQuiet
set_option linter.unusedVariables false
namespace Go.Proofs.YtknoiehglfpepaaDoor
open Go Go.RowKit

theorem mmay_any (x y : Int) (w : World) : Calls Tryd.prog 24 #[.int .i64 x, .int .i64 y] w fun e w' => e = .returned (.bool (decide ((97 ≤ x ∧ x ≤ 122) ∧ 0 ≤ y ∧ y ≤ 4000))) ∧ w' = w := by
  by_cases h1 : 97 ≤ x
  · by_cases h2 : x ≤ 122
    · by_cases h3 : 0 ≤ y
      · by_cases h4 : y ≤ 4000
        · have b1 : decide (97 ≤ x) = true := decide_eq_true h1
          have b2 : decide (x ≤ 122) = true := decide_eq_true h2
          have b3 : decide (0 ≤ y) = true := decide_eq_true h3
          have b4 : decide (y ≤ 4000) = true := decide_eq_true h4
          rw [decide_eq_true (show (97 ≤ x ∧ x ≤ 122) ∧ 0 ≤ y ∧ y ≤ 4000 from ⟨⟨h1, h2⟩, h3, h4⟩)]
          clear h1 h2 h3 h4
          go_enter Tryd.func24, Tryd.ntmps24
          go_wp2
          go_ret
          exact ⟨rfl, rfl⟩
        · have b1 : decide (97 ≤ x) = true := decide_eq_true h1
          have b2 : decide (x ≤ 122) = true := decide_eq_true h2
          have b3 : decide (0 ≤ y) = true := decide_eq_true h3
          have b4 : decide (y ≤ 4000) = false := decide_eq_false h4
          rw [decide_eq_false (show ¬ ((97 ≤ x ∧ x ≤ 122) ∧ 0 ≤ y ∧ y ≤ 4000) by omega)]
          clear h1 h2 h3 h4
          go_enter Tryd.func24, Tryd.ntmps24
          go_wp2
          go_ret
          exact ⟨rfl, rfl⟩
      · have b1 : decide (97 ≤ x) = true := decide_eq_true h1
        have b2 : decide (x ≤ 122) = true := decide_eq_true h2
        have b3 : decide (0 ≤ y) = false := decide_eq_false h3
        rw [decide_eq_false (show ¬ ((97 ≤ x ∧ x ≤ 122) ∧ 0 ≤ y ∧ y ≤ 4000) by omega)]
        clear h1 h2 h3
        go_enter Tryd.func24, Tryd.ntmps24
        go_wp2
        go_ret
        exact ⟨rfl, rfl⟩
    · have b1 : decide (97 ≤ x) = true := decide_eq_true h1
      have b2 : decide (x ≤ 122) = false := decide_eq_false h2
      rw [decide_eq_false (show ¬ ((97 ≤ x ∧ x ≤ 122) ∧ 0 ≤ y ∧ y ≤ 4000) by omega)]
      clear h1 h2
      go_enter Tryd.func24, Tryd.ntmps24
      go_wp2
      go_ret
      exact ⟨rfl, rfl⟩
  · have b1 : decide (97 ≤ x) = false := decide_eq_false h1
    rw [decide_eq_false (show ¬ ((97 ≤ x ∧ x ≤ 122) ∧ 0 ≤ y ∧ y ≤ 4000) by omega)]
    clear h1
    go_enter Tryd.func24, Tryd.ntmps24
    go_wp2
    go_ret
    exact ⟨rfl, rfl⟩
/-- Of the mark at i. -/
def mAt (M : List (List Int)) (i : Nat) : Prop := ∀ x y : Int, M[i]? = some [x, y] → (97 ≤ x ∧ x ≤ 122) ∧ (0 ≤ y ∧ y ≤ 4000) ∧ ∀ x' y' : Int, 1 ≤ i → M[i - 1]? = some [x', y'] → x' < x
theorem mOk_of {M : List (List Int)} {n : Nat} (hl : M.length = n) (h : ∀ i, i < n → mAt M i) : Rw.mOk M := by
  intro i x y hi
  have hin : i < n := by
    by_cases hin : i < n
    · exact hin
    · rw [List.getElem?_eq_none (by omega)] at hi; cases hi
  exact h i hin x y hi
set_option maxRecDepth 100000 in
set_option maxHeartbeats 2000000 in
theorem pcheck_any (A : Option Addr) (n c : Nat) (rows : List (List Int)) (w : World) (hA : Rws w A n 2 rows) (hn : n ≤ 100000) :
    Calls Tryd.prog 9 #[.slice A n c] w fun e w' => (∃ E : Int, e = .returned (.int .i64 E) ∧ (E = 0 ∨ E = 1) ∧ (E = 0 ↔ Rw.mOk rows)) ∧ Kept (fun _ => False) w w' := by
  have HA := Lib.hid hA
  clear hA
  go_enter Tryd.func9, Tryd.ntmps9
  go_wp2_with fail
  go_loopw [7] (fun v wr => ∃ k : Nat, k ≤ n ∧ v = .int .i64 k ∧ (∀ i, i < k → mAt rows i) ∧ Kept (fun _ => False) w wr) (fun v _ => n - (intOf v).toNat)
  case atStart => exact ⟨0, Nat.zero_le _, rfl, fun i hi => by omega, Kept.refl _ _⟩
  case round =>
    obtain ⟨k, hk, rfl, hat, hkept⟩ := hrel
    have HK := Lib.hid hkept
    have HAT := Lib.hid hat
    clear hkept hat
    by_cases hlt : k < n
    · obtain ⟨ad, x, y, rfl, hr, f0, f1⟩ := (HA.out.kept HK.out (fun _ _ => id)).two hlt
      have b1 : decide (k < n) = true := decide_eq_true hlt
      have b2 : decide ((k : Int) < (n : Int)) = true := decide_eq_true (by omega)
      have t1 : (0 : Int) ≤ (k : Int) := by omega
      have t2 : (k : Int) < (n : Int) := by omega
      have HR := Lib.hid hr
      clear hr
      by_cases hm : (97 ≤ x ∧ x ≤ 122) ∧ 0 ≤ y ∧ y ≤ 4000
      · have cM := fun W => mmay_any x y W
        rw [decide_eq_true hm] at cM
        by_cases h0 : k = 0
        · have b0 : decide ((0 : Int) < (k : Int)) = false := decide_eq_false (by omega)
          have b0n : decide (0 < k) = false := decide_eq_false (by omega)
          have H0 := Lib.hid h0
          clear h0
          have HN : Hid (∀ i, i < k + 1 → mAt rows i) := by
            show ∀ i, i < k + 1 → mAt rows i
            intro i hi u v huv
            have h0 := H0.out
            obtain rfl : i = k := by omega
            rw [HR.out] at huv
            injection huv with huv
            injection huv with e1 e2
            injection e2 with e2 _
            subst e1
            subst e2
            exact ⟨hm.1, hm.2, fun _ _ h => by have := H0.out; omega⟩
          go_upto_region 4 with fail
          have p0 : (wr.alloc (.cells #[.int .i64 x, .int .i64 y] 61)).cell? ⟨wr.heap.size, 0, none⟩ = some (.int .i64 x) := cell_of_row _ _ _ _ _ _ (heap_alloc_new wr _)
          have p1 : (wr.alloc (.cells #[.int .i64 x, .int .i64 y] 61)).cell? ⟨wr.heap.size, 1, none⟩ = some (.int .i64 y) := cell_of_row _ _ _ _ _ _ (heap_alloc_new wr _)
          go_quiet ((go_at_call 24; exact Calls.quiet_of_same (cM _)))
          go_wp2_with fail
          go_roundw
          case rel => exact ⟨k + 1, by omega, by go_num, HN.out, by first | exact (HK.out.alloc _).drewN _ | exact (HK.out.alloc _).drew | exact HK.out.drew.alloc _ | exact HK.out.alloc _⟩
          case measure => simp [intOf] <;> omega
        · obtain ⟨q, hq⟩ : ∃ q, k = q + 1 := ⟨k - 1, by omega⟩
          obtain ⟨ad', x', y', he, hr', g0, g1⟩ := (HA.out.kept HK.out (fun _ _ => id)).two (show q < n by omega)
          injection he with he
          subst he
          have HR' := Lib.hid hr'
          clear hr' g1
          have eq : IntKind.i64.wrap ((k : Int) - 1) = (q : Int) := by rw [IntWalk.i64_in _ ⟨by omega, by omega⟩]; omega
          have t3 : (0 : Int) ≤ (q : Int) := by omega
          have t4 : (q : Int) < (n : Int) := by omega
          have b0 : decide ((0 : Int) < (k : Int)) = true := decide_eq_true (by omega)
          have b0n : decide (0 < k) = true := decide_eq_true (by omega)
          have HQ := Lib.hid hq
          clear hq h0
          by_cases hx : x' < x
          · have b4 : decide (x ≤ x') = false := decide_eq_false (by omega)
            have HN : Hid (∀ i, i < k + 1 → mAt rows i) := by
              show ∀ i, i < k + 1 → mAt rows i
              intro i hi
              by_cases hik : i < k
              · exact HAT.out i hik
              · intro u v huv
                obtain rfl : i = k := by omega
                rw [HR.out] at huv
                injection huv with huv
                injection huv with e1 e2
                injection e2 with e2 _
                subst e1
                subst e2
                refine ⟨hm.1, hm.2, fun u' v' _ h' => ?_⟩
                rw [show i - 1 = q by have := HQ.out; omega, HR'.out] at h'
                injection h' with h'
                injection h' with e1 _
                omega
            go_upto_region 4 with fail
            have p0 : (wr.alloc (.cells #[.int .i64 x, .int .i64 y] 61)).cell? ⟨wr.heap.size, 0, none⟩ = some (.int .i64 x) := cell_of_row _ _ _ _ _ _ (heap_alloc_new wr _)
            have p1 : (wr.alloc (.cells #[.int .i64 x, .int .i64 y] 61)).cell? ⟨wr.heap.size, 1, none⟩ = some (.int .i64 y) := cell_of_row _ _ _ _ _ _ (heap_alloc_new wr _)
            have g2 : (wr.alloc (.cells #[.int .i64 x, .int .i64 y] 61)).cell? (ad.add (q * 2)) = some (.int .i64 x') := cell_kept ((Kept.refl (fun _ => False) wr).alloc _) g0 id
            go_quiet ((go_at_call 24; exact Calls.quiet_of_same (cM _)))
            go_wp2_with fail
            go_roundw
            case rel => exact ⟨k + 1, by omega, by go_num, HN.out, by first | exact (HK.out.alloc _).drewN _ | exact (HK.out.alloc _).drew | exact HK.out.drew.alloc _ | exact HK.out.alloc _⟩
            case measure => simp [intOf] <;> omega
          · have b4 : decide (x ≤ x') = true := decide_eq_true (by omega)
            have HNO : Hid (¬ Rw.mOk rows) := by
              show ¬ _
              intro h
              have := (h k x y HR.out).2.2 x' y' (by have := HQ.out; omega) (by rw [show k - 1 = q by have := HQ.out; omega]; exact HR'.out)
              omega
            go_upto_region 4 with fail
            have p0 : (wr.alloc (.cells #[.int .i64 x, .int .i64 y] 61)).cell? ⟨wr.heap.size, 0, none⟩ = some (.int .i64 x) := cell_of_row _ _ _ _ _ _ (heap_alloc_new wr _)
            have p1 : (wr.alloc (.cells #[.int .i64 x, .int .i64 y] 61)).cell? ⟨wr.heap.size, 1, none⟩ = some (.int .i64 y) := cell_of_row _ _ _ _ _ _ (heap_alloc_new wr _)
            have g2 : (wr.alloc (.cells #[.int .i64 x, .int .i64 y] 61)).cell? (ad.add (q * 2)) = some (.int .i64 x') := cell_kept ((Kept.refl (fun _ => False) wr).alloc _) g0 id
            go_quiet ((go_at_call 24; exact Calls.quiet_of_same (cM _)))
            go_wp2_with fail
            go_ret
            exact ⟨⟨1, rfl, .inr rfl, fun h => by omega, fun h => absurd h HNO.out⟩, by first | exact (HK.out.alloc _).drewN _ | exact (HK.out.alloc _).drew | exact HK.out.drew.alloc _ | exact HK.out.alloc _⟩
      · have cM := fun W => mmay_any x y W
        rw [decide_eq_false hm] at cM
        have HNO : Hid (¬ Rw.mOk rows) := by
          show ¬ _
          intro h
          have := h k x y HR.out
          exact hm ⟨this.1, this.2.1⟩
        go_upto_region 4 with fail
        have p0 : (wr.alloc (.cells #[.int .i64 x, .int .i64 y] 61)).cell? ⟨wr.heap.size, 0, none⟩ = some (.int .i64 x) := cell_of_row _ _ _ _ _ _ (heap_alloc_new wr _)
        have p1 : (wr.alloc (.cells #[.int .i64 x, .int .i64 y] 61)).cell? ⟨wr.heap.size, 1, none⟩ = some (.int .i64 y) := cell_of_row _ _ _ _ _ _ (heap_alloc_new wr _)
        go_quiet ((go_at_call 24; exact Calls.quiet_of_same (cM _)))
        go_wp2_with fail
        go_ret
        exact ⟨⟨1, rfl, .inr rfl, fun h => by omega, fun h => absurd h HNO.out⟩, by first | exact (HK.out.alloc _).drewN _ | exact (HK.out.alloc _).drew | exact HK.out.drew.alloc _ | exact HK.out.alloc _⟩
    · obtain rfl : k = n := by omega
      have b1 : decide (k < k) = false := decide_eq_false (by omega)
      have b2 : decide ((k : Int) < (k : Int)) = false := decide_eq_false (by omega)
      go_wp2_with fail
      go_ret
      exact ⟨⟨0, rfl, .inl rfl, fun _ => mOk_of HA.out.1 HAT.out, fun _ => rfl⟩, HK.out⟩
end Go.Proofs.YtknoiehglfpepaaDoor
