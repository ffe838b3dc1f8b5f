/-
  MARKS: which may be; where the mark of a name is, as the program and the reference tell it.
  MARKS: the search for a name, as the program and the reference go about it.
  MARKS: slices.BinarySearchFunc over marks in order, and marks.Get.
-/
import Derived.Test.YtbofjefblhnkoaaGreatDoorZMd
import Derived.Test.YtbofjefblhnkoaaGreatDoorZMe
import Derived.BigQuiet
set_option linter.unusedVariables false
namespace Go.Proofs.YtbofjefblhnkoaaGreatDoor
open Go Go.RowKit

theorem mmay_any (x y : Int) (w : World) : Calls Tryz.prog 77 #[.int .i64 x, .int .i64 y] w fun e w' => e = .returned (.bool (decide ((97 ≤ x ∧ x ≤ 122) ∧ 0 ≤ y ∧ y ≤ 4000))) ∧ w' = w := by
  by_cases h1 : 97 ≤ x
  · by_cases h2 : x ≤ 122
    · by_cases h3 : 0 ≤ y
      · by_cases h4 : y ≤ 4000
        · have b1 : decide (97 ≤ x) = true := decide_eq_true h1
          have b2 : decide (x ≤ 122) = true := decide_eq_true h2
          have b3 : decide (0 ≤ y) = true := decide_eq_true h3
          have b4 : decide (y ≤ 4000) = true := decide_eq_true h4
          rw [decide_eq_true (show (97 ≤ x ∧ x ≤ 122) ∧ 0 ≤ y ∧ y ≤ 4000 from ⟨⟨h1, h2⟩, h3, h4⟩)]
          clear h1 h2 h3 h4
          go_enter Tryz.func77, Tryz.ntmps77
          go_wp2
          go_ret
          exact ⟨rfl, rfl⟩
        · have b1 : decide (97 ≤ x) = true := decide_eq_true h1
          have b2 : decide (x ≤ 122) = true := decide_eq_true h2
          have b3 : decide (0 ≤ y) = true := decide_eq_true h3
          have b4 : decide (y ≤ 4000) = false := decide_eq_false h4
          rw [decide_eq_false (show ¬ ((97 ≤ x ∧ x ≤ 122) ∧ 0 ≤ y ∧ y ≤ 4000) by omega)]
          clear h1 h2 h3 h4
          go_enter Tryz.func77, Tryz.ntmps77
          go_wp2
          go_ret
          exact ⟨rfl, rfl⟩
      · have b1 : decide (97 ≤ x) = true := decide_eq_true h1
        have b2 : decide (x ≤ 122) = true := decide_eq_true h2
        have b3 : decide (0 ≤ y) = false := decide_eq_false h3
        rw [decide_eq_false (show ¬ ((97 ≤ x ∧ x ≤ 122) ∧ 0 ≤ y ∧ y ≤ 4000) by omega)]
        clear h1 h2 h3
        go_enter Tryz.func77, Tryz.ntmps77
        go_wp2
        go_ret
        exact ⟨rfl, rfl⟩
    · have b1 : decide (97 ≤ x) = true := decide_eq_true h1
      have b2 : decide (x ≤ 122) = false := decide_eq_false h2
      rw [decide_eq_false (show ¬ ((97 ≤ x ∧ x ≤ 122) ∧ 0 ≤ y ∧ y ≤ 4000) by omega)]
      clear h1 h2
      go_enter Tryz.func77, Tryz.ntmps77
      go_wp2
      go_ret
      exact ⟨rfl, rfl⟩
  · have b1 : decide (97 ≤ x) = false := decide_eq_false h1
    rw [decide_eq_false (show ¬ ((97 ≤ x ∧ x ≤ 122) ∧ 0 ≤ y ∧ y ≤ 4000) by omega)]
    clear h1
    go_enter Tryz.func77, Tryz.ntmps77
    go_wp2
    go_ret
    exact ⟨rfl, rfl⟩
/-- Of the mark at i. -/
def mAt (M : List (List Int)) (i : Nat) : Prop := ∀ x y : Int, M[i]? = some [x, y] → (97 ≤ x ∧ x ≤ 122) ∧ (0 ≤ y ∧ y ≤ 4000) ∧ ∀ x' y' : Int, 1 ≤ i → M[i - 1]? = some [x', y'] → x' < x
theorem mOk_of {M : List (List Int)} {n : Nat} (hl : M.length = n) (h : ∀ i, i < n → mAt M i) : Rw.mOk M := by
  intro i x y hi
  have hin : i < n := by
    by_cases hin : i < n
    · exact hin
    · rw [List.getElem?_eq_none (by omega)] at hi; cases hi
  exact h i hin x y hi
set_option maxRecDepth 100000 in
set_option maxHeartbeats 2000000 in
theorem pcheck_any (A : Option Addr) (n c : Nat) (rows : List (List Int)) (w : World) (hA : Rws w A n 2 rows) (hn : n ≤ 100000) :
    Calls Tryz.prog 42 #[.slice A n c] w fun e w' => (∃ E : Int, e = .returned (.int .i64 E) ∧ (E = 0 ∨ E = 1) ∧ (E = 0 ↔ Rw.mOk rows)) ∧ Kept (fun _ => False) w w' := by
  have HA := Lib.hid hA
  clear hA
  go_enter Tryz.func42, Tryz.ntmps42
  go_wp2_with fail
  go_loopw [7] (fun v wr => ∃ k : Nat, k ≤ n ∧ v = .int .i64 k ∧ (∀ i, i < k → mAt rows i) ∧ Kept (fun _ => False) w wr) (fun v _ => n - (intOf v).toNat)
  case atStart => exact ⟨0, Nat.zero_le _, rfl, fun i hi => by omega, Kept.refl _ _⟩
  case round =>
    obtain ⟨k, hk, rfl, hat, hkept⟩ := hrel
    have HK := Lib.hid hkept
    have HAT := Lib.hid hat
    clear hkept hat
    by_cases hlt : k < n
    · obtain ⟨ad, x, y, rfl, hr, f0, f1⟩ := (HA.out.kept HK.out (fun _ _ => id)).two hlt
      have b1 : decide (k < n) = true := decide_eq_true hlt
      have b2 : decide ((k : Int) < (n : Int)) = true := decide_eq_true (by omega)
      have t1 : (0 : Int) ≤ (k : Int) := by omega
      have t2 : (k : Int) < (n : Int) := by omega
      have HR := Lib.hid hr
      clear hr
      by_cases hm : (97 ≤ x ∧ x ≤ 122) ∧ 0 ≤ y ∧ y ≤ 4000
      · have cM := fun W => mmay_any x y W
        rw [decide_eq_true hm] at cM
        by_cases h0 : k = 0
        · have b0 : decide ((0 : Int) < (k : Int)) = false := decide_eq_false (by omega)
          have b0n : decide (0 < k) = false := decide_eq_false (by omega)
          have H0 := Lib.hid h0
          clear h0
          have HN : Hid (∀ i, i < k + 1 → mAt rows i) := by
            show ∀ i, i < k + 1 → mAt rows i
            intro i hi u v huv
            have h0 := H0.out
            obtain rfl : i = k := by omega
            rw [HR.out] at huv
            injection huv with huv
            injection huv with e1 e2
            injection e2 with e2 _
            subst e1
            subst e2
            exact ⟨hm.1, hm.2, fun _ _ h => by have := H0.out; omega⟩
          go_upto_region 4 with fail
          have p0 : (wr.alloc (.cells #[.int .i64 x, .int .i64 y] 62)).cell? ⟨wr.heap.size, 0, none⟩ = some (.int .i64 x) := cell_of_row _ _ _ _ _ _ (heap_alloc_new wr _)
          have p1 : (wr.alloc (.cells #[.int .i64 x, .int .i64 y] 62)).cell? ⟨wr.heap.size, 1, none⟩ = some (.int .i64 y) := cell_of_row _ _ _ _ _ _ (heap_alloc_new wr _)
          go_quiet ((go_at_call 77; exact Calls.quiet_of_same (cM _)))
          go_wp2_with fail
          go_roundw
          case rel => exact ⟨k + 1, by omega, by go_num, HN.out, by first | exact (HK.out.alloc _).drewN _ | exact (HK.out.alloc _).drew | exact HK.out.drew.alloc _ | exact HK.out.alloc _⟩
          case measure => simp [intOf] <;> omega
        · obtain ⟨q, hq⟩ : ∃ q, k = q + 1 := ⟨k - 1, by omega⟩
          obtain ⟨ad', x', y', he, hr', g0, g1⟩ := (HA.out.kept HK.out (fun _ _ => id)).two (show q < n by omega)
          injection he with he
          subst he
          have HR' := Lib.hid hr'
          clear hr' g1
          have eq : IntKind.i64.wrap ((k : Int) - 1) = (q : Int) := by rw [IntWalk.i64_in _ ⟨by omega, by omega⟩]; omega
          have t3 : (0 : Int) ≤ (q : Int) := by omega
          have t4 : (q : Int) < (n : Int) := by omega
          have b0 : decide ((0 : Int) < (k : Int)) = true := decide_eq_true (by omega)
          have b0n : decide (0 < k) = true := decide_eq_true (by omega)
          have HQ := Lib.hid hq
          clear hq h0
          by_cases hx : x' < x
          · have b4 : decide (x ≤ x') = false := decide_eq_false (by omega)
            have HN : Hid (∀ i, i < k + 1 → mAt rows i) := by
              show ∀ i, i < k + 1 → mAt rows i
              intro i hi
              by_cases hik : i < k
              · exact HAT.out i hik
              · intro u v huv
                obtain rfl : i = k := by omega
                rw [HR.out] at huv
                injection huv with huv
                injection huv with e1 e2
                injection e2 with e2 _
                subst e1
                subst e2
                refine ⟨hm.1, hm.2, fun u' v' _ h' => ?_⟩
                rw [show i - 1 = q by have := HQ.out; omega, HR'.out] at h'
                injection h' with h'
                injection h' with e1 _
                omega
            go_upto_region 4 with fail
            have p0 : (wr.alloc (.cells #[.int .i64 x, .int .i64 y] 62)).cell? ⟨wr.heap.size, 0, none⟩ = some (.int .i64 x) := cell_of_row _ _ _ _ _ _ (heap_alloc_new wr _)
            have p1 : (wr.alloc (.cells #[.int .i64 x, .int .i64 y] 62)).cell? ⟨wr.heap.size, 1, none⟩ = some (.int .i64 y) := cell_of_row _ _ _ _ _ _ (heap_alloc_new wr _)
            have g2 : (wr.alloc (.cells #[.int .i64 x, .int .i64 y] 62)).cell? (ad.add (q * 2)) = some (.int .i64 x') := cell_kept ((Kept.refl (fun _ => False) wr).alloc _) g0 id
            go_quiet ((go_at_call 77; exact Calls.quiet_of_same (cM _)))
            go_wp2_with fail
            go_roundw
            case rel => exact ⟨k + 1, by omega, by go_num, HN.out, by first | exact (HK.out.alloc _).drewN _ | exact (HK.out.alloc _).drew | exact HK.out.drew.alloc _ | exact HK.out.alloc _⟩
            case measure => simp [intOf] <;> omega
          · have b4 : decide (x ≤ x') = true := decide_eq_true (by omega)
            have HNO : Hid (¬ Rw.mOk rows) := by
              show ¬ _
              intro h
              have := (h k x y HR.out).2.2 x' y' (by have := HQ.out; omega) (by rw [show k - 1 = q by have := HQ.out; omega]; exact HR'.out)
              omega
            go_upto_region 4 with fail
            have p0 : (wr.alloc (.cells #[.int .i64 x, .int .i64 y] 62)).cell? ⟨wr.heap.size, 0, none⟩ = some (.int .i64 x) := cell_of_row _ _ _ _ _ _ (heap_alloc_new wr _)
            have p1 : (wr.alloc (.cells #[.int .i64 x, .int .i64 y] 62)).cell? ⟨wr.heap.size, 1, none⟩ = some (.int .i64 y) := cell_of_row _ _ _ _ _ _ (heap_alloc_new wr _)
            have g2 : (wr.alloc (.cells #[.int .i64 x, .int .i64 y] 62)).cell? (ad.add (q * 2)) = some (.int .i64 x') := cell_kept ((Kept.refl (fun _ => False) wr).alloc _) g0 id
            go_quiet ((go_at_call 77; exact Calls.quiet_of_same (cM _)))
            go_wp2_with fail
            go_ret
            exact ⟨⟨1, rfl, .inr rfl, fun h => by omega, fun h => absurd h HNO.out⟩, by first | exact (HK.out.alloc _).drewN _ | exact (HK.out.alloc _).drew | exact HK.out.drew.alloc _ | exact HK.out.alloc _⟩
      · have cM := fun W => mmay_any x y W
        rw [decide_eq_false hm] at cM
        have HNO : Hid (¬ Rw.mOk rows) := by
          show ¬ _
          intro h
          have := h k x y HR.out
          exact hm ⟨this.1, this.2.1⟩
        go_upto_region 4 with fail
        have p0 : (wr.alloc (.cells #[.int .i64 x, .int .i64 y] 62)).cell? ⟨wr.heap.size, 0, none⟩ = some (.int .i64 x) := cell_of_row _ _ _ _ _ _ (heap_alloc_new wr _)
        have p1 : (wr.alloc (.cells #[.int .i64 x, .int .i64 y] 62)).cell? ⟨wr.heap.size, 1, none⟩ = some (.int .i64 y) := cell_of_row _ _ _ _ _ _ (heap_alloc_new wr _)
        go_quiet ((go_at_call 77; exact Calls.quiet_of_same (cM _)))
        go_wp2_with fail
        go_ret
        exact ⟨⟨1, rfl, .inr rfl, fun h => by omega, fun h => absurd h HNO.out⟩, by first | exact (HK.out.alloc _).drewN _ | exact (HK.out.alloc _).drew | exact HK.out.drew.alloc _ | exact HK.out.alloc _⟩
    · obtain rfl : k = n := by omega
      have b1 : decide (k < k) = false := decide_eq_false (by omega)
      have b2 : decide ((k : Int) < (k : Int)) = false := decide_eq_false (by omega)
      go_wp2_with fail
      go_ret
      exact ⟨⟨0, rfl, .inl rfl, fun _ => mOk_of HA.out.1 HAT.out, fun _ => rfl⟩, HK.out⟩
end Go.Proofs.YtbofjefblhnkoaaGreatDoor
namespace Go.Proofs.YtbofjefblhnkoaaGreatDoor
open Go Go.RowKit

theorem mnum_any (x m : Int) (w : World) : Calls Tryz.prog 16 #[.int .i64 x, .int .i64 m] w fun e w' => e = .returned (.bool (decide (0 ≤ x ∧ x ≤ m))) ∧ w' = w := by
  by_cases h1 : 0 ≤ x
  · have b1 : decide (0 ≤ x) = true := by simp; omega
    by_cases h2 : x ≤ m
    · have b2 : decide (x ≤ m) = true := by simp; omega
      rw [decide_eq_true (show 0 ≤ x ∧ x ≤ m from ⟨h1, h2⟩)]
      clear h1 h2
      go_enter Tryz.func16, Tryz.ntmps16
      go_wp2
      go_ret
      exact ⟨rfl, rfl⟩
    · have b2 : decide (x ≤ m) = false := by simp; omega
      rw [decide_eq_false (show ¬ (0 ≤ x ∧ x ≤ m) by omega)]
      clear h1 h2
      go_enter Tryz.func16, Tryz.ntmps16
      go_wp2
      go_ret
      exact ⟨rfl, rfl⟩
  · have b1 : decide (0 ≤ x) = false := by simp; omega
    rw [decide_eq_false (show ¬ (0 ≤ x ∧ x ≤ m) by omega)]
    clear h1
    go_enter Tryz.func16, Tryz.ntmps16
    go_wp2
    go_ret
    exact ⟨rfl, rfl⟩
theorem mbtw_any (x l m : Int) (w : World) : Calls Tryz.prog 17 #[.int .i64 x, .int .i64 l, .int .i64 m] w fun e w' => e = .returned (.bool (decide (l ≤ x ∧ x ≤ m))) ∧ w' = w := by
  by_cases h1 : l ≤ x
  · have b1 : decide (l ≤ x) = true := by simp; omega
    by_cases h2 : x ≤ m
    · have b2 : decide (x ≤ m) = true := by simp; omega
      rw [decide_eq_true (show l ≤ x ∧ x ≤ m from ⟨h1, h2⟩)]
      clear h1 h2
      go_enter Tryz.func17, Tryz.ntmps17
      go_wp2
      go_ret
      exact ⟨rfl, rfl⟩
    · have b2 : decide (x ≤ m) = false := by simp; omega
      rw [decide_eq_false (show ¬ (l ≤ x ∧ x ≤ m) by omega)]
      clear h1 h2
      go_enter Tryz.func17, Tryz.ntmps17
      go_wp2
      go_ret
      exact ⟨rfl, rfl⟩
  · have b1 : decide (l ≤ x) = false := by simp; omega
    rw [decide_eq_false (show ¬ (l ≤ x ∧ x ≤ m) by omega)]
    clear h1
    go_enter Tryz.func17, Tryz.ntmps17
    go_wp2
    go_ret
    exact ⟨rfl, rfl⟩
set_option maxRecDepth 100000 in
set_option maxHeartbeats 2000000 in
theorem rmarks_any (A : Option Addr) (n c : Nat) (rows : List (List Int)) (w : World) (hA : Rws w A n 2 rows) (hn : n ≤ 100000) :
    Calls Tryz.prog 28 #[.slice A n c] w fun e w' => (∃ b : Bool, e = .returned (.bool b) ∧ (b = true ↔ Rw.mOk rows)) ∧ Kept (fun _ => False) w w' := by
  have HA := Lib.hid hA
  clear hA
  go_enter Tryz.func28, Tryz.ntmps28
  go_wp2_with fail
  go_loopw [3] (fun v wr => ∃ k : Nat, k ≤ n ∧ v = .int .i64 k ∧ (∀ i, i < k → mAt rows i) ∧ Kept (fun _ => False) w wr) (fun v _ => n - (intOf v).toNat)
  case atStart => exact ⟨0, Nat.zero_le _, rfl, fun i hi => by omega, Kept.refl _ _⟩
  case round =>
    obtain ⟨k, hk, rfl, hat, hkept⟩ := hrel
    have HAT := Lib.hid hat
    have HK := Lib.hid hkept
    clear hat hkept
    by_cases hlt : k < n
    · obtain ⟨ad, x, y, rfl, hr, f0, f1⟩ := (HA.out.kept HK.out (fun _ _ => id)).two hlt
      have b1 : decide (k < n) = true := decide_eq_true hlt
      have b2 : decide ((k : Int) < (n : Int)) = true := decide_eq_true (by omega)
      have t1 : (0 : Int) ≤ (k : Int) := by omega
      have t2 : (k : Int) < (n : Int) := by omega
      have HR := Lib.hid hr
      clear hr
      by_cases hm1 : 97 ≤ x ∧ x ≤ 122
      · have cB := fun W => mbtw_any x 97 122 W
        rw [decide_eq_true hm1] at cB
        by_cases hm2 : 0 ≤ y ∧ y ≤ 4000
        · have cN := fun W => mnum_any y 4000 W
          rw [decide_eq_true hm2] at cN
          by_cases h0 : k = 0
          · have b0 : decide ((0 : Int) < (k : Int)) = false := decide_eq_false (by omega)
            have b0n : decide (0 < k) = false := decide_eq_false (by omega)
            have H0 := Lib.hid h0
            clear h0
            have HN : Hid (∀ i, i < k + 1 → mAt rows i) := by
              show ∀ i, i < k + 1 → mAt rows i
              intro i hi u v huv
              have h0 := H0.out
              obtain rfl : i = k := by omega
              rw [HR.out] at huv
              injection huv with huv
              injection huv with e1 e2
              injection e2 with e2 _
              subst e1
              subst e2
              exact ⟨hm1, hm2, fun _ _ h => by have := H0.out; omega⟩
            go_upto_region 4 with fail
            go_quiet (first | (go_at_call 17; exact Calls.quiet_of_same (cB _)) | (go_at_call 16; exact Calls.quiet_of_same (cN _)))
            go_wp2_with fail
            go_roundw
            case rel => exact ⟨k + 1, by omega, by go_num, HN.out, HK.out.drewN _⟩
            case measure => simp [intOf] <;> omega
          · obtain ⟨q, hq⟩ : ∃ q, k = q + 1 := ⟨k - 1, by omega⟩
            obtain ⟨ad', x', y', he, hr', g0, _⟩ := (HA.out.kept HK.out (fun _ _ => id)).two (show q < n by omega)
            injection he with he
            subst he
            have HR' := Lib.hid hr'
            clear hr'
            have eq : IntKind.i64.wrap ((k : Int) - 1) = (q : Int) := by rw [IntWalk.i64_in _ ⟨by omega, by omega⟩]; omega
            have t3 : (0 : Int) ≤ (q : Int) := by omega
            have t4 : (q : Int) < (n : Int) := by omega
            have b0 : decide ((0 : Int) < (k : Int)) = true := decide_eq_true (by omega)
            have b0n : decide (0 < k) = true := decide_eq_true (by omega)
            have HQ := Lib.hid hq
            clear hq h0
            by_cases hx : x' < x
            · have b4 : decide (x ≤ x') = false := decide_eq_false (by omega)
              have HN : Hid (∀ i, i < k + 1 → mAt rows i) := by
                show ∀ i, i < k + 1 → mAt rows i
                intro i hi
                by_cases hik : i < k
                · exact HAT.out i hik
                · intro u v huv
                  obtain rfl : i = k := by omega
                  rw [HR.out] at huv
                  injection huv with huv
                  injection huv with e1 e2
                  injection e2 with e2 _
                  subst e1
                  subst e2
                  refine ⟨hm1, hm2, fun u' v' _ h' => ?_⟩
                  rw [show i - 1 = q by have := HQ.out; omega, HR'.out] at h'
                  injection h' with h'
                  injection h' with e1 _
                  omega
              go_upto_region 4 with fail
              go_quiet (first | (go_at_call 17; exact Calls.quiet_of_same (cB _)) | (go_at_call 16; exact Calls.quiet_of_same (cN _)))
              go_wp2_with fail
              go_roundw
              case rel => exact ⟨k + 1, by omega, by go_num, HN.out, HK.out.drewN _⟩
              case measure => simp [intOf] <;> omega
            · have b4 : decide (x ≤ x') = true := decide_eq_true (by omega)
              have HNO : Hid (¬ Rw.mOk rows) := by
                show ¬ _
                intro h
                have := (h k x y HR.out).2.2 x' y' (by have := HQ.out; omega) (by rw [show k - 1 = q by have := HQ.out; omega]; exact HR'.out)
                omega
              go_upto_region 4 with fail
              go_quiet (first | (go_at_call 17; exact Calls.quiet_of_same (cB _)) | (go_at_call 16; exact Calls.quiet_of_same (cN _)))
              go_wp2_with fail
              go_ret
              first | exact ⟨⟨false, rfl, fun h => by simp at h, fun h => absurd h HNO.out⟩, HK.out.drewN _⟩ | exact ⟨.inl ⟨rfl, HNO.out⟩, HK.out.drewN _⟩
        · have cN := fun W => mnum_any y 4000 W
          rw [decide_eq_false hm2] at cN
          have HNO : Hid (¬ Rw.mOk rows) := fun h => hm2 (h k x y HR.out).2.1
          go_upto_region 4 with fail
          go_quiet (first | (go_at_call 17; exact Calls.quiet_of_same (cB _)) | (go_at_call 16; exact Calls.quiet_of_same (cN _)))
          go_wp2_with fail
          go_ret
          first | exact ⟨⟨false, rfl, fun h => by simp at h, fun h => absurd h HNO.out⟩, HK.out.drewN _⟩ | exact ⟨.inl ⟨rfl, HNO.out⟩, HK.out.drewN _⟩
      · have cB := fun W => mbtw_any x 97 122 W
        rw [decide_eq_false hm1] at cB
        have HNO : Hid (¬ Rw.mOk rows) := fun h => hm1 (h k x y HR.out).1
        go_upto_region 4 with fail
        go_quiet ((go_at_call 17; exact Calls.quiet_of_same (cB _)))
        go_wp2_with fail
        go_ret
        first | exact ⟨⟨false, rfl, fun h => by simp at h, fun h => absurd h HNO.out⟩, HK.out.drewN _⟩ | exact ⟨.inl ⟨rfl, HNO.out⟩, HK.out.drewN _⟩
    · obtain rfl : k = n := by omega
      have b1 : decide (k < k) = false := decide_eq_false (by omega)
      have b2 : decide ((k : Int) < (k : Int)) = false := decide_eq_false (by omega)
      go_wp2_with fail
      go_ret
      exact ⟨⟨true, rfl, fun _ => mOk_of HA.out.1 HAT.out, fun _ => rfl⟩, HK.out⟩
/-- What the reference tells of the mark of a name. -/
def getV (o : Option Int) : Int := match o with
  | none => -1
  | some y => y
set_option maxRecDepth 100000 in
set_option maxHeartbeats 1000000 in
theorem rget_any (A : Option Addr) (n c : Nat) (rows : List (List Int)) (z : Int) (w : World) (hA : Rws w A n 2 rows) (hn : n ≤ 100000) :
    Calls Tryz.prog 74 #[.slice A n c, .int .i64 z] w fun e w' => e = .returned (.int .i64 (getV (Rw.mget rows z))) ∧ w' = w := by
  have HA := Lib.hid hA
  clear hA
  go_enter Tryz.func74, Tryz.ntmps74
  go_wp2_with fail
  go_loop [5] (fun v => ∃ k : Nat, k ≤ n ∧ v = .int .i64 k ∧ (∀ (j : Nat) (y : Int), j < k → rows[j]? ≠ some [z, y])) (fun v => n - (intOf v).toNat)
  case atStart => exact ⟨0, Nat.zero_le _, rfl, fun i y hi => by omega⟩
  case round =>
    obtain ⟨k, hk, rfl, hat⟩ := hrel
    have HAT := Lib.hid hat
    clear hat
    by_cases hlt : k < n
    · obtain ⟨ad, x, y, rfl, hr, f0, f1⟩ := HA.out.two hlt
      have b1 : decide (k < n) = true := decide_eq_true hlt
      have b2 : decide ((k : Int) < (n : Int)) = true := decide_eq_true (by omega)
      have t1 : (0 : Int) ≤ (k : Int) := by omega
      have t2 : (k : Int) < (n : Int) := by omega
      have HR := Lib.hid hr
      clear hr
      by_cases hx : x = z
      · subst hx
        have HG := Lib.hid (Rw.mget_hit HR.out (fun j y' hj => HAT.out j y' hj))
        have b3 : (x == x) = true := by simp
        go_wp2_with fail
        go_ret
        rw [HG.out]
        exact ⟨rfl, rfl⟩
      · have b3 : (x == z) = false := beq_eq_false_iff_ne.2 hx
        have HN : Hid (∀ (j : Nat) (y : Int), j < k + 1 → rows[j]? ≠ some [z, y]) := by
          show ∀ (j : Nat) (y : Int), j < k + 1 → rows[j]? ≠ some [z, y]
          intro j y' hj e
          by_cases hjk : j < k
          · exact HAT.out j y' hjk e
          · obtain rfl : j = k := by omega
            rw [HR.out] at e
            injection e with e
            injection e with e _
            exact hx e
        clear hx
        go_wp2_with fail
        go_round
        case rel => exact ⟨k + 1, by omega, by go_num, HN.out⟩
        case measure => simp [intOf] <;> omega
    · obtain rfl : k = n := by omega
      have b1 : decide (k < k) = false := decide_eq_false (by omega)
      have b2 : decide ((k : Int) < (k : Int)) = false := decide_eq_false (by omega)
      have HG : Hid (Rw.mget rows z = none) := Rw.mget_none (fun j y e => by
        have hj : j < k := by
          by_cases hj : j < k
          · exact hj
          · rw [List.getElem?_eq_none (by rw [HA.out.1]; omega)] at e; cases e
        exact HAT.out j y hj e)
      go_wp2_with fail
      go_ret
      rw [HG.out]
      exact ⟨rfl, rfl⟩
/-- How two names compare. -/
def cmpv (x z : Int) : Int := if x < z then -1 else if z < x then 1 else 0
theorem cnan_any (x : Int) (w : World) : Calls Tryz.prog 138 #[.int .i64 x] w fun e w' => e = .returned (.bool false) ∧ w' = w := by
  have b : (x != x) = false := by simp
  go_enter Tryz.func138, Tryz.ntmps138
  go_wp2
  go_ret
  exact ⟨rfl, rfl⟩
theorem compare_any (x z : Int) (w : World) : Calls Tryz.prog 134 #[.int .i64 x, .int .i64 z] w fun e w' => e = .returned (.int .i64 (cmpv x z)) ∧ w' = w := by
  by_cases h1 : x < z
  · have hv : Hid (cmpv x z = -1) := by show _ = _; unfold cmpv; rw [if_pos h1]
    have b1 : decide (x < z) = true := decide_eq_true h1
    clear h1
    go_enter Tryz.func134, Tryz.ntmps134
    go_wp2_with (go_at_call 138; refine (cnan_any _ _).mono ?_; rintro e w' ⟨rfl, rfl⟩)
    go_ret
    rw [hv.out]
    exact ⟨rfl, rfl⟩
  · by_cases h2 : z < x
    · have hv : Hid (cmpv x z = 1) := by show _ = _; unfold cmpv; rw [if_neg h1, if_pos h2]
      have b1 : decide (x < z) = false := decide_eq_false h1
      have b2 : decide (z < x) = true := decide_eq_true h2
      clear h1 h2
      go_enter Tryz.func134, Tryz.ntmps134
      go_wp2_with (go_at_call 138; refine (cnan_any _ _).mono ?_; rintro e w' ⟨rfl, rfl⟩)
      go_ret
      rw [hv.out]
      exact ⟨rfl, rfl⟩
    · have hv : Hid (cmpv x z = 0) := by show _ = _; unfold cmpv; rw [if_neg h1, if_neg h2]
      have b1 : decide (x < z) = false := decide_eq_false h1
      have b2 : decide (z < x) = false := decide_eq_false h2
      clear h1 h2
      go_enter Tryz.func134, Tryz.ntmps134
      go_wp2_with (go_at_call 138; refine (cnan_any _ _).mono ?_; rintro e w' ⟨rfl, rfl⟩)
      go_ret
      rw [hv.out]
      exact ⟨rfl, rfl⟩
theorem clo_any (x y z : Int) (w : World) : Calls Tryz.prog 133 #[.agg #[.int .i64 x, .int .i64 y], .int .i64 z] w fun e w' => e = .returned (.int .i64 (cmpv x z)) ∧ Kept (fun _ => False) w w' := by
  have hK0 : Hid (Kept (fun _ => False) w (w.alloc (.cells #[.int .i64 x, .int .i64 y] 62))) := (Kept.refl _ w).alloc _
  go_enter Tryz.func133, Tryz.ntmps133
  go_wp2_with (go_at_call 134; refine (compare_any _ _ _).mono ?_; rintro e w' ⟨rfl, rfl⟩)
  go_ret
  exact ⟨rfl, hK0.out⟩
end Go.Proofs.YtbofjefblhnkoaaGreatDoor
namespace Go.Proofs.YtbofjefblhnkoaaGreatDoor
open Go Go.RowKit

set_option maxRecDepth 100000 in
set_option maxHeartbeats 1000000 in
theorem bsf_any (A : Option Addr) (n c : Nat) (rows : List (List Int)) (z : Int) (w : World) (hA : Rws w A n 2 rows) (hn : n ≤ 100000) (ho : Rw.mOk rows) :
    Calls Tryz.prog 132 #[.slice A n c, .int .i64 z, .func (.func 133) #[] #[]] w fun e w' => (∃ (m : Nat) (B : Bool), m ≤ n ∧ (∀ (j : Nat) (a b : Int), rows[j]? = some [a, b] → (j < m ↔ a < z)) ∧ e = .returned (.tuple #[.int .i64 m, .bool B]) ∧ (B = true ↔ ∃ y, rows[m]? = some [z, y])) ∧ Kept (fun _ => False) w w' := by
  have HA := Lib.hid hA
  have hp : ∀ (i j : Nat) (a b a' b' : Int), rows[i]? = some [a, b] → rows[j]? = some [a', b'] → i < j → a < a' := fun i j a b a' b' hi hj hij => ho.lt (fun r hr => by
    obtain ⟨i, hi, rfl⟩ := List.getElem_of_mem hr
    exact (hA.2 i _ (List.getElem?_eq_getElem hi)).1) j i a b a' b' hi hj hij
  have HP := Lib.hid hp
  clear hA hp ho
  go_enter Tryz.func132, Tryz.ntmps132
  go_wp2_with fail
  go_loopw [9, 10] (fun v u wr => ∃ I J : Nat, v = .int .i64 I ∧ u = .int .i64 J ∧ I ≤ J ∧ J ≤ n ∧ (∀ (j : Nat) (a b : Int), rows[j]? = some [a, b] → j < I → a < z) ∧ (∀ (j : Nat) (a b : Int), rows[j]? = some [a, b] → J ≤ j → z ≤ a) ∧ Kept (fun _ => False) w wr) (fun v u _ => (intOf u - intOf v).toNat)
  case atStart =>
    refine ⟨0, n, rfl, rfl, Nat.zero_le _, Nat.le_refl _, ?_, ?_, Kept.refl _ _⟩
    · intro j a b _ h
      omega
    · intro j a b h1 h2
      rw [List.getElem?_eq_none (by rw [HA.out.1]; exact h2)] at h1
      cases h1
  case round =>
    obtain ⟨I, J, rfl, rfl, hIJ, hJ, h1, h2, hkept⟩ := hrel
    have H1 := Lib.hid h1
    have H2 := Lib.hid h2
    have HK := Lib.hid hkept
    clear h1 h2 hkept
    by_cases hlt : I < J
    · obtain ⟨q, hq⟩ : ∃ q, (I + J) / 2 = q := ⟨_, rfl⟩
      have hq1 : I ≤ q ∧ q < J := by omega
      have hq2 : ((I : Int) + (J : Int)) / 2 = (q : Int) := by omega
      obtain ⟨ad, x, y, rfl, hr, f0, f1⟩ := (HA.out.kept HK.out (fun _ _ => id)).two (show q < n by omega)
      have HR := Lib.hid hr
      have HQ := Lib.hid hq
      clear hr hq
      have cC := fun W => clo_any x y z W
      by_cases hyx : x < z
      · rw [show cmpv x z = -1 by unfold cmpv; rw [if_pos hyx]] at cC
        go_wp2_with (go_at_call 133; refine (cC _).mono ?_; rintro e w' ⟨rfl, hkc⟩; have HKC := Lib.hid (HK.out.trans hkc); clear hkc)
        go_roundw
        case rel =>
          refine ⟨q + 1, J, by go_num, rfl, by omega, hJ, fun j a b h3 h4 => ?_, H2.out, HKC.out⟩
          by_cases hj : j = q
          · subst hj
            rw [HR.out] at h3
            injection h3 with h3
            injection h3 with h3 _
            omega
          · have := HP.out j q a b x y h3 HR.out (by omega); omega
        case measure => simp [intOf]; omega
      · have hc : (cmpv x z = 1 ∨ cmpv x z = 0) := by
          unfold cmpv
          rw [if_neg hyx]
          split
          · exact .inl rfl
          · exact .inr rfl
        rcases hc with hc | hc
        all_goals
          rw [hc] at cC
          go_wp2_with (go_at_call 133; refine (cC _).mono ?_; rintro e w' ⟨rfl, hkc⟩; have HKC := Lib.hid (HK.out.trans hkc); clear hkc)
          go_roundw
          case rel =>
            refine ⟨I, q, rfl, rfl, by omega, by omega, H1.out, fun j a b h3 h4 => ?_, HKC.out⟩
            by_cases hj : j = q
            · subst hj
              rw [HR.out] at h3
              injection h3 with h3
              injection h3 with h3 _
              omega
            · have := HP.out q j x y a b HR.out h3 (by omega); omega
          case measure => simp [intOf]; omega
    · obtain rfl : I = J := by omega
      have HF : Hid (∀ (j : Nat) (a b : Int), rows[j]? = some [a, b] → (j < I ↔ a < z)) := by
        show ∀ (j : Nat) (a b : Int), rows[j]? = some [a, b] → (j < I ↔ a < z)
        intro j a b h
        have h1 := H1.out j a b h
        have h2 := H2.out j a b h
        omega
      by_cases hIn : I < n
      · obtain ⟨ad, x, y, rfl, hr, f0, f1⟩ := (HA.out.kept HK.out (fun _ _ => id)).two hIn
        have HR := Lib.hid hr
        clear hr
        have b1 : decide (I < n) = true := by simp; omega
        have b2 : decide ((I : Int) < (n : Int)) = true := by simp; omega
        have cC := fun W => clo_any x y z W
        by_cases hyx : x = z
        · subst hyx
          rw [show cmpv x x = 0 by unfold cmpv; rw [if_neg (by omega), if_neg (by omega)]] at cC
          go_wp2_with (go_at_call 133; refine (cC _).mono ?_; rintro e w' ⟨rfl, hkc⟩; have HKC := Lib.hid (HK.out.trans hkc); clear hkc)
          refine bodyPost_ret (v := .tuple #[.int .i64 (I : Nat), .bool true]) (by simp [results, Tryz.results132, go_sem]) rfl ⟨⟨I, true, hJ, HF.out, rfl, fun _ => ⟨y, HR.out⟩, fun _ => rfl⟩, HKC.out⟩
        · have hc : (cmpv x z = 1 ∨ cmpv x z = -1) := by
            unfold cmpv
            split
            · exact .inr rfl
            · rw [if_pos (by omega)]; exact .inl rfl
          have HNO : Hid (¬ ∃ y, rows[I]? = some [z, y]) := by
            show ¬ _
            rintro ⟨y', e⟩
            rw [HR.out] at e
            injection e with e
            injection e with e _
            exact hyx e
          clear hyx
          rcases hc with hc | hc
          all_goals
            rw [hc] at cC
            go_wp2_with (go_at_call 133; refine (cC _).mono ?_; rintro e w' ⟨rfl, hkc⟩; have HKC := Lib.hid (HK.out.trans hkc); clear hkc)
            refine bodyPost_ret (v := .tuple #[.int .i64 (I : Nat), .bool false]) (by simp [results, Tryz.results132, go_sem]) rfl ⟨⟨I, false, hJ, HF.out, rfl, fun h => by simp at h, fun h => absurd h HNO.out⟩, HKC.out⟩
      · have b1 : decide (I < n) = false := by simp; omega
        have b2 : decide ((I : Int) < (n : Int)) = false := by simp; omega
        have HNO : Hid (¬ ∃ y, rows[I]? = some [z, y]) := by
          show ¬ _
          rintro ⟨y', e⟩
          rw [List.getElem?_eq_none (by rw [HA.out.1]; omega)] at e
          cases e
        go_wp2_with fail
        refine bodyPost_ret (v := .tuple #[.int .i64 (I : Nat), .bool false]) (by simp [results, Tryz.results132, go_sem]) rfl ⟨⟨I, false, hJ, HF.out, rfl, fun h => by simp at h, fun h => absurd h HNO.out⟩, HK.out⟩
theorem mfind_any (A : Option Addr) (n c : Nat) (rows : List (List Int)) (z : Int) (w : World) (hA : Rws w A n 2 rows) (hn : n ≤ 100000) (ho : Rw.mOk rows) :
    Calls Tryz.prog 116 #[.slice A n c, .int .i64 z] w fun e w' => (∃ (m : Nat) (B : Bool), m ≤ n ∧ (∀ (j : Nat) (a b : Int), rows[j]? = some [a, b] → (j < m ↔ a < z)) ∧ e = .returned (.tuple #[.int .i64 m, .bool B]) ∧ (B = true ↔ ∃ y, rows[m]? = some [z, y])) ∧ Kept (fun _ => False) w w' := by
  have cB := bsf_any A n c rows z w hA hn ho
  clear hA ho
  go_enter Tryz.func116, Tryz.ntmps116
  go_wp2_with (go_at_call 132; refine cB.mono ?_; rintro e w' ⟨⟨m, B, hm, hj, rfl, hB⟩, hk⟩; have HJ := Lib.hid hj; have HB := Lib.hid hB; clear hj hB)
  refine bodyPost_ret (v := .tuple #[.int .i64 (m : Nat), .bool B]) (by simp [results, Tryz.results116, go_sem]) rfl ⟨⟨m, B, hm, HJ.out, rfl, HB.out⟩, hk⟩
/-- What the program tells of the mark of a name. -/
def getT (o : Option Int) : Value := match o with
  | none => .tuple #[.int .i64 0, .int .i64 3]
  | some y => .tuple #[.int .i64 y, .int .i64 0]
theorem find_at {rows : List (List Int)} {z : Int} {m i : Nat} {y : Int} (hj : ∀ (j : Nat) (a b : Int), rows[j]? = some [a, b] → (j < m ↔ a < z)) (hp : ∀ (i j : Nat) (a b a' b' : Int), rows[i]? = some [a, b] → rows[j]? = some [a', b'] → i < j → a < a') (hl : ∀ r ∈ rows, r.length = 2) (hi : rows[i]? = some [z, y]) : m = i := by
  have h1 := hj i z y hi
  have hil : i < rows.length := by
    by_cases hil : i < rows.length
    · exact hil
    · rw [List.getElem?_eq_none (by omega)] at hi; cases hi
  by_cases hmi : m = i
  · exact hmi
  · have hml : m < rows.length := by omega
    have hm : rows[m]? = some rows[m] := List.getElem?_eq_getElem hml
    have hm2 := hl _ (List.mem_of_getElem? hm)
    match hr : rows[m], hm2 with
    | [u, v], _ =>
      rw [hr] at hm
      have h2 := hj m u v hm
      have h3 := hp m i u v z y hm hi (by omega)
      omega
theorem get_none {rows : List (List Int)} {z : Int} (hp : ∀ (i j : Nat) (a b a' b' : Int), rows[i]? = some [a, b] → rows[j]? = some [a', b'] → i < j → a < a') (h : Rw.mget rows z = none) (i : Nat) (y : Int) : rows[i]? ≠ some [z, y] := by
  intro hi
  have := Rw.mget_hit hi (fun j y' hj e => by have := hp j i z y' z y e hi hj; omega)
  rw [h] at this
  cases this
set_option maxRecDepth 100000 in
set_option maxHeartbeats 1000000 in
theorem mget_yes (A : Option Addr) (n c : Nat) (rows : List (List Int)) (z : Int) (w : World) (hA : Rws w A n 2 rows) (hn : n ≤ 100000) (ho : Rw.mOk rows) :
    Calls Tryz.prog 97 #[.slice A n c, .int .i64 z] w fun e w' => e = .returned (getT (Rw.mget rows z)) ∧ Kept (fun _ => False) w w' := by
  have hl : ∀ r ∈ rows, r.length = 2 := fun r hr => by
    obtain ⟨i, hi, rfl⟩ := List.getElem_of_mem hr
    exact (hA.2 i _ (List.getElem?_eq_getElem hi)).1
  have hp : ∀ (i j : Nat) (a b a' b' : Int), rows[i]? = some [a, b] → rows[j]? = some [a', b'] → i < j → a < a' := fun i j a b a' b' hi hj hij => ho.lt hl j i a b a' b' hi hj hij
  have HL := Lib.hid hl
  have HP := Lib.hid hp
  have HA := Lib.hid hA
  have HO := Lib.hid ho
  clear hl hp
  cases hg : Rw.mget rows z with
  | none =>
    have cC := pcheck_any A n c rows w hA hn
    have cF := fun W (hk : Kept (fun _ => False) w W) => mfind_any A n c rows z W (hA.kept hk (fun _ _ => id)) hn ho
    have HG := Lib.hid hg
    clear hA ho hg
    go_enter Tryz.func97, Tryz.ntmps97
    go_wp2_with (first
      | (go_at_call 42; refine cC.mono ?_; rintro e w1 ⟨⟨E, rfl, _, hE⟩, hk1⟩; obtain rfl : E = 0 := hE.2 HO.out; have HK1 := Lib.hid hk1; clear hk1 hE)
      | (go_at_call 116; refine (cF _ HK1.out).mono ?_; rintro e w2 ⟨⟨m, B, hm, hj, rfl, hB⟩, hk2⟩; obtain rfl : B = false := Bool.eq_false_iff.2 (fun h => (hB.1 h).elim fun y' h' => get_none HP.out HG.out m y' h'); have HK2 := Lib.hid (HK1.out.trans hk2); clear hj hB hk2))
    refine bodyPost_ret (v := .tuple #[.int .i64 0, .int .i64 3]) (by simp [results, Tryz.results97, go_sem]) rfl ⟨rfl, HK2.out⟩
  | some y =>
    obtain ⟨i, hi⟩ := Rw.mget_get hg
    have hin : i < n := by
      rw [← hA.1]
      by_cases hil : i < rows.length
      · exact hil
      · rw [List.getElem?_eq_none (by omega)] at hi; cases hi
    obtain ⟨ad, x', y', rfl, hr, f0, f1⟩ := hA.two hin
    rw [hi] at hr
    injection hr with hr
    injection hr with e1 e2
    injection e2 with e2 _
    subst e1
    subst e2
    have HF1 := Lib.hid f1
    have cC := pcheck_any (some ad) n c rows w hA hn
    have cF := fun W (hk : Kept (fun _ => False) w W) => mfind_any (some ad) n c rows z W (hA.kept hk (fun _ _ => id)) hn ho
    have HI := Lib.hid hi
    have t1 : (0 : Int) ≤ (i : Int) := by omega
    have t2 : (i : Int) < (n : Int) := by omega
    clear hA ho hg hi f0 f1
    go_enter Tryz.func97, Tryz.ntmps97
    go_wp2_with (first
      | (go_at_call 42; refine cC.mono ?_; rintro e w1 ⟨⟨E, rfl, _, hE⟩, hk1⟩; obtain rfl : E = 0 := hE.2 HO.out; have HK1 := Lib.hid hk1; clear hk1 hE)
      | (go_at_call 116; refine (cF _ HK1.out).mono ?_; rintro e w2 ⟨⟨m, B, hm, hj, rfl, hB⟩, hk2⟩; obtain rfl : m = i := find_at hj HP.out HL.out HI.out; obtain rfl : B = true := hB.2 ⟨_, HI.out⟩; have HK2 := Lib.hid (HK1.out.trans hk2); have f2 := cell_kept HK2.out HF1.out id; clear hj hB hk2))
    refine bodyPost_ret (v := .tuple #[.int .i64 y, .int .i64 0]) (by simp [results, Tryz.results97, go_sem]) rfl ⟨rfl, HK2.out⟩
end Go.Proofs.YtbofjefblhnkoaaGreatDoor
