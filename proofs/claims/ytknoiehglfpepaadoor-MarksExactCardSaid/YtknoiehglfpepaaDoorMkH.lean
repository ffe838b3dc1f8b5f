/-
  MARKS: the search for a name, as the program and the reference go about it.
-/
import Derived.Test.YtknoiehglfpepaaDoorMkG
set_option linter.unusedVariables false
namespace Go.Proofs.YtknoiehglfpepaaDoor
open Go Go.RowKit

theorem mnum_any (x m : Int) (w : World) : Calls Tryd.prog 13 #[.int .i64 x, .int .i64 m] w fun e w' => e = .returned (.bool (decide (0 ≤ x ∧ x ≤ m))) ∧ w' = w := by
  by_cases h1 : 0 ≤ x
  · have b1 : decide (0 ≤ x) = true := by simp; omega
    by_cases h2 : x ≤ m
    · have b2 : decide (x ≤ m) = true := by simp; omega
      rw [decide_eq_true (show 0 ≤ x ∧ x ≤ m from ⟨h1, h2⟩)]
      clear h1 h2
      go_enter Tryd.func13, Tryd.ntmps13
      go_wp2
      go_ret
      exact ⟨rfl, rfl⟩
    · have b2 : decide (x ≤ m) = false := by simp; omega
      rw [decide_eq_false (show ¬ (0 ≤ x ∧ x ≤ m) by omega)]
      clear h1 h2
      go_enter Tryd.func13, Tryd.ntmps13
      go_wp2
      go_ret
      exact ⟨rfl, rfl⟩
  · have b1 : decide (0 ≤ x) = false := by simp; omega
    rw [decide_eq_false (show ¬ (0 ≤ x ∧ x ≤ m) by omega)]
    clear h1
    go_enter Tryd.func13, Tryd.ntmps13
    go_wp2
    go_ret
    exact ⟨rfl, rfl⟩
theorem mbtw_any (x l m : Int) (w : World) : Calls Tryd.prog 12 #[.int .i64 x, .int .i64 l, .int .i64 m] w fun e w' => e = .returned (.bool (decide (l ≤ x ∧ x ≤ m))) ∧ w' = w := by
  by_cases h1 : l ≤ x
  · have b1 : decide (l ≤ x) = true := by simp; omega
    by_cases h2 : x ≤ m
    · have b2 : decide (x ≤ m) = true := by simp; omega
      rw [decide_eq_true (show l ≤ x ∧ x ≤ m from ⟨h1, h2⟩)]
      clear h1 h2
      go_enter Tryd.func12, Tryd.ntmps12
      go_wp2
      go_ret
      exact ⟨rfl, rfl⟩
    · have b2 : decide (x ≤ m) = false := by simp; omega
      rw [decide_eq_false (show ¬ (l ≤ x ∧ x ≤ m) by omega)]
      clear h1 h2
      go_enter Tryd.func12, Tryd.ntmps12
      go_wp2
      go_ret
      exact ⟨rfl, rfl⟩
  · have b1 : decide (l ≤ x) = false := by simp; omega
    rw [decide_eq_false (show ¬ (l ≤ x ∧ x ≤ m) by omega)]
    clear h1
    go_enter Tryd.func12, Tryd.ntmps12
    go_wp2
    go_ret
    exact ⟨rfl, rfl⟩
set_option maxRecDepth 100000 in
set_option maxHeartbeats 2000000 in
theorem rmarks_any (A : Option Addr) (n c : Nat) (rows : List (List Int)) (w : World) (hA : Rws w A n 2 rows) (hn : n ≤ 100000) :
    Calls Tryd.prog 7 #[.slice A n c] w fun e w' => (∃ b : Bool, e = .returned (.bool b) ∧ (b = true ↔ Rw.mOk rows)) ∧ Kept (fun _ => False) w w' := by
  have HA := Lib.hid hA
  clear hA
  go_enter Tryd.func7, Tryd.ntmps7
  go_wp2_with fail
  go_loopw [3] (fun v wr => ∃ k : Nat, k ≤ n ∧ v = .int .i64 k ∧ (∀ i, i < k → mAt rows i) ∧ Kept (fun _ => False) w wr) (fun v _ => n - (intOf v).toNat)
  case atStart => exact ⟨0, Nat.zero_le _, rfl, fun i hi => by omega, Kept.refl _ _⟩
  case round =>
    obtain ⟨k, hk, rfl, hat, hkept⟩ := hrel
    have HAT := Lib.hid hat
    have HK := Lib.hid hkept
    clear hat hkept
    by_cases hlt : k < n
    · obtain ⟨ad, x, y, rfl, hr, f0, f1⟩ := (HA.out.kept HK.out (fun _ _ => id)).two hlt
      have b1 : decide (k < n) = true := decide_eq_true hlt
      have b2 : decide ((k : Int) < (n : Int)) = true := decide_eq_true (by omega)
      have t1 : (0 : Int) ≤ (k : Int) := by omega
      have t2 : (k : Int) < (n : Int) := by omega
      have HR := Lib.hid hr
      clear hr
      by_cases hm1 : 97 ≤ x ∧ x ≤ 122
      · have cB := fun W => mbtw_any x 97 122 W
        rw [decide_eq_true hm1] at cB
        by_cases hm2 : 0 ≤ y ∧ y ≤ 4000
        · have cN := fun W => mnum_any y 4000 W
          rw [decide_eq_true hm2] at cN
          by_cases h0 : k = 0
          · have b0 : decide ((0 : Int) < (k : Int)) = false := decide_eq_false (by omega)
            have b0n : decide (0 < k) = false := decide_eq_false (by omega)
            have H0 := Lib.hid h0
            clear h0
            have HN : Hid (∀ i, i < k + 1 → mAt rows i) := by
              show ∀ i, i < k + 1 → mAt rows i
              intro i hi u v huv
              have h0 := H0.out
              obtain rfl : i = k := by omega
              rw [HR.out] at huv
              injection huv with huv
              injection huv with e1 e2
              injection e2 with e2 _
              subst e1
              subst e2
              exact ⟨hm1, hm2, fun _ _ h => by have := H0.out; omega⟩
            go_upto_region 4 with fail
            go_quiet (first | (go_at_call 12; exact Calls.quiet_of_same (cB _)) | (go_at_call 13; exact Calls.quiet_of_same (cN _)))
            go_wp2_with fail
            go_roundw
            case rel => exact ⟨k + 1, by omega, by go_num, HN.out, HK.out.drewN _⟩
            case measure => simp [intOf] <;> omega
          · obtain ⟨q, hq⟩ : ∃ q, k = q + 1 := ⟨k - 1, by omega⟩
            obtain ⟨ad', x', y', he, hr', g0, _⟩ := (HA.out.kept HK.out (fun _ _ => id)).two (show q < n by omega)
            injection he with he
            subst he
            have HR' := Lib.hid hr'
            clear hr'
            have eq : IntKind.i64.wrap ((k : Int) - 1) = (q : Int) := by rw [IntWalk.i64_in _ ⟨by omega, by omega⟩]; omega
            have t3 : (0 : Int) ≤ (q : Int) := by omega
            have t4 : (q : Int) < (n : Int) := by omega
            have b0 : decide ((0 : Int) < (k : Int)) = true := decide_eq_true (by omega)
            have b0n : decide (0 < k) = true := decide_eq_true (by omega)
            have HQ := Lib.hid hq
            clear hq h0
            by_cases hx : x' < x
            · have b4 : decide (x ≤ x') = false := decide_eq_false (by omega)
              have HN : Hid (∀ i, i < k + 1 → mAt rows i) := by
                show ∀ i, i < k + 1 → mAt rows i
                intro i hi
                by_cases hik : i < k
                · exact HAT.out i hik
                · intro u v huv
                  obtain rfl : i = k := by omega
                  rw [HR.out] at huv
                  injection huv with huv
                  injection huv with e1 e2
                  injection e2 with e2 _
                  subst e1
                  subst e2
                  refine ⟨hm1, hm2, fun u' v' _ h' => ?_⟩
                  rw [show i - 1 = q by have := HQ.out; omega, HR'.out] at h'
                  injection h' with h'
                  injection h' with e1 _
                  omega
              go_upto_region 4 with fail
              go_quiet (first | (go_at_call 12; exact Calls.quiet_of_same (cB _)) | (go_at_call 13; exact Calls.quiet_of_same (cN _)))
              go_wp2_with fail
              go_roundw
              case rel => exact ⟨k + 1, by omega, by go_num, HN.out, HK.out.drewN _⟩
              case measure => simp [intOf] <;> omega
            · have b4 : decide (x ≤ x') = true := decide_eq_true (by omega)
              have HNO : Hid (¬ Rw.mOk rows) := by
                show ¬ _
                intro h
                have := (h k x y HR.out).2.2 x' y' (by have := HQ.out; omega) (by rw [show k - 1 = q by have := HQ.out; omega]; exact HR'.out)
                omega
              go_upto_region 4 with fail
              go_quiet (first | (go_at_call 12; exact Calls.quiet_of_same (cB _)) | (go_at_call 13; exact Calls.quiet_of_same (cN _)))
              go_wp2_with fail
              go_ret
              first | exact ⟨⟨false, rfl, fun h => by simp at h, fun h => absurd h HNO.out⟩, HK.out.drewN _⟩ | exact ⟨.inl ⟨rfl, HNO.out⟩, HK.out.drewN _⟩
        · have cN := fun W => mnum_any y 4000 W
          rw [decide_eq_false hm2] at cN
          have HNO : Hid (¬ Rw.mOk rows) := fun h => hm2 (h k x y HR.out).2.1
          go_upto_region 4 with fail
          go_quiet (first | (go_at_call 12; exact Calls.quiet_of_same (cB _)) | (go_at_call 13; exact Calls.quiet_of_same (cN _)))
          go_wp2_with fail
          go_ret
          first | exact ⟨⟨false, rfl, fun h => by simp at h, fun h => absurd h HNO.out⟩, HK.out.drewN _⟩ | exact ⟨.inl ⟨rfl, HNO.out⟩, HK.out.drewN _⟩
      · have cB := fun W => mbtw_any x 97 122 W
        rw [decide_eq_false hm1] at cB
        have HNO : Hid (¬ Rw.mOk rows) := fun h => hm1 (h k x y HR.out).1
        go_upto_region 4 with fail
        go_quiet ((go_at_call 12; exact Calls.quiet_of_same (cB _)))
        go_wp2_with fail
        go_ret
        first | exact ⟨⟨false, rfl, fun h => by simp at h, fun h => absurd h HNO.out⟩, HK.out.drewN _⟩ | exact ⟨.inl ⟨rfl, HNO.out⟩, HK.out.drewN _⟩
    · obtain rfl : k = n := by omega
      have b1 : decide (k < k) = false := decide_eq_false (by omega)
      have b2 : decide ((k : Int) < (k : Int)) = false := decide_eq_false (by omega)
      go_wp2_with fail
      go_ret
      exact ⟨⟨true, rfl, fun _ => mOk_of HA.out.1 HAT.out, fun _ => rfl⟩, HK.out⟩
/-- What the reference tells of the mark of a name. -/
def getV (o : Option Int) : Int := match o with
  | none => -1
  | some y => y
set_option maxRecDepth 100000 in
set_option maxHeartbeats 1000000 in
theorem rget_any (A : Option Addr) (n c : Nat) (rows : List (List Int)) (z : Int) (w : World) (hA : Rws w A n 2 rows) (hn : n ≤ 100000) :
    Calls Tryd.prog 16 #[.slice A n c, .int .i64 z] w fun e w' => e = .returned (.int .i64 (getV (Rw.mget rows z))) ∧ w' = w := by
  have HA := Lib.hid hA
  clear hA
  go_enter Tryd.func16, Tryd.ntmps16
  go_wp2_with fail
  go_loop [5] (fun v => ∃ k : Nat, k ≤ n ∧ v = .int .i64 k ∧ (∀ (j : Nat) (y : Int), j < k → rows[j]? ≠ some [z, y])) (fun v => n - (intOf v).toNat)
  case atStart => exact ⟨0, Nat.zero_le _, rfl, fun i y hi => by omega⟩
  case round =>
    obtain ⟨k, hk, rfl, hat⟩ := hrel
    have HAT := Lib.hid hat
    clear hat
    by_cases hlt : k < n
    · obtain ⟨ad, x, y, rfl, hr, f0, f1⟩ := HA.out.two hlt
      have b1 : decide (k < n) = true := decide_eq_true hlt
      have b2 : decide ((k : Int) < (n : Int)) = true := decide_eq_true (by omega)
      have t1 : (0 : Int) ≤ (k : Int) := by omega
      have t2 : (k : Int) < (n : Int) := by omega
      have HR := Lib.hid hr
      clear hr
      by_cases hx : x = z
      · subst hx
        have HG := Lib.hid (Rw.mget_hit HR.out (fun j y' hj => HAT.out j y' hj))
        have b3 : (x == x) = true := by simp
        go_wp2_with fail
        go_ret
        rw [HG.out]
        exact ⟨rfl, rfl⟩
      · have b3 : (x == z) = false := beq_eq_false_iff_ne.2 hx
        have HN : Hid (∀ (j : Nat) (y : Int), j < k + 1 → rows[j]? ≠ some [z, y]) := by
          show ∀ (j : Nat) (y : Int), j < k + 1 → rows[j]? ≠ some [z, y]
          intro j y' hj e
          by_cases hjk : j < k
          · exact HAT.out j y' hjk e
          · obtain rfl : j = k := by omega
            rw [HR.out] at e
            injection e with e
            injection e with e _
            exact hx e
        clear hx
        go_wp2_with fail
        go_round
        case rel => exact ⟨k + 1, by omega, by go_num, HN.out⟩
        case measure => simp [intOf] <;> omega
    · obtain rfl : k = n := by omega
      have b1 : decide (k < k) = false := decide_eq_false (by omega)
      have b2 : decide ((k : Int) < (k : Int)) = false := decide_eq_false (by omega)
      have HG : Hid (Rw.mget rows z = none) := Rw.mget_none (fun j y e => by
        have hj : j < k := by
          by_cases hj : j < k
          · exact hj
          · rw [List.getElem?_eq_none (by rw [HA.out.1]; omega)] at e; cases e
        exact HAT.out j y hj e)
      go_wp2_with fail
      go_ret
      rw [HG.out]
      exact ⟨rfl, rfl⟩
/-- How two names compare. -/
def cmpv (x z : Int) : Int := if x < z then -1 else if z < x then 1 else 0
theorem cnan_any (x : Int) (w : World) : Calls Tryd.prog 39 #[.int .i64 x] w fun e w' => e = .returned (.bool false) ∧ w' = w := by
  have b : (x != x) = false := by simp
  go_enter Tryd.func39, Tryd.ntmps39
  go_wp2
  go_ret
  exact ⟨rfl, rfl⟩
theorem compare_any (x z : Int) (w : World) : Calls Tryd.prog 32 #[.int .i64 x, .int .i64 z] w fun e w' => e = .returned (.int .i64 (cmpv x z)) ∧ w' = w := by
  by_cases h1 : x < z
  · have hv : Hid (cmpv x z = -1) := by show _ = _; unfold cmpv; rw [if_pos h1]
    have b1 : decide (x < z) = true := decide_eq_true h1
    clear h1
    go_enter Tryd.func32, Tryd.ntmps32
    go_wp2_with (go_at_call 39; refine (cnan_any _ _).mono ?_; rintro e w' ⟨rfl, rfl⟩)
    go_ret
    rw [hv.out]
    exact ⟨rfl, rfl⟩
  · by_cases h2 : z < x
    · have hv : Hid (cmpv x z = 1) := by show _ = _; unfold cmpv; rw [if_neg h1, if_pos h2]
      have b1 : decide (x < z) = false := decide_eq_false h1
      have b2 : decide (z < x) = true := decide_eq_true h2
      clear h1 h2
      go_enter Tryd.func32, Tryd.ntmps32
      go_wp2_with (go_at_call 39; refine (cnan_any _ _).mono ?_; rintro e w' ⟨rfl, rfl⟩)
      go_ret
      rw [hv.out]
      exact ⟨rfl, rfl⟩
    · have hv : Hid (cmpv x z = 0) := by show _ = _; unfold cmpv; rw [if_neg h1, if_neg h2]
      have b1 : decide (x < z) = false := decide_eq_false h1
      have b2 : decide (z < x) = false := decide_eq_false h2
      clear h1 h2
      go_enter Tryd.func32, Tryd.ntmps32
      go_wp2_with (go_at_call 39; refine (cnan_any _ _).mono ?_; rintro e w' ⟨rfl, rfl⟩)
      go_ret
      rw [hv.out]
      exact ⟨rfl, rfl⟩
theorem clo_any (x y z : Int) (w : World) : Calls Tryd.prog 31 #[.agg #[.int .i64 x, .int .i64 y], .int .i64 z] w fun e w' => e = .returned (.int .i64 (cmpv x z)) ∧ Kept (fun _ => False) w w' := by
  have hK0 : Hid (Kept (fun _ => False) w (w.alloc (.cells #[.int .i64 x, .int .i64 y] 61))) := (Kept.refl _ w).alloc _
  go_enter Tryd.func31, Tryd.ntmps31
  go_wp2_with (go_at_call 32; refine (compare_any _ _ _).mono ?_; rintro e w' ⟨rfl, rfl⟩)
  go_ret
  exact ⟨rfl, hK0.out⟩
end Go.Proofs.YtknoiehglfpepaaDoor
