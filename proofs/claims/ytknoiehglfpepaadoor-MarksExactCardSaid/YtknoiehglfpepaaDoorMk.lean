/-
  MARKS: the reference's comparison of two slices of them.
-/
import Derived.Test.YtknoiehglfpepaaDoorMsA
set_option linter.unusedVariables false
namespace Go.Proofs.YtknoiehglfpepaaDoor
open Go Go.RowKit

/-- A row of two numbers. -/
theorem Rws.two {w : World} {A : Option Addr} {n : Nat} {rows : List (List Int)} (h : Rws w A n 2 rows) {i : Nat} (hi : i < n) : ∃ ad x y, A = some ad ∧ rows[i]? = some [x, y] ∧ w.cell? (ad.add (i * 2)) = some (.int .i64 x) ∧ w.cell? ⟨(ad.add (i * 2)).block, (ad.add (i * 2)).off + 1, none⟩ = some (.int .i64 y) := by
  obtain ⟨ad, r, e, hr, hl, _, hc⟩ := h.row hi
  match r, hl with
  | [x, y], _ =>
    have h0 := hc 0 x rfl
    have h1 := hc 1 y rfl
    rw [addr_far _ 1 (by omega)] at h1
    exact ⟨ad, x, y, e, hr, by simpa [Addr.add] using h0, h1⟩
set_option maxRecDepth 100000 in
set_option maxHeartbeats 1000000 in
theorem eqmarks_yes (A B : Option Addr) (n c c' : Nat) (rows : List (List Int)) (w : World) (hA : Rws w A n 2 rows) (hB : Rws w B n 2 rows) (hn : n ≤ 100000) :
    Calls Tryd.prog 17 #[.slice A n c, .slice B n c'] w fun e w' => e = .returned (.bool true) ∧ Kept (fun _ => False) w w' := by
  have HA := Lib.hid hA
  have HB := Lib.hid hB
  clear hA hB
  go_enter Tryd.func17, Tryd.ntmps17
  go_wp2_with fail
  go_loopw [5] (fun v wr => ∃ k m : Nat, k ≤ n ∧ v = .int .i64 k ∧ wr = w.drewN m) (fun v _ => n - (intOf v).toNat)
  case atStart => exact ⟨0, 0, Nat.zero_le _, rfl, rfl⟩
  case round =>
    obtain ⟨k, m, hk, rfl, rfl⟩ := hrel
    by_cases hlt : k < n
    · obtain ⟨ad, x, y, rfl, hr, f0, f1⟩ := HA.out.two hlt
      obtain ⟨bd, x', y', rfl, hr', g0, g1⟩ := HB.out.two hlt
      rw [hr] at hr'
      injection hr' with hr'
      injection hr' with e1 e2
      injection e2 with e2 _
      subst e1
      subst e2
      have f0' : (w.drewN m).cell? (ad.add (k * 2)) = some (.int .i64 x) := f0
      have f1' : (w.drewN m).cell? ⟨(ad.add (k * 2)).block, (ad.add (k * 2)).off + 1, none⟩ = some (.int .i64 y) := f1
      have g0' : (w.drewN m).cell? (bd.add (k * 2)) = some (.int .i64 x) := g0
      have g1' : (w.drewN m).cell? ⟨(bd.add (k * 2)).block, (bd.add (k * 2)).off + 1, none⟩ = some (.int .i64 y) := g1
      have b1 : decide (k < n) = true := decide_eq_true hlt
      have b2 : decide ((k : Int) < (n : Int)) = true := decide_eq_true (by omega)
      have t1 : (0 : Int) ≤ (k : Int) := by omega
      have t2 : (k : Int) < (n : Int) := by omega
      clear hr
      go_wp2_with fail
      go_quiet (fail)
      go_wp2_with fail
      go_roundw
      case rel => exact ⟨k + 1, _, by omega, by go_num, rfl⟩
      case measure => simp [intOf] <;> omega
    · obtain rfl : k = n := by omega
      have b1 : decide (k < k) = false := decide_eq_false (by omega)
      have b2 : decide ((k : Int) < (k : Int)) = false := decide_eq_false (by omega)
      go_wp2_with fail
      go_ret
      exact ⟨rfl, (Kept.refl _ w).drewN m⟩
end Go.Proofs.YtknoiehglfpepaaDoor
