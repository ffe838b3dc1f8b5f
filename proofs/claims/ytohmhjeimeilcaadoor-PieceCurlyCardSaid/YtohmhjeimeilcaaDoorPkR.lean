/-
  BRACKETS, of the reference: their kinds, mates, the first one in the row, the pairs around a place.
-/
import Derived.Test.YtohmhjeimeilcaaDoorSp
import Derived.Test.YtohmhjeimeilcaaDoorPkP
import Derived.Deep.RegionHeld3
import Derived.Deep.CutRange
set_option linter.unusedVariables false
namespace Go.Proofs.YtohmhjeimeilcaaDoor
open Go Go.RowKit

theorem opens_any (w : World) : Calls Tryd.prog 38 #[] w fun e w' => ∃ b, e = .returned (.slice (some ⟨b, 0, none⟩) 3 3) ∧ (∀ k, k < 3 → w'.cell? ⟨b, k, none⟩ = some (.int .i32 (Rw.opn k))) ∧ Kept (fun _ => False) w w' := by
  go_enter Tryd.func38, Tryd.ntmps38
  go_wp2
  go_ret
  refine ⟨_, rfl, fun k hk => ?_, (Kept.refl _ w).alloc _⟩
  rw [cell_of_row _ _ _ _ _ _ (heap_alloc_new w _)]
  match k, hk with
  | 0, _ => rfl
  | 1, _ => rfl
  | 2, _ => rfl
theorem shuts_any (w : World) : Calls Tryd.prog 39 #[] w fun e w' => ∃ b, e = .returned (.slice (some ⟨b, 0, none⟩) 3 3) ∧ (∀ k, k < 3 → w'.cell? ⟨b, k, none⟩ = some (.int .i32 (Rw.sht k))) ∧ Kept (fun _ => False) w w' := by
  go_enter Tryd.func39, Tryd.ntmps39
  go_wp2
  go_ret
  refine ⟨_, rfl, fun k hk => ?_, (Kept.refl _ w).alloc _⟩
  rw [cell_of_row _ _ _ _ _ _ (heap_alloc_new w _)]
  match k, hk with
  | 0, _ => rfl
  | 1, _ => rfl
  | 2, _ => rfl
/-- What bracket tells. -/
def brV (c : Int) : Value := match Rw.kdo c with
  | some k => .tuple #[.int .i64 (k : Int), .bool true]
  | none => match Rw.kds c with
    | some k => .tuple #[.int .i64 (k : Int), .bool false]
    | none => .tuple #[.int .i64 (-1), .bool false]
theorem brV_o {k : Nat} (h : k < 3) : brV (Rw.opn k) = .tuple #[.int .i64 (k : Int), .bool true] := by simp [brV, Rw.kdo_opn h]
theorem brV_s {k : Nat} (h : k < 3) : brV (Rw.sht k) = .tuple #[.int .i64 (k : Int), .bool false] := by simp [brV, Rw.kdo_sht, Rw.kds_sht h]
theorem brV_n {c : Int} (h : ∀ j, j < 3 → c ≠ Rw.opn j ∧ c ≠ Rw.sht j) : Rw.kdo c = none ∧ Rw.kds c = none := by
  refine ⟨?_, ?_⟩
  · cases h1 : Rw.kdo c with
    | none => rfl
    | some k => obtain ⟨e, hk⟩ := Rw.kdo_some h1; exact absurd e (h k hk).1
  · cases h1 : Rw.kds c with
    | none => rfl
    | some k => obtain ⟨e, hk⟩ := Rw.kds_some h1; exact absurd e (h k hk).2
set_option maxRecDepth 100000 in
theorem bracket_any (c : Int) (w : World) : Calls Tryd.prog 37 #[.int .i32 c] w fun e w' => e = .returned (brV c) ∧ Kept (fun _ => False) w w' := by
  go_enter Tryd.func37, Tryd.ntmps37
  go_wp2_with (first
    | (go_at_call 38; refine (opens_any _).mono ?_; rintro e w1 ⟨a, rfl, hc1, hk1⟩; have HC1 := Lib.hid hc1; have HK1 := Lib.hid hk1; clear hc1 hk1)
    | (go_at_call 39; refine (shuts_any _).mono ?_; rintro e w2 ⟨b, rfl, hc2, hk2⟩; have HC2 := Lib.hid hc2; have HK2 := Lib.hid hk2; clear hc2 hk2))
  have HCa : Hid (∀ k, k < 3 → w2.cell? ⟨a, k, none⟩ = some (.int .i32 (Rw.opn k))) := fun k hk => cell_kept HK2.out (HC1.out k hk) id
  go_loop [6] (fun v => ∃ k : Nat, k ≤ 3 ∧ v = .int .i64 k ∧ ∀ j, j < k → c ≠ Rw.opn j ∧ c ≠ Rw.sht j) (fun v => 3 - (intOf v).toNat)
  case atStart => exact ⟨0, by omega, rfl, fun j h => by omega⟩
  case round =>
    obtain ⟨k, hk, rfl, hno⟩ := hrel
    have HNO := Lib.hid hno
    clear hno
    by_cases hk3 : k < 3
    · have f1 := HCa.out k hk3
      have f2 := HC2.out k hk3
      have b1 : decide (k < 3) = true := decide_eq_true hk3
      have b2 : decide ((k : Int) < 3) = true := decide_eq_true (by omega)
      have t1 : (0 : Int) ≤ (k : Int) := by omega
      have t2 : (k : Int) < 3 := by omega
      by_cases ho : Rw.opn k = c
      · have HV := Lib.hid (brV_o hk3)
        subst ho
        have e1 : (Rw.opn k == Rw.opn k) = true := by simp
        go_wp2
        refine bodyPost_ret (v := .tuple #[.int .i64 (k : Int), .bool true]) (by simp [results, Tryd.results37, go_sem]) rfl ⟨by rw [HV.out], HK1.out.trans HK2.out⟩
      · have e1 : (Rw.opn k == c) = false := by rw [beq_eq_false_iff_ne]; exact ho
        have HO := Lib.hid ho
        clear ho
        by_cases hs : Rw.sht k = c
        · have HV := Lib.hid (brV_s hk3)
          subst hs
          have e2 : (Rw.sht k == Rw.sht k) = true := by simp
          go_wp2
          refine bodyPost_ret (v := .tuple #[.int .i64 (k : Int), .bool false]) (by simp [results, Tryd.results37, go_sem]) rfl ⟨by rw [HV.out], HK1.out.trans HK2.out⟩
        · have e2 : (Rw.sht k == c) = false := by rw [beq_eq_false_iff_ne]; exact hs
          have HS := Lib.hid hs
          clear hs
          go_wp2
          go_round
          case rel =>
            refine ⟨k + 1, by omega, by go_num, fun j hj => ?_⟩
            by_cases e : j = k
            · subst e; exact ⟨fun h => HO.out h.symm, fun h => HS.out h.symm⟩
            · exact HNO.out j (by omega)
          case measure => simp [intOf]; omega
    · obtain rfl : k = 3 := by omega
      obtain ⟨h1, h2⟩ := brV_n HNO.out
      have HV : Hid (brV c = .tuple #[.int .i64 (-1), .bool false]) := by show _ = _; simp [brV, h1, h2]
      clear h1 h2
      go_wp2
      refine bodyPost_ret (v := .tuple #[.int .i64 (-1), .bool false]) (by simp [results, Tryd.results37, go_sem]) rfl ⟨by rw [HV.out], HK1.out.trans HK2.out⟩
end Go.Proofs.YtohmhjeimeilcaaDoor
