/-
  REGISTERS: slices.Insert walked, where there is room.
-/
import Derived.Test.YtackgnkajffhiaaDoorRsI
import Derived.Shelf.Spec.SlicesInsert
set_option linter.unusedVariables false
namespace Go.Proofs.YtackgnkajffhiaaDoor
open Go Go.RowKit

set_option maxRecDepth 100000 in
set_option maxHeartbeats 4000000 in
theorem insert_any (w : World) (g cap N i vb : Nat) (L : List RegS) (r : RegS) (h : Rm w g cap L) (hN : L.length = N) (hi : i ≤ N) (hroom : N < cap) (hcap : cap ≤ 1000000) (hvb : vb ≠ g) (hv : w.heap[vb]? = some (.cells #[.int .i64 r.n, .string r.s, .bool r.b] 41 (0, 0))) :
    Calls Tryd.prog 44 #[.slice (some ⟨g, 0, none⟩) N cap, .int .i64 i, .slice (some ⟨vb, 0, none⟩) 1 1] w fun e w' => (e = .returned (.slice (some ⟨g, 0, none⟩) (N + 1) cap) ∧ Rm w' g cap (L.take i ++ r :: L.drop i)) ∧ Kept (fun q => q = g) w w' := by
  have e1 := fun u => cutR_l u g N cap i (i : Int) rfl hi (by omega) (by omega)
  have hcells : ∀ j u, r.vs[j]? = some u → w.cell? ⟨vb, j, none⟩ = some u := fun j u hj => by
    rw [cell_of_row _ _ _ _ _ _ hv]
    match j, hj with
    | 0, hj => simpa [RegS.vs] using hj
    | 1, hj => simpa [RegS.vs] using hj
    | 2, hj => simpa [RegS.vs] using hj
  have t1 : (0 : Int) ≤ (i : Int) := by omega
  have t2 : (i : Int) ≤ (N : Int) := by omega
  by_cases hiN : i = N
  · subst hiN
    have HE : Hid (L.take i ++ r :: L.drop i = L ++ [r]) := by show _ = _; rw [List.take_of_length_le (by omega), List.drop_of_length_le (by omega)]
    rw [HE.out]
    have b0 : ((i : Int) == (i : Int)) = true := by simp
    go_enter Tryd.func44, Tryd.ntmps44
    go_wp2_with (at_builtin; refine wpList_rm rfl (.tmp 23) (.tmp 24) rfl h r _ hN hroom rfl ⟨vb, 0, none⟩ 1 rfl (by intro j u hj; rw [addr_add, Nat.zero_add]; exact hcells j u hj) ?_; intro w4 hrm4 hk4; have HR4 := Lib.hid hrm4; have HK4 := Lib.hid hk4; clear hrm4 hk4)
    go_ret
    exact ⟨⟨rfl, HR4.out⟩, HK4.out⟩
  · have hlt : i < N := by omega
    have b0 : ((i : Int) == (N : Int)) = false := beq_eq_false_iff_ne.2 (by omega)
    have ea : IntKind.i64.wrap ((N : Int) + 1) = (N : Int) + 1 := IntWalk.i64_in _ ⟨by omega, by omega⟩
    have eb : IntKind.i64.wrap ((i : Int) + 1) = (i : Int) + 1 := IntWalk.i64_in _ ⟨by omega, by omega⟩
    have e2 := fun u => cutR_h u g N cap (N + 1) ((N : Int) + 1) (by omega) (by omega) (by omega)
    have e3 := fun u => cutR_l u g (N + 1) cap (i + 1) ((i : Int) + 1) (by omega) (by omega) (by omega) (by omega)
    have e4 := fun u => cutR_l u g (N + 1) cap i (i : Int) rfl (by omega) (by omega) (by omega)
    have b5 : decide ((cap : Int) < (N : Int) + 1) = false := decide_eq_false (by omega)
    have b6 : decide (cap < N + 1) = false := decide_eq_false (by omega)
    obtain ⟨cur, hc1, hc2, _⟩ := h.h
    have hov : ∀ lb cb, (callFunc 48 #[.slice (some ⟨vb, 0, none⟩) 1 1, .slice (some ⟨g, (i + 1) * 3, none⟩) lb cb]).run Tryd.prog w = .ok (.value (.bool false)) w := fun lb cb => by
      rw [run_callFunc_extern Tryd.func48 (by kernel_rfl) (by kernel_rfl) (by kernel_rfl) (e := Extern.SlicesOverlaps.overlaps #[22, 22] #[4]) (by kernel_rfl),
        Lib.run_overlaps_apart w 22 4 41 Tryd.underlying22 3 (fun w => by kernel_rfl) ⟨vb, 0, none⟩ ⟨g, (i + 1) * 3, none⟩ 1 1 lb cb hvb 41 41 3 (cap * 3) (by unfold World.shape?; rw [hv]; rfl) (by unfold World.shape?; simp only [hc1]; rw [hc2]) (by omega) (frozen_of hv) (frozen_of hv)]
      rfl
    have hdr : Kept (fun _ => False) w w.drew := (Kept.refl _ _).drew
    obtain ⟨wa, wb, hq1, hq2, hrm, hkk⟩ := (h.kept hdr id).shift (r := r) hN hlt hroom vb 1 hvb (fun j u hj => cell_kept hdr (hcells j u hj) id)
    rw [show N + 1 - (i + 1) = N - i by omega] at hq1
    have HRM := Lib.hid hrm
    have HKK := Lib.hid (((Kept.refl (fun q => q = g) w).drew).trans hkk)
    clear hrm hkk
    have HH := Lib.hid h
    clear h hc1 hc2 hdr hi hcells hv hiN
    go_enter Tryd.func44, Tryd.ntmps44
    go_wp2_with (simp only [hov])
    go_region_law (refine step_copy_runI rfl _ _ 22 22 rfl _ _ (by simp [Act.eval, Act.put]) (by simp [Act.eval, Act.put]) (hq1 _ _ _) ?_)
    all_goals
      go_wp2_with (at_builtin; refine wpList_copy_runI _ rfl _ _ 22 22 rfl _ _ rfl rfl (hq2 _ _) ?_)
      go_ret
      exact ⟨⟨rfl, HRM.out⟩, HKK.out⟩
end Go.Proofs.YtackgnkajffhiaaDoor
