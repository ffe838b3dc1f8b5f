/-
  PatchBetween: of texts that may not be; the patch between, applied.
-/
import Derived.Test.YthbfmdnibijapaaDoorPbS
import Derived.Test.YthbfmdnibijapaaDoorPbQ
set_option linter.unusedVariables false
namespace Go.Proofs.YthbfmdnibijapaaDoor
open Go Go.RowKit

set_option maxRecDepth 100000 in
set_option maxHeartbeats 1000000 in
theorem between_no (a b : ByteArray) (w : World) (hT : Tabs w) (hsa : a.size ≤ 140737488351232) (hsb : b.size ≤ 140737488351232) (hno : ¬ (mayB a = true ∧ mayB b = true)) :
    Calls Tryd.prog 42 #[.string a, .string b] w fun e w' => e = .returned (.tuple #[patV 0 0 ⟨#[]⟩, .int .i64 1]) ∧ Kept (fun _ => False) w w' := by
  have hka : Kept (fun _ => False) w (w.alloc (patO 0 0 ⟨#[]⟩)) := (Kept.refl _ w).alloc _
  have hTa := hT.kept hka id id
  have cA := check_any a (w.alloc (patO 0 0 ⟨#[]⟩)) hsa hTa
  have cB := fun W (hW : Tabs W) => check_any b W hsb hW
  have HKA := Lib.hid hka
  have HTA := Lib.hid hTa
  have HG0 : Hid ((w.alloc (patO 0 0 ⟨#[]⟩)).heap[w.heap.size]? = some (patO 0 0 ⟨#[]⟩)) := heap_alloc_new w _
  obtain ⟨g, hg⟩ : ∃ g, w.heap.size = g := ⟨_, rfl⟩
  cases hma : mayB a with
  | false =>
    rw [hma] at cA
    clear hT hma hka hTa cB hno
    go_enter Tryd.func42, Tryd.ntmps42
    go_wp2_with fail
    simp only [hg] at HG0 ⊢
    generalize w.alloc (patO 0 0 ⟨#[]⟩) = wa at *
    refine cA.mono ?_
    rintro e w1 ⟨rfl, hk1⟩
    have HK1 := Lib.hid (HKA.out.trans hk1)
    have HG1 := Lib.hid ((hk1.block g (heap_lt HG0.out) id).trans HG0.out)
    clear hk1 cA
    have g0 : w1.cell? ⟨g, 0, none⟩ = some (.int .i64 0) := by rw [cell_of_row _ _ _ _ _ _ HG1.out]; rfl
    have g1 : w1.cell? ⟨g, 1, none⟩ = some (.int .i64 0) := by rw [cell_of_row _ _ _ _ _ _ HG1.out]; rfl
    have g2 : w1.cell? ⟨g, 2, none⟩ = some (.string ⟨#[]⟩) := by rw [cell_of_row _ _ _ _ _ _ HG1.out]; rfl
    have k0 : w1.frozen? ⟨g, 0, none⟩ = false := frozen_of HG1.out
    have k1 : w1.frozen? ⟨g, 1, none⟩ = false := frozen_of HG1.out
    have k2 : w1.frozen? ⟨g, 2, none⟩ = false := frozen_of HG1.out
    go_wp2
    refine bodyPost_ret (res_pat rfl _ _ g 0 0 ⟨#[]⟩ (0, 0) rfl ((heap_set (heap_set (heap_set HG1.out _) _) _).trans rfl)) rfl ⟨rfl, ?_⟩
    exact HK1.out.fresh ((((Kept.refl (fun b => b = g) w1).setCell (p := ⟨g, 0, none⟩) rfl _).setCell (p := ⟨g, 1, none⟩) rfl _).setCell (p := ⟨g, 2, none⟩) rfl _) (fun b hb e => by omega)
  | true =>
    have hmb : mayB b = false := by cases hmb : mayB b with | false => rfl | true => exact absurd ⟨hma, hmb⟩ hno
    rw [hma] at cA
    rw [hmb] at cB
    clear hT hma hka hTa hno hmb
    go_enter Tryd.func42, Tryd.ntmps42
    go_wp2_with fail
    simp only [hg] at HG0 ⊢
    generalize w.alloc (patO 0 0 ⟨#[]⟩) = wa at *
    refine cA.mono ?_
    rintro e w0 ⟨rfl, hk0⟩
    have HT0 := Lib.hid (HTA.out.kept hk0 id id)
    have HK0 := Lib.hid (HKA.out.trans hk0)
    have HGb := Lib.hid ((hk0.block g (heap_lt HG0.out) id).trans HG0.out)
    clear hk0 cA
    go_wp2_with fail
    refine (cB w0 HT0.out).mono ?_
    rintro e w1 ⟨rfl, hk1⟩
    have HK1 := Lib.hid (HK0.out.trans hk1)
    have HG1 := Lib.hid ((hk1.block g (heap_lt HGb.out) id).trans HGb.out)
    clear hk1 cB
    have g0 : w1.cell? ⟨g, 0, none⟩ = some (.int .i64 0) := by rw [cell_of_row _ _ _ _ _ _ HG1.out]; rfl
    have g1 : w1.cell? ⟨g, 1, none⟩ = some (.int .i64 0) := by rw [cell_of_row _ _ _ _ _ _ HG1.out]; rfl
    have g2 : w1.cell? ⟨g, 2, none⟩ = some (.string ⟨#[]⟩) := by rw [cell_of_row _ _ _ _ _ _ HG1.out]; rfl
    have k0 : w1.frozen? ⟨g, 0, none⟩ = false := frozen_of HG1.out
    have k1 : w1.frozen? ⟨g, 1, none⟩ = false := frozen_of HG1.out
    have k2 : w1.frozen? ⟨g, 2, none⟩ = false := frozen_of HG1.out
    go_wp2
    refine bodyPost_ret (res_pat rfl _ _ g 0 0 ⟨#[]⟩ (0, 0) rfl ((heap_set (heap_set (heap_set HG1.out _) _) _).trans rfl)) rfl ⟨rfl, ?_⟩
    exact HK1.out.fresh ((((Kept.refl (fun b => b = g) w1).setCell (p := ⟨g, 0, none⟩) rfl _).setCell (p := ⟨g, 1, none⟩) rfl _).setCell (p := ⟨g, 2, none⟩) rfl _) (fun b hb e => by omega)
theorem papply_b (a b : ByteArray) (w : World) (hT : Tabs w) (hma : mayB a = true) (hmb : mayB b = true) :
    Calls Tryd.prog 53 #[.string a, btw (rs a) (rs b)] w fun e w' => e = .returned (.tuple #[.string b, .int .i64 0]) ∧ Kept (fun _ => False) w w' := by
  have hin : ∀ x ∈ Rw.bins (rs a) (rs b), x ∈ rs b := fun x hx => by
    unfold Rw.bins at hx
    exact List.mem_of_mem_drop (List.mem_of_mem_take hx)
  have h := papply_yes (rs a) (Rw.bins (rs a) (rs b)) (Rw.bat (rs a) (rs b)) (Rw.bdel (rs a) (rs b)) w hT (rs_vld hma) (by rw [txt_rs hma]; exact hma) (Rw.app_le _ _) (fun x hx => rs_vld hmb x (hin x hx)) (fun hx => rs_zero hmb (hin 0 hx)) (by rw [Rw.app, txt_rs hmb]; exact mayB_size hmb)
  rw [Rw.app, txt_rs hma, txt_rs hmb] at h
  exact h
end Go.Proofs.YthbfmdnibijapaaDoor
