/-
  THE REFERENCE's made and tidy (chapter 18).
-/
import Derived.Test.YtkeojjojilfklaaDoorOc
set_option linter.unusedVariables false
namespace Go.Proofs.YtkeojjojilfklaaDoor
open Go Go.RowKit

set_option maxRecDepth 100000 in
theorem rmade_yes (s x : ByteArray) (at' : Nat) (w : World) (hs : s.size ≤ 4000) (hT : Tabs w) (hm : mayB x = true) :
    Calls Tryd.prog 62 #[.string s, .string x, .int .i64 at'] w fun e w' => e = .returned (.tuple #[chgV (Rw.bat (rs s) (rs x) : Nat) (Rw.bdel (rs s) (rs x) : Nat) (runesBytes (Rw.bins (rs s) (rs x))) at' ⟨#[]⟩ false, .int .i64 0]) ∧ Kept (fun _ => False) w w' := by
  have hka : Kept (fun _ => False) w (w.alloc (chgO 0 0 ⟨#[]⟩ 0 ⟨#[]⟩ false)) := (Kept.refl _ w).alloc _
  have HG0 : Hid ((w.alloc (chgO 0 0 ⟨#[]⟩ 0 ⟨#[]⟩ false)).heap[w.heap.size]? = some (chgO 0 0 ⟨#[]⟩ 0 ⟨#[]⟩ false)) := heap_alloc_new w _
  have hsx := mayB_size hm
  have cM := rmay_any x _ (by omega) (hT.kept hka id id)
  rw [hm] at cM
  have cB := fun W => rbetween_yes s x W hs hsx
  unfold btw at cB
  generalize ((Rw.bat (rs s) (rs x) : Nat) : Int) = PA at *
  generalize ((Rw.bdel (rs s) (rs x) : Nat) : Int) = PD at *
  generalize runesBytes (Rw.bins (rs s) (rs x)) = PI at *
  have HKA := Lib.hid hka
  have HCB := Lib.hid cB
  clear hka hT hm cB
  obtain ⟨g, hg⟩ : ∃ g, w.heap.size = g := ⟨_, rfl⟩
  have HGS := Lib.hid hg
  go_enter Tryd.func62, Tryd.ntmps62
  go_upto_region 1 with fail
  simp only [hg] at HG0 ⊢
  clear hg
  go_wp2_with (first
    | (go_at_call 17; refine cM.mono ?_; rintro e w1 ⟨rfl, hk1⟩; have HK1 := Lib.hid (HKA.out.trans hk1); have HG1 := Lib.hid ((hk1.block _ (heap_lt HG0.out) id).trans HG0.out); clear hk1 cM)
    | (go_at_call 83; refine (HCB.out _).mono ?_; rintro e w2 ⟨rfl, hk2⟩; have HK2 := Lib.hid (HK1.out.trans hk2); have HG2 := Lib.hid ((hk2.block _ (heap_lt HG1.out) id).trans HG1.out); clear hk2; obtain ⟨⟨c0, c1, c2, c3, c4, c5⟩, k0, k1, k2, k3, k4, k5⟩ := chg_facts HG2.out))
  refine bodyPost_ret (res_chg rfl _ _ g _ _ _ _ _ _ (0, 0) rfl (chg_six HG2.out _ _ _ _ _ _)) rfl ⟨rfl, ?_⟩
  exact HK2.out.fresh (Kept.six (Kept.refl (fun q => q = g) w2) rfl _ _ _ _ _ _) (fun b hb e => by have := HGS.out; omega)
set_option maxRecDepth 100000 in
theorem rtidy_yes (x : ByteArray) (at' : Nat) (w : World) (hm : mayB x = true) (hk : at' ≤ (rs x).length) :
    Calls Tryd.prog 82 #[.string x, .int .i64 at'] w fun e w' => e = .returned (.int .i64 (Rw.rst (rs x) (Rw.fst (rs x) at') : Nat)) ∧ Kept (fun _ => False) w w' := by
  have hsx := mayB_size hm
  have hl := rs_len x
  obtain ⟨cap, w2, hcap, hcv, hk2, hlt, hR⟩ := conv_rs x w (by omega)
  have hf : Rw.fst (rs x) at' ≤ (rs x).length := Nat.le_trans (Rw.fst_le _ _ hk) (Rw.en_le _ _ hk)
  have cF := rfirst_any _ _ cap _ at' w2 hR (rs_runey (mayB_valid hm)) hk (by omega)
  have cR := rrest_any _ _ cap _ (Rw.fst (rs x) at') w2 hR hf (by omega)
  have HK2 := Lib.hid hk2
  generalize Rw.fst (rs x) at' = F at *
  generalize rs x = t at *
  generalize Rw.rst t F = V at *
  clear hm hR hk2
  go_enter Tryd.func82, Tryd.ntmps82
  go_wp2_with (first | (go_at_call 94; refine cF.mono ?_; rintro e w1 ⟨rfl, rfl⟩) | (go_at_call 59; refine cR.mono ?_; rintro e w3 ⟨rfl, rfl⟩))
  go_ret
  exact ⟨rfl, HK2.out⟩
end Go.Proofs.YtkeojjojilfklaaDoor
