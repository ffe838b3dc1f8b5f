/-
  PUT: by p a row, once.
-/
import Derived.Test.YtilkogohiealhaaDoorPuA
set_option linter.unusedVariables false
namespace Go.Proofs.YtilkogohiealhaaDoor
open Go Go.RowKit

def rowU : List Int := [10, 114, 111, 119]
theorem rowU_vld : Vld rowU := fun r hr => by
  simp only [rowU, List.mem_cons, List.not_mem_nil, or_false] at hr
  rcases hr with rfl | rfl | rfl | rfl <;> decide
set_option maxRecDepth 100000 in
set_option maxHeartbeats 2000000 in
theorem put_L (s : ByteArray) (k : Nat) (w : World) (hT : Tabs w) (hm : mayB s = true) (hk : k ≤ (rs s).length) (hsz : s.size ≤ 3000) :
    Calls Tryd.prog 8 #[.string s, .int .i64 k, regV 0 ⟨#[114, 111, 119]⟩ true, .int .i64 112, .int .i64 1] w fun e w' => PutR s (ptN (rs s) (Rw.en (rs s) k) rowU) e ∧ Kept (fun _ => False) w w' := by
  have hel := Rw.en_le (rs s) k hk
  have hu : Vld rowU := rowU_vld
  have hu0 : (0 : Int) ∉ rowU := by decide
  have hru : (runesBytes rowU).size = 4 := by decide
  have hka : Kept (fun _ => False) w ((w.alloc (regO 0 ⟨#[114, 111, 119]⟩ true)).alloc zeroS) := ((Kept.refl _ w).alloc _).alloc _
  have hI0 : PuI ⟨#[114, 111, 119]⟩ true w.heap.size ((w.alloc (regO 0 ⟨#[114, 111, 119]⟩ true)).alloc zeroS) := ⟨hT.kept hka id id, heap_two' w _ _, heap_two'' w _ _⟩
  have hmt : mayB ⟨#[114, 111, 119]⟩ = true := by decide
  have hmx := ptN_may (k := Rw.en (rs s) k) hm hu hu0 (by omega)
  have hxr : rs (runesBytes (ptN (rs s) (Rw.en (rs s) k) rowU)) = ptN (rs s) (Rw.en (rs s) k) rowU := rs_txt (ptN_vld (rs_vld hm) hu)
  have hsz4 := mayB_size hm
  have hl4 : (rs s).length ≤ 4000 := by have := rs_len s; omega
  have cR := runes_cap s k _ hI0.tabs hm hk
  have cL := fun W hW => plen_yes ⟨#[114, 111, 119]⟩ W hW hmt
  rw [show (rs ⟨#[114, 111, 119]⟩).length = 3 by decide] at cL
  have cRow := fun b cap W hW => row_any (some ⟨b, 0, none⟩) (rs s).length cap (rs s) k W hW hk (by omega)
  have cRp := fun W => repeat1 (runesBytes rowU) W
  have cC := fun W hW => pfirst_yes (runesBytes (ptN (rs s) (Rw.en (rs s) k) rowU)) (Rw.en (rs s) k + 1) W hW hmx (by rw [hxr, ptN_len]; show _ ≤ _ + 4; omega)
  have cB := fun W hW => between_yes s (runesBytes (ptN (rs s) (Rw.en (rs s) k) rowU)) W hW hm hmx
  rw [hxr] at cB
  unfold btw at cB
  have HTX := Lib.hid (ptN_txt (rs s) rowU (Rw.en (rs s) k))
  have hsA : (runesBytes ((rs s).take (Rw.en (rs s) k))).size ≤ 4000 := txt_le (List.take_sublist _ _) (by have := rs_bytes hm; omega)
  have hsC : (runesBytes ((rs s).drop (Rw.en (rs s) k))).size ≤ 4000 := txt_le (List.drop_sublist _ _) (by have := rs_bytes hm; omega)
  have HP : Hid (∀ x : Int, PutR s (ptN (rs s) (Rw.en (rs s) k) rowU) (.returned (chgT (Rw.bat (rs s) (ptN (rs s) (Rw.en (rs s) k) rowU) : Nat) (Rw.bdel (rs s) (ptN (rs s) (Rw.en (rs s) k) rowU) : Nat) (runesBytes (Rw.bins (rs s) (ptN (rs s) (Rw.en (rs s) k) rowU))) x ⟨#[]⟩ 0))) := fun x => ⟨x, rfl⟩
  unfold chgT at HP
  generalize PutR s (ptN (rs s) (Rw.en (rs s) k) rowU) = PR at *
  generalize ((Rw.bat (rs s) (ptN (rs s) (Rw.en (rs s) k) rowU) : Nat) : Int) = PA at *
  generalize ((Rw.bdel (rs s) (ptN (rs s) (Rw.en (rs s) k) rowU) : Nat) : Int) = PD at *
  generalize runesBytes (Rw.bins (rs s) (ptN (rs s) (Rw.en (rs s) k) rowU)) = PI at *
  generalize runesBytes (ptN (rs s) (Rw.en (rs s) k) rowU) = NX at *
  generalize Rw.beg (rs s) k = B at *
  generalize Rw.en (rs s) k = En at *
  generalize rs s = t at *
  have had0 : (⟨#[10]⟩ : ByteArray) ++ ⟨#[114, 111, 119]⟩ = runesBytes rowU := by decide
  generalize runesBytes rowU = tk at *
  have HCB := Lib.hid cB
  have HCL := Lib.hid cL
  have HCC := Lib.hid cC
  have HKA := Lib.hid hka
  have HI0 := Lib.hid hI0
  obtain ⟨xb, hxb⟩ : ∃ xb, w.heap.size = xb := ⟨_, rfl⟩
  have HXB := Lib.hid hxb
  rw [hxb] at HI0
  clear hxb hT hka hI0 hm hmt hmx hxr cB cL cC hu hu0
  go_enter Tryd.func8, Tryd.ntmps8
  go_upto_region 1 with fail
  simp only [HXB.out]
  generalize (w.alloc (regO 0 ⟨#[114, 111, 119]⟩ true)).alloc zeroS = W0 at *
  go_upto_region 2 with (go_at_call 22; refine cR.mono ?_; rintro e w1 ⟨hk1, b, cap, rfl, hb, hcap, hR⟩; have HK1 := Lib.hid (HKA.out.trans hk1); have HI1 := Lib.hid (HI0.out.kept hk1); have HR1 := Lib.hid hR; clear hk1 hR cR)
  obtain ⟨r0, r1, r2⟩ := reg_facts HI1.out.reg
  go_upto_region 3 with (go_at_call 23; refine (HCL.out _ HI1.out.tabs).mono ?_; rintro e w2 ⟨rfl, hk2⟩; have HK2 := Lib.hid (HK1.out.trans hk2); have HI2 := Lib.hid (HI1.out.kept hk2); have HR2 := Lib.hid (HR1.out.kept hk2 (fun _ _ => id)); clear hk2 r0 r1 r2)
  obtain ⟨r0, r1, r2⟩ := reg_facts HI2.out.reg
  have cO := cRow b cap w2 HR2.out
  clear cRow
  go_upto_region 7 with (go_at_call 24; refine cO.mono ?_; rintro e w' ⟨rfl, hw⟩; have hw2 := hw.symm; subst hw2; clear cO)
  have ad0 : ∀ v, (Op.stringOp .add ⟨#[10]⟩ ⟨#[114, 111, 119]⟩).run Tryd.prog v = .ok (.string tk) v := fun v => by rw [← had0]; exact run_string_add_sum v _ _ (by decide)
  have wm : IntKind.i64.wrap (1 * (tk.size : Int)) = (tk.size : Int) := by rw [Int.one_mul]; exact IntWalk.i64_in _ ⟨by omega, by omega⟩
  have wa : IntKind.i64.wrap ((s.size : Int) + (tk.size : Int)) = (s.size : Int) + (tk.size : Int) := IntWalk.i64_in _ ⟨by omega, by omega⟩
  have d1 : decide ((4000 : Int) < (s.size : Int) + (tk.size : Int)) = false := decide_eq_false (by omega)
  go_upto_region 15 with fail
  clear d1 wm wa ad0 had0
  have hcA := fun v => run_cut_h v (some ⟨b, 0, none⟩) t.length cap En (En : Int) rfl (by omega)
  have hcC := fun v => run_cut_l v (some ⟨b, 0, none⟩) t.length cap En (En : Int) rfl hel hcap
  have hRA : Rn w2 (cutB (some ⟨b, 0, none⟩) cap 0) En (t.take En) := by rw [cutB_zero]; exact HR2.out.take (by omega)
  have hRC : Rn w2 (cutB (some ⟨b, 0, none⟩) cap En) (t.length - En) (t.drop En) := HR2.out.drop hel hcap
  generalize cutB (some ⟨b, 0, none⟩) cap 0 = CA at *
  generalize cutB (some ⟨b, 0, none⟩) cap En = CC at *
  have htA : ∀ r, (convert 30 9 (.slice CA En cap)).run Tryd.prog (w2.drewN r) = .ok (.string (runesBytes (t.take En))) (w2.drewN r) := fun r => run_txt (w := w2.drewN r) hRA
  have htC : ∀ r, (convert 30 9 (.slice CC (t.length - En) (cap - En))).run Tryd.prog (w2.drewN r) = .ok (.string (runesBytes (t.drop En))) (w2.drewN r) := fun r => run_txt (w := w2.drewN r) hRC
  generalize runesBytes (t.take En) = SA at *
  generalize runesBytes (t.drop En) = SC at *
  have ad1 : ∀ v, (Op.stringOp .add SA tk).run Tryd.prog v = .ok (.string (SA ++ tk)) v := fun v => run_string_add_sum v SA tk (by omega)
  have ad2 : ∀ v, (Op.stringOp .add (SA ++ tk) SC).run Tryd.prog v = .ok (.string NX) v := fun v => by rw [← HTX.out]; exact run_string_add_sum v (SA ++ tk) SC (by rw [ByteArray.size_append]; omega)
  clear hRA hRC
  go_quiet (exact Calls.quiet_of_same (cRp _))
  clear htA htC ad1 ad2 hcA hcC r0 r1 r2
  go_upto_region 16 with fail
  generalize hw3 : w2.drewN _ = w3
  have HK3 : Hid (Kept (fun _ => False) w w3) := by rw [← hw3]; exact HK2.out.drewN _
  have HI3 : Hid (PuI ⟨#[114, 111, 119]⟩ true xb w3) := by rw [← hw3]; exact HI2.out.drewN _
  clear hw3 HK2 HI2 HR2 HR1 HI1 HK1
  have HYA : Hid ((w3.alloc (chgO 0 0 ⟨#[]⟩ En ⟨#[]⟩ false)).heap[w3.heap.size]? = some (chgO 0 0 ⟨#[]⟩ En ⟨#[]⟩ false)) := heap_alloc_new w3 _
  have HK4 : Hid (Kept (fun _ => False) w (w3.alloc (chgO 0 0 ⟨#[]⟩ En ⟨#[]⟩ false))) := HK3.out.alloc _
  have HI4 : Hid (PuI ⟨#[114, 111, 119]⟩ true xb (w3.alloc (chgO 0 0 ⟨#[]⟩ En ⟨#[]⟩ false))) := HI3.out.kept ((Kept.refl _ w3).alloc _)
  have HYX : Hid (xb + 1 < w3.heap.size) := heap_lt HI3.out.chg
  go_upto_region 17 with fail
  generalize w3.alloc (chgO 0 0 ⟨#[]⟩ En ⟨#[]⟩ false) = w4 at *
  generalize w3.heap.size = yb at *
  go_upto_region 18 with (go_at_call 26; refine (HCB.out _ HI4.out.tabs).mono ?_; rintro e w5 ⟨rfl, hk5⟩; have HK5 := Lib.hid (HK4.out.trans hk5); have HI5 := Lib.hid (HI4.out.kept hk5); have HY5 := Lib.hid ((hk5.block yb (heap_lt HYA.out) id).trans HYA.out); obtain ⟨⟨c0, c1, c2, c3, c4, c5⟩, k0, k1, k2, k3, k4, k5⟩ := chg_facts HY5.out; clear hk5)
  have HY6 := Lib.hid (chg_three HY5.out PA PD PI)
  have HK6 : Hid (Kept (fun q => q = yb) w5 (((w5.setCell ⟨yb, 0, none⟩ (.int .i64 PA)).setCell ⟨yb, 1, none⟩ (.int .i64 PD)).setCell ⟨yb, 2, none⟩ (.string PI))) := (((Kept.refl (fun b => b = yb) w5).setCell (p := ⟨yb, 0, none⟩) rfl _).setCell (p := ⟨yb, 1, none⟩) rfl _).setCell (p := ⟨yb, 2, none⟩) rfl _
  have HK7 : Hid (Kept (fun q => q = yb ∨ q = xb + 1) w5 (((w5.setCell ⟨yb, 0, none⟩ (.int .i64 PA)).setCell ⟨yb, 1, none⟩ (.int .i64 PD)).setCell ⟨yb, 2, none⟩ (.string PI))) := (((Kept.refl (fun b => b = yb ∨ b = xb + 1) w5).setCell (p := ⟨yb, 0, none⟩) (.inl rfl) _).setCell (p := ⟨yb, 1, none⟩) (.inl rfl) _).setCell (p := ⟨yb, 2, none⟩) (.inl rfl) _
  clear c0 c1 c2 c3 c4 c5 k0 k1 k2 k3 k4 k5
  generalize (((w5.setCell ⟨yb, 0, none⟩ (.int .i64 PA)).setCell ⟨yb, 1, none⟩ (.int .i64 PD)).setCell ⟨yb, 2, none⟩ (.string PI)) = w6 at *
  have hg0 := (HK6.out.block xb (heap_lt HI5.out.reg) (fun e => by have := HYX.out; omega)).trans HI5.out.reg
  have hg1 := (HK6.out.block (xb + 1) (heap_lt HI5.out.chg) (fun e => by have := HYX.out; omega)).trans HI5.out.chg
  have HG1 := Lib.hid hg1
  have HT6 := Lib.hid (HI5.out.tabs.kept HK6.out (fun e => by have := HI5.out.tabs.two; have := HYX.out; omega) (fun e => by have := HI5.out.tabs.two; have := HYX.out; omega))
  clear hg1
  obtain ⟨r0, r1, r2⟩ := reg_facts hg0
  have hne1 : ¬ xb + 1 = yb := by have := HYX.out; omega
  have hne2 : ¬ yb = xb + 1 := by have := HYX.out; omega
  have we : IntKind.i64.wrap ((En : Int) + 1) = (En : Int) + 1 := IntWalk.i64_in _ ⟨by omega, by omega⟩
  go_wp2_with (go_at_call 27; refine (HCC.out _ HT6.out).mono ?_; rintro e w7 ⟨⟨x, rfl⟩, hk7⟩; have HK8 := Lib.hid (HK7.out.trans hk7.any); have HY7 := Lib.hid ((hk7.block yb (heap_lt HY6.out) id).trans HY6.out); have HG7 := Lib.hid ((hk7.block (xb + 1) (heap_lt HG1.out) id).trans HG1.out); obtain ⟨⟨c0, c1, c2, c3, c4, c5⟩, k0, k1, k2, k3, k4, k5⟩ := chg_facts HY7.out; obtain ⟨⟨d0, d1, d2, d3, d4, d5⟩, e0, e1, e2, e3, e4, e5⟩ := chg_facts HG7.out; clear hk7 r0 r1 r2)
  refine bodyPost_ret (res_chg rfl _ _ (xb + 1) _ _ _ _ _ _ (0, 0) rfl (chg_six (show (w7.setCell ⟨yb, 3, none⟩ _).heap[xb + 1]? = _ from (heap_far hne1 _).trans HG7.out) _ _ _ _ _ _)) rfl ⟨HP.out _, ?_⟩
  exact HK5.out.fresh (Kept.six (HK8.out.setCell (p := ⟨yb, 3, none⟩) (.inl rfl) _) (.inr rfl) _ _ _ _ _ _) (fun b hb e => by have := HXB.out; have := HYX.out; omega)
end Go.Proofs.YtilkogohiealhaaDoor
