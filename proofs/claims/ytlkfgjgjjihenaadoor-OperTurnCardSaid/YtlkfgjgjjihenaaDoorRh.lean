/-
  THE REFERENCE's Change (chapter 18): c.
-/
import Derived.Test.YtlkfgjgjjihenaaDoorRd
import Derived.Test.YtlkfgjgjjihenaaDoorOd
import Derived.Deep.RegionHeld3
import Derived.Deep.CutRange
set_option linter.unusedVariables false
namespace Go.Proofs.YtlkfgjgjjihenaaDoor
open Go Go.RowKit

set_option maxRecDepth 100000 in
set_option maxHeartbeats 1000000 in
theorem rchange_c (s : ByteArray) (lo hi : Nat) (line : Bool) (k : Nat) (w : World) (hT : Tabs w) (hm : mayB s = true) (hk : k ≤ (rs s).length) (hr : Rw.Rng (rs s) lo hi line) :
    Calls Tryd.prog 29 #[.string s, rngV lo hi line, .int .i64 99, .int .i64 k] w fun e w' => e = .returned (.tuple #[chgV (Rw.bat (rs s) (Rw.lft (rs s) lo hi) : Nat) (Rw.bdel (rs s) (Rw.lft (rs s) lo hi) : Nat) (runesBytes (Rw.bins (rs s) (Rw.lft (rs s) lo hi))) (lo : Nat) (runesBytes (Rw.tkn (rs s) lo hi)) line, .int .i64 0]) ∧ Kept (fun _ => False) w w' := by
  have hka : Kept (fun _ => False) w ((w.alloc (rngO lo hi line)).alloc (chgO 0 0 ⟨#[]⟩ 0 ⟨#[]⟩ false)) := ((Kept.refl _ w).alloc _).alloc _
  have HX0 : Hid (((w.alloc (rngO lo hi line)).alloc (chgO 0 0 ⟨#[]⟩ 0 ⟨#[]⟩ false)).heap[w.heap.size]? = some (rngO lo hi line)) := heap_two' w _ _
  have HG0 : Hid (((w.alloc (rngO lo hi line)).alloc (chgO 0 0 ⟨#[]⟩ 0 ⟨#[]⟩ false)).heap[w.heap.size + 1]? = some (chgO 0 0 ⟨#[]⟩ 0 ⟨#[]⟩ false)) := heap_two'' w _ _
  have HT0 := Lib.hid (hT.kept hka id id)
  have HKA := Lib.hid hka
  have hsm := mayB_size hm
  have hl4 : (rs s).length ≤ 4000 := by have := rs_len s; omega
  have hspt := Rw.spt_le (line := line) (at' := k) (Nat.le_trans hr.1 hr.2.1)
  have hlo : lo ≤ (rs s).length := Nat.le_trans hr.1 hr.2.1
  obtain ⟨h1, h2, _⟩ := hr
  have cV := fun W => conv_rs s W (by omega)
  have cS := fun b cap W (hW : Rn W (some ⟨b, 0, none⟩) (rs s).length (rs s)) => rrest_any (some ⟨b, 0, none⟩) (rs s).length cap (rs s) lo W hW hlo (by omega)
  have cC := fun b cap W (hW : Rn W (some ⟨b, 0, none⟩) (rs s).length (rs s)) => column_yes (some ⟨b, 0, none⟩) (rs s).length cap (rs s) lo k W hW hlo hk (by omega)
  have hmx := may_sub hm (Rw.lft_sub (rs s) lo hi h1)
  have hxr : rs (runesBytes (Rw.lft (rs s) lo hi)) = Rw.lft (rs s) lo hi := rs_txt ((rs_vld hm).sub fun r hr => (Rw.lft_sub (rs s) lo hi h1).subset hr)
  have cM := fun W hW at' => rmade_yes s (runesBytes (Rw.lft (rs s) lo hi)) at' W hsm hW hmx
  rw [hxr] at cM
  have hb0 := rs_bytes hm
  have hsA : (runesBytes ((rs s).take lo)).size ≤ 4000 := txt_le (List.take_sublist _ _) (by omega)
  have hsC : (runesBytes ((rs s).drop hi)).size ≤ 4000 := txt_le (List.drop_sublist _ _) (by omega)
  have HTX : Hid (runesBytes ((rs s).take lo) ++ runesBytes ((rs s).drop hi) = runesBytes (Rw.lft (rs s) lo hi)) := txt_append _ _
  clear hb0 hmx hxr
  generalize rs s = t at *
  generalize hTK : runesBytes (Rw.tkn t lo hi) = TK at *
  have HTK := Lib.hid hTK
  clear hTK
  generalize ((Rw.bat t (Rw.lft t lo hi) : Nat) : Int) = PA at *
  generalize ((Rw.bdel t (Rw.lft t lo hi) : Nat) : Int) = PD at *
  generalize runesBytes (Rw.bins t (Rw.lft t lo hi)) = PI at *
  generalize runesBytes (Rw.lft t lo hi) = NX at *
  have HCM := Lib.hid cM
  clear cM
  obtain ⟨xb, hxb⟩ : ∃ xb, w.heap.size = xb := ⟨_, rfl⟩
  have HXB := Lib.hid hxb
  rw [hxb] at HX0 HG0
  have HXL : Hid (xb + 1 < ((w.alloc (rngO lo hi line)).alloc (chgO 0 0 ⟨#[]⟩ 0 ⟨#[]⟩ false)).heap.size) := heap_lt HG0.out
  clear hxb hka hT
  go_enter Tryd.func29, Tryd.ntmps29
  go_upto_region 1 with fail
  simp only [HXB.out]
  generalize (w.alloc (rngO lo hi line)).alloc (chgO 0 0 ⟨#[]⟩ 0 ⟨#[]⟩ false) = W0 at *
  obtain ⟨cap, w1, hcap, hcv, hk1, hlt1, hR1⟩ := cV W0
  have hI1 : OfI lo hi line W0.heap.size xb t w1 := ⟨HT0.out.kept hk1 id id, hR1, (hk1.block _ (heap_lt HX0.out) id).trans HX0.out, (hk1.block _ (heap_lt HG0.out) id).trans HG0.out⟩
  obtain ⟨b, hb⟩ : ∃ b, W0.heap.size = b := ⟨_, rfl⟩
  rw [hb] at hcv hI1 HXL
  have HB := Lib.hid hb
  have HI1 := Lib.hid hI1
  have HK1 := Lib.hid (HKA.out.trans hk1)
  have HCS := Lib.hid (cS b cap w1 hI1.rn)
  have HCC := Lib.hid (cC b cap w1 hI1.rn)
  obtain ⟨a0, a1, a2⟩ := hI1.cells
  have hcB := fun u => run_cut_lh u (some ⟨b, 0, none⟩) t.length cap lo hi (lo : Int) (hi : Int) rfl rfl h1 (by omega)
  have hRB : Rn w1 (cutB (some ⟨b, 0, none⟩) cap lo) (hi - lo) (Rw.tkn t lo hi) := hI1.rn.cut h1 h2 hcap
  generalize cutB (some ⟨b, 0, none⟩) cap lo = CB at *
  have htB : (convert 31 9 (.slice CB (hi - lo) (cap - lo))).run Tryd.prog w1 = .ok (.string TK) w1 := by rw [← HTK.out]; exact run_txt hRB
  clear hRB hI1 hk1 cV cS cC hb hR1
  have hcA := fun u => run_cut_h u (some ⟨b, 0, none⟩) t.length cap lo (lo : Int) rfl (by omega)
  have hcC := fun u => run_cut_l u (some ⟨b, 0, none⟩) t.length cap hi (hi : Int) rfl h2 hcap
  have HRA : Hid (∀ W, OfI lo hi line b xb t W → Rn W (cutB (some ⟨b, 0, none⟩) cap 0) lo (t.take lo)) := fun W h => by rw [cutB_zero]; exact h.rn.take (by omega)
  have HRC : Hid (∀ W, OfI lo hi line b xb t W → Rn W (cutB (some ⟨b, 0, none⟩) cap hi) (t.length - hi) (t.drop hi)) := fun W h => h.rn.drop h2 hcap
  generalize cutB (some ⟨b, 0, none⟩) cap 0 = CA at *
  generalize cutB (some ⟨b, 0, none⟩) cap hi = CC at *
  have KS : ∀ W, OfI lo hi line b xb t W → W.cell? ⟨xb, 0, none⟩ = some (.int .i64 lo) ∧ W.cell? ⟨xb, 1, none⟩ = some (.int .i64 hi) ∧ (convert 31 9 (.slice CA lo cap)).run Tryd.prog W = .ok (.string (runesBytes (t.take lo))) W ∧ (convert 31 9 (.slice CC (t.length - hi) (cap - hi))).run Tryd.prog W = .ok (.string (runesBytes (t.drop hi))) W :=
    fun W h => ⟨h.cells.1, h.cells.2.1, run_txt (HRA.out W h), run_txt (HRC.out W h)⟩
  have HKS := Lib.hid KS
  clear KS
  generalize runesBytes (t.take lo) = SA at *
  generalize runesBytes (t.drop hi) = SC at *
  have ad : ∀ u, (Op.stringOp .add SA SC).run Tryd.prog u = .ok (.string NX) u := fun u => by rw [← HTX.out]; exact run_string_add_sum u SA SC (by omega)
  have h1i : (lo : Int) ≤ hi := by omega
  have h2i : (hi : Int) ≤ (t.length : Int) := by omega
  cases line
  all_goals
    go_upto_region 12 with (first
        | (go_at_call 44; refine HCS.out.mono ?_; rintro e w2 ⟨rfl, hw⟩; have hw2 := hw.symm; subst hw2)
        | (go_at_call 45; refine HCC.out.mono ?_; rintro e w2 ⟨rfl, hw⟩; have hw2 := hw.symm; subst hw2))
    clear hcv htB hcB
    clear a0 a1 a2
    have hI1d := HI1.out.drew
    have hI1a := (HI1.out.kept ((Kept.refl (fun _ => False) w1).alloc (chgO 0 0 ⟨#[]⟩ 0 ⟨#[]⟩ false))).drew
    have hTd : Tabs w1.drew := hI1d.tabs
    have hTa : Tabs (w1.alloc (chgO 0 0 ⟨#[]⟩ 0 ⟨#[]⟩ false)).drew := hI1a.tabs
    have KA := HKS.out _ hI1d
    have KB := HKS.out _ hI1a
    go_cut [13, 14] from 55 to 72 (fun s13 s14 wx => ∃ g : Nat, s13 = .pointer (some ⟨g, 0, none⟩) ∧ s14 = .int .i64 0 ∧ w1.heap.size ≤ g ∧ wx.heap[g]? = some (chgO PA PD PI lo ⟨#[]⟩ false) ∧ Kept (fun _ => False) w1 wx)
    case first =>
      go_region_held3 (fun w' => w'.cell? ⟨xb, 0, none⟩ = some (.int .i64 lo) ∧ w'.cell? ⟨xb, 1, none⟩ = some (.int .i64 hi) ∧ (convert 31 9 (.slice CA lo cap)).run Tryd.prog w' = .ok (.string SA) w' ∧ (convert 31 9 (.slice CC (t.length - hi) (cap - hi))).run Tryd.prog w' = .ok (.string SC) w')
        (first | with_reducible exact KC | with_reducible exact KB | with_reducible exact KA | with_reducible exact HKS.out _ (hI3.kept ((Kept.refl (fun _ => False) w3).alloc _)) | with_reducible exact HKS.out _ (HI1.out.kept (HKZ.out _ _ _ _ _ _)))
        (first
          | (go_at_call 47; refine (HCM.out _ hTd _).mono ?_; rintro e w3 ⟨rfl, hk3⟩; have hI3 := hI1d.kept hk3; have KC := HKS.out _ hI3)
          | (go_at_call 47; refine (HCM.out _ hTa _).mono ?_; rintro e w3 ⟨rfl, hk3⟩; have hI3 := hI1a.kept hk3; have KC := HKS.out _ hI3; have h8 : w3.heap[w1.heap.size]? = some (chgO 0 0 ⟨#[]⟩ 0 ⟨#[]⟩ false) := (hk3.block _ (by simp) id).trans (heap_alloc_new w1 _); have HKZ : Hid (∀ u0 u1 u2 u3 u4 u5, Kept (fun _ => False) w1 ((((((w3.setCell ⟨w1.heap.size, 0, none⟩ u0).setCell ⟨w1.heap.size, 1, none⟩ u1).setCell ⟨w1.heap.size, 2, none⟩ u2).setCell ⟨w1.heap.size, 3, none⟩ u3).setCell ⟨w1.heap.size, 4, none⟩ u4).setCell ⟨w1.heap.size, 5, none⟩ u5)) := (fun u0 u1 u2 u3 u4 u5 => (((Kept.refl (fun _ => False) w1).alloc _).drew.trans hk3).fresh (Kept.six (Kept.refl (fun q => q = w1.heap.size) w3) rfl _ _ _ _ _ _) (fun b hb e => by omega)); obtain ⟨⟨d0, d1, d2, d3, d4, d5⟩, e0, e1, e2, e3, e4, e5⟩ := chg_facts h8))
      all_goals trace "WAY"
      · go_wp2_with fail
        go_meet
        exact ⟨w3.heap.size, rfl, rfl, hk3.size, heap_alloc_new w3 _, ((Kept.refl (fun _ => False) w1).drew.trans hk3).alloc _⟩
      · go_wp2_with fail
        go_meet
        exact ⟨w1.heap.size, rfl, rfl, Nat.le_refl _, chg_six h8 _ _ _ _ _ _, HKZ.out _ _ _ _ _ _⟩
    case rest =>
      obtain ⟨yb, rfl, rfl, hyb, hY, hkc⟩ := hcut
      clear hI1d hI1a hTd hTa KA KB hcA hcC ad
      have HI7 := Lib.hid (HI1.out.kept hkc)
      have HK7 := Lib.hid (HK1.out.trans hkc)
      have HY := Lib.hid hY
      have HYN : Hid (xb + 1 < yb) := Nat.lt_of_lt_of_le (heap_lt HI1.out.chg) hyb
      clear hkc hY hyb
      have hne1 : ¬ xb + 1 = yb := by have := HYN.out; omega
      have hne2 : ¬ yb = xb + 1 := by have := HYN.out; omega
      have hne3 : ¬ yb = xb := by have := HYN.out; omega
      have hne4 : ¬ xb = yb := by have := HYN.out; omega
      have HXd : Hid (∀ v4 v5, ((wc.setCell ⟨yb, 4, none⟩ v4).setCell ⟨yb, 5, none⟩ v5).heap[xb + 1]? = some (chgO 0 0 ⟨#[]⟩ 0 ⟨#[]⟩ false)) := fun v4 v5 => (heap_far hne1 _).trans ((heap_far hne1 _).trans HI7.out.chg)
      have HKd : Hid (∀ v4 v5 u0 u1 u2 u3 u4 u5, Kept (fun _ => False) w (((((((((wc.setCell ⟨yb, 4, none⟩ v4).setCell ⟨yb, 5, none⟩ v5)).setCell ⟨xb + 1, 0, none⟩ u0).setCell ⟨xb + 1, 1, none⟩ u1).setCell ⟨xb + 1, 2, none⟩ u2).setCell ⟨xb + 1, 3, none⟩ u3).setCell ⟨xb + 1, 4, none⟩ u4).setCell ⟨xb + 1, 5, none⟩ u5)) := fun v4 v5 u0 u1 u2 u3 u4 u5 =>
        HK7.out.fresh (Kept.six (((Kept.refl (fun q => q = yb ∨ q = xb + 1) wc).setCell (p := ⟨yb, 4, none⟩) (.inl rfl) _).setCell (p := ⟨yb, 5, none⟩) (.inl rfl) _) (.inr rfl) _ _ _ _ _ _) (fun b hb e => by have := HXB.out; have := HYN.out; omega)
      obtain ⟨f0, f1, f2⟩ := HI7.out.cells
      obtain ⟨⟨c0, c1, c2, c3, c4, c5⟩, k0, k1, k2, k3, k4, k5⟩ := chg_facts HY.out
      obtain ⟨⟨d0, d1, d2, d3, d4, d5⟩, e0, e1, e2, e3, e4, e5⟩ := chg_facts HI7.out.chg
      go_wp2_with fail
      first
        | go_region_held3 (fun (w' : World) => w'.cell? ⟨xb, 2, none⟩ = some (.bool false)) (go_keep) (fail)
        | go_region_held3 (fun (w' : World) => w'.cell? ⟨xb, 2, none⟩ = some (.bool true)) (go_keep) (fail)
      all_goals
        go_wp2_with fail
        refine bodyPost_ret (res_chg rfl _ _ (xb + 1) PA PD PI (lo : Nat) TK _ (0, 0) rfl (heap_drew (chg_six (HXd.out _ _) _ _ _ _ _ _))) rfl ⟨rfl, ?_⟩
        exact (HKd.out _ _ _ _ _ _ _ _).drew
end Go.Proofs.YtlkfgjgjjihenaaDoor
