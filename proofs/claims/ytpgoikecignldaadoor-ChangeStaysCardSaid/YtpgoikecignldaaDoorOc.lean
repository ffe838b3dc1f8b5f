/-
  THE PROGRAM's Of (change): gu, gU, g~.
-/
import Derived.Test.YtpgoikecignldaaDoorOy
import Derived.Laws.Concat
set_option linter.unusedVariables false
namespace Go.Proofs.YtpgoikecignldaaDoor
open Go Go.RowKit

/-- What holds of memory while an operator works. -/
structure OfI (lo hi : Nat) (line : Bool) (b xb : Nat) (t : List Int) (W : World) : Prop where
  tabs : Tabs W
  rn : Rn W (some ⟨b, 0, none⟩) t.length t
  rng : W.heap[xb]? = some (rngO lo hi line)
  chg : W.heap[xb + 1]? = some (chgO 0 0 ⟨#[]⟩ 0 ⟨#[]⟩ false)
theorem OfI.kept {lo hi : Nat} {line : Bool} {b xb : Nat} {t : List Int} {W W' : World} (h : OfI lo hi line b xb t W) (hk : Kept (fun _ => False) W W') : OfI lo hi line b xb t W' :=
  ⟨h.tabs.kept hk id id, h.rn.kept hk (fun _ _ => id), (hk.block _ (heap_lt h.rng) id).trans h.rng, (hk.block _ (heap_lt h.chg) id).trans h.chg⟩
theorem OfI.drew {lo hi : Nat} {line : Bool} {b xb : Nat} {t : List Int} {W : World} (h : OfI lo hi line b xb t W) : OfI lo hi line b xb t W.drew := ⟨h.tabs, h.rn, h.rng, h.chg⟩
theorem OfI.cells {lo hi : Nat} {line : Bool} {b xb : Nat} {t : List Int} {W : World} (h : OfI lo hi line b xb t W) : W.cell? ⟨xb, 0, none⟩ = some (.int .i64 lo) ∧ W.cell? ⟨xb, 1, none⟩ = some (.int .i64 hi) ∧ W.cell? ⟨xb, 2, none⟩ = some (.bool line) := rng_facts h.rng
theorem OfI.six {lo hi : Nat} {line : Bool} {b xb : Nat} {t : List Int} {W : World} (h : OfI lo hi line b xb t W) (v0 v1 v2 v3 v4 v5 : Value) :
    ((((((W.setCell ⟨xb + 1, 0, none⟩ v0).setCell ⟨xb + 1, 1, none⟩ v1).setCell ⟨xb + 1, 2, none⟩ v2).setCell ⟨xb + 1, 3, none⟩ v3).setCell ⟨xb + 1, 4, none⟩ v4).setCell ⟨xb + 1, 5, none⟩ v5).cell? ⟨xb, 0, none⟩ = some (.int .i64 lo) ∧
    ((((((W.setCell ⟨xb + 1, 0, none⟩ v0).setCell ⟨xb + 1, 1, none⟩ v1).setCell ⟨xb + 1, 2, none⟩ v2).setCell ⟨xb + 1, 3, none⟩ v3).setCell ⟨xb + 1, 4, none⟩ v4).setCell ⟨xb + 1, 5, none⟩ v5).cell? ⟨xb, 1, none⟩ = some (.int .i64 hi) ∧
    ((((((W.setCell ⟨xb + 1, 0, none⟩ v0).setCell ⟨xb + 1, 1, none⟩ v1).setCell ⟨xb + 1, 2, none⟩ v2).setCell ⟨xb + 1, 3, none⟩ v3).setCell ⟨xb + 1, 4, none⟩ v4).setCell ⟨xb + 1, 5, none⟩ v5).cell? ⟨xb, 2, none⟩ = some (.bool line) := by
  have hk := Kept.six (Kept.refl (fun q => q = xb + 1) W) rfl v0 v1 v2 v3 v4 v5
  obtain ⟨h0, h1, h2⟩ := h.cells
  exact ⟨cell_kept hk h0 (by simp), cell_kept hk h1 (by simp), cell_kept hk h2 (by simp)⟩
theorem txt_le {a t : List Int} (h : List.Sublist a t) {n : Nat} (hn : (Utf.bytes t).length ≤ n) : (runesBytes a).size ≤ n := by
  rw [txt_size]
  exact Nat.le_trans (bytes_sub h) hn
theorem tkn_sub (t : List Int) (lo hi : Nat) : List.Sublist (Rw.tkn t lo hi) t := (List.drop_sublist _ _).trans (List.take_sublist _ _)
theorem csd_txt (t : List Int) (lo hi : Nat) (key : Int) : runesBytes (t.take lo) ++ runesBytes ((Rw.tkn t lo hi).map (Rw.trn key)) ++ runesBytes (t.drop hi) = runesBytes (Rw.csd t lo hi key) := by
  rw [txt_append, txt_append]
  rfl
set_option maxRecDepth 100000 in
set_option maxHeartbeats 1000000 in
theorem of_c (s : ByteArray) (lo hi : Nat) (line : Bool) (key : Int) (k : Nat) (w : World) (hT : Tabs w) (hm : mayB s = true) (hk : k ≤ (rs s).length) (hr : Rw.Rng (rs s) lo hi line) (hkey : key = 117 ∨ key = 85 ∨ key = 126) :
    Calls Tryd.prog 8 #[.string s, rngV lo hi line, .int .i64 (16777216 + key), .int .i64 k] w fun e w' => e = .returned (.tuple #[chgV (Rw.bat (rs s) (Rw.csd (rs s) lo hi key) : Nat) (Rw.bdel (rs s) (Rw.csd (rs s) lo hi key) : Nat) (runesBytes (Rw.bins (rs s) (Rw.csd (rs s) lo hi key))) (Rw.rst (rs s) (Rw.spt (rs s) lo line k) : Nat) ⟨#[]⟩ false, .int .i64 0]) ∧ Kept (fun _ => False) w w' := by
  have hka : Kept (fun _ => False) w ((w.alloc (rngO lo hi line)).alloc (chgO 0 0 ⟨#[]⟩ 0 ⟨#[]⟩ false)) := ((Kept.refl _ w).alloc _).alloc _
  have hTa := hT.kept hka id id
  have cR := runes_cap s k _ hTa hm hk
  have hsz := mayB_size hm
  have hl := rs_len s
  have hlo : lo ≤ (rs s).length := Nat.le_trans hr.1 hr.2.1
  have hspt := Rw.spt_le (line := line) (at' := k) hlo
  have hmx := may_csd (lo := lo) (hi := hi) (key := key) hm hr.1
  have hxr : rs (runesBytes (Rw.csd (rs s) lo hi key)) = Rw.csd (rs s) lo hi key := rs_txt (csd_vld (rs_vld hm))
  have hxl := Rw.csd_len (key := key) hr.1 hr.2.1
  have hxs := Rw.csd_rst (key := key) hr.1 hr.2.1 (Rw.spt (rs s) lo line k) hspt
  have cE := fun W hW => chrest_yes (runesBytes (Rw.csd (rs s) lo hi key)) (Rw.spt (rs s) lo line k) W hW hmx (by rw [hxr, hxl]; exact hspt)
  have cB := fun W hW => chbetween_yes s (runesBytes (Rw.csd (rs s) lo hi key)) W hW hm hmx
  have cS := fun (b cap : Nat) W (hW : Rn W (some ⟨b, 0, none⟩) (rs s).length (rs s)) => spotOf_yes (some ⟨b, 0, none⟩) (rs s).length cap (rs s) lo hi k line W hW hlo hk (by omega)
  have hRY : Runey (Rw.tkn (rs s) lo hi) := fun r hr => rs_runey (mayB_valid hm) r (List.mem_of_mem_take (List.mem_of_mem_drop hr))
  have cC := fun A c W hW => cased_any A (hi - lo) c (Rw.tkn (rs s) lo hi) key W hW hRY (by have := hr.2.1; omega) hkey
  rw [hxr] at cE cB
  have hxs' : Rw.rst (Rw.csd (rs s) lo hi key) (Rw.spt (rs s) lo line k) = Rw.rst (rs s) (Rw.spt (rs s) lo line k) := hxs
  rw [hxs'] at cE
  have HTX : Hid (runesBytes ((rs s).take lo) ++ runesBytes ((Rw.tkn (rs s) lo hi).map (Rw.trn key)) ++ runesBytes ((rs s).drop hi) = runesBytes (Rw.csd (rs s) lo hi key)) := csd_txt _ _ _ _
  have HR := Lib.hid (rngI_nat.2 hr)
  have HX0 : Hid (((w.alloc (rngO lo hi line)).alloc (chgO 0 0 ⟨#[]⟩ 0 ⟨#[]⟩ false)).heap[w.heap.size]? = some (rngO lo hi line)) := heap_two' w _ _
  have HG0 : Hid (((w.alloc (rngO lo hi line)).alloc (chgO 0 0 ⟨#[]⟩ 0 ⟨#[]⟩ false)).heap[w.heap.size + 1]? = some (chgO 0 0 ⟨#[]⟩ 0 ⟨#[]⟩ false)) := heap_two'' w _ _
  have hb0 := rs_bytes hm
  have hsA : (runesBytes ((rs s).take lo)).size ≤ 4000 := txt_le (List.take_sublist _ _) (by omega)
  have hsB : (runesBytes ((Rw.tkn (rs s) lo hi).map (Rw.trn key))).size ≤ 4000 := by rw [txt_size, trn_bytes, ← txt_size]; exact txt_le (tkn_sub _ _ _) (by omega)
  have hsC : (runesBytes ((rs s).drop hi)).size ≤ 4000 := txt_le (List.drop_sublist _ _) (by omega)
  clear hb0
  obtain ⟨h1, h2, _⟩ := hr
  have h1i : (lo : Int) ≤ hi := by omega
  have h2i : (hi : Int) ≤ ((rs s).length : Int) := by omega
  have HTA := Lib.hid hTa
  generalize rs s = t at *
  generalize Rw.spt t lo line k = SP at *
  generalize Rw.rst t SP = V at *
  unfold btw at cB
  generalize ((Rw.bat t (Rw.csd t lo hi key) : Nat) : Int) = PA at *
  generalize ((Rw.bdel t (Rw.csd t lo hi key) : Nat) : Int) = PD at *
  generalize runesBytes (Rw.bins t (Rw.csd t lo hi key)) = PI at *
  generalize runesBytes (Rw.csd t lo hi key) = NX at *
  generalize hSB : runesBytes ((Rw.tkn t lo hi).map (Rw.trn key)) = SB at *
  have HKA := Lib.hid hka
  clear hT hka hm hTa hmx hxr hxl hxs hxs' hRY hSB
  go_enter Tryd.func8, Tryd.ntmps8
  go_upto_region 2 with (go_at_call 21; refine cR.mono ?_; rintro e w0 ⟨hk0, b, cap, rfl, hb, hcap, hR⟩)
  have hI0 : OfI lo hi line b w.heap.size t w0 := ⟨HTA.out.kept hk0 id id, hR, (hk0.block w.heap.size (by simp; omega) id).trans HX0.out, (hk0.block (w.heap.size + 1) (by simp) id).trans HG0.out⟩
  have HK0 := Lib.hid (HKA.out.trans hk0)
  obtain ⟨xb, hxb⟩ : ∃ xb, w.heap.size = xb := ⟨_, rfl⟩
  have HXB := Lib.hid hxb
  simp only [hxb] at hI0 ⊢
  have HI0 := Lib.hid hI0
  clear hxb hk0 cR HX0 HG0 HTA hR hI0 hb
  obtain ⟨f0, f1, f2⟩ := HI0.out.cells
  have cM := chmay_any (some ⟨b, 0, none⟩) t.length cap t lo hi line true w0 HI0.out.rn (by omega) ⟨fun _ => HR.out, fun _ => rfl⟩
  go_upto_region 4 with (go_at_call 22; refine cM.mono ?_; rintro e w1 ⟨rfl, hk01⟩; have HK1 := Lib.hid (HK0.out.trans hk01); have hI1 := HI0.out.kept hk01; clear hk01 f0 f1 f2 cM)
  have hcA := fun u => run_cut_h u (some ⟨b, 0, none⟩) t.length cap lo (lo : Int) rfl (by omega)
  have hcB := fun u => run_cut_lh u (some ⟨b, 0, none⟩) t.length cap lo hi (lo : Int) (hi : Int) rfl rfl h1 (by omega)
  have hcC := fun u => run_cut_l u (some ⟨b, 0, none⟩) t.length cap hi (hi : Int) rfl h2 hcap
  have HRA : Hid (∀ W, OfI lo hi line b xb t W → Rn W (cutB (some ⟨b, 0, none⟩) cap 0) lo (t.take lo)) := fun W h => by rw [cutB_zero]; exact h.rn.take (by omega)
  have HRB : Hid (∀ W, OfI lo hi line b xb t W → Rn W (cutB (some ⟨b, 0, none⟩) cap lo) (hi - lo) (Rw.tkn t lo hi)) := fun W h => h.rn.cut h1 h2 hcap
  have HRC : Hid (∀ W, OfI lo hi line b xb t W → Rn W (cutB (some ⟨b, 0, none⟩) cap hi) (t.length - hi) (t.drop hi)) := fun W h => h.rn.drop h2 hcap
  generalize cutB (some ⟨b, 0, none⟩) cap 0 = CA at *
  generalize cutB (some ⟨b, 0, none⟩) cap lo = CB at *
  generalize cutB (some ⟨b, 0, none⟩) cap hi = CC at *
  have KS : ∀ W, OfI lo hi line b xb t W → W.cell? ⟨xb, 0, none⟩ = some (.int .i64 lo) ∧ W.cell? ⟨xb, 1, none⟩ = some (.int .i64 hi) ∧ (convert 30 9 (.slice CA lo cap)).run Tryd.prog W = .ok (.string (runesBytes (t.take lo))) W ∧ (convert 30 9 (.slice CC (t.length - hi) (cap - hi))).run Tryd.prog W = .ok (.string (runesBytes (t.drop hi))) W :=
    fun W h => ⟨h.cells.1, h.cells.2.1, run_txt (HRA.out W h), run_txt (HRC.out W h)⟩
  have HKS := Lib.hid KS
  clear KS
  generalize runesBytes (t.take lo) = SA at *
  generalize runesBytes (t.drop hi) = SC at *
  have HCS := Lib.hid cS
  have HCE := Lib.hid cE
  have HCB := Lib.hid cB
  clear cS cE cB
  have ad1 : ∀ u, (Op.stringOp .add SA SB).run Tryd.prog u = .ok (.string (SA ++ SB)) u := fun u => run_string_add_sum u SA SB (by omega)
  have ad2 : ∀ u, (Op.stringOp .add (SA ++ SB) SC).run Tryd.prog u = .ok (.string NX) u := fun u => by rw [← HTX.out]; exact run_string_add_sum u (SA ++ SB) SC (by rw [ByteArray.size_append]; omega)
  rcases hkey with rfl | rfl | rfl
  all_goals
    go_upto_region 16 with fail
    have HI1 := Lib.hid hI1
    have hI1d := hI1.drew
    have K1 := HKS.out _ hI1d
    have cCd := cC CB (cap - lo) _ (HRB.out _ hI1d)
    clear hI1
    go_cut [12] from 69 to 89 (fun v wx => v = .string NX ∧ OfI lo hi line b xb t wx ∧ Kept (fun _ => False) w1 wx)
    case first =>
      go_region_held3 (fun w' => w'.cell? ⟨xb, 0, none⟩ = some (.int .i64 lo) ∧ w'.cell? ⟨xb, 1, none⟩ = some (.int .i64 hi) ∧ (convert 30 9 (.slice CA lo cap)).run Tryd.prog w' = .ok (.string SA) w' ∧ (convert 30 9 (.slice CC (t.length - hi) (cap - hi))).run Tryd.prog w' = .ok (.string SC) w') (first | with_reducible exact K2 | with_reducible exact K1)
        ((go_at_call 27; refine cCd.mono ?_; rintro e w2 ⟨rfl, hk2⟩; have hI2 := hI1d.kept hk2; have K2 := HKS.out _ hI2))
      go_wp2_with fail
      go_meet
      exact ⟨rfl, hI2, (Kept.refl _ w1).drew.trans hk2⟩
    case rest =>
      obtain ⟨rfl, hIc, hkc⟩ := hcut
      have HKC := Lib.hid (HK1.out.trans hkc)
      have hId := hIc.drew
      have HIC := Lib.hid hIc
      clear K1 cCd hI1d hkc hIc hcA hcB hcC ad1 ad2
      go_wp2_with fail
      go_region_held3 (fun w' => w'.cell? ⟨xb, 0, none⟩ = some (.int .i64 lo) ∧ w'.cell? ⟨xb, 1, none⟩ = some (.int .i64 hi) ∧ w'.cell? ⟨xb, 2, none⟩ = some (.bool line)) (first | with_reducible exact OfI.cells (by assumption) | exact OfI.six (by assumption) _ _ _ _ _ _)
        (first
          | (go_at_call 28; refine (HCB.out _ (OfI.tabs (by assumption))).mono ?_; rintro e wa ⟨rfl, hka⟩; have hIa := OfI.kept (by assumption) hka; obtain ⟨⟨c0, c1, c2, c3, c4, c5⟩, k0, k1, k2, k3, k4, k5⟩ := chg_facts hIa.chg)
          | (go_at_call 24; refine (HCS.out b cap _ (OfI.rn (by assumption))).mono ?_; rintro e wb ⟨rfl, hkb⟩; have hIb := OfI.kept (by assumption) hkb)
          | (go_at_call 23; refine (HCE.out _ (OfI.tabs (by assumption))).mono ?_; rintro e we ⟨rfl, hke⟩; have hIe := OfI.kept (by assumption) hke; obtain ⟨⟨c0, c1, c2, c3, c4, c5⟩, k0, k1, k2, k3, k4, k5⟩ := chg_facts hIe.chg))
      all_goals
        go_wp2_with fail
        refine bodyPost_ret (res_chg rfl _ _ (xb + 1) _ _ _ _ _ _ (0, 0) rfl (chg_six (OfI.chg (by assumption)) _ _ _ _ _ _)) rfl ⟨rfl, ?_⟩
        refine Kept.fresh ?_ (Kept.six (Kept.refl (fun q => q = xb + 1) _) rfl _ _ _ _ _ _) (fun b hb e => by have := HXB.out; omega)
        first
          | exact ((HKC.out.drew.trans hka).trans hkb).trans hke
          | exact ((HKC.out.drew.trans hkb).trans hka).trans hke
          | exact ((HKC.out.drew.trans hkb).trans hke).trans hka
end Go.Proofs.YtpgoikecignldaaDoor
