/-
  THE PROGRAM's Of (change): y.
-/
import Derived.Test.YtpgoikecignldaaDoorCg
set_option linter.unusedVariables false
namespace Go.Proofs.YtpgoikecignldaaDoor
open Go Go.RowKit

set_option maxRecDepth 100000 in
set_option maxHeartbeats 1000000 in
theorem of_y (s : ByteArray) (lo hi : Nat) (line : Bool) (k : Nat) (w : World) (hT : Tabs w) (hm : mayB s = true) (hk : k ≤ (rs s).length) (hr : Rw.Rng (rs s) lo hi line) :
    Calls Tryd.prog 8 #[.string s, rngV lo hi line, .int .i64 121, .int .i64 k] w fun e w' => e = .returned (.tuple #[chgV 0 0 ⟨#[]⟩ (Rw.rst (rs s) (Rw.spt (rs s) lo line k) : Nat) (runesBytes (Rw.tkn (rs s) lo hi)) line, .int .i64 0]) ∧ Kept (fun _ => False) w w' := by
  have hka : Kept (fun _ => False) w ((w.alloc (rngO lo hi line)).alloc (chgO 0 0 ⟨#[]⟩ 0 ⟨#[]⟩ false)) := ((Kept.refl _ w).alloc _).alloc _
  have hTa := hT.kept hka id id
  have cR := runes_cap s k _ hTa hm hk
  have hsz := mayB_size hm
  have hl := rs_len s
  have cS := fun (b cap : Nat) W (hW : Rn W (some ⟨b, 0, none⟩) (rs s).length (rs s)) => spotOf_yes (some ⟨b, 0, none⟩) (rs s).length cap (rs s) lo hi k line W hW (Nat.le_trans hr.1 hr.2.1) hk (by omega)
  have hspt := Rw.spt_le (line := line) (at' := k) (Nat.le_trans hr.1 hr.2.1)
  have cE := fun W hW => chrest_yes s (Rw.spt (rs s) lo line k) W hW hm hspt
  have HR := Lib.hid (rngI_nat.2 hr)
  have HTA := Lib.hid hTa
  have HX0 : Hid (((w.alloc (rngO lo hi line)).alloc (chgO 0 0 ⟨#[]⟩ 0 ⟨#[]⟩ false)).heap[w.heap.size]? = some (rngO lo hi line)) := heap_two' w _ _
  have HG0 : Hid (((w.alloc (rngO lo hi line)).alloc (chgO 0 0 ⟨#[]⟩ 0 ⟨#[]⟩ false)).heap[w.heap.size + 1]? = some (chgO 0 0 ⟨#[]⟩ 0 ⟨#[]⟩ false)) := heap_two'' w _ _
  have hlo : lo ≤ (rs s).length := Nat.le_trans hr.1 hr.2.1
  obtain ⟨h1, h2, _⟩ := hr
  have h1i : (lo : Int) ≤ hi := by omega
  generalize rs s = t at *
  generalize Rw.spt t lo line k = SP at *
  generalize hV : Rw.rst t SP = V at *
  have HKA := Lib.hid hka
  clear hT hka hm hTa hV
  go_enter Tryd.func8, Tryd.ntmps8
  go_upto_region 2 with (go_at_call 21; refine cR.mono ?_; rintro e w0 ⟨hk0, b, cap, rfl, hb, hcap, hR⟩)
  have HX := Lib.hid ((hk0.block w.heap.size (by simp; omega) id).trans HX0.out)
  have HG1 := Lib.hid ((hk0.block (w.heap.size + 1) (by simp) id).trans HG0.out)
  have HT0 := Lib.hid (HTA.out.kept hk0 id id)
  have HK0 := Lib.hid (HKA.out.trans hk0)
  obtain ⟨xb, hxb⟩ : ∃ xb, w.heap.size = xb := ⟨_, rfl⟩
  have HXB := Lib.hid hxb
  simp only [hxb] at HX HG1 hb ⊢
  clear hxb hk0 cR HX0 HG0 HTA
  obtain ⟨f0, f1, f2⟩ := rng_facts HX.out
  have cM := chmay_any (some ⟨b, 0, none⟩) t.length cap t lo hi line true w0 hR (by omega) ⟨fun _ => HR.out, fun _ => rfl⟩
  have HRN := Lib.hid hR
  clear hR
  go_upto_region 6 with (go_at_call 22; refine cM.mono ?_; rintro e w1 ⟨rfl, hk01⟩; have a0 := cell_kept hk01 f0 id; have a1 := cell_kept hk01 f1 id; have a2 := cell_kept hk01 f2 id; have HK1 := Lib.hid (HK0.out.trans hk01); have HRN1 := Lib.hid (HRN.out.kept hk01 (fun _ _ => id)); have HG2 := Lib.hid ((hk01.block _ (heap_lt HG1.out) id).trans HG1.out); have HT1 := Lib.hid (HT0.out.kept hk01 id id); clear hk01 f0 f1 f2 cM)
  have hcut := fun u => run_cut_lh u (some ⟨b, 0, none⟩) t.length cap lo hi (lo : Int) (hi : Int) rfl rfl h1 (by omega)
  have HRC := Lib.hid (HRN1.out.cut h1 h2 hcap)
  generalize hCB : cutB (some ⟨b, 0, none⟩) cap lo = CB at *
  have hT1d : Tabs w1.drew := HT1.out
  have hR1d : Rn w1.drew (some ⟨b, 0, none⟩) t.length t := HRN1.out
  have hRCd : Rn w1.drew CB (hi - lo) (Rw.tkn t lo hi) := HRC.out
  have K1 := keep_y (cp := cap - lo) (Kept.refl (fun _ => False) w1.drew) a0 a1 a2 id hRCd (fun _ _ => id)
  have HCB : Hid (∀ a, CB = some a → ¬ a.block = xb + 1) := by
    show ∀ a, CB = some a → ¬ a.block = xb + 1
    intro a ha
    rw [← hCB] at ha
    have := cutB_block ha
    have h3 : ((w.alloc (rngO lo hi line)).alloc (chgO 0 0 ⟨#[]⟩ 0 ⟨#[]⟩ false)).heap.size = w.heap.size + 2 := by simp
    have h4 := HXB.out
    simp only at this
    omega
  clear hCB hb
  go_region_held3 (fun w' => w'.cell? ⟨xb, 0, none⟩ = some (.int .i64 lo) ∧ w'.cell? ⟨xb, 1, none⟩ = some (.int .i64 hi) ∧ w'.cell? ⟨xb, 2, none⟩ = some (.bool line) ∧ (convert 30 9 (.slice CB (hi - lo) (cap - lo))).run Tryd.prog w' = .ok (.string (runesBytes (Rw.tkn t lo hi))) w') (first | with_reducible exact K3 | with_reducible exact K2 | with_reducible exact K1 | exact keep_y (Kept.six (Kept.refl (fun q => q = xb + 1) w3) rfl _ _ _ _ _ _) e0 e1 e2 (by omega) hR3 HCB.out)
    (first
      | (go_at_call 24; refine (cS b cap _ hR1d).mono ?_; rintro e w2 ⟨rfl, hk2⟩; have hR2 := hRCd.kept hk2 (fun _ _ => id); have K2 := keep_y (cp := cap - lo) hk2 a0 a1 a2 id hRCd (fun _ _ => id); have hT2 : Tabs w2 := hT1d.kept hk2 id id)
      | (go_at_call 23; refine (cE _ hT2).mono ?_; rintro e w3 ⟨rfl, hk3⟩; have hR3 := hR2.kept hk3 (fun _ _ => id); have K3 := keep_y (cp := cap - lo) (hk2.trans hk3) a0 a1 a2 id hRCd (fun _ _ => id); have HG3 := Lib.hid (((hk2.trans hk3).block _ (heap_lt HG2.out) id).trans HG2.out); obtain ⟨⟨c0, c1, c2, c3, c4, c5⟩, k0, k1, k2, k3, k4, k5⟩ := chg_facts HG3.out; obtain ⟨e0, e1, e2, _⟩ := id K3))
  all_goals
    go_wp2_with fail
    refine bodyPost_ret (res_chg rfl _ _ (xb + 1) 0 0 ⟨#[]⟩ V (runesBytes (Rw.tkn t lo hi)) line (0, 0) rfl (chg_six HG3.out _ _ _ _ _ _)) rfl ⟨rfl, ?_⟩
    exact ((HK1.out.drew.trans hk2).trans hk3).fresh (Kept.six (Kept.refl (fun q => q = xb + 1) w3) rfl _ _ _ _ _ _) (fun b hb e => by have := HXB.out; omega)
end Go.Proofs.YtpgoikecignldaaDoor
