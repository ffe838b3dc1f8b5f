/-
  THE REFERENCE's Change (chapter 18): gu, gU, g~.
-/
import Derived.Test.YtlkfgjgjjihenaaDoorRd
import Derived.Test.YtlkfgjgjjihenaaDoorOd
import Derived.Test.YtlkfgjgjjihenaaDoorTu
set_option linter.unusedVariables false
namespace Go.Proofs.YtlkfgjgjjihenaaDoor
open Go Go.RowKit

theorem Rw.csd_step {t : List Int} {lo i : Nat} {key x : Int} (h1 : lo ≤ i) (h2 : i < t.length) (hx : t[i]? = some x) : (Rw.csd t lo i key).set i (Rw.trn key x) = Rw.csd t lo (i + 1) key := by
  apply List.ext_getElem?
  intro j
  rw [Rw.csd_at (by omega) (by omega)]
  by_cases e : i = j
  · subst e
    rw [List.getElem?_set_self (by rw [Rw.csd_len h1 (by omega)]; exact h2), if_pos (by omega), hx]
    rfl
  · rw [List.getElem?_set_ne e, Rw.csd_at h1 (by omega)]
    by_cases h : lo ≤ j ∧ j < i
    · rw [if_pos h, if_pos (by omega)]
    · rw [if_neg h, if_neg (by omega)]
theorem Rw.csd_lo {t : List Int} {lo : Nat} {key : Int} (h : lo ≤ t.length) : Rw.csd t lo lo key = t := by
  apply List.ext_getElem?
  intro j
  rw [Rw.csd_at (Nat.le_refl _) h, if_neg (by omega)]
theorem Rw.csd_get {t : List Int} {lo i : Nat} {key : Int} (h1 : lo ≤ i) (h2 : i ≤ t.length) : (Rw.csd t lo i key)[i]? = t[i]? := by
  rw [Rw.csd_at h1 h2, if_neg (by omega)]
set_option maxRecDepth 100000 in
set_option maxHeartbeats 2000000 in
theorem rchange_u (s : ByteArray) (lo hi : Nat) (line : Bool) (key : Int) (k : Nat) (w : World) (hT : Tabs w) (hm : mayB s = true) (hk : k ≤ (rs s).length) (hr : Rw.Rng (rs s) lo hi line) (hkey : key = 117 ∨ key = 85 ∨ key = 126) :
    Calls Tryd.prog 29 #[.string s, rngV lo hi line, .int .i64 (16777216 + key), .int .i64 k] w fun e w' => e = .returned (.tuple #[chgV (Rw.bat (rs s) (Rw.csd (rs s) lo hi key) : Nat) (Rw.bdel (rs s) (Rw.csd (rs s) lo hi key) : Nat) (runesBytes (Rw.bins (rs s) (Rw.csd (rs s) lo hi key))) (Rw.rst (rs s) (Rw.spt (rs s) lo line k) : Nat) ⟨#[]⟩ false, .int .i64 0]) ∧ Kept (fun _ => False) w w' := by
  have hka : Kept (fun _ => False) w ((w.alloc (rngO lo hi line)).alloc (chgO 0 0 ⟨#[]⟩ 0 ⟨#[]⟩ false)) := ((Kept.refl _ w).alloc _).alloc _
  have HX0 : Hid (((w.alloc (rngO lo hi line)).alloc (chgO 0 0 ⟨#[]⟩ 0 ⟨#[]⟩ false)).heap[w.heap.size]? = some (rngO lo hi line)) := heap_two' w _ _
  have HG0 : Hid (((w.alloc (rngO lo hi line)).alloc (chgO 0 0 ⟨#[]⟩ 0 ⟨#[]⟩ false)).heap[w.heap.size + 1]? = some (chgO 0 0 ⟨#[]⟩ 0 ⟨#[]⟩ false)) := heap_two'' w _ _
  have HT0 := Lib.hid (hT.kept hka id id)
  have HKA := Lib.hid hka
  have hsm := mayB_size hm
  have hl4 : (rs s).length ≤ 4000 := by have := rs_len s; omega
  have hspt := Rw.spt_le (line := line) (at' := k) (Nat.le_trans hr.1 hr.2.1)
  have hlo : lo ≤ (rs s).length := Nat.le_trans hr.1 hr.2.1
  obtain ⟨h1, h2, _⟩ := hr
  have cV := fun W => conv_rs s W (by omega)
  have cS := fun b cap W (hW : Rn W (some ⟨b, 0, none⟩) (rs s).length (rs s)) => rrest_any (some ⟨b, 0, none⟩) (rs s).length cap (rs s) lo W hW hlo (by omega)
  have cC := fun b cap W (hW : Rn W (some ⟨b, 0, none⟩) (rs s).length (rs s)) => column_yes (some ⟨b, 0, none⟩) (rs s).length cap (rs s) lo k W hW hlo hk (by omega)
  have hmx := may_csd (lo := lo) (hi := hi) (key := key) hm h1
  have hxr : rs (runesBytes (Rw.csd (rs s) lo hi key)) = Rw.csd (rs s) lo hi key := rs_txt (csd_vld (rs_vld hm))
  have cM := fun W hW at' => rmade_yes s (runesBytes (Rw.csd (rs s) lo hi key)) at' W hsm hW hmx
  rw [hxr] at cM
  have cU := fun W => conv_own s W (by omega)
  have HRY : Hid (Runey (rs s)) := rs_runey (mayB_valid hm)
  clear hmx hxr
  generalize rs s = t at *
  generalize hTK : runesBytes (Rw.tkn t lo hi) = TK at *
  have HTK := Lib.hid hTK
  clear hTK
  generalize ((Rw.bat t (Rw.csd t lo hi key) : Nat) : Int) = PA at *
  generalize ((Rw.bdel t (Rw.csd t lo hi key) : Nat) : Int) = PD at *
  generalize runesBytes (Rw.bins t (Rw.csd t lo hi key)) = PI at *
  generalize hNX : runesBytes (Rw.csd t lo hi key) = NX at *
  have HNX := Lib.hid hNX
  have HCM := Lib.hid cM
  clear cM hNX
  obtain ⟨xb, hxb⟩ : ∃ xb, w.heap.size = xb := ⟨_, rfl⟩
  have HXB := Lib.hid hxb
  rw [hxb] at HX0 HG0
  have HXL : Hid (xb + 1 < ((w.alloc (rngO lo hi line)).alloc (chgO 0 0 ⟨#[]⟩ 0 ⟨#[]⟩ false)).heap.size) := heap_lt HG0.out
  clear hxb hka hT
  go_enter Tryd.func29, Tryd.ntmps29
  go_upto_region 1 with fail
  simp only [HXB.out]
  generalize (w.alloc (rngO lo hi line)).alloc (chgO 0 0 ⟨#[]⟩ 0 ⟨#[]⟩ false) = W0 at *
  obtain ⟨cap, w1, hcap, hcv, hk1, hlt1, hR1⟩ := cV W0
  have hI1 : OfI lo hi line W0.heap.size xb t w1 := ⟨HT0.out.kept hk1 id id, hR1, (hk1.block _ (heap_lt HX0.out) id).trans HX0.out, (hk1.block _ (heap_lt HG0.out) id).trans HG0.out⟩
  obtain ⟨b, hb⟩ : ∃ b, W0.heap.size = b := ⟨_, rfl⟩
  rw [hb] at hcv hI1 HXL
  have HB := Lib.hid hb
  have HI1 := Lib.hid hI1
  have HK1 := Lib.hid (HKA.out.trans hk1)
  have HCS := Lib.hid (cS b cap w1 hI1.rn)
  have HCC := Lib.hid (cC b cap w1 hI1.rn)
  obtain ⟨a0, a1, a2⟩ := hI1.cells
  have hcB := fun u => run_cut_lh u (some ⟨b, 0, none⟩) t.length cap lo hi (lo : Int) (hi : Int) rfl rfl h1 (by omega)
  have hRB : Rn w1 (cutB (some ⟨b, 0, none⟩) cap lo) (hi - lo) (Rw.tkn t lo hi) := hI1.rn.cut h1 h2 hcap
  generalize cutB (some ⟨b, 0, none⟩) cap lo = CB at *
  have htB : (convert 31 9 (.slice CB (hi - lo) (cap - lo))).run Tryd.prog w1 = .ok (.string TK) w1 := by rw [← HTK.out]; exact run_txt hRB
  clear hRB hI1 hk1 cV cS cC hb hR1
  obtain ⟨cap2, w4, hcap2, hcv2, hk4, hlt4, hO4⟩ := cU w1
  obtain ⟨g, hg⟩ : ∃ g, w1.heap.size = g := ⟨_, rfl⟩
  rw [hg] at hcv2 hO4
  have HG := Lib.hid hg
  have HO4 := Lib.hid hO4
  have HK4 := Lib.hid (HK1.out.trans hk4)
  have HI4 := Lib.hid (HI1.out.kept hk4)
  have HGX : Hid (xb + 1 < g) := by have := heap_lt HI1.out.chg; have := HG.out; show _ < _; omega
  have HBG : Hid (b < g) := by have := HB.out; have := HG.out; show _ < _; omega
  clear hg hO4 hk4 cU
  obtain ⟨f0, f1, f2⟩ := HI4.out.cells
  have h2n : hi ≤ t.length := h2
  cases line
  all_goals
    rcases hkey with rfl | rfl | rfl
    all_goals
      go_upto_region 18 with (first
        | (go_at_call 44; refine HCS.out.mono ?_; rintro e w2 ⟨rfl, hw⟩; have hw2 := hw.symm; subst hw2)
        | (go_at_call 45; refine HCC.out.mono ?_; rintro e w2 ⟨rfl, hw⟩; have hw2 := hw.symm; subst hw2))
      clear hcv htB hcB
      go_upto_region 20 with fail
      clear hcv2 a0 a1 a2
      go_loopw [16] (fun v wr => ∃ i : Nat, lo ≤ i ∧ i ≤ hi ∧ v = .int .i64 i ∧ OwnR wr g t.length (Rw.csd t lo i _) ∧ Kept (fun q => q = g) w4 wr) (fun v _ => hi - (intOf v).toNat)
      case atStart => exact ⟨lo, Nat.le_refl _, h1, rfl, by rw [Rw.csd_lo hlo]; exact HO4.out, Kept.refl _ _⟩
      case round =>
        obtain ⟨i, hi1, hi2, rfl, hO, hkw⟩ := hrel
        have HO := Lib.hid hO
        have HKW := Lib.hid hkw
        have q1 : wr.cell? ⟨xb, 1, none⟩ = some (.int .i64 hi) := cell_kept hkw f1 (show ¬ xb = g by have := HGX.out; omega)
        clear hO hkw
        by_cases hlt : i < hi
        · obtain ⟨x, hx⟩ : ∃ x, t[i]? = some x := ⟨_, List.getElem?_eq_getElem (by omega)⟩
          have c0 := HO.out.cell ((Rw.csd_get hi1 (by omega)).trans hx)
          have f9 := HO.out.free i
          have cT := fun key w => turned_any x key w (HRY.out.at_ hx)
          have HX := Lib.hid hx
          clear hx
          go_wp2_with (go_at_call 49; refine (cT _ _).mono ?_; rintro e w5 ⟨rfl, hw⟩; have hw2 := hw.symm; subst hw2)
          go_roundw
          case rel => exact ⟨i + 1, by omega, by omega, by go_num, by rw [← Rw.csd_step hi1 (by omega) HX.out]; exact HO.out.set (by omega) _, HKW.out.setCell (p := ⟨g, i, none⟩) rfl _⟩
          case measure => simp [intOf]; omega
        · obtain rfl : i = hi := by omega
          have hv := run_txt (c := cap2) HO.out.rn
          rw [HNX.out] at hv
          have hIr : OfI lo i _ b xb t wr := ⟨HI4.out.tabs.kept HKW.out (show ¬ 0 = g by have := HGX.out; omega) (show ¬ 1 = g by have := HGX.out; omega), HI4.out.rn.kept HKW.out (fun a e => by injection e with e; rw [← e]; have := HBG.out; show ¬ b = g; omega), (HKW.out.block _ (heap_lt HI4.out.rng) (show ¬ xb = g by have := HGX.out; omega)).trans HI4.out.rng, (HKW.out.block _ (heap_lt HI4.out.chg) (show ¬ xb + 1 = g by have := HGX.out; omega)).trans HI4.out.chg⟩
          have HIR := Lib.hid hIr
          have HKR : Hid (Kept (fun _ => False) w wr) := HK4.out.fresh HKW.out (fun q hq (e : q = g) => by have := HXB.out; have := HGX.out; omega)
          clear hIr f0 f1 f2
          go_wp2_with (go_at_call 47; refine (HCM.out _ HIR.out.tabs _).mono ?_; rintro e w6 ⟨rfl, hk6⟩; have HI6 := Lib.hid (HIR.out.kept hk6); have HK6 := Lib.hid (HKR.out.trans hk6); obtain ⟨⟨c0, c1, c2, c3, c4, c5⟩, k0, k1, k2, k3, k4, k5⟩ := chg_facts HI6.out.chg; clear hk6)
          refine bodyPost_ret (res_chg rfl _ _ (xb + 1) _ _ _ _ _ _ (0, 0) rfl (chg_six HI6.out.chg _ _ _ _ _ _)) rfl ⟨rfl, ?_⟩
          exact HK6.out.fresh (Kept.six (Kept.refl (fun q => q = xb + 1) _) rfl _ _ _ _ _ _) (fun b hb e => by have := HXB.out; omega)
end Go.Proofs.YtlkfgjgjjihenaaDoor
