/-
  THE REFERENCE's Change (chapter 18): y, d.
-/
import Derived.Test.YtlkfgjgjjihenaaDoorRd
import Derived.Test.YtlkfgjgjjihenaaDoorOd
set_option linter.unusedVariables false
namespace Go.Proofs.YtlkfgjgjjihenaaDoor
open Go Go.RowKit

set_option maxRecDepth 100000 in
set_option maxHeartbeats 1000000 in
theorem rchange_y (s : ByteArray) (lo hi : Nat) (line : Bool) (k : Nat) (w : World) (hT : Tabs w) (hm : mayB s = true) (hk : k ≤ (rs s).length) (hr : Rw.Rng (rs s) lo hi line) :
    Calls Tryd.prog 29 #[.string s, rngV lo hi line, .int .i64 121, .int .i64 k] w fun e w' => e = .returned (.tuple #[chgV 0 0 ⟨#[]⟩ (Rw.rst (rs s) (Rw.spt (rs s) lo line k) : Nat) (runesBytes (Rw.tkn (rs s) lo hi)) line, .int .i64 0]) ∧ Kept (fun _ => False) w w' := by
  have hka : Kept (fun _ => False) w ((w.alloc (rngO lo hi line)).alloc (chgO 0 0 ⟨#[]⟩ 0 ⟨#[]⟩ false)) := ((Kept.refl _ w).alloc _).alloc _
  have HX0 : Hid (((w.alloc (rngO lo hi line)).alloc (chgO 0 0 ⟨#[]⟩ 0 ⟨#[]⟩ false)).heap[w.heap.size]? = some (rngO lo hi line)) := heap_two' w _ _
  have HG0 : Hid (((w.alloc (rngO lo hi line)).alloc (chgO 0 0 ⟨#[]⟩ 0 ⟨#[]⟩ false)).heap[w.heap.size + 1]? = some (chgO 0 0 ⟨#[]⟩ 0 ⟨#[]⟩ false)) := heap_two'' w _ _
  have HT0 := Lib.hid (hT.kept hka id id)
  have HKA := Lib.hid hka
  have hsm := mayB_size hm
  have hl4 : (rs s).length ≤ 4000 := by have := rs_len s; omega
  have hspt := Rw.spt_le (line := line) (at' := k) (Nat.le_trans hr.1 hr.2.1)
  have hlo : lo ≤ (rs s).length := Nat.le_trans hr.1 hr.2.1
  obtain ⟨h1, h2, _⟩ := hr
  have cV := fun W => conv_rs s W (by omega)
  have cS := fun b cap W (hW : Rn W (some ⟨b, 0, none⟩) (rs s).length (rs s)) => rrest_any (some ⟨b, 0, none⟩) (rs s).length cap (rs s) lo W hW hlo (by omega)
  have cC := fun b cap W (hW : Rn W (some ⟨b, 0, none⟩) (rs s).length (rs s)) => column_yes (some ⟨b, 0, none⟩) (rs s).length cap (rs s) lo k W hW hlo hk (by omega)
  generalize rs s = t at *
  generalize hTK : runesBytes (Rw.tkn t lo hi) = TK at *
  have HTK := Lib.hid hTK
  clear hTK
  obtain ⟨xb, hxb⟩ : ∃ xb, w.heap.size = xb := ⟨_, rfl⟩
  have HXB := Lib.hid hxb
  rw [hxb] at HX0 HG0
  have HXL : Hid (xb + 1 < ((w.alloc (rngO lo hi line)).alloc (chgO 0 0 ⟨#[]⟩ 0 ⟨#[]⟩ false)).heap.size) := heap_lt HG0.out
  clear hxb hka hT
  go_enter Tryd.func29, Tryd.ntmps29
  go_upto_region 1 with fail
  simp only [HXB.out]
  generalize (w.alloc (rngO lo hi line)).alloc (chgO 0 0 ⟨#[]⟩ 0 ⟨#[]⟩ false) = W0 at *
  obtain ⟨cap, w1, hcap, hcv, hk1, hlt1, hR1⟩ := cV W0
  have hI1 : OfI lo hi line W0.heap.size xb t w1 := ⟨HT0.out.kept hk1 id id, hR1, (hk1.block _ (heap_lt HX0.out) id).trans HX0.out, (hk1.block _ (heap_lt HG0.out) id).trans HG0.out⟩
  obtain ⟨b, hb⟩ : ∃ b, W0.heap.size = b := ⟨_, rfl⟩
  rw [hb] at hcv hI1 HXL
  have HB := Lib.hid hb
  have HI1 := Lib.hid hI1
  have HK1 := Lib.hid (HKA.out.trans hk1)
  have HCS := Lib.hid (cS b cap w1 hI1.rn)
  have HCC := Lib.hid (cC b cap w1 hI1.rn)
  obtain ⟨a0, a1, a2⟩ := hI1.cells
  have hcB := fun u => run_cut_lh u (some ⟨b, 0, none⟩) t.length cap lo hi (lo : Int) (hi : Int) rfl rfl h1 (by omega)
  have hRB : Rn w1 (cutB (some ⟨b, 0, none⟩) cap lo) (hi - lo) (Rw.tkn t lo hi) := hI1.rn.cut h1 h2 hcap
  generalize cutB (some ⟨b, 0, none⟩) cap lo = CB at *
  have htB : (convert 31 9 (.slice CB (hi - lo) (cap - lo))).run Tryd.prog w1 = .ok (.string TK) w1 := by rw [← HTK.out]; exact run_txt hRB
  clear hRB hI1 hk1 cV cS cC hb hR1
  cases line
  all_goals
    go_upto_region 8 with (first
        | (go_at_call 44; refine HCS.out.mono ?_; rintro e w2 ⟨rfl, rfl⟩)
        | (go_at_call 45; refine HCC.out.mono ?_; rintro e w2 ⟨rfl, rfl⟩))
    obtain ⟨⟨c0, c1, c2, c3, c4, c5⟩, k0, k1, k2, k3, k4, k5⟩ := chg_facts HI1.out.chg
    go_wp2
    refine bodyPost_ret (res_chg rfl _ _ (xb + 1) _ _ _ _ _ _ (0, 0) rfl (chg_six HI1.out.chg _ _ _ _ _ _)) rfl ⟨rfl, ?_⟩
    exact HK1.out.fresh (Kept.six (Kept.refl (fun q => q = xb + 1) _) rfl _ _ _ _ _ _) (fun b hb e => by have := HXB.out; omega)
set_option maxRecDepth 100000 in
set_option maxHeartbeats 1000000 in
theorem rchange_d (s : ByteArray) (lo hi : Nat) (line : Bool) (k L H AT : Nat) (w : World) (hT : Tabs w) (hm : mayB s = true) (hk : k ≤ (rs s).length) (hr : Rw.Rng (rs s) lo hi line)
    (hway : (line = false ∧ L = lo ∧ H = hi ∧ AT = Rw.rst (Rw.lft (rs s) L H) L) ∨
      (line = true ∧ ((hi < (rs s).length ∧ L = lo ∧ H = hi + 1) ∨ (¬ hi < (rs s).length ∧ 0 < lo ∧ L = lo - 1 ∧ H = hi) ∨ (¬ hi < (rs s).length ∧ lo = 0 ∧ L = lo ∧ H = hi)) ∧ AT = Rw.rst (Rw.lft (rs s) L H) (Rw.fst (Rw.lft (rs s) L H) L))) :
    Calls Tryd.prog 29 #[.string s, rngV lo hi line, .int .i64 100, .int .i64 k] w fun e w' => e = .returned (.tuple #[chgV (Rw.bat (rs s) (Rw.lft (rs s) L H) : Nat) (Rw.bdel (rs s) (Rw.lft (rs s) L H) : Nat) (runesBytes (Rw.bins (rs s) (Rw.lft (rs s) L H))) AT (runesBytes (Rw.tkn (rs s) lo hi)) line, .int .i64 0]) ∧ Kept (fun _ => False) w w' := by
  have hka : Kept (fun _ => False) w ((w.alloc (rngO lo hi line)).alloc (chgO 0 0 ⟨#[]⟩ 0 ⟨#[]⟩ false)) := ((Kept.refl _ w).alloc _).alloc _
  have HX0 : Hid (((w.alloc (rngO lo hi line)).alloc (chgO 0 0 ⟨#[]⟩ 0 ⟨#[]⟩ false)).heap[w.heap.size]? = some (rngO lo hi line)) := heap_two' w _ _
  have HG0 : Hid (((w.alloc (rngO lo hi line)).alloc (chgO 0 0 ⟨#[]⟩ 0 ⟨#[]⟩ false)).heap[w.heap.size + 1]? = some (chgO 0 0 ⟨#[]⟩ 0 ⟨#[]⟩ false)) := heap_two'' w _ _
  have HT0 := Lib.hid (hT.kept hka id id)
  have HKA := Lib.hid hka
  have hsm := mayB_size hm
  have hl4 : (rs s).length ≤ 4000 := by have := rs_len s; omega
  have hspt := Rw.spt_le (line := line) (at' := k) (Nat.le_trans hr.1 hr.2.1)
  have hlo : lo ≤ (rs s).length := Nat.le_trans hr.1 hr.2.1
  obtain ⟨h1, h2, _⟩ := hr
  have cV := fun W => conv_rs s W (by omega)
  have cS := fun b cap W (hW : Rn W (some ⟨b, 0, none⟩) (rs s).length (rs s)) => rrest_any (some ⟨b, 0, none⟩) (rs s).length cap (rs s) lo W hW hlo (by omega)
  have cC := fun b cap W (hW : Rn W (some ⟨b, 0, none⟩) (rs s).length (rs s)) => column_yes (some ⟨b, 0, none⟩) (rs s).length cap (rs s) lo k W hW hlo hk (by omega)
  have cT := fun b cap W hW hA hc => rdeleted_any s b cap lo hi line L H AT W hW hm hA hc h1 h2 hway
  have HCT := Lib.hid cT
  clear cT hway
  generalize rs s = t at *
  generalize hTK : runesBytes (Rw.tkn t lo hi) = TK at *
  have HTK := Lib.hid hTK
  clear hTK
  generalize ((Rw.bat t (Rw.lft t L H) : Nat) : Int) = PA at *
  generalize ((Rw.bdel t (Rw.lft t L H) : Nat) : Int) = PD at *
  generalize runesBytes (Rw.bins t (Rw.lft t L H)) = PI at *
  obtain ⟨xb, hxb⟩ : ∃ xb, w.heap.size = xb := ⟨_, rfl⟩
  have HXB := Lib.hid hxb
  rw [hxb] at HX0 HG0
  have HXL : Hid (xb + 1 < ((w.alloc (rngO lo hi line)).alloc (chgO 0 0 ⟨#[]⟩ 0 ⟨#[]⟩ false)).heap.size) := heap_lt HG0.out
  clear hxb hka hT
  go_enter Tryd.func29, Tryd.ntmps29
  go_upto_region 1 with fail
  simp only [HXB.out]
  generalize (w.alloc (rngO lo hi line)).alloc (chgO 0 0 ⟨#[]⟩ 0 ⟨#[]⟩ false) = W0 at *
  obtain ⟨cap, w1, hcap, hcv, hk1, hlt1, hR1⟩ := cV W0
  have hI1 : OfI lo hi line W0.heap.size xb t w1 := ⟨HT0.out.kept hk1 id id, hR1, (hk1.block _ (heap_lt HX0.out) id).trans HX0.out, (hk1.block _ (heap_lt HG0.out) id).trans HG0.out⟩
  obtain ⟨b, hb⟩ : ∃ b, W0.heap.size = b := ⟨_, rfl⟩
  rw [hb] at hcv hI1 HXL
  have HB := Lib.hid hb
  have HI1 := Lib.hid hI1
  have HK1 := Lib.hid (HKA.out.trans hk1)
  have HCS := Lib.hid (cS b cap w1 hI1.rn)
  have HCC := Lib.hid (cC b cap w1 hI1.rn)
  obtain ⟨a0, a1, a2⟩ := hI1.cells
  have hcB := fun u => run_cut_lh u (some ⟨b, 0, none⟩) t.length cap lo hi (lo : Int) (hi : Int) rfl rfl h1 (by omega)
  have hRB : Rn w1 (cutB (some ⟨b, 0, none⟩) cap lo) (hi - lo) (Rw.tkn t lo hi) := hI1.rn.cut h1 h2 hcap
  generalize cutB (some ⟨b, 0, none⟩) cap lo = CB at *
  have htB : (convert 31 9 (.slice CB (hi - lo) (cap - lo))).run Tryd.prog w1 = .ok (.string TK) w1 := by rw [← HTK.out]; exact run_txt hRB
  clear hRB hI1 hk1 cV cS cC hb hR1
  cases line
  all_goals
    go_upto_region 10 with (first
        | (go_at_call 44; refine HCS.out.mono ?_; rintro e w2 ⟨rfl, rfl⟩)
        | (go_at_call 45; refine HCC.out.mono ?_; rintro e w2 ⟨rfl, rfl⟩))
    clear a0 a1 a2
    obtain ⟨a0, a1, a2⟩ := HI1.out.cells
    go_wp2_with (go_at_call 46; refine (HCT.out b cap _ HI1.out.tabs HI1.out.rn hcap).mono ?_; rintro e w3 ⟨rfl, hk3⟩; have HI3 := Lib.hid (HI1.out.kept hk3); have HK3 := Lib.hid (HK1.out.trans hk3); obtain ⟨⟨c0, c1, c2, c3, c4, c5⟩, k0, k1, k2, k3, k4, k5⟩ := chg_facts HI3.out.chg; clear hk3)
    refine bodyPost_ret (res_chg rfl _ _ (xb + 1) _ _ _ _ _ _ (0, 0) rfl (chg_six HI3.out.chg _ _ _ _ _ _)) rfl ⟨rfl, ?_⟩
    exact HK3.out.fresh (Kept.six (Kept.refl (fun q => q = xb + 1) _) rfl _ _ _ _ _ _) (fun b hb e => by have := HXB.out; omega)
end Go.Proofs.YtlkfgjgjjihenaaDoor
