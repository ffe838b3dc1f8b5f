/-
  THE PROGRAM's taken (change): d and c.
-/
import Derived.Test.YtpgoikecignldaaDoorOc
set_option linter.unusedVariables false
namespace Go.Proofs.YtpgoikecignldaaDoor
open Go Go.RowKit

set_option maxRecDepth 100000 in
theorem res_chg1 {fn : Func} {p : Tmp} (h : fn.results = #[.cell p 40]) (tmps : Array Value) (w : World) (g : Nat) (a d : Int) (s : ByteArray) (x : Int) (k : ByteArray) (l : Bool) (fr : Nat × Nat) (hp : tmps.getD p undef = .pointer (some ⟨g, 0, none⟩)) (hg : w.heap[g]? = some (.cells #[.int .i64 a, .int .i64 d, .string s, .int .i64 x, .string k, .bool l] 40 fr)) :
    (results fn tmps).run Tryd.prog w = .ok (chgV a d s x k l) w :=
  results_cell_row h tmps _ g _ _ _ _ hp hg Tryd.underlying40 rfl (by kernel_rfl)
theorem OfI.drewN {lo hi : Nat} {line : Bool} {b xb : Nat} {t : List Int} {W : World} (h : OfI lo hi line b xb t W) (q : Nat) : OfI lo hi line b xb t (W.drewN q) := ⟨h.tabs, h.rn, h.rng, h.chg⟩
theorem lft_txt (t : List Int) (lo hi : Nat) : runesBytes (t.take lo) ++ runesBytes (t.drop hi) = runesBytes (Rw.lft t lo hi) := txt_append _ _
set_option maxRecDepth 100000 in
set_option maxHeartbeats 1000000 in
theorem taken_any (s : ByteArray) (b cap : Nat) (lo hi : Nat) (line : Bool) (key : Int) (L H AT : Nat) (w : World) (hT : Tabs w) (hm : mayB s = true) (hA : Rn w (some ⟨b, 0, none⟩) (rs s).length (rs s)) (hcap : (rs s).length ≤ cap) (h1 : lo ≤ hi) (h2 : hi ≤ (rs s).length)
    (hway : (key = 99 ∧ L = lo ∧ H = hi ∧ AT = lo) ∨ (key = 100 ∧ line = false ∧ L = lo ∧ H = hi ∧ AT = Rw.rst (Rw.lft (rs s) L H) L) ∨
      (key = 100 ∧ line = true ∧ ((hi < (rs s).length ∧ L = lo ∧ H = hi + 1) ∨ (¬ hi < (rs s).length ∧ 0 < lo ∧ L = lo - 1 ∧ H = hi) ∨ (¬ hi < (rs s).length ∧ lo = 0 ∧ L = lo ∧ H = hi)) ∧ AT = Rw.rst (Rw.lft (rs s) L H) (Rw.fst (Rw.lft (rs s) L H) L))) :
    Calls Tryd.prog 25 #[.string s, .slice (some ⟨b, 0, none⟩) (rs s).length cap, rngV lo hi line, .int .i64 key] w fun e w' => e = .returned (chgV (Rw.bat (rs s) (Rw.lft (rs s) L H) : Nat) (Rw.bdel (rs s) (Rw.lft (rs s) L H) : Nat) (runesBytes (Rw.bins (rs s) (Rw.lft (rs s) L H))) AT (runesBytes (Rw.tkn (rs s) lo hi)) line) ∧ Kept (fun _ => False) w w' := by
  have hka : Kept (fun _ => False) w ((w.alloc (rngO lo hi line)).alloc (chgO 0 0 ⟨#[]⟩ 0 ⟨#[]⟩ false)) := ((Kept.refl _ w).alloc _).alloc _
  have hI0 : OfI lo hi line b w.heap.size (rs s) ((w.alloc (rngO lo hi line)).alloc (chgO 0 0 ⟨#[]⟩ 0 ⟨#[]⟩ false)) := ⟨hT.kept hka id id, hA.kept hka (fun _ _ => id), heap_two' w _ _, heap_two'' w _ _⟩
  have HI0 := Lib.hid hI0
  have HKA := Lib.hid hka
  have hLH : L ≤ H ∧ H ≤ (rs s).length := by rcases hway with ⟨_, h⟩ | ⟨_, _, h⟩ | ⟨_, _, h | h | h, _⟩ <;> omega
  have hll := Rw.lft_len (rs s) L H hLH.1 hLH.2
  have hmx := may_sub hm (Rw.lft_sub (rs s) L H hLH.1)
  have hxr : rs (runesBytes (Rw.lft (rs s) L H)) = Rw.lft (rs s) L H := rs_txt ((rs_vld hm).sub fun r hr => (Rw.lft_sub (rs s) L H hLH.1).subset hr)
  have cB := fun W hW => chbetween_yes s (runesBytes (Rw.lft (rs s) L H)) W hW hm hmx
  have cE := fun W hW => chrest_yes (runesBytes (Rw.lft (rs s) L H)) L W hW hmx (by rw [hxr]; omega)
  have cF := fun W hW => chfirst_yes (runesBytes (Rw.lft (rs s) L H)) L W hW hmx (by rw [hxr]; omega)
  rw [hxr] at cB cE cF
  unfold btw at cB
  have hb0 := rs_bytes hm
  have hsA : (runesBytes ((rs s).take L)).size ≤ 4000 := txt_le (List.take_sublist _ _) (by have := mayB_size hm; omega)
  have hsC : (runesBytes ((rs s).drop H)).size ≤ 4000 := txt_le (List.drop_sublist _ _) (by have := mayB_size hm; omega)
  have HTX : Hid (runesBytes ((rs s).take L) ++ runesBytes ((rs s).drop H) = runesBytes (Rw.lft (rs s) L H)) := lft_txt _ _ _
  have hl4 : (rs s).length ≤ 4000 := by have := mayB_size hm; have := rs_len s; omega
  clear hb0 hT hA hka hI0 hmx hm hll
  generalize rs s = t at *
  generalize ((Rw.bat t (Rw.lft t L H) : Nat) : Int) = PA at *
  generalize ((Rw.bdel t (Rw.lft t L H) : Nat) : Int) = PD at *
  generalize runesBytes (Rw.bins t (Rw.lft t L H)) = PI at *
  generalize runesBytes (Rw.lft t L H) = NX at *
  generalize hTK : runesBytes (Rw.tkn t lo hi) = TK at *
  have HTK := Lib.hid hTK
  clear hTK
  have HCB := Lib.hid cB
  clear cB hxr
  obtain ⟨xb, hxb⟩ : ∃ xb, w.heap.size = xb := ⟨_, rfl⟩
  have HXB := Lib.hid hxb
  rw [hxb] at HI0
  clear hxb
  go_enter Tryd.func25, Tryd.ntmps25
  go_upto_region 1 with fail
  simp only [HXB.out]
  generalize (w.alloc (rngO lo hi line)).alloc (chgO 0 0 ⟨#[]⟩ 0 ⟨#[]⟩ false) = W0 at *
  obtain ⟨a0, a1, a2⟩ := HI0.out.cells
  have hcB := fun u => run_cut_lh u (some ⟨b, 0, none⟩) t.length cap lo hi (lo : Int) (hi : Int) rfl rfl h1 (by omega)
  have hRB : Rn W0 (cutB (some ⟨b, 0, none⟩) cap lo) (hi - lo) (Rw.tkn t lo hi) := HI0.out.rn.cut h1 h2 hcap
  generalize cutB (some ⟨b, 0, none⟩) cap lo = CB at *
  have hRBd : Rn W0.drew CB (hi - lo) (Rw.tkn t lo hi) := hRB
  have h1i : (lo : Int) ≤ hi := by omega
  have K0 := keep_y (cp := cap - lo) (Kept.refl (fun _ => False) W0.drew) a0 a1 a2 id hRBd (fun _ _ => id)
  have K1 := fun o => keep_y (cp := cap - lo) ((Kept.refl (fun _ => False) W0.drew).alloc o) a0 a1 a2 id hRBd (fun _ _ => id)
  rw [HTK.out] at K0
  simp only [HTK.out] at K1
  have HK1 := Lib.hid K1
  clear K1 hRBd
  go_region_held3 (fun w' => w'.cell? ⟨xb, 0, none⟩ = some (.int .i64 lo) ∧ w'.cell? ⟨xb, 1, none⟩ = some (.int .i64 hi) ∧ w'.cell? ⟨xb, 2, none⟩ = some (.bool line) ∧ (convert 30 9 (.slice CB (hi - lo) (cap - lo))).run Tryd.prog w' = .ok (.string TK) w') (first | with_reducible exact K0 | exact HK1.out _) (fail)
  go_wp2_with fail
  have HYA : Hid ((W0.alloc (chgO 0 0 ⟨#[]⟩ 0 TK line)).drew.heap[W0.heap.size]? = some (chgO 0 0 ⟨#[]⟩ 0 TK line)) := heap_alloc_new W0 _
  have HKW : Hid (Kept (fun _ => False) W0 (W0.alloc (chgO 0 0 ⟨#[]⟩ 0 TK line)).drew) := ((Kept.refl _ W0).alloc _).drew
  obtain ⟨yb, hyb⟩ : ∃ yb, W0.heap.size = yb := ⟨_, rfl⟩
  have HYB := Lib.hid hyb
  simp only [hyb] at HYA ⊢
  generalize (W0.alloc (chgO 0 0 ⟨#[]⟩ 0 TK line)).drew = wA at *
  clear hyb K0 HK1 hcB hRB a0 a1 a2
  obtain ⟨a0, a1, a2⟩ := (HI0.out.kept HKW.out).cells
  have HIA := Lib.hid (HI0.out.kept HKW.out)
  have hcA := fun u => run_cut_h u (some ⟨b, 0, none⟩) t.length cap L (L : Int) rfl (by omega)
  have hcC := fun u => run_cut_l u (some ⟨b, 0, none⟩) t.length cap H (H : Int) rfl hLH.2 hcap
  have hRA : Rn wA (cutB (some ⟨b, 0, none⟩) cap 0) L (t.take L) := by rw [cutB_zero]; exact HIA.out.rn.take (by omega)
  have hRC : Rn wA (cutB (some ⟨b, 0, none⟩) cap H) (t.length - H) (t.drop H) := HIA.out.rn.drop hLH.2 hcap
  generalize cutB (some ⟨b, 0, none⟩) cap 0 = CA at *
  generalize cutB (some ⟨b, 0, none⟩) cap H = CC at *
  have htA : ∀ r, (convert 30 9 (.slice CA L cap)).run Tryd.prog (wA.drewN r) = .ok (.string (runesBytes (t.take L))) (wA.drewN r) := fun r => run_txt (w := wA.drewN r) hRA
  have htC : ∀ r, (convert 30 9 (.slice CC (t.length - H) (cap - H))).run Tryd.prog (wA.drewN r) = .ok (.string (runesBytes (t.drop H))) (wA.drewN r) := fun r => run_txt (w := wA.drewN r) hRC
  generalize runesBytes (t.take L) = SA at *
  generalize runesBytes (t.drop H) = SC at *
  have ad : ∀ u, (Op.stringOp .add SA SC).run Tryd.prog u = .ok (.string NX) u := fun u => by rw [← HTX.out]; exact run_string_add_sum u SA SC (by omega)
  have HF := Lib.hid cF
  have HE := Lib.hid cE
  clear hRA hRC cF cE
  have hHn : H ≤ t.length := hLH.2
  have h1n : lo ≤ hi ∧ hi ≤ t.length := ⟨h1, h2⟩
  clear h1 h2 hLH
  rcases hway with ⟨rfl, rfl, rfl, hat⟩ | ⟨rfl, rfl, rfl, rfl, hat⟩ | ⟨rfl, rfl, hcs, hat⟩
  case' inr.inr =>
    go_quiet (fail)
    go_upto_if 32 with fail
    go_cut [10, 11] from 33 to 42 (fun x y wx => x = .int .i64 L ∧ y = .int .i64 H ∧ ∃ q, wx = wA.drewN q)
    case first =>
      clear htA htC hcA hcC ad
      rcases hcs with ⟨d1, rfl, rfl⟩ | ⟨d1, d2, rfl, rfl⟩ | ⟨d1, d2, rfl, rfl⟩
      · have e1 : decide (hi < t.length) = true := decide_eq_true d1
        go_wp2
        go_meet
        exact ⟨rfl, rfl, _, rfl⟩
      · obtain ⟨j, rfl⟩ : ∃ j, lo = j + 1 := ⟨lo - 1, by omega⟩
        have e1 : decide (H < t.length) = false := decide_eq_false d1
        have e2 : decide (0 < j + 1) = true := decide_eq_true d2
        have e3 : decide ((0 : Int) < (j : Int) + 1) = true := decide_eq_true (by omega)
        clear d1 d2
        go_wp2
        go_meet
        exact ⟨congrArg (Value.int .i64) (by omega), rfl, _, rfl⟩
      · subst d2
        have e1 : decide (H < t.length) = false := decide_eq_false d1
        clear d1
        go_wp2
        go_meet
        exact ⟨rfl, rfl, _, rfl⟩
    case' rest =>
      obtain ⟨rfl, rfl, q, rfl⟩ := hcut
      clear hcs
  case' inl | inr.inl =>
    go_quiet (fail)
  all_goals
    have HAT := Lib.hid hat
    clear hat
    go_upto_region 9 with fail
    go_quiet (fail)
    clear htA htC hcA hcC ad
    go_wp2_with fail
    have HTW : ∀ r, Tabs (wA.drewN r) := fun r => (HIA.out.drewN r).tabs
    refine (HCB.out _ (by first | exact HTW _ | (rw [drewN2]; exact HTW _))).mono ?_
    rintro e wb ⟨rfl, hkb⟩
    have HKb : Hid (Kept (fun _ => False) W0 wb) := (HKW.out.drewN _).trans hkb
    have hYb := (hkb.block yb (heap_lt HYA.out) id).trans HYA.out
    obtain ⟨⟨c0, c1, c2, _, _, _⟩, k0, k1, k2, _, _, _⟩ := chg_facts hYb
    have hKc : Kept (fun _ => False) W0 (((wb.setCell ⟨yb, 0, none⟩ (.int .i64 PA)).setCell ⟨yb, 1, none⟩ (.int .i64 PD)).setCell ⟨yb, 2, none⟩ (.string PI)) := HKb.out.fresh ((((Kept.refl (fun b => b = yb) wb).setCell (p := ⟨yb, 0, none⟩) rfl _).setCell (p := ⟨yb, 1, none⟩) rfl _).setCell (p := ⟨yb, 2, none⟩) rfl _) (fun b hb e => by have := HYB.out; omega)
    have hYc := chg_three hYb PA PD PI
    have HYc := Lib.hid hYc
    have HKc := Lib.hid hKc
    clear hYb hYc hKc hkb
    go_upto_region 11 with fail
    clear c0 c1 c2 k0 k1 k2 HKb
    generalize (((wb.setCell ⟨yb, 0, none⟩ (.int .i64 PA)).setCell ⟨yb, 1, none⟩ (.int .i64 PD)).setCell ⟨yb, 2, none⟩ (.string PI)) = wc at *
    have HNE : Hid (xb + 1 ≠ yb) := by have h1 := heap_lt HI0.out.chg; have h2 := HYB.out; show xb + 1 ≠ yb; omega
    have hne1 : ¬ xb + 1 = yb := HNE.out
    have hne2 : ¬ yb = xb + 1 := fun e => HNE.out e.symm
    have HIc := Lib.hid (HI0.out.kept HKc.out)
  · have hXd := HIc.out.chg
    have hKd := HKc.out
    have HXd := Lib.hid hXd
    have HKd := Lib.hid hKd
    obtain ⟨⟨c0, c1, c2, c3, c4, c5⟩, k0, k1, k2, k3, k4, k5⟩ := chg_facts HYc.out
    obtain ⟨⟨d0, d1, d2, d3, d4, d5⟩, e0, e1, e2, e3, e4, e5⟩ := chg_facts hXd
    clear hXd hKd
    go_wp2
    have hXd := HXd.out
    have hKd := HKd.out
    refine bodyPost_ret (res_chg1 rfl _ _ (xb + 1) _ _ _ _ _ _ (0, 0) rfl (chg_six (show (wc.setCell ⟨yb, 3, none⟩ _).heap[xb + 1]? = _ from (heap_far HNE.out _).trans hXd) _ _ _ _ _ _)) rfl ⟨by rw [HAT.out], ?_⟩
    exact (HKA.out.trans hKd).fresh (Kept.six ((Kept.refl (fun q => q = yb ∨ q = xb + 1) wc).setCell (p := ⟨yb, 3, none⟩) (.inl rfl) _) (.inr rfl) _ _ _ _ _ _) (fun b hb e => by have := HXB.out; have := HYB.out; have := HKA.out.size; omega)
  all_goals
    obtain ⟨_, _, f2⟩ := HIc.out.cells
    go_wp2_with ((first | (go_at_call 35; refine (HF.out _ HIc.out.tabs).mono ?_) | (go_at_call 23; refine (HE.out _ HIc.out.tabs).mono ?_)); rintro e wd ⟨rfl, hkd⟩; have hXd := (HIc.out.kept hkd).chg; have HXd := Lib.hid hXd; have HKd := Lib.hid (HKc.out.trans hkd); obtain ⟨⟨c0, c1, c2, c3, c4, c5⟩, k0, k1, k2, k3, k4, k5⟩ := chg_facts ((hkd.block _ (heap_lt HYc.out) id).trans HYc.out); obtain ⟨⟨d0, d1, d2, d3, d4, d5⟩, e0, e1, e2, e3, e4, e5⟩ := chg_facts hXd; clear hXd hkd)
    have hXd := HXd.out
    have hKd := HKd.out
    refine bodyPost_ret (res_chg1 rfl _ _ (xb + 1) _ _ _ _ _ _ (0, 0) rfl (chg_six (show (wd.setCell ⟨yb, 3, none⟩ _).heap[xb + 1]? = _ from (heap_far HNE.out _).trans hXd) _ _ _ _ _ _)) rfl ⟨by rw [HAT.out], ?_⟩
    exact (HKA.out.trans hKd).fresh (Kept.six ((Kept.refl (fun q => q = yb ∨ q = xb + 1) wd).setCell (p := ⟨yb, 3, none⟩) (.inl rfl) _) (.inr rfl) _ _ _ _ _ _) (fun b hb e => by have := HXB.out; have := HYB.out; have := HKA.out.size; omega)
end Go.Proofs.YtpgoikecignldaaDoor
