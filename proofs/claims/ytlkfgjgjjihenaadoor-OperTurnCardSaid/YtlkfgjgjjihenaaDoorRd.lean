/-
  THE REFERENCE's deleted (chapter 18).
-/
import Derived.Test.YtlkfgjgjjihenaaDoorRc
import Derived.Test.YtlkfgjgjjihenaaDoorTkn
set_option linter.unusedVariables false
namespace Go.Proofs.YtlkfgjgjjihenaaDoor
open Go Go.RowKit

theorem heap_drew {w : World} {g : Nat} {o : Option Obj} (h : w.heap[g]? = o) : w.drew.heap[g]? = o := h
theorem heap_one (w : World) (o : Obj) (w' : World) (hk : Kept (fun _ => False) (w.alloc o) w') : w'.heap[w.heap.size]? = some o := (hk.block _ (by simp) id).trans (heap_alloc_new w o)
set_option maxRecDepth 100000 in
set_option maxHeartbeats 1000000 in
theorem rdeleted_any (s : ByteArray) (b cap : Nat) (lo hi : Nat) (line : Bool) (L H AT : Nat) (w : World) (hT : Tabs w) (hm : mayB s = true) (hA : Rn w (some ⟨b, 0, none⟩) (rs s).length (rs s)) (hcap : (rs s).length ≤ cap) (h1 : lo ≤ hi) (h2 : hi ≤ (rs s).length)
    (hway : (line = false ∧ L = lo ∧ H = hi ∧ AT = Rw.rst (Rw.lft (rs s) L H) L) ∨
      (line = true ∧ ((hi < (rs s).length ∧ L = lo ∧ H = hi + 1) ∨ (¬ hi < (rs s).length ∧ 0 < lo ∧ L = lo - 1 ∧ H = hi) ∨ (¬ hi < (rs s).length ∧ lo = 0 ∧ L = lo ∧ H = hi)) ∧ AT = Rw.rst (Rw.lft (rs s) L H) (Rw.fst (Rw.lft (rs s) L H) L))) :
    Calls Tryd.prog 46 #[.string s, .slice (some ⟨b, 0, none⟩) (rs s).length cap, rngV lo hi line] w fun e w' => e = .returned (.tuple #[chgV (Rw.bat (rs s) (Rw.lft (rs s) L H) : Nat) (Rw.bdel (rs s) (Rw.lft (rs s) L H) : Nat) (runesBytes (Rw.bins (rs s) (Rw.lft (rs s) L H))) AT (runesBytes (Rw.tkn (rs s) lo hi)) line, .int .i64 0]) ∧ Kept (fun _ => False) w w' := by
  have hka : Kept (fun _ => False) w ((w.alloc (rngO lo hi line)).alloc (chgO 0 0 ⟨#[]⟩ 0 ⟨#[]⟩ false)) := ((Kept.refl _ w).alloc _).alloc _
  have hI0 : OfI lo hi line b w.heap.size (rs s) ((w.alloc (rngO lo hi line)).alloc (chgO 0 0 ⟨#[]⟩ 0 ⟨#[]⟩ false)) := ⟨hT.kept hka id id, hA.kept hka (fun _ _ => id), heap_two' w _ _, heap_two'' w _ _⟩
  have HI0 := Lib.hid hI0
  have HKA := Lib.hid hka
  have hLH : L ≤ H ∧ H ≤ (rs s).length ∧ L ≤ lo := by rcases hway with ⟨_, h⟩ | ⟨_, h | h | h, _⟩ <;> omega
  have hll := Rw.lft_len (rs s) L H hLH.1 hLH.2.1
  have hmx := may_sub hm (Rw.lft_sub (rs s) L H hLH.1)
  have hxr : rs (runesBytes (Rw.lft (rs s) L H)) = Rw.lft (rs s) L H := rs_txt ((rs_vld hm).sub fun r hr => (Rw.lft_sub (rs s) L H hLH.1).subset hr)
  have hsm := mayB_size hm
  have cM := fun W hW at' => rmade_yes s (runesBytes (Rw.lft (rs s) L H)) at' W hsm hW hmx
  have cD := fun W => rtidy_yes (runesBytes (Rw.lft (rs s) L H)) L W hmx (by rw [hxr]; omega)
  have cV := fun W => conv_rs (runesBytes (Rw.lft (rs s) L H)) W (by have := mayB_size hmx; omega)
  have cR := fun b cap W (hW : Rn W (some ⟨b, 0, none⟩) (Rw.lft (rs s) L H).length (Rw.lft (rs s) L H)) => rrest_any (some ⟨b, 0, none⟩) _ cap _ L W hW (by omega) (by have := rs_len s; omega)
  rw [hxr] at cM cD cV
  have hmin : line = true → min lo (Rw.lft (rs s) L H).length = L := by
    intro hl
    rcases hway with ⟨h, _⟩ | ⟨_, h | h | h, _⟩
    · rw [hl] at h; cases h
    · rw [hll]; omega
    · rw [hll]; omega
    · rw [hll]; omega
  have hb0 := rs_bytes hm
  have hsA : (runesBytes ((rs s).take L)).size ≤ 4000 := txt_le (List.take_sublist _ _) (by omega)
  have hsC : (runesBytes ((rs s).drop H)).size ≤ 4000 := txt_le (List.drop_sublist _ _) (by omega)
  have HTX : Hid (runesBytes ((rs s).take L) ++ runesBytes ((rs s).drop H) = runesBytes (Rw.lft (rs s) L H)) := txt_append _ _
  have hl4 : (rs s).length ≤ 4000 := by have := rs_len s; omega
  have hx4 : (Rw.lft (rs s) L H).length ≤ 4000 := by omega
  clear hb0 hT hA hka hI0 hmx hm hsm
  generalize rs s = t at *
  generalize ((Rw.bat t (Rw.lft t L H) : Nat) : Int) = PA at *
  generalize ((Rw.bdel t (Rw.lft t L H) : Nat) : Int) = PD at *
  generalize runesBytes (Rw.bins t (Rw.lft t L H)) = PI at *
  generalize runesBytes (Rw.lft t L H) = NX at *
  generalize hTK : runesBytes (Rw.tkn t lo hi) = TK at *
  generalize hNL : Rw.lft t L H = nx at *
  have HTK := Lib.hid hTK
  have HMIN := Lib.hid hmin
  have HCM := Lib.hid cM
  have HCD := Lib.hid cD
  have HCR := Lib.hid cR
  clear hTK cM cD cR hxr hmin hNL hll
  obtain ⟨xb, hxb⟩ : ∃ xb, w.heap.size = xb := ⟨_, rfl⟩
  have HXB := Lib.hid hxb
  rw [hxb] at HI0
  clear hxb
  go_enter Tryd.func46, Tryd.ntmps46
  go_upto_region 1 with fail
  simp only [HXB.out]
  generalize (w.alloc (rngO lo hi line)).alloc (chgO 0 0 ⟨#[]⟩ 0 ⟨#[]⟩ false) = W0 at *
  obtain ⟨a0, a1, a2⟩ := HI0.out.cells
  have hcB := fun u => run_cut_lh u (some ⟨b, 0, none⟩) t.length cap lo hi (lo : Int) (hi : Int) rfl rfl h1 (by omega)
  have hRB : Rn W0 (cutB (some ⟨b, 0, none⟩) cap lo) (hi - lo) (Rw.tkn t lo hi) := HI0.out.rn.cut h1 h2 hcap
  have hcA := fun u => run_cut_h u (some ⟨b, 0, none⟩) t.length cap L (L : Int) rfl (by omega)
  have hcC := fun u => run_cut_l u (some ⟨b, 0, none⟩) t.length cap H (H : Int) rfl hLH.2.1 hcap
  have hRA : Rn W0 (cutB (some ⟨b, 0, none⟩) cap 0) L (t.take L) := by rw [cutB_zero]; exact HI0.out.rn.take (by omega)
  have hRC : Rn W0 (cutB (some ⟨b, 0, none⟩) cap H) (t.length - H) (t.drop H) := HI0.out.rn.drop hLH.2.1 hcap
  generalize cutB (some ⟨b, 0, none⟩) cap lo = CB at *
  generalize cutB (some ⟨b, 0, none⟩) cap 0 = CA at *
  generalize cutB (some ⟨b, 0, none⟩) cap H = CC at *
  have htB : (convert 31 9 (.slice CB (hi - lo) (cap - lo))).run Tryd.prog W0 = .ok (.string TK) W0 := by rw [← HTK.out]; exact run_txt hRB
  have htA : ∀ r, (convert 31 9 (.slice CA L cap)).run Tryd.prog (W0.drewN r) = .ok (.string (runesBytes (t.take L))) (W0.drewN r) := fun r => run_txt (w := W0.drewN r) hRA
  have htC : ∀ r, (convert 31 9 (.slice CC (t.length - H) (cap - H))).run Tryd.prog (W0.drewN r) = .ok (.string (runesBytes (t.drop H))) (W0.drewN r) := fun r => run_txt (w := W0.drewN r) hRC
  generalize runesBytes (t.take L) = SA at *
  generalize runesBytes (t.drop H) = SC at *
  have ad : ∀ u, (Op.stringOp .add SA SC).run Tryd.prog u = .ok (.string NX) u := fun u => by rw [← HTX.out]; exact run_string_add_sum u SA SC (by omega)
  have h1i : (lo : Int) ≤ hi := by omega
  have hHn : H ≤ t.length := hLH.2.1
  have hLn : L ≤ lo := hLH.2.2
  clear hRA hRC hRB h1 hLH
  go_upto_region 2 with fail
  clear htB hcB
  rcases hway with ⟨rfl, rfl, rfl, hat⟩ | ⟨rfl, hcs, hat⟩
  case' inr =>
    go_quiet (fail)
    go_upto_if 28 with fail
    go_cut [9, 10] from 29 to 38 (fun x y wx => x = .int .i64 L ∧ y = .int .i64 H ∧ ∃ q, wx = W0.drewN q)
    case first =>
      clear htA htC hcA hcC ad
      rcases hcs with ⟨d1, rfl, rfl⟩ | ⟨d1, d2, rfl, rfl⟩ | ⟨d1, d2, rfl, rfl⟩
      · have e1 : decide (hi < t.length) = true := decide_eq_true d1
        go_wp2
        go_meet
        exact ⟨rfl, rfl, _, rfl⟩
      · obtain ⟨j, rfl⟩ : ∃ j, lo = j + 1 := ⟨lo - 1, by omega⟩
        have e1 : decide (H < t.length) = false := decide_eq_false d1
        have e2 : decide (0 < j + 1) = true := decide_eq_true d2
        have e3 : decide ((0 : Int) < (j : Int) + 1) = true := decide_eq_true (by omega)
        clear d1 d2
        go_wp2
        go_meet
        exact ⟨congrArg (Value.int .i64) (by omega), rfl, _, rfl⟩
      · subst d2
        have e1 : decide (H < t.length) = false := decide_eq_false d1
        clear d1
        go_wp2
        go_meet
        exact ⟨rfl, rfl, _, rfl⟩
    case' rest =>
      obtain ⟨rfl, rfl, q, rfl⟩ := hcut
      clear hcs
  case' inl =>
    go_quiet (fail)
  all_goals
    have HAT := Lib.hid hat.symm
    clear hat
    go_upto_region 8 with fail
    go_cut [11] from 39 to 51 (fun v wx => v = .string NX ∧ ∃ q, wx = W0.drewN q)
    case first =>
      go_quiet (fail)
      go_wp2_with fail
      go_meet
      exact ⟨rfl, _, by first | rfl | rw [drewN2]⟩
    case' rest =>
      obtain ⟨rfl, q2, rfl⟩ := hcut
      clear htA htC hcA hcC ad
      have hIq := HI0.out.drewN q2
      have hKq : Kept (fun _ => False) W0 (W0.drewN q2) := (Kept.refl _ _).drewN q2
      generalize W0.drewN q2 = wq at *
      obtain ⟨cp2, w3, hcp2, hcv, hk3, _, hR3⟩ := cV wq
      obtain ⟨yy, hyy⟩ : ∃ yy, wq.heap.size = yy := ⟨_, rfl⟩
      rw [hyy] at hcv hR3
      have HI3 := Lib.hid (hIq.kept hk3)
      have HK3 := Lib.hid (hKq.trans hk3)
      have HR3 := Lib.hid hR3
      clear hyy hk3 hR3 hKq hIq cV a0 a1 a2
      have hcR := HCR.out yy cp2 w3 HR3.out
      obtain ⟨f0, f1, f2⟩ := HI3.out.cells
      go_upto_region 11 with (go_at_call 44; refine hcR.mono ?_; rintro e w4 ⟨rfl, rfl⟩; clear hcv hcR)
      try have hmi : min (lo : Int) (nx.length : Int) = (L : Int) := by have := HMIN.out trivial; omega
      try have hmj : min lo nx.length = L := HMIN.out trivial
      go_upto_region 13 with (go_at_call 61; refine (HCD.out _).mono ?_; rintro e w5 ⟨rfl, hk5⟩; have HI5 := Lib.hid (HI3.out.kept hk5); have HK5 := Lib.hid (HK3.out.trans hk5); clear hk5)
      simp only [HAT.out]
      go_wp2_with (go_at_call 47; refine (HCM.out _ (by first | exact HI5.out.tabs | exact HI3.out.tabs) _).mono ?_; rintro e w6 ⟨rfl, hk6⟩; have HI6 := Lib.hid (OfI.kept (by first | exact HI5.out | exact HI3.out) hk6); have HK6 := Lib.hid (Kept.trans (by first | exact HK5.out | exact HK3.out) hk6); clear hk6)
      have HY6 : Hid ((w6.alloc (chgO PA PD PI AT ⟨#[]⟩ false)).heap[w6.heap.size]? = some (chgO PA PD PI AT ⟨#[]⟩ false)) := heap_alloc_new w6 _
      have hK7 : Kept (fun _ => False) w6 (w6.alloc (chgO PA PD PI AT ⟨#[]⟩ false)) := (Kept.refl _ w6).alloc _
      have HI7 := Lib.hid (HI6.out.kept hK7)
      have HK7 := Lib.hid (HK6.out.trans hK7)
      have HYN : Hid (xb + 1 < w6.heap.size) := heap_lt HI6.out.chg
      clear hK7 f0 f1 f2
      generalize w6.alloc (chgO PA PD PI AT ⟨#[]⟩ false) = w7 at *
      generalize w6.heap.size = yb at *
      have hne1 : ¬ xb + 1 = yb := by have := HYN.out; omega
      have hne2 : ¬ yb = xb + 1 := by have := HYN.out; omega
      have hne3 : ¬ yb = xb := by have := HYN.out; omega
      have hne4 : ¬ xb = yb := by have := HYN.out; omega
      have HXd : Hid (∀ v4 v5, ((w7.setCell ⟨yb, 4, none⟩ v4).setCell ⟨yb, 5, none⟩ v5).heap[xb + 1]? = some (chgO 0 0 ⟨#[]⟩ 0 ⟨#[]⟩ false)) := fun v4 v5 => (heap_far hne1 _).trans ((heap_far hne1 _).trans HI7.out.chg)
      have HKd : Hid (∀ v4 v5 u0 u1 u2 u3 u4 u5, Kept (fun _ => False) w (((((((((w7.setCell ⟨yb, 4, none⟩ v4).setCell ⟨yb, 5, none⟩ v5)).setCell ⟨xb + 1, 0, none⟩ u0).setCell ⟨xb + 1, 1, none⟩ u1).setCell ⟨xb + 1, 2, none⟩ u2).setCell ⟨xb + 1, 3, none⟩ u3).setCell ⟨xb + 1, 4, none⟩ u4).setCell ⟨xb + 1, 5, none⟩ u5)) := fun v4 v5 u0 u1 u2 u3 u4 u5 =>
        (HKA.out.trans HK7.out).fresh (Kept.six (((Kept.refl (fun q => q = yb ∨ q = xb + 1) w7).setCell (p := ⟨yb, 4, none⟩) (.inl rfl) _).setCell (p := ⟨yb, 5, none⟩) (.inl rfl) _) (.inr rfl) _ _ _ _ _ _) (fun b hb e => by have := HXB.out; have := HYN.out; omega)
      obtain ⟨f0, f1, f2⟩ := HI7.out.cells
      obtain ⟨⟨c0, c1, c2, c3, c4, c5⟩, k0, k1, k2, k3, k4, k5⟩ := chg_facts HY6.out
      obtain ⟨⟨d0, d1, d2, d3, d4, d5⟩, e0, e1, e2, e3, e4, e5⟩ := chg_facts HI7.out.chg
      first
        | go_region_held3 (fun (w' : World) => w'.cell? ⟨xb, 2, none⟩ = some (.bool false)) (go_keep) (fail)
        | go_region_held3 (fun (w' : World) => w'.cell? ⟨xb, 2, none⟩ = some (.bool true)) (go_keep) (fail)
      all_goals
        go_wp2_with fail
        refine bodyPost_ret (res_chg rfl _ _ (xb + 1) PA PD PI (AT : Nat) TK _ (0, 0) rfl (heap_drew (chg_six (HXd.out _ _) _ _ _ _ _ _))) rfl ⟨rfl, ?_⟩
        exact (HKd.out _ _ _ _ _ _ _ _).drew
end Go.Proofs.YtlkfgjgjjihenaaDoor
