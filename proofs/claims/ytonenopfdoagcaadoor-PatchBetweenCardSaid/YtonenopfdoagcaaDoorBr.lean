/-
  Between OF THE REFERENCE: the patch from one text to another.
-/
import Derived.Test.YtonenopfdoagcaaDoorBt
import Derived.Deep.CutRange
set_option linter.unusedVariables false
namespace Go.Proofs.YtonenopfdoagcaaDoor
open Go Go.RowKit

theorem res_pat1 {fn : Func} {p : Tmp} (h : fn.results = #[.cell p 32]) (tmps : Array Value) (w : World) (g : Nat) (a d : Int) (s : ByteArray) (fr : Nat × Nat) (hp : tmps.getD p undef = .pointer (some ⟨g, 0, none⟩)) (hg : w.heap[g]? = some (.cells #[.int .i64 a, .int .i64 d, .string s] 32 fr)) :
    (results fn tmps).run Tryd.prog w = .ok (patV a d s) w :=
  results_cell_row h tmps _ g _ _ _ _ hp hg Tryd.underlying32 rfl (by kernel_rfl)
theorem cpl_step {s t : List Int} {j : Nat} (h : 0 < Rw.cpl (s.drop j) (t.drop j)) : j < s.length ∧ j < t.length ∧ Rw.cpl (s.drop j) (t.drop j) = 1 + Rw.cpl (s.drop (j + 1)) (t.drop (j + 1)) := by
  have hl := Rw.cpl_le (s.drop j) (t.drop j)
  simp only [List.length_drop] at hl
  have h1 : j < s.length := by omega
  have h2 : j < t.length := by omega
  refine ⟨h1, h2, ?_⟩
  by_cases e : s[j] = t[j]
  · exact Rw.cpl_hit (a := s[j]) (List.getElem?_eq_getElem h1) (by rw [List.getElem?_eq_getElem h2, e])
  · have := Rw.cpl_miss (List.getElem?_eq_getElem h1) (List.getElem?_eq_getElem h2) e
    omega
set_option maxRecDepth 100000 in
set_option maxHeartbeats 2000000 in
theorem rbetween_yes (a b : ByteArray) (w : World) (hsa : a.size ≤ 4000) (hsb : b.size ≤ 4000) :
    Calls Tryd.prog 9 #[.string a, .string b] w fun e w' => e = .returned (btw (rs a) (rs b)) ∧ Kept (fun _ => False) w w' := by
  have hka : Kept (fun _ => False) w (w.alloc (patO 0 0 ⟨#[]⟩)) := (Kept.refl _ w).alloc _
  have hla := rs_len a
  have hlb := rs_len b
  have cV := fun W => conv_rs a W (by omega)
  have cU := fun W => conv_rs b W (by omega)
  generalize rs a = s at *
  generalize rs b = t at *
  have HKA := Lib.hid hka
  have HG0 : Hid ((w.alloc (patO 0 0 ⟨#[]⟩)).heap[w.heap.size]? = some (patO 0 0 ⟨#[]⟩)) := heap_alloc_new w _
  obtain ⟨g, hg⟩ : ∃ g, w.heap.size = g := ⟨_, rfl⟩
  have HGS := Lib.hid hg
  clear hka
  go_enter Tryd.func9, Tryd.ntmps9
  go_upto_region 1 with fail
  simp only [hg] at HG0 ⊢
  clear hg
  generalize w.alloc (patO 0 0 ⟨#[]⟩) = wa at *
  obtain ⟨ca, w3, hca, hcv, hk3, hz3, hR3⟩ := cV wa
  obtain ⟨cb, w4, hcb, hcu, hk4, hz4, hU4⟩ := cU w3
  have hzz := hk4.size
  have hg4 := (hk4.block g (by have := hk3.size; have := heap_lt HG0.out; omega) id).trans ((hk3.block g (heap_lt HG0.out) id).trans HG0.out)
  have hk34 := HKA.out.trans (hk3.trans hk4)
  have hS4 := hR3.kept hk4 (fun _ _ => id)
  clear hk3 hk4 hR3 cV cU
  obtain ⟨xa, hxa⟩ : ∃ xa, wa.heap.size = xa := ⟨_, rfl⟩
  obtain ⟨xb, hxb⟩ : ∃ xb, w3.heap.size = xb := ⟨_, rfl⟩
  have HS := Lib.hid hS4
  have HU := Lib.hid hU4
  have HK34 := Lib.hid hk34
  have HG4 := Lib.hid hg4
  clear hg4 hk34 hS4 hU4
  have HZA : Hid (xa < w4.heap.size) := by show _ < _; omega
  have HZB : Hid (xb < w4.heap.size) := by show _ < _; omega
  clear hz3 hz4 hzz
  have HO : Hid ((w4.alloc (patO 0 0 ⟨#[]⟩)).heap[w4.heap.size]? = some (patO 0 0 ⟨#[]⟩)) := heap_alloc_new w4 _
  have HKO : Hid (Kept (fun b => b = w4.heap.size) w4 (w4.alloc (patO 0 0 ⟨#[]⟩))) := (Kept.refl _ w4).alloc _
  go_wp2_with fail
  simp only [hxa, hxb] at HS HU ⊢
  clear hcv hcu hxa hxb
  obtain ⟨gb, hgb⟩ : ∃ gb, w4.heap.size = gb := ⟨_, rfl⟩
  have HGB := Lib.hid hgb
  simp only [hgb] at HO HKO HZA HZB ⊢
  clear hgb
  generalize w4.alloc (patO 0 0 ⟨#[]⟩) = w5 at *
  generalize hsl : s.length = ls at *
  generalize htl : t.length = lt at *
  have HSL := Lib.hid hsl
  have HTL := Lib.hid htl
  clear hsl htl
  go_loopw [20] (fun _ wr => ∃ j : Nat, j ≤ ls ∧ j ≤ lt ∧ Rw.cpl s t = j + Rw.cpl (s.drop j) (t.drop j) ∧ wr.heap[gb]? = some (patO j 0 ⟨#[]⟩) ∧ Kept (fun b => b = gb) w4 wr) (fun _ wr => match wr.cell? ⟨gb, 0, none⟩ with | some (.int _ j) => ls - j.toNat | _ => 0)
  case atStart => exact ⟨0, Nat.zero_le _, Nat.zero_le _, by rw [List.drop_zero, List.drop_zero, Nat.zero_add], HO.out, HKO.out⟩
  case round =>
    obtain ⟨j, hj1, hj2, hc, hg, hk⟩ := hrel
    have HC := Lib.hid hc
    have HG := Lib.hid hg
    have HK := Lib.hid hk
    clear hc hg hk
    have gc : wr.cell? ⟨gb, 0, none⟩ = some (.int .i64 j) := by rw [cell_of_row _ _ _ _ _ _ HG.out]; rfl
    obtain ⟨B, hB⟩ : ∃ B, decide (0 < Rw.cpl (s.drop j) (t.drop j)) = B := ⟨_, rfl⟩
    have HB := Lib.hid hB
    clear hB
    go_upto_region 3 with fail
    go_cut [38] from 14 to 42 (fun sa wx => sa = .bool B ∧ ∃ q, wx = wr.drewN q)
    case first =>
      by_cases h1 : j < ls
      · obtain ⟨_, x, e1, hx, cx0⟩ := HS.out.cell h1
        injection e1 with e1
        subst e1
        rw [addr_add, Nat.zero_add] at cx0
        have cx := cell_kept HK.out cx0 (by show ¬ xa = gb; have := HZA.out; omega)
        have b1 : decide (j < ls) = true := decide_eq_true h1
        clear cx0
        by_cases h2 : j < lt
        · obtain ⟨_, y, e2, hy, cy0⟩ := HU.out.cell h2
          injection e2 with e2
          subst e2
          rw [addr_add, Nat.zero_add] at cy0
          have cy := cell_kept HK.out cy0 (by show ¬ xb = gb; have := HZB.out; omega)
          have b2 : decide (j < lt) = true := decide_eq_true h2
          clear cy0
          by_cases hxy : x = y
          · subst hxy
            have hb : B = true := by rw [← HB.out, Rw.cpl_hit hx hy]; exact decide_eq_true (by omega)
            subst hb
            clear hx hy
            go_quiet (fail)
            go_wp2
            go_meet
            exact ⟨rfl, _, rfl⟩
          · have e1 : (x == y) = false := by rw [beq_eq_false_iff_ne]; exact hxy
            have hb : B = false := by rw [← HB.out, Rw.cpl_miss hx hy hxy]; rfl
            subst hb
            clear hx hy hxy
            go_quiet (fail)
            go_wp2
            go_meet
            exact ⟨rfl, _, rfl⟩
        · have b2 : decide (j < lt) = false := decide_eq_false h2
          have hb : B = false := by rw [← HB.out, Rw.cpl_end (.inr (by rw [HTL.out]; omega))]; rfl
          subst hb
          clear hx
          go_quiet (fail)
          go_wp2
          go_meet
          exact ⟨rfl, _, rfl⟩
      · have b1 : decide (j < ls) = false := decide_eq_false h1
        have hb : B = false := by rw [← HB.out, Rw.cpl_end (.inl (by rw [HSL.out]; omega))]; rfl
        subst hb
        go_quiet (fail)
        go_wp2
        go_meet
        exact ⟨rfl, _, rfl⟩
    case rest =>
      obtain ⟨rfl, q, rfl⟩ := hcut
      have gd : (wr.drewN q).cell? ⟨gb, 0, none⟩ = some (.int .i64 j) := gc
      have kd : (wr.drewN q).frozen? ⟨gb, 0, none⟩ = false := frozen_of HG.out
      cases B with
      | true =>
        obtain ⟨h1, h2, h3⟩ := cpl_step (of_decide_eq_true HB.out)
        have HN : Hid (Rw.cpl s t = j + 1 + Rw.cpl (s.drop (j + 1)) (t.drop (j + 1))) := by show _ = _; rw [HC.out, h3]; omega
        rw [HSL.out] at h1
        rw [HTL.out] at h2
        clear h3
        go_wp2
        go_roundw
        case rel => exact ⟨j + 1, by omega, by omega, HN.out, (heap_set (show (wr.drewN q).heap[gb]? = _ from HG.out) _).trans rfl, (HK.out.drewN q).setCell (p := ⟨gb, 0, none⟩) rfl _⟩
        case measure =>
          rw [gc, World.cell?_setCell_same _ _ _ gd]
          simp
          omega
      | false =>
        have HJ : Hid (Rw.bat s t = j) := by show Rw.cpl s t = j; have := of_decide_eq_false HB.out; rw [HC.out]; omega
        have HG6 : Hid ((wr.drewN q).heap[gb]? = some (patO j 0 ⟨#[]⟩)) := HG.out
        have HK6 : Hid (Kept (fun b => b = gb) w4 (wr.drewN q)) := HK.out.drewN q
        have HS6 : Hid (Rn (wr.drewN q) (some ⟨xa, 0, none⟩) ls s) := HS.out.kept HK6.out (fun a ha => by injection ha with ha; subst ha; show ¬ xa = gb; have := HZA.out; omega)
        have HU6 : Hid (Rn (wr.drewN q) (some ⟨xb, 0, none⟩) lt t) := HU.out.kept HK6.out (fun a ha => by injection ha with ha; subst ha; show ¬ xb = gb; have := HZB.out; omega)
        go_wp2
        clear gc HG HK HB HC
        generalize wr.drewN q = w6 at *
        have hsx : (s.drop j).length = ls - j := by rw [List.length_drop, HSL.out]
        have htx0 : (t.drop j).length = lt - j := by rw [List.length_drop, HTL.out]
        have HSX := Lib.hid hsx
        have HTX := Lib.hid htx0
        clear hsx htx0
        go_loopw [8] (fun v wx => ∃ n q : Nat, v = .int .i64 n ∧ n + j ≤ ls ∧ n + j ≤ lt ∧ Rw.cpl (s.drop j).reverse (t.drop j).reverse = n + Rw.cpl ((s.drop j).reverse.drop n) ((t.drop j).reverse.drop n) ∧ wx = w6.drewN q) (fun v _ => ls - (intOf v).toNat)
        case atStart => exact ⟨0, 0, rfl, by omega, by omega, by rw [List.drop_zero, List.drop_zero, Nat.zero_add], rfl⟩
        case round =>
          obtain ⟨n, q1, rfl, hn1, hn2, hc2, rfl⟩ := hrel
          have HC2 := Lib.hid hc2
          clear hc2
          obtain ⟨C, hC⟩ : ∃ C, decide (0 < Rw.cpl ((s.drop j).reverse.drop n) ((t.drop j).reverse.drop n)) = C := ⟨_, rfl⟩
          have HCC := Lib.hid hC
          clear hC
          go_upto_region 6 with fail
          go_cut [77] from 43 to 79 (fun sa wx => sa = .bool C ∧ ∃ q, wx = w6.drewN q)
          case first =>
            by_cases h1 : n + j < ls
            · obtain ⟨p, hp⟩ : ∃ p, ls - 1 - n = p := ⟨_, rfl⟩
              have hpl : p < ls := by omega
              have i1 : (ls : Int) - 1 - (n : Int) = (p : Int) := by omega
              obtain ⟨_, x, e1, hx, cx⟩ := HS6.out.cell hpl
              injection e1 with e1
              subst e1
              rw [addr_add, Nat.zero_add] at cx
              have b1 : decide ((n : Int) < (ls : Int) - (j : Int)) = true := decide_eq_true (by omega)
              have hxr : (s.drop j).reverse[n]? = some x := by rw [Rw.rev_at (by rw [HSL.out]; omega), HSL.out, hp, hx]
              clear hx hp
              by_cases h2 : n + j < lt
              · obtain ⟨r, hr⟩ : ∃ r, lt - 1 - n = r := ⟨_, rfl⟩
                have hrl : r < lt := by omega
                have i2 : (lt : Int) - 1 - (n : Int) = (r : Int) := by omega
                obtain ⟨_, y, e2, hy, cy⟩ := HU6.out.cell hrl
                injection e2 with e2
                subst e2
                rw [addr_add, Nat.zero_add] at cy
                have b2 : decide ((n : Int) < (lt : Int) - (j : Int)) = true := decide_eq_true (by omega)
                have hyr : (t.drop j).reverse[n]? = some y := by rw [Rw.rev_at (by rw [HTL.out]; omega), HTL.out, hr, hy]
                clear hy hr
                by_cases hxy : x = y
                · subst hxy
                  have hb : C = true := by rw [← HCC.out, Rw.cpl_hit hxr hyr]; exact decide_eq_true (by omega)
                  subst hb
                  clear hxr hyr
                  go_quiet (fail)
                  go_wp2
                  go_meet
                  exact ⟨rfl, _, drewN2 _ _ _⟩
                · have e1 : (x == y) = false := by rw [beq_eq_false_iff_ne]; exact hxy
                  have hb : C = false := by rw [← HCC.out, Rw.cpl_miss hxr hyr hxy]; rfl
                  subst hb
                  clear hxr hyr hxy
                  go_quiet (fail)
                  go_wp2
                  go_meet
                  exact ⟨rfl, _, drewN2 _ _ _⟩
              · have b2 : decide ((n : Int) < (lt : Int) - (j : Int)) = false := decide_eq_false (by omega)
                have hb : C = false := by rw [← HCC.out, Rw.cpl_end (.inr (by rw [List.length_reverse, HTX.out]; omega))]; rfl
                subst hb
                clear hxr
                go_quiet (fail)
                go_wp2
                go_meet
                exact ⟨rfl, _, drewN2 _ _ _⟩
            · have b1 : decide ((n : Int) < (ls : Int) - (j : Int)) = false := decide_eq_false (by omega)
              have hb : C = false := by rw [← HCC.out, Rw.cpl_end (.inl (by rw [List.length_reverse, HSX.out]; omega))]; rfl
              subst hb
              go_quiet (fail)
              go_wp2
              go_meet
              exact ⟨rfl, _, drewN2 _ _ _⟩
          case rest =>
            obtain ⟨rfl, q2, rfl⟩ := hcut
            cases C with
            | true =>
              obtain ⟨h1, h2, h3⟩ := cpl_step (of_decide_eq_true HCC.out)
              have HN : Hid (Rw.cpl (s.drop j).reverse (t.drop j).reverse = n + 1 + Rw.cpl ((s.drop j).reverse.drop (n + 1)) ((t.drop j).reverse.drop (n + 1))) := by show _ = _; rw [HC2.out, h3]; omega
              rw [List.length_reverse, HSX.out] at h1
              rw [List.length_reverse, HTX.out] at h2
              clear h3
              go_wp2
              go_roundw
              case rel => exact ⟨n + 1, q2, by go_num, by omega, by omega, HN.out, rfl⟩
              case measure => simp [intOf] <;> omega
            | false =>
              have HBS : Hid (Rw.bsf s t = n) := by
                show _ = _
                unfold Rw.bsf
                rw [HJ.out, HC2.out]
                have := of_decide_eq_false HCC.out
                omega
              have g0 : w6.cell? ⟨gb, 0, none⟩ = some (.int .i64 j) := by rw [cell_of_row _ _ _ _ _ _ HG6.out]; rfl
              have g1 : w6.cell? ⟨gb, 1, none⟩ = some (.int .i64 0) := by rw [cell_of_row _ _ _ _ _ _ HG6.out]; rfl
              have g2 : w6.cell? ⟨gb, 2, none⟩ = some (.string ⟨#[]⟩) := by rw [cell_of_row _ _ _ _ _ _ HG6.out]; rfl
              have k0 : w6.frozen? ⟨gb, 0, none⟩ = false := frozen_of HG6.out
              have k1 : w6.frozen? ⟨gb, 1, none⟩ = false := frozen_of HG6.out
              have k2 : w6.frozen? ⟨gb, 2, none⟩ = false := frozen_of HG6.out
              go_upto_region 9 with fail
              have HG7 : Hid (((w6.drewN q2).setCell ⟨gb, 1, none⟩ (.int .i64 ((ls : Int) - (n : Int) - (j : Int)))).heap[gb]? = some (patO j ((ls : Int) - (n : Int) - (j : Int)) ⟨#[]⟩)) := (heap_set (show (w6.drewN q2).heap[gb]? = _ from HG6.out) _).trans rfl
              have HK7 : Hid (Kept (fun b => b = gb) w4 ((w6.drewN q2).setCell ⟨gb, 1, none⟩ (.int .i64 ((ls : Int) - (n : Int) - (j : Int))))) := (HK6.out.drewN q2).setCell (p := ⟨gb, 1, none⟩) rfl _
              clear g0 g1 g2 k0 k1 k2
              generalize (w6.drewN q2).setCell ⟨gb, 1, none⟩ (.int .i64 ((ls : Int) - (n : Int) - (j : Int))) = w7 at *
              have g0 : w7.cell? ⟨gb, 0, none⟩ = some (.int .i64 j) := by rw [cell_of_row _ _ _ _ _ _ HG7.out]; rfl
              have g2 : w7.cell? ⟨gb, 2, none⟩ = some (.string ⟨#[]⟩) := by rw [cell_of_row _ _ _ _ _ _ HG7.out]; rfl
              have k2 : w7.frozen? ⟨gb, 2, none⟩ = false := frozen_of HG7.out
              have hty := fun u => run_cut_lh u (some ⟨xb, 0, none⟩) lt cb j (lt - n) (j : Int) ((lt : Int) - (n : Int)) rfl (by omega) (by omega) (by omega)
              have HU7 : Hid (Rn w7 (some ⟨xb, 0, none⟩) lt t) := HU.out.kept HK7.out (fun a ha => by injection ha with ha; subst ha; show ¬ xb = gb; have := HZB.out; omega)
              have HY := Lib.hid (HU7.out.cut (lo := j) (hi := lt - n) (c := cb) (by omega) (by omega) (by omega))
              generalize cutB (some ⟨xb, 0, none⟩) cb j = Y at *
              obtain ⟨Sx, hSx⟩ : ∃ Sx, runesBytes ((t.take (lt - n)).drop j) = Sx := ⟨_, rfl⟩
              have htx : (convert 52 9 (.slice Y (lt - n - j) (cb - j))).run Tryd.prog w7 = .ok (.string Sx) w7 := by rw [← hSx]; exact run_txt HY.out
              have HSx := Lib.hid hSx
              clear hSx
              go_upto_region 10 with fail
              have HG8 : Hid ((w7.setCell ⟨gb, 2, none⟩ (.string Sx)).heap[gb]? = some (patO j ((ls : Int) - (n : Int) - (j : Int)) Sx)) := (heap_set HG7.out _).trans rfl
              have HK8 : Hid (Kept (fun b => b = gb) w4 (w7.setCell ⟨gb, 2, none⟩ (.string Sx))) := HK7.out.setCell (p := ⟨gb, 2, none⟩) rfl _
              clear g0 g2 k2 hty htx
              generalize w7.setCell ⟨gb, 2, none⟩ (.string Sx) = w8 at *
              have HH8 : Hid (w8.heap[g]? = some (patO 0 0 ⟨#[]⟩)) := (HK8.out.block g (heap_lt HG4.out) (fun e => by have := heap_lt HG4.out; have := HGB.out; omega)).trans HG4.out
              have c0 : w8.cell? ⟨gb, 0, none⟩ = some (.int .i64 j) := by rw [cell_of_row _ _ _ _ _ _ HG8.out]; rfl
              have c1 : w8.cell? ⟨gb, 1, none⟩ = some (.int .i64 ((ls : Int) - (n : Int) - (j : Int))) := by rw [cell_of_row _ _ _ _ _ _ HG8.out]; rfl
              have c2 : w8.cell? ⟨gb, 2, none⟩ = some (.string Sx) := by rw [cell_of_row _ _ _ _ _ _ HG8.out]; rfl
              have g0 : w8.cell? ⟨g, 0, none⟩ = some (.int .i64 0) := by rw [cell_of_row _ _ _ _ _ _ HH8.out]; rfl
              have g1 : w8.cell? ⟨g, 1, none⟩ = some (.int .i64 0) := by rw [cell_of_row _ _ _ _ _ _ HH8.out]; rfl
              have g2 : w8.cell? ⟨g, 2, none⟩ = some (.string ⟨#[]⟩) := by rw [cell_of_row _ _ _ _ _ _ HH8.out]; rfl
              have k0 : w8.frozen? ⟨g, 0, none⟩ = false := frozen_of HH8.out
              have k1 : w8.frozen? ⟨g, 1, none⟩ = false := frozen_of HH8.out
              have k2 : w8.frozen? ⟨g, 2, none⟩ = false := frozen_of HH8.out
              go_wp2
              refine bodyPost_ret (res_pat1 rfl _ _ g (j : Int) ((ls : Int) - (n : Int) - (j : Int)) Sx (0, 0) rfl ((heap_set (heap_set (heap_set HH8.out _) _) _).trans rfl)) rfl ⟨?_, ?_⟩
              · have e1 : ((ls : Int) - (n : Int) - (j : Int)) = (Rw.bdel s t : Nat) := by unfold Rw.bdel; rw [HJ.out, HBS.out, HSL.out]; omega
                have e2 : Rw.bins s t = (t.take (lt - n)).drop j := by unfold Rw.bins; rw [HJ.out, HBS.out, HTL.out, List.drop_take]; congr 1; omega
                unfold btw
                rw [e2, HSx.out, HJ.out, e1]
              · exact (HK34.out.fresh HK8.out (fun b hb e => by have := HGB.out; have := HK34.out.size; omega)).fresh ((((Kept.refl (fun b => b = g) w8).setCell (p := ⟨g, 0, none⟩) rfl _).setCell (p := ⟨g, 1, none⟩) rfl _).setCell (p := ⟨g, 2, none⟩) rfl _) (fun b hb e => by have := HGS.out; omega)
end Go.Proofs.YtonenopfdoagcaaDoor
