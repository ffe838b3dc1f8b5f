/-
  PatchBetween: the law's walk.
-/
import Derived.Test.YtonenopfdoagcaaDoorPtN
set_option linter.unusedVariables false
namespace Go.Proofs.YtonenopfdoagcaaDoor
open Go Go.RowKit

set_option maxRecDepth 100000 in
set_option maxHeartbeats 4000000 in
theorem patchBetween_any (p : AskQ) (w : World) (hp : AskQOk w p) (hT : Tabs w) :
    Calls Tryd.prog 3 #[.agg p.cells] w fun e w' => e = .returned (.bool true) ∧ Kept (fun _ => False) w w' := by
  have hK0 : Hid (Kept (fun _ => False) w (w.alloc (.cells p.cells 29))) := (Kept.refl _ w).alloc _
  have hH0 : Hid (HeldQ (w.alloc (.cells p.cells 29)) w.heap.size p) := ⟨heap_alloc_new w _, hp.kept hK0.out, hT.kept hK0.out id id⟩
  have cH := heavy4_any p (w.alloc (.cells p.cells 29)) hH0.out.ask
  clear hp hT
  obtain ⟨A, n0, c0, ss, xa, xb, xr, xc, B, m, e0, ps, xq⟩ := p
  unfold AskQ.cells at *
  simp only at *
  go_enter Tryd.func3, Tryd.ntmps3
  go_wp2_with (go_at_call 6; refine cH.mono ?_; rintro e w1 ⟨⟨hv, rfl, hsm⟩, hk1⟩; have HS := Lib.hid hsm; have HK1 := Lib.hid (hK0.out.trans hk1); have HH := Lib.hid (hH0.out.kept hk1); clear hsm hk1 hH0 hK0 cH)
  · exact bodyPost_ret (results_tmp rfl _ _ _) rfl ⟨rfl, HK1.out⟩
  have hv0 : hv = false := by assumption
  subst hv0
  have HSS := Lib.hid (HS.out rfl).1
  clear HS
  generalize hpb : w.heap.size = pb at HH ⊢
  have HPB := Lib.hid hpb
  clear hpb
  go_loopw [3] (fun v wr => ∃ i : Nat, i ≤ n0 ∧ i ≤ 5 ∧ v = .int .i64 i ∧ Kept (fun _ => False) w1 wr) (fun v _ => n0 - (intOf v).toNat)
  case atStart => exact ⟨0, Nat.zero_le _, Nat.zero_le _, rfl, Kept.refl _ _⟩
  case round =>
    obtain ⟨i, hi, hi4, rfl, hki⟩ := hrel
    obtain ⟨wi, hwi⟩ : ∃ wi, wi = wr := ⟨_, rfl⟩
    subst hwi
    have HKi := Lib.hid (HK1.out.trans hki)
    have HHi := Lib.hid (HH.out.kept hki)
    have HKW := Lib.hid hki
    clear hki
    have p0 : wi.cell? ⟨pb, 0, none⟩ = some (.slice A n0 c0) := HHi.out.pb.c 0
    by_cases hgo : i < n0 ∧ i < 5
    · obtain ⟨g1, g2⟩ := hgo
      obtain ⟨ad, a, rfl, hs, hsc, _⟩ := HHi.out.ask.ss.cell g1
      have hsa : a.size ≤ 6000 := HSS.out a (List.mem_of_getElem? hs)
      have HSA : Hid (∀ W, Kept (fun _ => False) wi W → W.cell? (ad.add i) = some (.string a) ∧ W.cell? ⟨pb, 0, none⟩ = some (.slice (some ad) n0 c0)) := fun W h => ⟨cell_kept h hsc id, cell_kept h p0 id⟩
      clear hs hsc
      have b1 : decide (i < n0) = true := by simp; omega
      have b2 : decide (i < 5) = true := by simp; omega
      have b3 : decide ((i : Int) < 5) = true := by simp; omega
      have hi0 : (0 : Int) ≤ (i : Int) := by omega
      have hin : (i : Int) < (n0 : Int) := by omega
      go_wp2_with fail
      clear b1 b2 b3 p0
      go_loopw [4] (fun v wr => ∃ k : Nat, k ≤ n0 ∧ k ≤ 5 ∧ v = .int .i64 k ∧ Kept (fun _ => False) wi wr) (fun v _ => n0 - (intOf v).toNat)
      case atStart => exact ⟨0, Nat.zero_le _, Nat.zero_le _, rfl, Kept.refl _ _⟩
      case round =>
        obtain ⟨k, hk, hk4, rfl, hkk⟩ := hrel
        obtain ⟨wk, hwk⟩ : ∃ wk, wk = wr := ⟨_, rfl⟩
        subst hwk
        have HKK := Lib.hid hkk
        have HHk := Lib.hid (HHi.out.kept hkk)
        clear hkk
        obtain ⟨sa, p0⟩ := HSA.out wk HKK.out
        by_cases hgo : k < n0 ∧ k < 5
        · obtain ⟨g3, g4⟩ := hgo
          obtain ⟨ad', b, ead, hs, sb, _⟩ := HHk.out.ask.ss.cell g3
          injection ead with ead
          subst ead
          have hsb : b.size ≤ 6000 := HSS.out b (List.mem_of_getElem? hs)
          clear hs
          have b1 : decide (k < n0) = true := by simp; omega
          have b2 : decide (k < 5) = true := by simp; omega
          have b3 : decide ((k : Int) < 5) = true := by simp; omega
          have hk0 : (0 : Int) ≤ (k : Int) := by omega
          have hkn : (k : Int) < (n0 : Int) := by omega
          have HTk : Hid (∀ q, Tabs (wk.drewN q)) := fun q => HHk.out.tabs
          go_upto_region 9 with fail
          clear b1 b2 b3
          go_quiet (fail)
          by_cases hgood : mayB a = true ∧ mayB b = true
          · obtain ⟨hma, hmb⟩ := hgood
            have hza := mayB_size hma
            have hzb := mayB_size hmb
            have cB := fun W hW => between_yes a b W hW hma hmb
            have cR := fun W => rbetween_yes a b W hza hzb
            have cA := fun W hW => papply_b a b W hW hma hmb
            have cMa := fun W hW => rmay_any a W (by omega) hW
            have cMb := fun W hW => rmay_any b W (by omega) hW
            rw [hma] at cMa
            rw [hmb] at cMb
            unfold btw at cB cR cA
            generalize ((Rw.bat (rs a) (rs b) : Nat) : Int) = PA at *
            generalize ((Rw.bdel (rs a) (rs b) : Nat) : Int) = PD at *
            generalize runesBytes (Rw.bins (rs a) (rs b)) = PI at *
            have HB := Lib.hid cB
            have HR := Lib.hid cR
            have HA := Lib.hid cA
            have HMA := Lib.hid cMa
            have HMB := Lib.hid cMb
            clear cB cR cA cMa cMb hma hmb
            go_wp2_with fail
            refine (HB.out _ (HTk.out _)).mono ?_
            rintro e w5 ⟨rfl, hk5⟩
            have HK5 : Hid (Kept (fun _ => False) wk w5) := ((Kept.refl (fun _ => False) wk).drewN _).trans hk5
            clear hk5 sa sb p0
            go_wp2_with fail
            have hk6 : Kept (fun _ => False) w5 ((w5.alloc (patO PA PD PI)).alloc (patO 0 0 ⟨#[]⟩)) := ((Kept.refl _ w5).alloc _).alloc _
            have hz : (w5.alloc (patO PA PD PI)).heap.size = w5.heap.size + 1 := by simp
            have h10 : ((w5.alloc (patO PA PD PI)).alloc (patO 0 0 ⟨#[]⟩)).heap[w5.heap.size + 1]? = some (patO 0 0 ⟨#[]⟩) := by rw [← hz]; exact heap_alloc_new _ _
            have h7 : ((w5.alloc (patO PA PD PI)).alloc (patO 0 0 ⟨#[]⟩)).heap[w5.heap.size]? = some (patO PA PD PI) :=
              (((Kept.refl (fun _ => False) (w5.alloc (patO PA PD PI))).alloc (patO 0 0 ⟨#[]⟩)).block w5.heap.size (by rw [hz]; omega) id).trans (heap_alloc_new w5 _)
            try simp only [hz]
            clear hz
            have HK6 := Lib.hid (HK5.out.trans hk6)
            have HZ : Hid (wk.heap.size ≤ w5.heap.size) := HK5.out.size
            clear hk6
            generalize (w5.alloc (patO PA PD PI)).alloc (patO 0 0 ⟨#[]⟩) = w6 at *
            generalize w5.heap.size = g at *
            have H7 := Lib.hid h7
            have H10 := Lib.hid h10
            clear h7 h10
            have HT6 := Lib.hid (HHk.out.tabs.kept HK6.out id id)
            refine (HMA.out w6 HT6.out).mono ?_
            rintro e w7 ⟨rfl, hk7⟩
            have HT7 := Lib.hid (HT6.out.kept hk7 id id)
            go_wp2_with fail
            refine (HMB.out w7 HT7.out).mono ?_
            rintro e w8 ⟨rfl, hk8⟩
            have HT8 := Lib.hid (HT7.out.kept hk8 id id)
            go_wp2_with fail
            refine (HR.out w8).mono ?_
            rintro e w9 ⟨rfl, hk9⟩
            have hk79 := (hk7.trans hk8).trans hk9
            have h7 := (hk79.block g (heap_lt H7.out) id).trans H7.out
            have h10 := (hk79.block (g + 1) (heap_lt H10.out) id).trans H10.out
            have HT9 := Lib.hid (HT8.out.kept hk9 id id)
            have HK9 := Lib.hid (HK6.out.trans hk79)
            clear hk7 hk8 hk9 hk79 H7 H10
            obtain ⟨d0, d1, d2⟩ := pat_cells h10
            have k0 : w9.frozen? ⟨g + 1, 0, none⟩ = false := frozen_of h10
            have k1 : w9.frozen? ⟨g + 1, 1, none⟩ = false := frozen_of h10
            have k2 : w9.frozen? ⟨g + 1, 2, none⟩ = false := frozen_of h10
            have H7 := Lib.hid h7
            have H10 := Lib.hid h10
            clear h7 h10
            go_wp2_with fail
            obtain ⟨wx, hwx⟩ : ∃ wx, (((w9.setCell ⟨g + 1, 0, none⟩ (.int .i64 PA)).setCell ⟨g + 1, 1, none⟩ (.int .i64 PD)).setCell ⟨g + 1, 2, none⟩ (.string PI)) = wx := ⟨_, rfl⟩
            have h10 : wx.heap[g + 1]? = some (patO PA PD PI) := by
              rw [← hwx, heap_set (heap_set (heap_set H10.out _) _) _]
              rfl
            have h7 : wx.heap[g]? = some (patO PA PD PI) := by
              rw [← hwx]
              exact (heap_far (by omega) _).trans ((heap_far (by omega) _).trans ((heap_far (by omega) _).trans H7.out))
            have hkx : Kept (fun b => b = g + 1) w9 wx := by
              rw [← hwx]
              exact (((Kept.refl (fun b => b = g + 1) w9).setCell (p := ⟨g + 1, 0, none⟩) rfl _).setCell (p := ⟨g + 1, 1, none⟩) rfl _).setCell (p := ⟨g + 1, 2, none⟩) rfl _
            have hkx2 : Kept (fun _ => False) wk wx := HK9.out.fresh hkx (fun q hq e => by have := HZ.out; omega)
            have HTX := Lib.hid (HHk.out.tabs.kept hkx2 id id)
            have HKX := Lib.hid hkx2
            obtain ⟨q0, q1, q2⟩ := pat_cells h7
            obtain ⟨r0, r1, r2⟩ := pat_cells h10
            rw [hwx]
            clear hwx h10 h7 hkx hkx2 d0 d1 d2 k0 k1 k2
            go_wp2_with (first
              | (go_at_call 10; refine (pnum_any _ _).mono ?_; rintro e w' ⟨rfl, hw⟩; have hw2 := hw.symm; subst hw2)
              | (go_at_call 11; refine (HA.out _ HTX.out).mono ?_; rintro e wy ⟨rfl, hky⟩; have HKY := Lib.hid (HKX.out.trans hky); clear hky q0 q1 q2 r0 r1 r2))
            go_roundw
            case rel => exact ⟨k + 1, by omega, by omega, by go_num, HKK.out.trans HKY.out⟩
            case measure => simp [intOf]; omega
          · have cB := fun W hW => between_no a b W hW (by omega) (by omega) hgood
            have hway : mayB a = false ∨ (mayB a = true ∧ mayB b = false) := by
              cases hma : mayB a with
              | false => exact .inl rfl
              | true => exact .inr ⟨rfl, by cases hmb : mayB b with | false => rfl | true => exact absurd ⟨hma, hmb⟩ hgood⟩
            have cMa := fun W hW => rmay_any a W (by omega) hW
            have cMb := fun W hW => rmay_any b W (by omega) hW
            have HB := Lib.hid cB
            clear cB hgood
            go_wp2_with fail
            refine (HB.out _ (HTk.out _)).mono ?_
            rintro e w5 ⟨rfl, hk5⟩
            have HK5 : Hid (Kept (fun _ => False) wk w5) := ((Kept.refl (fun _ => False) wk).drewN _).trans hk5
            clear hk5 sa sb p0
            go_wp2_with fail
            have hk6 : Kept (fun _ => False) w5 ((w5.alloc (patO 0 0 ⟨#[]⟩)).alloc (patO 0 0 ⟨#[]⟩)) := ((Kept.refl _ w5).alloc _).alloc _
            have hz : (w5.alloc (patO 0 0 ⟨#[]⟩)).heap.size = w5.heap.size + 1 := by simp
            have h10 : ((w5.alloc (patO 0 0 ⟨#[]⟩)).alloc (patO 0 0 ⟨#[]⟩)).heap[w5.heap.size + 1]? = some (patO 0 0 ⟨#[]⟩) := by rw [← hz]; exact heap_alloc_new _ _
            have h7 : ((w5.alloc (patO 0 0 ⟨#[]⟩)).alloc (patO 0 0 ⟨#[]⟩)).heap[w5.heap.size]? = some (patO 0 0 ⟨#[]⟩) :=
              (((Kept.refl (fun _ => False) (w5.alloc (patO 0 0 ⟨#[]⟩))).alloc (patO 0 0 ⟨#[]⟩)).block w5.heap.size (by rw [hz]; omega) id).trans (heap_alloc_new w5 _)
            try simp only [hz]
            clear hz
            have HK6 := Lib.hid (HK5.out.trans hk6)
            clear hk6
            generalize (w5.alloc (patO 0 0 ⟨#[]⟩)).alloc (patO 0 0 ⟨#[]⟩) = w6 at *
            generalize w5.heap.size = g at *
            have H7 := Lib.hid h7
            have H10 := Lib.hid h10
            clear h7 h10
            have HT6 := Lib.hid (HHk.out.tabs.kept HK6.out id id)
            rcases hway with hma | ⟨hma, hmb⟩
            · rw [hma] at cMa
              have HMA := Lib.hid cMa
              clear cMa cMb hma
              refine (HMA.out w6 HT6.out).mono ?_
              rintro e w7 ⟨rfl, hk7⟩
              obtain ⟨q0, q1, q2⟩ := pat_cells ((hk7.block g (heap_lt H7.out) id).trans H7.out)
              obtain ⟨r0, r1, r2⟩ := pat_cells ((hk7.block (g + 1) (heap_lt H10.out) id).trans H10.out)
              have HK7 := Lib.hid (HK6.out.trans hk7)
              clear hk7
              go_wp2_with (go_at_call 10; refine (pnum_any _ _).mono ?_; rintro e w' ⟨rfl, hw⟩; have hw2 := hw.symm; subst hw2)
              go_roundw
              case rel => exact ⟨k + 1, by omega, by omega, by go_num, HKK.out.trans HK7.out⟩
              case measure => simp [intOf]; omega
            · rw [hma] at cMa
              rw [hmb] at cMb
              have HMA := Lib.hid cMa
              have HMB := Lib.hid cMb
              clear cMa cMb hma hmb
              refine (HMA.out w6 HT6.out).mono ?_
              rintro e w7' ⟨rfl, hk7'⟩
              have HT7 := Lib.hid (HT6.out.kept hk7' id id)
              go_wp2_with fail
              refine (HMB.out w7' HT7.out).mono ?_
              rintro e w7 ⟨rfl, hk7b⟩
              have hk7 := hk7'.trans hk7b
              obtain ⟨q0, q1, q2⟩ := pat_cells ((hk7.block g (heap_lt H7.out) id).trans H7.out)
              obtain ⟨r0, r1, r2⟩ := pat_cells ((hk7.block (g + 1) (heap_lt H10.out) id).trans H10.out)
              have HK7 := Lib.hid (HK6.out.trans hk7)
              clear hk7 hk7' hk7b
              go_wp2_with (go_at_call 10; refine (pnum_any _ _).mono ?_; rintro e w' ⟨rfl, hw⟩; have hw2 := hw.symm; subst hw2)
              go_roundw
              case rel => exact ⟨k + 1, by omega, by omega, by go_num, HKK.out.trans HK7.out⟩
              case measure => simp [intOf]; omega
        · have hlast : (k = n0 ∧ k < 5) ∨ (k < n0 ∧ k = 5) ∨ (k = n0 ∧ k = 5) := by omega
          rcases hlast with ⟨h1, h2⟩ | ⟨h1, h2⟩ | ⟨h1, h2⟩
          case' inl | inr.inr => have b1 : decide (k < n0) = false := by simp; omega
          case' inr.inl =>
            have b1 : decide (k < n0) = true := by simp; omega
            have b2 : decide (k < 5) = false := by simp; omega
            have b3 : decide ((k : Int) < 5) = false := by simp; omega
          all_goals
            clear h1 h2
            go_wp2_with fail
            go_roundw
            case rel => exact ⟨i + 1, by omega, by omega, by go_num, HKW.out.trans HKK.out⟩
            case measure => simp [intOf]; omega
    · have hlast : (i = n0 ∧ i < 5) ∨ (i < n0 ∧ i = 5) ∨ (i = n0 ∧ i = 5) := by omega
      have cW := pwakes_any wi HHi.out.tabs
      rcases hlast with ⟨h1, h2⟩ | ⟨h1, h2⟩ | ⟨h1, h2⟩
      case' inl | inr.inr => have b1 : decide (i < n0) = false := by simp; omega
      case' inr.inl =>
        have b1 : decide (i < n0) = true := by simp; omega
        have b2 : decide (i < 5) = false := by simp; omega
        have b3 : decide ((i : Int) < 5) = false := by simp; omega
      all_goals
        clear h1 h2
        go_wp2_with (go_at_call 12; refine cW.mono ?_; rintro e w9 ⟨rfl, hk9⟩)
        go_ret
        exact ⟨rfl, HKi.out.trans hk9⟩
end Go.Proofs.YtonenopfdoagcaaDoor
