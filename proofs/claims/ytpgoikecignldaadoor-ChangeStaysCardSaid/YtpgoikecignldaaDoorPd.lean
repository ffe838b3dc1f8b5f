/-
  Place OF THE PROGRAM: where there is no such offset.
-/
import Derived.Test.YtpgoikecignldaaDoorPc
set_option linter.unusedVariables false
namespace Go.Proofs.YtpgoikecignldaaDoor
open Go Go.RowKit

set_option maxRecDepth 100000 in
set_option maxHeartbeats 1000000 in
theorem place_none (s : ByteArray) (k : Int) (w : World) (hT : Tabs w) (hm : mayB s = true) (hk : ¬ (0 ≤ k ∧ k ≤ (rs s).length)) :
    Calls Tryd.prog 42 #[.string s, .int .i64 k] w fun e w' => e = .returned (.tuple #[.agg #[.int .i64 0, .int .i64 0], .int .i64 3]) ∧ Kept (fun _ => False) w w' := by
  have hka : Kept (fun _ => False) w (w.alloc (posO 0 0)) := (Kept.refl _ w).alloc _
  have cC := check_any s (w.alloc (posO 0 0)) (by have := mayB_size hm; omega) (hT.kept hka id id)
  rw [hm] at cC
  have hl := rs_len s
  have hsz := mayB_size hm
  have hrs : Utf.runes s.data.toList = rs s := rfl
  generalize rs s = t at *
  have HKA := Lib.hid hka
  have HRS := Lib.hid hrs
  clear hT hm hka hrs
  go_enter Tryd.func42, Tryd.ntmps42
  go_wp2_with (go_at_call 32; refine cC.mono ?_; rintro e w1 ⟨rfl, hk1⟩; have HK1 := Lib.hid hk1; clear hk1 cC)
  have hsz1 : w.heap.size < w1.heap.size := by have := HK1.out.size; simp at this; omega
  have hr0 : w1.heap[w.heap.size]? = some (posO 0 0) := (HK1.out.block _ (by simp) id).trans (heap_alloc_new w _)
  have hk2 : Kept (fun _ => False) w ((w1.alloc (posO 0 0)).alloc (.stringIter s 0)) := ((HKA.out.trans HK1.out).alloc _).alloc _
  have hr2 : ((w1.alloc (posO 0 0)).alloc (.stringIter s 0)).heap[w.heap.size]? = some (posO 0 0) := (heap_alloc_old _ _ (by simp; omega)).trans ((heap_alloc_old _ _ hsz1).trans hr0)
  have hp2 : ((w1.alloc (posO 0 0)).alloc (.stringIter s 0)).heap[w1.heap.size]? = some (posO 0 0) := (heap_alloc_old _ _ (by simp)).trans (heap_alloc_new w1 _)
  have hi2 : ((w1.alloc (posO 0 0)).alloc (.stringIter s 0)).heap[w1.heap.size + 1]? = some (.stringIter s 0) := by
    have := heap_alloc_new (w1.alloc (posO 0 0)) (.stringIter s 0)
    rwa [show (w1.alloc (posO 0 0)).heap.size = w1.heap.size + 1 by simp] at this
  unfold World.iter
  have hst : PlRel w ((w1.alloc (posO 0 0)).alloc (.stringIter s 0)) s t w.heap.size w1.heap.size (w1.heap.size + 1) 0 := ⟨hk2, hr2, by rw [hp2]; rfl, 0, hi2, by rw [List.drop_zero]; exact HRS.out⟩
  have HST := Lib.hid hst
  clear hst hr0 hk2 hr2 hp2 hi2
  generalize (w1.alloc (posO 0 0)).alloc (.stringIter s 0) = W at *
  obtain ⟨gr, hgr⟩ : ∃ gr, w.heap.size = gr := ⟨_, rfl⟩
  obtain ⟨gp, hgp⟩ : ∃ gp, w1.heap.size = gp := ⟨_, rfl⟩
  obtain ⟨gi, hgi⟩ : ∃ gi, w1.heap.size + 1 = gi := ⟨_, rfl⟩
  have HGR := Lib.hid hgr
  have hx1 : gr < gp := by omega
  have hx2 : gp < gi := by omega
  have HX := Lib.hid (And.intro hx1 hx2)
  simp only [hgi] at HST ⊢
  simp only [hgp, hgr] at HST ⊢
  clear hgr hgp hgi hsz1 hx1 hx2
  go_loopw [8] (fun v wr => ∃ j : Nat, j ≤ t.length ∧ v = .int .i64 j ∧ PlRel w wr s t gr gp gi j) (fun _ wr => s.size - wr.iterPos gi)
  case atStart => exact ⟨0, Nat.zero_le _, rfl, HST.out⟩
  case round =>
    obtain ⟨j, hj, rfl, hrel⟩ := hrel
    obtain ⟨hkw, hr, hp, pos, hi, hdr⟩ := hrel
    have hpos := iterPos_at hi
    have HKW := Lib.hid hkw
    have HR := Lib.hid hr
    have HP := Lib.hid hp
    have HI := Lib.hid hi
    have HDR := Lib.hid hdr
    have HPOS := Lib.hid hpos
    clear hkw hr hp hi hdr hpos
    by_cases hps : pos < s.size
    · obtain ⟨hc, hdr2, hlt⟩ := rune_step HDR.out hps
      have hnx : ∀ ty, (Instr.next (.pointer (some ⟨gi, 0, none⟩)) true ty).run Tryd.prog wr = _ := fun ty => run_next_at wr gi s pos ty HI.out hps
      have HC := Lib.hid hc
      have HDR2 := Lib.hid hdr2
      generalize (Utf8.decode s pos).2 = wd at *
      generalize ((Utf8.decode s pos).1 : Int) = c at *
      clear hc hdr2
      go_upto_region 9 with fail
      have HK2 : Hid (Kept (fun _ => False) w (setIter wr gi s (pos + wd))) := HKW.out.fresh (Kept.iter wr gi s _) (fun b hb e => by have := HGR.out; have := HX.out; omega)
      have hr2 : (setIter wr gi s (pos + wd)).heap[gr]? = some (posO 0 0) := (iter_far (by have := HX.out; omega)).trans HR.out
      have hp2 : (setIter wr gi s (pos + wd)).heap[gp]? = some (posO (Rw.nl t j : Nat) (j - Rw.beg t j : Nat)) := (iter_far (by have := HX.out; omega)).trans HP.out
      have hi2 := iter_same (s := s) (pos := pos + wd) HI.out
      generalize setIter wr gi s (pos + wd) = W2 at *
      have HP2 := Lib.hid (iterPos_at hi2)
      obtain ⟨cl, hcl⟩ : ∃ cl, j - Rw.beg t j = cl := ⟨_, rfl⟩
      obtain ⟨ro, hrw⟩ : ∃ ro, Rw.nl t j = ro := ⟨_, rfl⟩
      have hnl := Rw.nl_le t j
      have HCL := Lib.hid hcl
      have HRW := Lib.hid hrw
      rw [hcl, hrw] at hp2
      have hcl4 : cl ≤ 4000 := by omega
      have hrw4 : ro ≤ 4000 := by omega
      have c0 : W2.cell? ⟨gp, 0, none⟩ = some (.int .i64 (ro : Nat)) := by rw [cell_of_row _ _ _ _ _ _ hp2]; rfl
      have c1 : W2.cell? ⟨gp, 1, none⟩ = some (.int .i64 (cl : Nat)) := by rw [cell_of_row _ _ _ _ _ _ hp2]; rfl
      have f0 : W2.frozen? ⟨gp, 0, none⟩ = false := frozen_of hp2
      have f1 : W2.frozen? ⟨gp, 1, none⟩ = false := frozen_of hp2
      have d0 : W2.cell? ⟨gr, 0, none⟩ = some (.int .i64 0) := by rw [cell_of_row _ _ _ _ _ _ hr2]; rfl
      have d1 : W2.cell? ⟨gr, 1, none⟩ = some (.int .i64 0) := by rw [cell_of_row _ _ _ _ _ _ hr2]; rfl
      have e0 : W2.frozen? ⟨gr, 0, none⟩ = false := frozen_of hr2
      have e1 : W2.frozen? ⟨gr, 1, none⟩ = false := frozen_of hr2
      have hne : gr ≠ gp := by have := HX.out; omega
      have HRR := Lib.hid hr2
      have HPP := Lib.hid hp2
      have HII := Lib.hid hi2
      have HNE := Lib.hid hne
      clear hr2 hp2 hi2 hcl hrw hnl hnx hne
      have hjt : j < t.length := (List.getElem?_eq_some_iff.1 HC.out).1
      have e3 : ((j : Int) == k) = false := by rw [beq_eq_false_iff_ne]; omega
      have hjk1 : j + 1 ≤ t.length := hjt
      clear hjt
      · by_cases h10 : c = 10
        · subst h10
          have HU := Lib.hid (Rw.nl_up HC.out)
          have HV := Lib.hid (Rw.col_up HC.out)
          go_wp2
          go_roundw
          case rel =>
            refine ⟨j + 1, hjk1, by go_num, ?_, ?_, ?_, pos + wd, ?_, HDR2.out⟩
            · exact HK2.out.fresh ((((Kept.refl (fun b => b = gp) W2).setCell (p := ⟨gp, 1, none⟩) rfl _).setCell (p := ⟨gp, 0, none⟩) rfl _).setCell (p := ⟨gp, 1, none⟩) rfl _) (fun b hb e => by have := HGR.out; have := HX.out; omega)
            · exact (heap_far HNE.out _).trans ((heap_far HNE.out _).trans ((heap_far HNE.out _).trans HRR.out))
            · rw [heap_set (heap_set (heap_set HPP.out _) _) _, HU.out, HV.out, HRW.out]
              rfl
            · exact (heap_far (by have := HX.out; omega) _).trans ((heap_far (by have := HX.out; omega) _).trans ((heap_far (by have := HX.out; omega) _).trans HII.out))
          case measure =>
            rw [iterPos_at ((heap_far (by have := HX.out; omega) _).trans ((heap_far (by have := HX.out; omega) _).trans ((heap_far (by have := HX.out; omega) _).trans HII.out))), HPOS.out]
            omega
        · have b3 : (c == 10) = false := by rw [beq_eq_false_iff_ne]; exact h10
          have HU := Lib.hid (Rw.nl_stay (t := t) (k := j) (by rw [HC.out]; intro e; injection e with e; exact h10 e))
          have HV := Lib.hid (Rw.col_stay (t := t) (j := j) (by rw [HC.out]; intro e; injection e with e; exact h10 e))
          clear h10
          go_wp2
          go_roundw
          case rel =>
            refine ⟨j + 1, hjk1, by go_num, ?_, ?_, ?_, pos + wd, ?_, HDR2.out⟩
            · exact HK2.out.fresh ((Kept.refl (fun b => b = gp) W2).setCell (p := ⟨gp, 1, none⟩) rfl _) (fun b hb e => by have := HGR.out; have := HX.out; omega)
            · exact (heap_far HNE.out _).trans HRR.out
            · rw [heap_set HPP.out _, HU.out, HV.out, HRW.out, HCL.out]
              rfl
            · exact (heap_far (by have := HX.out; omega) _).trans HII.out
          case measure =>
            rw [iterPos_at ((heap_far (by have := HX.out; omega) _).trans HII.out), HPOS.out]
            omega
    · have hjn := rune_stop HDR.out hps (by omega)
      have hnx : ∀ ty, (Instr.next (.pointer (some ⟨gi, 0, none⟩)) true ty).run Tryd.prog wr = _ := fun ty => run_next_done wr gi s pos ty HI.out hps
      have d0 : wr.cell? ⟨gr, 0, none⟩ = some (.int .i64 0) := by rw [cell_of_row _ _ _ _ _ _ HR.out]; rfl
      have d1 : wr.cell? ⟨gr, 1, none⟩ = some (.int .i64 0) := by rw [cell_of_row _ _ _ _ _ _ HR.out]; rfl
      have e0 : wr.frozen? ⟨gr, 0, none⟩ = false := frozen_of HR.out
      have e1 : wr.frozen? ⟨gr, 1, none⟩ = false := frozen_of HR.out
      have e3 : ((j : Int) == k) = false := by rw [beq_eq_false_iff_ne]; omega
      have e4 : ((j : Int) != k) = true := by rw [bne_iff_ne]; omega
      clear hps hjn
      go_wp2
      refine bodyPost_ret (res_pos rfl _ _ gr 0 0 (0, 0) rfl (by rw [heap_set (heap_set HR.out _) _]; rfl)) rfl ⟨rfl, ?_⟩
      exact HKW.out.fresh (((Kept.refl (fun b => b = gr) wr).setCell (p := ⟨gr, 0, none⟩) rfl _).setCell (p := ⟨gr, 1, none⟩) rfl _) (fun b hb e => by have := HGR.out; omega)
end Go.Proofs.YtpgoikecignldaaDoor
