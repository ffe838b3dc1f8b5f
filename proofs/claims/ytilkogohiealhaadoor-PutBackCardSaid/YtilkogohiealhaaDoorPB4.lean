/-
  A RANGE OVER A STRING, wherever its iterator lies; a place as a result.
  Place OF THE PROGRAM: the row and the column of an offset.
  Place OF THE PROGRAM: where there is no such offset.
  WHERE A RUNE STANDS AMONG A TEXT's BYTES, of the program; Rest.
  Rest OF THE PROGRAM: where normal mode's cursor stands.
  THE REFERENCE's Rest (for seats where Tr does not fill).
-/
import Derived.Test.YtilkogohiealhaaDoorPB3
import Derived.Test.YtilkogohiealhaaDoorPA1
import Derived.Test.YtilkogohiealhaaDoorPB2
import Derived.Laws.Rows
import Derived.Laws.ResultCell
set_option linter.unusedVariables false
namespace Go.Proofs.YtilkogohiealhaaDoor
open Go Go.RowKit

/-- The iterator set on. -/
def setIter (w : World) (g : Nat) (s : ByteArray) (pos : Nat) : World := { w with heap := w.heap.setIfInBounds g (.stringIter s pos) }
theorem run_next_at (w : World) (g : Nat) (s : ByteArray) (pos : Nat) (ty : TypeId) (hg : w.heap[g]? = some (.stringIter s pos)) (hp : pos < s.size) :
    (Instr.next (.pointer (some ⟨g, 0, none⟩)) true ty).run Tryd.prog w = .ok (.tuple #[.bool true, .int .i64 pos, .int .i32 (Utf8.decode s pos).1]) (setIter w g s (pos + (Utf8.decode s pos).2)) := by
  simp only [Instr.next, getObj, setObj, Sem.run_bind, Sem.run, hg, Result.andThen, hp, if_true]
  simp [goInt, setIter]
theorem run_next_done (w : World) (g : Nat) (s : ByteArray) (pos : Nat) (ty : TypeId) (hg : w.heap[g]? = some (.stringIter s pos)) (hp : ¬ pos < s.size) :
    (Instr.next (.pointer (some ⟨g, 0, none⟩)) true ty).run Tryd.prog w = .ok (.tuple #[.bool false]) w := by
  simp [Instr.next, getObj, Sem.run, hg, hp]
theorem iter_same {w : World} {g : Nat} {o : Obj} {s : ByteArray} {pos : Nat} (h : w.heap[g]? = some o) : (setIter w g s pos).heap[g]? = some (.stringIter s pos) := by
  have := heap_lt h
  simp [setIter, this]
theorem iter_far {w : World} {g b : Nat} {s : ByteArray} {pos : Nat} (h : b ≠ g) : (setIter w g s pos).heap[b]? = w.heap[b]? := by
  simp [setIter, Ne.symm h]
theorem Kept.iter (w : World) (g : Nat) (s : ByteArray) (pos : Nat) : Kept (fun b => b = g) w (setIter w g s pos) :=
  ⟨rfl, rfl, rfl, by simp [setIter], fun k _ hk => iter_far hk⟩
theorem iterPos_at {w : World} {g : Nat} {s : ByteArray} {pos : Nat} (h : w.heap[g]? = some (.stringIter s pos)) : w.iterPos g = pos := by
  unfold World.iterPos
  rw [h]
/-- A place in memory, told with an error. -/
theorem res_pos {fn : Func} {p u : Tmp} (h : fn.results = #[.cell p 24, .tmp u]) (tmps : Array Value) (w : World) (g : Nat) (a b : Int) (fr : Nat × Nat) (hp : tmps.getD p undef = .pointer (some ⟨g, 0, none⟩)) (hg : w.heap[g]? = some (.cells #[.int .i64 a, .int .i64 b] 24 fr)) :
    (results fn tmps).run Tryd.prog w = .ok (.tuple #[.agg #[.int .i64 a, .int .i64 b], tmps.getD u undef]) w := by
  rw [results_cell_tmp h, hp]
  simp [asAddr, Result.andThen, run_loadVar_row w g _ _ _ _ _ hg Tryd.underlying24 rfl (by kernel_rfl)]
abbrev posO (a b : Int) : Obj := .cells #[.int .i64 a, .int .i64 b] 24
/-- The runes from a byte on, by what stands there. -/
theorem rune_step {s : ByteArray} {t : List Int} {pos j : Nat} (h : Utf.runes (s.data.toList.drop pos) = t.drop j) (hp : pos < s.size) : t[j]? = some ((Utf8.decode s pos).1 : Int) ∧ Utf.runes (s.data.toList.drop (pos + (Utf8.decode s pos).2)) = t.drop (j + 1) ∧ pos < pos + (Utf8.decode s pos).2 := by
  have e := rune_at s pos hp
  rw [h] at e
  have hl : j < t.length := by
    by_cases hl : j < t.length
    · exact hl
    · rw [List.drop_eq_nil_of_le (by omega)] at e; cases e
  rw [List.drop_eq_getElem_cons hl] at e
  injection e with e1 e2
  refine ⟨by rw [List.getElem?_eq_getElem hl, e1], e2.symm, ?_⟩
  by_cases ha : (s[pos]'hp).toNat < 128
  · rw [decode_ascii s pos hp ha]; simp
  · have := (decode_high s pos hp (by omega)).2
    omega
theorem rune_stop {s : ByteArray} {t : List Int} {pos j : Nat} (h : Utf.runes (s.data.toList.drop pos) = t.drop j) (hp : ¬ pos < s.size) (hj : j ≤ t.length) : j = t.length := by
  rw [rune_end s pos hp] at h
  have := congrArg List.length h
  simp at this
  omega
end Go.Proofs.YtilkogohiealhaaDoor
namespace Go.Proofs.YtilkogohiealhaaDoor
open Go Go.RowKit

theorem Rw.col_up {t : List Int} {j : Nat} (h : t[j]? = some 10) : j + 1 - Rw.beg t (j + 1) = 0 := by rw [Rw.beg_stop h]; omega
theorem Rw.col_stay {t : List Int} {j : Nat} (h : t[j]? ≠ some 10) : j + 1 - Rw.beg t (j + 1) = j - Rw.beg t j + 1 := by
  rw [Rw.beg_step h]
  have := Rw.beg_le t j
  omega
/-- What the loop holds. -/
structure PlRel (w wr : World) (s : ByteArray) (t : List Int) (gr gp gi j : Nat) : Prop where
  kept : Kept (fun _ => False) w wr
  r : wr.heap[gr]? = some (posO 0 0)
  p : wr.heap[gp]? = some (posO (Rw.nl t j : Nat) (j - Rw.beg t j : Nat))
  i : ∃ pos, wr.heap[gi]? = some (.stringIter s pos) ∧ Utf.runes (s.data.toList.drop pos) = t.drop j
theorem place_form (s : ByteArray) (k : Int) (w : World) (hs : s.size ≤ 140737488351232) (hT : Tabs w) (hm : mayB s = false) :
    Calls Tryd.prog 44 #[.string s, .int .i64 k] w fun e w' => e = .returned (.tuple #[.agg #[.int .i64 0, .int .i64 0], .int .i64 1]) ∧ Kept (fun _ => False) w w' := by
  have hka : Kept (fun _ => False) w (w.alloc (posO 0 0)) := (Kept.refl _ w).alloc _
  have cC := check_any s (w.alloc (posO 0 0)) hs (hT.kept hka id id)
  rw [hm] at cC
  have HKA := Lib.hid hka
  clear hT hm hka
  go_enter Tryd.func44, Tryd.ntmps44
  go_wp2_with (go_at_call 35; refine cC.mono ?_; rintro e w1 ⟨rfl, hk1⟩; have HK1 := Lib.hid hk1; have hr0 : w1.heap[w.heap.size]? = some (posO 0 0) := (HK1.out.block _ (by simp) id).trans (heap_alloc_new w _); have HR := Lib.hid hr0; have d0 : w1.cell? ⟨w.heap.size, 0, none⟩ = some (.int .i64 0) := (by rw [cell_of_row _ _ _ _ _ _ HR.out]; rfl); have d1 : w1.cell? ⟨w.heap.size, 1, none⟩ = some (.int .i64 0) := (by rw [cell_of_row _ _ _ _ _ _ HR.out]; rfl); have e0 : w1.frozen? ⟨w.heap.size, 0, none⟩ = false := frozen_of HR.out; have e1 : w1.frozen? ⟨w.heap.size, 1, none⟩ = false := frozen_of HR.out; clear hk1 cC hr0)
  refine bodyPost_ret (res_pos rfl _ _ w.heap.size 0 0 (0, 0) rfl (by rw [heap_set (heap_set HR.out _) _]; rfl)) rfl ⟨rfl, ?_⟩
  exact (HKA.out.trans HK1.out).fresh (((Kept.refl (fun b => b = w.heap.size) w1).setCell (p := ⟨w.heap.size, 0, none⟩) rfl _).setCell (p := ⟨w.heap.size, 1, none⟩) rfl _) (fun b hb e => by omega)
set_option maxRecDepth 100000 in
set_option maxHeartbeats 1000000 in
theorem place_yes (s : ByteArray) (k : Nat) (w : World) (hT : Tabs w) (hm : mayB s = true) (hk : k ≤ (rs s).length) :
    Calls Tryd.prog 44 #[.string s, .int .i64 k] w fun e w' => e = .returned (.tuple #[.agg #[.int .i64 (Rw.nl (rs s) k : Nat), .int .i64 (k - Rw.beg (rs s) k : Nat)], .int .i64 0]) ∧ Kept (fun _ => False) w w' := by
  have hka : Kept (fun _ => False) w (w.alloc (posO 0 0)) := (Kept.refl _ w).alloc _
  have cC := check_any s (w.alloc (posO 0 0)) (by have := mayB_size hm; omega) (hT.kept hka id id)
  rw [hm] at cC
  have hl := rs_len s
  have hsz := mayB_size hm
  have hrs : Utf.runes s.data.toList = rs s := rfl
  generalize rs s = t at *
  have HKA := Lib.hid hka
  have HRS := Lib.hid hrs
  clear hT hm hka hrs
  go_enter Tryd.func44, Tryd.ntmps44
  go_wp2_with (go_at_call 35; refine cC.mono ?_; rintro e w1 ⟨rfl, hk1⟩; have HK1 := Lib.hid hk1; clear hk1 cC)
  have hsz1 : w.heap.size < w1.heap.size := by have := HK1.out.size; simp at this; omega
  have hr0 : w1.heap[w.heap.size]? = some (posO 0 0) := (HK1.out.block _ (by simp) id).trans (heap_alloc_new w _)
  have hk2 : Kept (fun _ => False) w ((w1.alloc (posO 0 0)).alloc (.stringIter s 0)) := ((HKA.out.trans HK1.out).alloc _).alloc _
  have hr2 : ((w1.alloc (posO 0 0)).alloc (.stringIter s 0)).heap[w.heap.size]? = some (posO 0 0) := (heap_alloc_old _ _ (by simp; omega)).trans ((heap_alloc_old _ _ hsz1).trans hr0)
  have hp2 : ((w1.alloc (posO 0 0)).alloc (.stringIter s 0)).heap[w1.heap.size]? = some (posO 0 0) := (heap_alloc_old _ _ (by simp)).trans (heap_alloc_new w1 _)
  have hi2 : ((w1.alloc (posO 0 0)).alloc (.stringIter s 0)).heap[w1.heap.size + 1]? = some (.stringIter s 0) := by
    have := heap_alloc_new (w1.alloc (posO 0 0)) (.stringIter s 0)
    rwa [show (w1.alloc (posO 0 0)).heap.size = w1.heap.size + 1 by simp] at this
  unfold World.iter
  have hst : PlRel w ((w1.alloc (posO 0 0)).alloc (.stringIter s 0)) s t w.heap.size w1.heap.size (w1.heap.size + 1) 0 := ⟨hk2, hr2, by rw [hp2]; rfl, 0, hi2, by rw [List.drop_zero]; exact HRS.out⟩
  have HST := Lib.hid hst
  clear hst hr0 hk2 hr2 hp2 hi2
  generalize (w1.alloc (posO 0 0)).alloc (.stringIter s 0) = W at *
  obtain ⟨gr, hgr⟩ : ∃ gr, w.heap.size = gr := ⟨_, rfl⟩
  obtain ⟨gp, hgp⟩ : ∃ gp, w1.heap.size = gp := ⟨_, rfl⟩
  obtain ⟨gi, hgi⟩ : ∃ gi, w1.heap.size + 1 = gi := ⟨_, rfl⟩
  have HGR := Lib.hid hgr
  have hx1 : gr < gp := by omega
  have hx2 : gp < gi := by omega
  have HX := Lib.hid (And.intro hx1 hx2)
  simp only [hgi] at HST ⊢
  simp only [hgp, hgr] at HST ⊢
  clear hgr hgp hgi hsz1 hx1 hx2
  go_loopw [8] (fun v wr => ∃ j : Nat, j ≤ k ∧ v = .int .i64 j ∧ PlRel w wr s t gr gp gi j) (fun _ wr => s.size - wr.iterPos gi)
  case atStart => exact ⟨0, Nat.zero_le _, rfl, HST.out⟩
  case round =>
    obtain ⟨j, hj, rfl, hrel⟩ := hrel
    obtain ⟨hkw, hr, hp, pos, hi, hdr⟩ := hrel
    have hpos := iterPos_at hi
    have HKW := Lib.hid hkw
    have HR := Lib.hid hr
    have HP := Lib.hid hp
    have HI := Lib.hid hi
    have HDR := Lib.hid hdr
    have HPOS := Lib.hid hpos
    clear hkw hr hp hi hdr hpos
    by_cases hps : pos < s.size
    · obtain ⟨hc, hdr2, hlt⟩ := rune_step HDR.out hps
      have hnx : ∀ ty, (Instr.next (.pointer (some ⟨gi, 0, none⟩)) true ty).run Tryd.prog wr = _ := fun ty => run_next_at wr gi s pos ty HI.out hps
      have HC := Lib.hid hc
      have HDR2 := Lib.hid hdr2
      generalize (Utf8.decode s pos).2 = wd at *
      generalize ((Utf8.decode s pos).1 : Int) = c at *
      clear hc hdr2
      go_upto_region 9 with fail
      have HK2 : Hid (Kept (fun _ => False) w (setIter wr gi s (pos + wd))) := HKW.out.fresh (Kept.iter wr gi s _) (fun b hb e => by have := HGR.out; have := HX.out; omega)
      have hr2 : (setIter wr gi s (pos + wd)).heap[gr]? = some (posO 0 0) := (iter_far (by have := HX.out; omega)).trans HR.out
      have hp2 : (setIter wr gi s (pos + wd)).heap[gp]? = some (posO (Rw.nl t j : Nat) (j - Rw.beg t j : Nat)) := (iter_far (by have := HX.out; omega)).trans HP.out
      have hi2 := iter_same (s := s) (pos := pos + wd) HI.out
      generalize setIter wr gi s (pos + wd) = W2 at *
      have HP2 := Lib.hid (iterPos_at hi2)
      obtain ⟨cl, hcl⟩ : ∃ cl, j - Rw.beg t j = cl := ⟨_, rfl⟩
      obtain ⟨ro, hrw⟩ : ∃ ro, Rw.nl t j = ro := ⟨_, rfl⟩
      have hnl := Rw.nl_le t j
      have HCL := Lib.hid hcl
      have HRW := Lib.hid hrw
      rw [hcl, hrw] at hp2
      have hcl4 : cl ≤ 4000 := by omega
      have hrw4 : ro ≤ 4000 := by omega
      have c0 : W2.cell? ⟨gp, 0, none⟩ = some (.int .i64 (ro : Nat)) := by rw [cell_of_row _ _ _ _ _ _ hp2]; rfl
      have c1 : W2.cell? ⟨gp, 1, none⟩ = some (.int .i64 (cl : Nat)) := by rw [cell_of_row _ _ _ _ _ _ hp2]; rfl
      have f0 : W2.frozen? ⟨gp, 0, none⟩ = false := frozen_of hp2
      have f1 : W2.frozen? ⟨gp, 1, none⟩ = false := frozen_of hp2
      have d0 : W2.cell? ⟨gr, 0, none⟩ = some (.int .i64 0) := by rw [cell_of_row _ _ _ _ _ _ hr2]; rfl
      have d1 : W2.cell? ⟨gr, 1, none⟩ = some (.int .i64 0) := by rw [cell_of_row _ _ _ _ _ _ hr2]; rfl
      have e0 : W2.frozen? ⟨gr, 0, none⟩ = false := frozen_of hr2
      have e1 : W2.frozen? ⟨gr, 1, none⟩ = false := frozen_of hr2
      have hne : gr ≠ gp := by have := HX.out; omega
      have HRR := Lib.hid hr2
      have HPP := Lib.hid hp2
      have HII := Lib.hid hi2
      have HNE := Lib.hid hne
      clear hr2 hp2 hi2 hcl hrw hnl hnx hne
      by_cases hjk : j = k
      · subst hjk
        go_wp2
        refine bodyPost_ret (res_pos rfl _ _ gr (ro : Nat) (cl : Nat) (0, 0) rfl (by rw [heap_set (heap_set HRR.out _) _]; rfl)) rfl ⟨by rw [HRW.out, HCL.out]; rfl, ?_⟩
        exact HK2.out.fresh (((Kept.refl (fun b => b = gr) W2).setCell (p := ⟨gr, 0, none⟩) rfl _).setCell (p := ⟨gr, 1, none⟩) rfl _) (fun b hb e => by have := HGR.out; omega)
      · have e3 : ((j : Int) == (k : Int)) = false := by rw [beq_eq_false_iff_ne]; omega
        have e4 : (j == k) = false := by rw [beq_eq_false_iff_ne]; exact hjk
        have hjk1 : j + 1 ≤ k := by omega
        clear hjk
        by_cases h10 : c = 10
        · subst h10
          have HU := Lib.hid (Rw.nl_up HC.out)
          have HV := Lib.hid (Rw.col_up HC.out)
          go_wp2
          go_roundw
          case rel =>
            refine ⟨j + 1, hjk1, by go_num, ?_, ?_, ?_, pos + wd, ?_, HDR2.out⟩
            · exact HK2.out.fresh ((((Kept.refl (fun b => b = gp) W2).setCell (p := ⟨gp, 1, none⟩) rfl _).setCell (p := ⟨gp, 0, none⟩) rfl _).setCell (p := ⟨gp, 1, none⟩) rfl _) (fun b hb e => by have := HGR.out; have := HX.out; omega)
            · exact (heap_far HNE.out _).trans ((heap_far HNE.out _).trans ((heap_far HNE.out _).trans HRR.out))
            · rw [heap_set (heap_set (heap_set HPP.out _) _) _, HU.out, HV.out, HRW.out]
              rfl
            · exact (heap_far (by have := HX.out; omega) _).trans ((heap_far (by have := HX.out; omega) _).trans ((heap_far (by have := HX.out; omega) _).trans HII.out))
          case measure =>
            rw [iterPos_at ((heap_far (by have := HX.out; omega) _).trans ((heap_far (by have := HX.out; omega) _).trans ((heap_far (by have := HX.out; omega) _).trans HII.out))), HPOS.out]
            omega
        · have b3 : (c == 10) = false := by rw [beq_eq_false_iff_ne]; exact h10
          have HU := Lib.hid (Rw.nl_stay (t := t) (k := j) (by rw [HC.out]; intro e; injection e with e; exact h10 e))
          have HV := Lib.hid (Rw.col_stay (t := t) (j := j) (by rw [HC.out]; intro e; injection e with e; exact h10 e))
          clear h10
          go_wp2
          go_roundw
          case rel =>
            refine ⟨j + 1, hjk1, by go_num, ?_, ?_, ?_, pos + wd, ?_, HDR2.out⟩
            · exact HK2.out.fresh ((Kept.refl (fun b => b = gp) W2).setCell (p := ⟨gp, 1, none⟩) rfl _) (fun b hb e => by have := HGR.out; have := HX.out; omega)
            · exact (heap_far HNE.out _).trans HRR.out
            · rw [heap_set HPP.out _, HU.out, HV.out, HRW.out, HCL.out]
              rfl
            · exact (heap_far (by have := HX.out; omega) _).trans HII.out
          case measure =>
            rw [iterPos_at ((heap_far (by have := HX.out; omega) _).trans HII.out), HPOS.out]
            omega
    · have hjn := rune_stop HDR.out hps (by omega)
      have hnx : ∀ ty, (Instr.next (.pointer (some ⟨gi, 0, none⟩)) true ty).run Tryd.prog wr = _ := fun ty => run_next_done wr gi s pos ty HI.out hps
      obtain rfl : j = k := by omega
      have c0 : wr.cell? ⟨gp, 0, none⟩ = some (.int .i64 (Rw.nl t j : Nat)) := by rw [cell_of_row _ _ _ _ _ _ HP.out]; rfl
      have c1 : wr.cell? ⟨gp, 1, none⟩ = some (.int .i64 (j - Rw.beg t j : Nat)) := by rw [cell_of_row _ _ _ _ _ _ HP.out]; rfl
      have f0 : wr.frozen? ⟨gp, 0, none⟩ = false := frozen_of HP.out
      have f1 : wr.frozen? ⟨gp, 1, none⟩ = false := frozen_of HP.out
      have d0 : wr.cell? ⟨gr, 0, none⟩ = some (.int .i64 0) := by rw [cell_of_row _ _ _ _ _ _ HR.out]; rfl
      have d1 : wr.cell? ⟨gr, 1, none⟩ = some (.int .i64 0) := by rw [cell_of_row _ _ _ _ _ _ HR.out]; rfl
      have e0 : wr.frozen? ⟨gr, 0, none⟩ = false := frozen_of HR.out
      have e1 : wr.frozen? ⟨gr, 1, none⟩ = false := frozen_of HR.out
      obtain ⟨ro, hro⟩ : ∃ ro, Rw.nl t j = ro := ⟨_, rfl⟩
      obtain ⟨cl, hcl⟩ : ∃ cl, j - Rw.beg t j = cl := ⟨_, rfl⟩
      rw [hro] at c0
      rw [hcl] at c1
      have HRO := Lib.hid hro
      have HCL := Lib.hid hcl
      clear hro hcl
      clear hps hjn
      go_wp2
      refine bodyPost_ret (res_pos rfl _ _ gr (ro : Nat) (cl : Nat) (0, 0) rfl (by rw [heap_set (heap_set HR.out _) _]; rfl)) rfl ⟨by rw [HRO.out, HCL.out]; rfl, ?_⟩
      exact HKW.out.fresh (((Kept.refl (fun b => b = gr) wr).setCell (p := ⟨gr, 0, none⟩) rfl _).setCell (p := ⟨gr, 1, none⟩) rfl _) (fun b hb e => by have := HGR.out; omega)
end Go.Proofs.YtilkogohiealhaaDoor
namespace Go.Proofs.YtilkogohiealhaaDoor
open Go Go.RowKit

set_option maxRecDepth 100000 in
set_option maxHeartbeats 1000000 in
theorem place_none (s : ByteArray) (k : Int) (w : World) (hT : Tabs w) (hm : mayB s = true) (hk : ¬ (0 ≤ k ∧ k ≤ (rs s).length)) :
    Calls Tryd.prog 44 #[.string s, .int .i64 k] w fun e w' => e = .returned (.tuple #[.agg #[.int .i64 0, .int .i64 0], .int .i64 3]) ∧ Kept (fun _ => False) w w' := by
  have hka : Kept (fun _ => False) w (w.alloc (posO 0 0)) := (Kept.refl _ w).alloc _
  have cC := check_any s (w.alloc (posO 0 0)) (by have := mayB_size hm; omega) (hT.kept hka id id)
  rw [hm] at cC
  have hl := rs_len s
  have hsz := mayB_size hm
  have hrs : Utf.runes s.data.toList = rs s := rfl
  generalize rs s = t at *
  have HKA := Lib.hid hka
  have HRS := Lib.hid hrs
  clear hT hm hka hrs
  go_enter Tryd.func44, Tryd.ntmps44
  go_wp2_with (go_at_call 35; refine cC.mono ?_; rintro e w1 ⟨rfl, hk1⟩; have HK1 := Lib.hid hk1; clear hk1 cC)
  have hsz1 : w.heap.size < w1.heap.size := by have := HK1.out.size; simp at this; omega
  have hr0 : w1.heap[w.heap.size]? = some (posO 0 0) := (HK1.out.block _ (by simp) id).trans (heap_alloc_new w _)
  have hk2 : Kept (fun _ => False) w ((w1.alloc (posO 0 0)).alloc (.stringIter s 0)) := ((HKA.out.trans HK1.out).alloc _).alloc _
  have hr2 : ((w1.alloc (posO 0 0)).alloc (.stringIter s 0)).heap[w.heap.size]? = some (posO 0 0) := (heap_alloc_old _ _ (by simp; omega)).trans ((heap_alloc_old _ _ hsz1).trans hr0)
  have hp2 : ((w1.alloc (posO 0 0)).alloc (.stringIter s 0)).heap[w1.heap.size]? = some (posO 0 0) := (heap_alloc_old _ _ (by simp)).trans (heap_alloc_new w1 _)
  have hi2 : ((w1.alloc (posO 0 0)).alloc (.stringIter s 0)).heap[w1.heap.size + 1]? = some (.stringIter s 0) := by
    have := heap_alloc_new (w1.alloc (posO 0 0)) (.stringIter s 0)
    rwa [show (w1.alloc (posO 0 0)).heap.size = w1.heap.size + 1 by simp] at this
  unfold World.iter
  have hst : PlRel w ((w1.alloc (posO 0 0)).alloc (.stringIter s 0)) s t w.heap.size w1.heap.size (w1.heap.size + 1) 0 := ⟨hk2, hr2, by rw [hp2]; rfl, 0, hi2, by rw [List.drop_zero]; exact HRS.out⟩
  have HST := Lib.hid hst
  clear hst hr0 hk2 hr2 hp2 hi2
  generalize (w1.alloc (posO 0 0)).alloc (.stringIter s 0) = W at *
  obtain ⟨gr, hgr⟩ : ∃ gr, w.heap.size = gr := ⟨_, rfl⟩
  obtain ⟨gp, hgp⟩ : ∃ gp, w1.heap.size = gp := ⟨_, rfl⟩
  obtain ⟨gi, hgi⟩ : ∃ gi, w1.heap.size + 1 = gi := ⟨_, rfl⟩
  have HGR := Lib.hid hgr
  have hx1 : gr < gp := by omega
  have hx2 : gp < gi := by omega
  have HX := Lib.hid (And.intro hx1 hx2)
  simp only [hgi] at HST ⊢
  simp only [hgp, hgr] at HST ⊢
  clear hgr hgp hgi hsz1 hx1 hx2
  go_loopw [8] (fun v wr => ∃ j : Nat, j ≤ t.length ∧ v = .int .i64 j ∧ PlRel w wr s t gr gp gi j) (fun _ wr => s.size - wr.iterPos gi)
  case atStart => exact ⟨0, Nat.zero_le _, rfl, HST.out⟩
  case round =>
    obtain ⟨j, hj, rfl, hrel⟩ := hrel
    obtain ⟨hkw, hr, hp, pos, hi, hdr⟩ := hrel
    have hpos := iterPos_at hi
    have HKW := Lib.hid hkw
    have HR := Lib.hid hr
    have HP := Lib.hid hp
    have HI := Lib.hid hi
    have HDR := Lib.hid hdr
    have HPOS := Lib.hid hpos
    clear hkw hr hp hi hdr hpos
    by_cases hps : pos < s.size
    · obtain ⟨hc, hdr2, hlt⟩ := rune_step HDR.out hps
      have hnx : ∀ ty, (Instr.next (.pointer (some ⟨gi, 0, none⟩)) true ty).run Tryd.prog wr = _ := fun ty => run_next_at wr gi s pos ty HI.out hps
      have HC := Lib.hid hc
      have HDR2 := Lib.hid hdr2
      generalize (Utf8.decode s pos).2 = wd at *
      generalize ((Utf8.decode s pos).1 : Int) = c at *
      clear hc hdr2
      go_upto_region 9 with fail
      have HK2 : Hid (Kept (fun _ => False) w (setIter wr gi s (pos + wd))) := HKW.out.fresh (Kept.iter wr gi s _) (fun b hb e => by have := HGR.out; have := HX.out; omega)
      have hr2 : (setIter wr gi s (pos + wd)).heap[gr]? = some (posO 0 0) := (iter_far (by have := HX.out; omega)).trans HR.out
      have hp2 : (setIter wr gi s (pos + wd)).heap[gp]? = some (posO (Rw.nl t j : Nat) (j - Rw.beg t j : Nat)) := (iter_far (by have := HX.out; omega)).trans HP.out
      have hi2 := iter_same (s := s) (pos := pos + wd) HI.out
      generalize setIter wr gi s (pos + wd) = W2 at *
      have HP2 := Lib.hid (iterPos_at hi2)
      obtain ⟨cl, hcl⟩ : ∃ cl, j - Rw.beg t j = cl := ⟨_, rfl⟩
      obtain ⟨ro, hrw⟩ : ∃ ro, Rw.nl t j = ro := ⟨_, rfl⟩
      have hnl := Rw.nl_le t j
      have HCL := Lib.hid hcl
      have HRW := Lib.hid hrw
      rw [hcl, hrw] at hp2
      have hcl4 : cl ≤ 4000 := by omega
      have hrw4 : ro ≤ 4000 := by omega
      have c0 : W2.cell? ⟨gp, 0, none⟩ = some (.int .i64 (ro : Nat)) := by rw [cell_of_row _ _ _ _ _ _ hp2]; rfl
      have c1 : W2.cell? ⟨gp, 1, none⟩ = some (.int .i64 (cl : Nat)) := by rw [cell_of_row _ _ _ _ _ _ hp2]; rfl
      have f0 : W2.frozen? ⟨gp, 0, none⟩ = false := frozen_of hp2
      have f1 : W2.frozen? ⟨gp, 1, none⟩ = false := frozen_of hp2
      have d0 : W2.cell? ⟨gr, 0, none⟩ = some (.int .i64 0) := by rw [cell_of_row _ _ _ _ _ _ hr2]; rfl
      have d1 : W2.cell? ⟨gr, 1, none⟩ = some (.int .i64 0) := by rw [cell_of_row _ _ _ _ _ _ hr2]; rfl
      have e0 : W2.frozen? ⟨gr, 0, none⟩ = false := frozen_of hr2
      have e1 : W2.frozen? ⟨gr, 1, none⟩ = false := frozen_of hr2
      have hne : gr ≠ gp := by have := HX.out; omega
      have HRR := Lib.hid hr2
      have HPP := Lib.hid hp2
      have HII := Lib.hid hi2
      have HNE := Lib.hid hne
      clear hr2 hp2 hi2 hcl hrw hnl hnx hne
      have hjt : j < t.length := (List.getElem?_eq_some_iff.1 HC.out).1
      have e3 : ((j : Int) == k) = false := by rw [beq_eq_false_iff_ne]; omega
      have hjk1 : j + 1 ≤ t.length := hjt
      clear hjt
      · by_cases h10 : c = 10
        · subst h10
          have HU := Lib.hid (Rw.nl_up HC.out)
          have HV := Lib.hid (Rw.col_up HC.out)
          go_wp2
          go_roundw
          case rel =>
            refine ⟨j + 1, hjk1, by go_num, ?_, ?_, ?_, pos + wd, ?_, HDR2.out⟩
            · exact HK2.out.fresh ((((Kept.refl (fun b => b = gp) W2).setCell (p := ⟨gp, 1, none⟩) rfl _).setCell (p := ⟨gp, 0, none⟩) rfl _).setCell (p := ⟨gp, 1, none⟩) rfl _) (fun b hb e => by have := HGR.out; have := HX.out; omega)
            · exact (heap_far HNE.out _).trans ((heap_far HNE.out _).trans ((heap_far HNE.out _).trans HRR.out))
            · rw [heap_set (heap_set (heap_set HPP.out _) _) _, HU.out, HV.out, HRW.out]
              rfl
            · exact (heap_far (by have := HX.out; omega) _).trans ((heap_far (by have := HX.out; omega) _).trans ((heap_far (by have := HX.out; omega) _).trans HII.out))
          case measure =>
            rw [iterPos_at ((heap_far (by have := HX.out; omega) _).trans ((heap_far (by have := HX.out; omega) _).trans ((heap_far (by have := HX.out; omega) _).trans HII.out))), HPOS.out]
            omega
        · have b3 : (c == 10) = false := by rw [beq_eq_false_iff_ne]; exact h10
          have HU := Lib.hid (Rw.nl_stay (t := t) (k := j) (by rw [HC.out]; intro e; injection e with e; exact h10 e))
          have HV := Lib.hid (Rw.col_stay (t := t) (j := j) (by rw [HC.out]; intro e; injection e with e; exact h10 e))
          clear h10
          go_wp2
          go_roundw
          case rel =>
            refine ⟨j + 1, hjk1, by go_num, ?_, ?_, ?_, pos + wd, ?_, HDR2.out⟩
            · exact HK2.out.fresh ((Kept.refl (fun b => b = gp) W2).setCell (p := ⟨gp, 1, none⟩) rfl _) (fun b hb e => by have := HGR.out; have := HX.out; omega)
            · exact (heap_far HNE.out _).trans HRR.out
            · rw [heap_set HPP.out _, HU.out, HV.out, HRW.out, HCL.out]
              rfl
            · exact (heap_far (by have := HX.out; omega) _).trans HII.out
          case measure =>
            rw [iterPos_at ((heap_far (by have := HX.out; omega) _).trans HII.out), HPOS.out]
            omega
    · have hjn := rune_stop HDR.out hps (by omega)
      have hnx : ∀ ty, (Instr.next (.pointer (some ⟨gi, 0, none⟩)) true ty).run Tryd.prog wr = _ := fun ty => run_next_done wr gi s pos ty HI.out hps
      have d0 : wr.cell? ⟨gr, 0, none⟩ = some (.int .i64 0) := by rw [cell_of_row _ _ _ _ _ _ HR.out]; rfl
      have d1 : wr.cell? ⟨gr, 1, none⟩ = some (.int .i64 0) := by rw [cell_of_row _ _ _ _ _ _ HR.out]; rfl
      have e0 : wr.frozen? ⟨gr, 0, none⟩ = false := frozen_of HR.out
      have e1 : wr.frozen? ⟨gr, 1, none⟩ = false := frozen_of HR.out
      have e3 : ((j : Int) == k) = false := by rw [beq_eq_false_iff_ne]; omega
      have e4 : ((j : Int) != k) = true := by rw [bne_iff_ne]; omega
      clear hps hjn
      go_wp2
      refine bodyPost_ret (res_pos rfl _ _ gr 0 0 (0, 0) rfl (by rw [heap_set (heap_set HR.out _) _]; rfl)) rfl ⟨rfl, ?_⟩
      exact HKW.out.fresh (((Kept.refl (fun b => b = gr) wr).setCell (p := ⟨gr, 0, none⟩) rfl _).setCell (p := ⟨gr, 1, none⟩) rfl _) (fun b hb e => by have := HGR.out; omega)
end Go.Proofs.YtilkogohiealhaaDoor
namespace Go.Proofs.YtilkogohiealhaaDoor
open Go Go.RowKit

set_option maxRecDepth 100000 in
theorem byteOf_yes (s : ByteArray) (k : Nat) (w : World) (hsz : s.size ≤ 4000) (hk : k ≤ (rs s).length) :
    Calls Tryd.prog 45 #[.string s, .int .i64 k] w fun e w' => (∃ b : Nat, e = .returned (.tuple #[.int .i64 b, .bool true]) ∧ b ≤ s.size ∧ Utf.runes (s.data.toList.drop b) = (rs s).drop k) ∧ Kept (fun _ => False) w w' := by
  have hl := rs_len s
  have hrs : Utf.runes s.data.toList = rs s := rfl
  generalize rs s = t at *
  have HRS := Lib.hid hrs
  clear hrs
  have HI0 : Hid ((w.alloc (.stringIter s 0)).heap[w.heap.size]? = some (.stringIter s 0)) := heap_alloc_new w _
  have HK0 : Hid (Kept (fun _ => False) w (w.alloc (.stringIter s 0))) := (Kept.refl _ w).alloc _
  go_enter Tryd.func45, Tryd.ntmps45
  go_wp2
  unfold World.iter
  generalize w.alloc (.stringIter s 0) = W at *
  obtain ⟨gi, hgi⟩ : ∃ gi, w.heap.size = gi := ⟨_, rfl⟩
  have HGI := Lib.hid hgi
  simp only [hgi] at HI0 ⊢
  clear hgi
  go_loopw [6] (fun v wr => ∃ j pos : Nat, j ≤ k ∧ v = .int .i64 j ∧ wr.heap[gi]? = some (.stringIter s pos) ∧ Utf.runes (s.data.toList.drop pos) = t.drop j ∧ Kept (fun _ => False) w wr) (fun _ wr => s.size - wr.iterPos gi)
  case atStart => exact ⟨0, 0, Nat.zero_le _, rfl, HI0.out, by rw [List.drop_zero, List.drop_zero]; exact HRS.out, HK0.out⟩
  case round =>
    obtain ⟨j, pos, hj, rfl, hi, hdr, hkw⟩ := hrel
    have hpos := iterPos_at hi
    have HKW := Lib.hid hkw
    have HI := Lib.hid hi
    have HDR := Lib.hid hdr
    have HPOS := Lib.hid hpos
    clear hkw hi hdr hpos
    by_cases hps : pos < s.size
    · obtain ⟨hc, hdr2, hlt⟩ := rune_step HDR.out hps
      have hnx : ∀ ty, (Instr.next (.pointer (some ⟨gi, 0, none⟩)) true ty).run Tryd.prog wr = _ := fun ty => run_next_at wr gi s pos ty HI.out hps
      have HDR2 := Lib.hid hdr2
      have HI2 := Lib.hid (iter_same (s := s) (pos := pos + (Utf8.decode s pos).2) HI.out)
      have HK2 : Hid (Kept (fun _ => False) w (setIter wr gi s (pos + (Utf8.decode s pos).2))) := HKW.out.fresh (Kept.iter wr gi s _) (fun b hb e => by have := HGI.out; omega)
      have HP2 := Lib.hid (iterPos_at HI2.out)
      generalize (Utf8.decode s pos).2 = wd at *
      generalize setIter wr gi s (pos + wd) = W2 at *
      clear hc hdr2
      by_cases hjk : j = k
      · subst hjk
        go_wp2
        exact bodyPost_ret (v := .tuple #[.int .i64 (pos : Nat), .bool true]) (by simp [results, Tryd.results45, go_sem]) rfl ⟨⟨pos, rfl, by omega, HDR.out⟩, HK2.out⟩
      · have e1 : ((j : Int) == (k : Int)) = false := by rw [beq_eq_false_iff_ne]; omega
        have e2 : (j == k) = false := by rw [beq_eq_false_iff_ne]; exact hjk
        have hjk1 : j + 1 ≤ k := by omega
        clear hjk
        go_wp2
        go_roundw
        case rel => exact ⟨j + 1, pos + wd, hjk1, by go_num, HI2.out, HDR2.out, HK2.out⟩
        case measure => rw [HP2.out, HPOS.out]; omega
    · have hjn := rune_stop HDR.out hps (by omega)
      have hnx : ∀ ty, (Instr.next (.pointer (some ⟨gi, 0, none⟩)) true ty).run Tryd.prog wr = _ := fun ty => run_next_done wr gi s pos ty HI.out hps
      obtain rfl : j = k := by omega
      have HDR3 : Hid (Utf.runes (s.data.toList.drop s.size) = t.drop j) := by show _ = _; rw [rune_end s s.size (by omega), List.drop_eq_nil_of_le (by omega)]
      clear hps hjn
      go_wp2
      exact bodyPost_ret (v := .tuple #[.int .i64 (s.size : Nat), .bool true]) (by simp [results, Tryd.results45, go_sem]) rfl ⟨⟨s.size, rfl, Nat.le_refl _, HDR3.out⟩, HKW.out⟩
/-- Where normal mode's cursor stands. -/
def Rw.rst (t : List Int) (k : Nat) : Nat := if Rw.en t k = k ∧ Rw.beg t k < k then k - 1 else k
theorem Rw.rst_le (t : List Int) (k : Nat) : Rw.rst t k ≤ k := by unfold Rw.rst; split <;> omega
theorem ten_at {s : ByteArray} {t : List Int} {b k : Nat} (h : Utf.runes (s.data.toList.drop b) = t.drop k) (hb : b < s.size) : ((s[b]'hb).toNat = 10 ↔ t[k]? = some 10) := by
  obtain ⟨hc, _, _⟩ := rune_step h hb
  rw [hc]
  by_cases ha : (s[b]'hb).toNat < 128
  · rw [decode_ascii s b hb ha]
    constructor
    · intro e; simp [e]
    · intro e; injection e with e; simpa using (by exact_mod_cast e : ((s[b]'hb).toNat : Nat) = 10)
  · have := (decode_high s b hb (by omega)).1
    constructor
    · intro e; omega
    · intro e; injection e with e; omega
end Go.Proofs.YtilkogohiealhaaDoor
namespace Go.Proofs.YtilkogohiealhaaDoor
open Go Go.RowKit

theorem Rw.en_ne {t : List Int} {k : Nat} {c : Int} (h : t[k]? = some c) (hc : c ≠ 10) : Rw.en t k ≠ k := by
  have h1 := Rw.en_step h hc
  have h2 := Rw.en_ge t (k + 1)
  omega
set_option maxRecDepth 100000 in
set_option maxHeartbeats 1000000 in
theorem rest_yes (s : ByteArray) (k : Nat) (w : World) (hT : Tabs w) (hm : mayB s = true) (hk : k ≤ (rs s).length) :
    Calls Tryd.prog 28 #[.string s, .int .i64 k] w fun e w' => e = .returned (.tuple #[.int .i64 (Rw.rst (rs s) k : Nat), .int .i64 0]) ∧ Kept (fun _ => False) w w' := by
  have cP := place_yes s k w hT hm hk
  have hsz := mayB_size hm
  have cB := fun W => byteOf_yes s k W hsz hk
  have hl := rs_len s
  obtain ⟨V, hV⟩ : ∃ V, Rw.rst (rs s) k = V := ⟨_, rfl⟩
  rw [hV]
  generalize rs s = t at *
  have hb := Rw.beg_le t k
  have HV := Lib.hid hV
  obtain ⟨cl, hcl⟩ : ∃ cl, k - Rw.beg t k = cl := ⟨_, rfl⟩
  rw [hcl] at cP
  generalize Rw.nl t k = ro at cP
  have HCL := Lib.hid hcl
  clear hT hm hV hcl
  go_enter Tryd.func28, Tryd.ntmps28
  go_wp2_with (go_at_call 44; refine cP.mono ?_; rintro e w1 ⟨rfl, hk1⟩; have HK1 := Lib.hid hk1; clear hk1 cP)
  have hf : (w1.alloc (posO (ro : Nat) (cl : Nat))).cell? ⟨w1.heap.size, 1, none⟩ = some (.int .i64 (cl : Nat)) := by rw [cell_of_row _ _ _ _ _ _ (heap_alloc_new w1 _)]; rfl
  have HK2 : Hid (Kept (fun _ => False) w (w1.alloc (posO (ro : Nat) (cl : Nat)))) := HK1.out.alloc _
  generalize w1.alloc (posO (ro : Nat) (cl : Nat)) = W at *
  generalize w1.heap.size = g at *
  refine (cB W).mono ?_
  rintro e w3 ⟨⟨b, rfl, hbs, hdr⟩, hk3⟩
  have HDR := Lib.hid hdr
  have HK3 := Lib.hid (HK2.out.trans hk3)
  have f1 := cell_kept hk3 hf id
  clear hdr hk3 hf cB
  by_cases hc0 : cl = 0
  · subst hc0
    have HR : Hid (V = k) := by
      show _ = _
      rw [← HV.out]
      unfold Rw.rst
      rw [if_neg]
      have := HCL.out
      omega
    go_wp2
    exact bodyPost_ret (v := .tuple #[.int .i64 (k : Nat), .int .i64 0]) (by simp [results, Tryd.results28, go_sem]) rfl ⟨by rw [HR.out], HK3.out⟩
  · obtain ⟨c', rfl⟩ : ∃ c', cl = c' + 1 := ⟨cl - 1, by omega⟩
    have hkb : Rw.beg t k < k := by have := HCL.out; omega
    obtain ⟨k', rfl⟩ : ∃ k', k = k' + 1 := ⟨k - 1, by omega⟩
    have b0 : decide (0 < c' + 1) = true := decide_eq_true (by omega)
    have b1 : decide ((0 : Int) < (c' : Int) + 1) = true := decide_eq_true (by omega)
    clear hc0
    by_cases hbe : b = s.size
    · have hkl : k' + 1 = t.length := rune_stop HDR.out (by omega) hk
      have HR : Hid (V = k') := by
        show _ = _
        rw [← HV.out]
        unfold Rw.rst
        rw [if_pos ⟨Rw.en_end (by omega), hkb⟩]
        rfl
      subst hbe
      clear hkl hkb hb
      go_wp2
      exact bodyPost_ret (v := .tuple #[.int .i64 (k' : Nat), .int .i64 0]) (by simp [results, Tryd.results28, go_sem]) rfl ⟨by rw [HR.out], HK3.out⟩
    · have hlt : b < s.size := by omega
      have ht := ten_at HDR.out hlt
      obtain ⟨hrc, _, _⟩ := rune_step HDR.out hlt
      have e1 : ((b : Int) == (s.size : Int)) = false := by rw [beq_eq_false_iff_ne]; omega
      have e2 : (b == s.size) = false := by rw [beq_eq_false_iff_ne]; exact hbe
      obtain ⟨bb, hbb⟩ : ∃ bb, s[b]'hlt = bb := ⟨_, rfl⟩
      rw [hbb] at ht
      by_cases h10 : bb.toNat = 10
      · have HR : Hid (V = k') := by
          show _ = _
          rw [← HV.out]
          unfold Rw.rst
          rw [if_pos ⟨Rw.en_stop (ht.1 h10), hkb⟩]
          rfl
        have e3 : ((bb.toNat : Int) == 10) = true := by rw [beq_iff_eq]; omega
        clear ht hrc h10 hkb hb hbe
        go_wp2
        exact bodyPost_ret (v := .tuple #[.int .i64 (k' : Nat), .int .i64 0]) (by simp [results, Tryd.results28, go_sem]) rfl ⟨by rw [HR.out], HK3.out⟩
      · have HR : Hid (V = k' + 1) := by
          show _ = _
          rw [← HV.out]
          unfold Rw.rst
          rw [if_neg]
          rintro ⟨h1, _⟩
          exact Rw.en_ne hrc (fun e => h10 (ht.2 (by rw [hrc, e]))) h1
        have e3 : ((bb.toNat : Int) == 10) = false := by rw [beq_eq_false_iff_ne]; omega
        clear ht hrc h10 hkb hb hbe
        go_wp2
        exact bodyPost_ret (v := .tuple #[.int .i64 ((k' : Nat) + 1), .int .i64 0]) (by simp [results, Tryd.results28, go_sem]) rfl ⟨by rw [HR.out]; rfl, HK3.out⟩
end Go.Proofs.YtilkogohiealhaaDoor
namespace Go.Proofs.YtilkogohiealhaaDoor
open Go Go.RowKit

/-- The reference's. -/
theorem rrest_any (A : Option Addr) (n c : Nat) (t : List Int) (k : Nat) (w : World) (hA : Rn w A n t) (hk : k ≤ n) (hn : n ≤ 100000) :
    Calls Tryd.prog 18 #[.slice A n c, .int .i64 k] w fun e w' => e = .returned (.int .i64 (Rw.rst t k : Nat)) ∧ w' = w := by
  have cE := rend_any A n c t k w hA hk hn
  have cB := rbegin_any A n c t k w hA hk hn
  have hb := Rw.beg_le t k
  have he := Rw.en_ge t k
  obtain ⟨V, hV⟩ : ∃ V, Rw.rst t k = V := ⟨_, rfl⟩
  rw [hV]
  unfold Rw.rst at hV
  generalize Rw.beg t k = b at *
  generalize Rw.en t k = e at *
  clear hA
  by_cases h1 : e = k
  · subst h1
    by_cases h2 : b < e
    · rw [if_pos ⟨rfl, h2⟩] at hV
      obtain ⟨e', rfl⟩ : ∃ e', e = e' + 1 := ⟨e - 1, by omega⟩
      have b1 : decide (b < e' + 1) = true := decide_eq_true h2
      have b2 : decide ((b : Int) < (e' : Int) + 1) = true := decide_eq_true (by omega)
      have HV := Lib.hid hV
      clear hV
      go_enter Tryd.func18, Tryd.ntmps18
      go_wp2_with (first | (go_at_call 17; refine cE.mono ?_; rintro e w' ⟨rfl, rfl⟩) | (go_at_call 16; refine cB.mono ?_; rintro e w' ⟨rfl, rfl⟩))
      go_ret
      rw [← HV.out]
      exact ⟨rfl, rfl⟩
    · rw [if_neg (fun h => h2 h.2)] at hV
      have b1 : decide (b < e) = false := decide_eq_false h2
      have b2 : decide ((b : Int) < (e : Int)) = false := decide_eq_false (by omega)
      have HV := Lib.hid hV
      clear hV
      go_enter Tryd.func18, Tryd.ntmps18
      go_wp2_with (first | (go_at_call 17; refine cE.mono ?_; rintro e w' ⟨rfl, rfl⟩) | (go_at_call 16; refine cB.mono ?_; rintro e w' ⟨rfl, rfl⟩))
      go_ret
      rw [← HV.out]
      exact ⟨rfl, rfl⟩
  · rw [if_neg (fun h => h1 h.1)] at hV
    have e1 : ((k : Int) == (e : Int)) = false := by rw [beq_eq_false_iff_ne]; omega
    have e2 : (k == e) = false := by rw [beq_eq_false_iff_ne]; omega
    have HV := Lib.hid hV
    clear hV h1
    go_enter Tryd.func18, Tryd.ntmps18
    go_wp2_with (first | (go_at_call 17; refine cE.mono ?_; rintro e w' ⟨rfl, rfl⟩) | (go_at_call 16; refine cB.mono ?_; rintro e w' ⟨rfl, rfl⟩))
    go_ret
    rw [← HV.out]
    exact ⟨rfl, rfl⟩
end Go.Proofs.YtilkogohiealhaaDoor
