/-
  THE PROGRAM's Of (change): the error of form.
-/
import Derived.Test.YtpgoikecignldaaDoorCh4
import Derived.Test.YtpgoikecignldaaDoorRunesK
set_option linter.unusedVariables false
namespace Go.Proofs.YtpgoikecignldaaDoor
open Go Go.RowKit

abbrev chgO (pa pd : Int) (ps : ByteArray) (x : Int) (took : ByteArray) (line : Bool) : Obj := .cells #[.int .i64 pa, .int .i64 pd, .string ps, .int .i64 x, .string took, .bool line] 40
abbrev chgV (pa pd : Int) (ps : ByteArray) (x : Int) (took : ByteArray) (line : Bool) : Value := .agg #[.int .i64 pa, .int .i64 pd, .string ps, .int .i64 x, .string took, .bool line]
set_option maxRecDepth 100000 in
theorem res_chg {fn : Func} {p u : Tmp} (h : fn.results = #[.cell p 40, .tmp u]) (tmps : Array Value) (w : World) (g : Nat) (a d : Int) (s : ByteArray) (x : Int) (k : ByteArray) (l : Bool) (fr : Nat × Nat) (hp : tmps.getD p undef = .pointer (some ⟨g, 0, none⟩)) (hg : w.heap[g]? = some (.cells #[.int .i64 a, .int .i64 d, .string s, .int .i64 x, .string k, .bool l] 40 fr)) :
    (results fn tmps).run Tryd.prog w = .ok (.tuple #[chgV a d s x k l, tmps.getD u undef]) w := by
  rw [results_cell_tmp h, hp]
  simp [asAddr, Result.andThen, run_loadVar_row w g _ _ _ _ _ hg Tryd.underlying40 rfl (by kernel_rfl)]
set_option maxRecDepth 100000 in
theorem of_form1 (s : ByteArray) (lo hi : Int) (line : Bool) (key k : Int) (w : World) (hs : s.size ≤ 140737488351232) (hT : Tabs w) (hno : ¬ (mayB s = true ∧ 0 ≤ k ∧ k ≤ (rs s).length)) :
    Calls Tryd.prog 8 #[.string s, rngV lo hi line, .int .i64 key, .int .i64 k] w fun e w' => e = .returned (.tuple #[chgV 0 0 ⟨#[]⟩ 0 ⟨#[]⟩ false, .int .i64 1]) ∧ Kept (fun _ => False) w w' := by
  have hka : Kept (fun _ => False) w ((w.alloc (rngO lo hi line)).alloc (chgO 0 0 ⟨#[]⟩ 0 ⟨#[]⟩ false)) := ((Kept.refl _ w).alloc _).alloc _
  have cR := runes_no s k _ hs (hT.kept hka id id) hno
  have HKA := Lib.hid hka
  clear hno hT hka
  go_enter Tryd.func8, Tryd.ntmps8
  go_upto_region 3 with (go_at_call 21; refine cR.mono ?_; rintro e w1 ⟨hk1, rfl⟩)
  have HG : Hid (w1.heap[w.heap.size + 1]? = some (chgO 0 0 ⟨#[]⟩ 0 ⟨#[]⟩ false)) := (hk1.block _ (by simp) id).trans (by have := heap_alloc_new (w.alloc (rngO lo hi line)) (chgO 0 0 ⟨#[]⟩ 0 ⟨#[]⟩ false); simpa using this)
  have HK1 := Lib.hid (HKA.out.trans hk1)
  clear hk1 cR
  obtain ⟨g, hg⟩ : ∃ g, w.heap.size + 1 = g := ⟨_, rfl⟩
  have HGS := Lib.hid hg
  simp only [hg] at HG ⊢
  clear hg
  have g0 : w1.cell? ⟨g, 0, none⟩ = some (.int .i64 0) := by rw [cell_of_row _ _ _ _ _ _ HG.out]; rfl
  have g1 : w1.cell? ⟨g, 1, none⟩ = some (.int .i64 0) := by rw [cell_of_row _ _ _ _ _ _ HG.out]; rfl
  have g2 : w1.cell? ⟨g, 2, none⟩ = some (.string ⟨#[]⟩) := by rw [cell_of_row _ _ _ _ _ _ HG.out]; rfl
  have g3 : w1.cell? ⟨g, 3, none⟩ = some (.int .i64 0) := by rw [cell_of_row _ _ _ _ _ _ HG.out]; rfl
  have g4 : w1.cell? ⟨g, 4, none⟩ = some (.string ⟨#[]⟩) := by rw [cell_of_row _ _ _ _ _ _ HG.out]; rfl
  have g5 : w1.cell? ⟨g, 5, none⟩ = some (.bool false) := by rw [cell_of_row _ _ _ _ _ _ HG.out]; rfl
  have k0 : w1.frozen? ⟨g, 0, none⟩ = false := frozen_of HG.out
  have k1 : w1.frozen? ⟨g, 1, none⟩ = false := frozen_of HG.out
  have k2 : w1.frozen? ⟨g, 2, none⟩ = false := frozen_of HG.out
  have k3 : w1.frozen? ⟨g, 3, none⟩ = false := frozen_of HG.out
  have k4 : w1.frozen? ⟨g, 4, none⟩ = false := frozen_of HG.out
  have k5 : w1.frozen? ⟨g, 5, none⟩ = false := frozen_of HG.out
  go_wp2
  refine bodyPost_ret (res_chg rfl _ _ g 0 0 ⟨#[]⟩ 0 ⟨#[]⟩ false (0, 0) rfl ((heap_set (heap_set (heap_set (heap_set (heap_set (heap_set HG.out _) _) _) _) _) _).trans rfl)) rfl ⟨rfl, ?_⟩
  exact HK1.out.fresh (((((((Kept.refl (fun b => b = g) w1).setCell (p := ⟨g, 0, none⟩) rfl _).setCell (p := ⟨g, 1, none⟩) rfl _).setCell (p := ⟨g, 2, none⟩) rfl _).setCell (p := ⟨g, 3, none⟩) rfl _).setCell (p := ⟨g, 4, none⟩) rfl _).setCell (p := ⟨g, 5, none⟩) rfl _) (fun b hb e => by have := HGS.out; omega)
theorem heap_two' (w : World) (o o' : Obj) : ((w.alloc o).alloc o').heap[w.heap.size]? = some o :=
  (Below.heap_alloc (w.alloc o) o' w.heap.size (by simp)).trans (heap_alloc_new w o)
set_option maxRecDepth 100000 in
theorem of_form2 (s : ByteArray) (lo hi : Int) (line : Bool) (key : Int) (k : Nat) (w : World) (hT : Tabs w) (hm : mayB s = true) (hk : k ≤ (rs s).length) (hno : ¬ RngI (rs s) lo hi line) :
    Calls Tryd.prog 8 #[.string s, rngV lo hi line, .int .i64 key, .int .i64 k] w fun e w' => e = .returned (.tuple #[chgV 0 0 ⟨#[]⟩ 0 ⟨#[]⟩ false, .int .i64 1]) ∧ Kept (fun _ => False) w w' := by
  have hka : Kept (fun _ => False) w ((w.alloc (rngO lo hi line)).alloc (chgO 0 0 ⟨#[]⟩ 0 ⟨#[]⟩ false)) := ((Kept.refl _ w).alloc _).alloc _
  have cR := runes_yes s k _ (hT.kept hka id id) hm hk
  have hsz := mayB_size hm
  have hl := rs_len s
  generalize rs s = t at *
  have HNO := Lib.hid hno
  have HKA := Lib.hid hka
  clear hno hT hka hm
  go_enter Tryd.func8, Tryd.ntmps8
  go_upto_region 2 with (go_at_call 21; refine cR.mono ?_; rintro e w0 ⟨hk0, b, cap, rfl, hb, hR⟩)
  have HX : Hid (w0.heap[w.heap.size]? = some (rngO lo hi line)) := (hk0.block _ (by simp; omega) id).trans (by have := heap_two' w (rngO lo hi line) (chgO 0 0 ⟨#[]⟩ 0 ⟨#[]⟩ false); exact this)
  have f0 : w0.cell? ⟨w.heap.size, 0, none⟩ = some (.int .i64 lo) := by rw [cell_of_row _ _ _ _ _ _ HX.out]; rfl
  have f1 : w0.cell? ⟨w.heap.size, 1, none⟩ = some (.int .i64 hi) := by rw [cell_of_row _ _ _ _ _ _ HX.out]; rfl
  have f2 : w0.cell? ⟨w.heap.size, 2, none⟩ = some (.bool line) := by rw [cell_of_row _ _ _ _ _ _ HX.out]; rfl
  have cM := chmay_any (some ⟨b, 0, none⟩) t.length cap t lo hi line false w0 hR (by omega) ⟨fun h => (Bool.noConfusion h), fun h => absurd h HNO.out⟩
  go_upto_region 3 with (go_at_call 22; refine cM.mono ?_; rintro e w1 ⟨rfl, hk01⟩)
  have hk1 := hk0.trans hk01
  clear hk0 hk01 f0 f1 f2 cM
  have HG : Hid (w1.heap[w.heap.size + 1]? = some (chgO 0 0 ⟨#[]⟩ 0 ⟨#[]⟩ false)) := (hk1.block _ (by simp) id).trans (by have := heap_alloc_new (w.alloc (rngO lo hi line)) (chgO 0 0 ⟨#[]⟩ 0 ⟨#[]⟩ false); simpa using this)
  have HK1 := Lib.hid (HKA.out.trans hk1)
  clear hk1 cR
  obtain ⟨g, hg⟩ : ∃ g, w.heap.size + 1 = g := ⟨_, rfl⟩
  have HGS := Lib.hid hg
  simp only [hg] at HG ⊢
  clear hg
  have g0 : w1.cell? ⟨g, 0, none⟩ = some (.int .i64 0) := by rw [cell_of_row _ _ _ _ _ _ HG.out]; rfl
  have g1 : w1.cell? ⟨g, 1, none⟩ = some (.int .i64 0) := by rw [cell_of_row _ _ _ _ _ _ HG.out]; rfl
  have g2 : w1.cell? ⟨g, 2, none⟩ = some (.string ⟨#[]⟩) := by rw [cell_of_row _ _ _ _ _ _ HG.out]; rfl
  have g3 : w1.cell? ⟨g, 3, none⟩ = some (.int .i64 0) := by rw [cell_of_row _ _ _ _ _ _ HG.out]; rfl
  have g4 : w1.cell? ⟨g, 4, none⟩ = some (.string ⟨#[]⟩) := by rw [cell_of_row _ _ _ _ _ _ HG.out]; rfl
  have g5 : w1.cell? ⟨g, 5, none⟩ = some (.bool false) := by rw [cell_of_row _ _ _ _ _ _ HG.out]; rfl
  have k0 : w1.frozen? ⟨g, 0, none⟩ = false := frozen_of HG.out
  have k1 : w1.frozen? ⟨g, 1, none⟩ = false := frozen_of HG.out
  have k2 : w1.frozen? ⟨g, 2, none⟩ = false := frozen_of HG.out
  have k3 : w1.frozen? ⟨g, 3, none⟩ = false := frozen_of HG.out
  have k4 : w1.frozen? ⟨g, 4, none⟩ = false := frozen_of HG.out
  have k5 : w1.frozen? ⟨g, 5, none⟩ = false := frozen_of HG.out
  go_wp2
  refine bodyPost_ret (res_chg rfl _ _ g 0 0 ⟨#[]⟩ 0 ⟨#[]⟩ false (0, 0) rfl ((heap_set (heap_set (heap_set (heap_set (heap_set (heap_set HG.out _) _) _) _) _) _).trans rfl)) rfl ⟨rfl, ?_⟩
  exact HK1.out.fresh (((((((Kept.refl (fun b => b = g) w1).setCell (p := ⟨g, 0, none⟩) rfl _).setCell (p := ⟨g, 1, none⟩) rfl _).setCell (p := ⟨g, 2, none⟩) rfl _).setCell (p := ⟨g, 3, none⟩) rfl _).setCell (p := ⟨g, 4, none⟩) rfl _).setCell (p := ⟨g, 5, none⟩) rfl _) (fun b hb e => by have := HGS.out; omega)
set_option maxRecDepth 100000 in
theorem of_form3 (s : ByteArray) (lo hi : Int) (line : Bool) (key : Int) (k : Nat) (w : World) (hT : Tabs w) (hm : mayB s = true) (hk : k ≤ (rs s).length) (hr : RngI (rs s) lo hi line) (hkey : key ∉ opKeys) :
    Calls Tryd.prog 8 #[.string s, rngV lo hi line, .int .i64 key, .int .i64 k] w fun e w' => e = .returned (.tuple #[chgV 0 0 ⟨#[]⟩ 0 ⟨#[]⟩ false, .int .i64 1]) ∧ Kept (fun _ => False) w w' := by
  have hka : Kept (fun _ => False) w ((w.alloc (rngO lo hi line)).alloc (chgO 0 0 ⟨#[]⟩ 0 ⟨#[]⟩ false)) := ((Kept.refl _ w).alloc _).alloc _
  have cR := runes_yes s k _ (hT.kept hka id id) hm hk
  have hsz := mayB_size hm
  have hl := rs_len s
  generalize rs s = t at *
  have HR := Lib.hid hr
  have HKA := Lib.hid hka
  clear hr hT hka hm
  go_enter Tryd.func8, Tryd.ntmps8
  go_upto_region 2 with (go_at_call 21; refine cR.mono ?_; rintro e w0 ⟨hk0, b, cap, rfl, hb, hR⟩)
  have HX : Hid (w0.heap[w.heap.size]? = some (rngO lo hi line)) := (hk0.block _ (by simp; omega) id).trans (by have := heap_two' w (rngO lo hi line) (chgO 0 0 ⟨#[]⟩ 0 ⟨#[]⟩ false); exact this)
  have f0 : w0.cell? ⟨w.heap.size, 0, none⟩ = some (.int .i64 lo) := by rw [cell_of_row _ _ _ _ _ _ HX.out]; rfl
  have f1 : w0.cell? ⟨w.heap.size, 1, none⟩ = some (.int .i64 hi) := by rw [cell_of_row _ _ _ _ _ _ HX.out]; rfl
  have f2 : w0.cell? ⟨w.heap.size, 2, none⟩ = some (.bool line) := by rw [cell_of_row _ _ _ _ _ _ HX.out]; rfl
  have cM := chmay_any (some ⟨b, 0, none⟩) t.length cap t lo hi line true w0 hR (by omega) ⟨fun _ => HR.out, fun _ => rfl⟩
  go_upto_region 4 with (go_at_call 22; refine cM.mono ?_; rintro e w1 ⟨rfl, hk01⟩)
  have hk1 := hk0.trans hk01
  clear hk0 hk01 f0 f1 f2 cM
  have HG : Hid (w1.heap[w.heap.size + 1]? = some (chgO 0 0 ⟨#[]⟩ 0 ⟨#[]⟩ false)) := (hk1.block _ (by simp) id).trans (by have := heap_alloc_new (w.alloc (rngO lo hi line)) (chgO 0 0 ⟨#[]⟩ 0 ⟨#[]⟩ false); simpa using this)
  have HK1 := Lib.hid (HKA.out.trans hk1)
  clear hk1 cR
  obtain ⟨g, hg⟩ : ∃ g, w.heap.size + 1 = g := ⟨_, rfl⟩
  have HGS := Lib.hid hg
  simp only [hg] at HG ⊢
  clear hg
  have g0 : w1.cell? ⟨g, 0, none⟩ = some (.int .i64 0) := by rw [cell_of_row _ _ _ _ _ _ HG.out]; rfl
  have g1 : w1.cell? ⟨g, 1, none⟩ = some (.int .i64 0) := by rw [cell_of_row _ _ _ _ _ _ HG.out]; rfl
  have g2 : w1.cell? ⟨g, 2, none⟩ = some (.string ⟨#[]⟩) := by rw [cell_of_row _ _ _ _ _ _ HG.out]; rfl
  have g3 : w1.cell? ⟨g, 3, none⟩ = some (.int .i64 0) := by rw [cell_of_row _ _ _ _ _ _ HG.out]; rfl
  have g4 : w1.cell? ⟨g, 4, none⟩ = some (.string ⟨#[]⟩) := by rw [cell_of_row _ _ _ _ _ _ HG.out]; rfl
  have g5 : w1.cell? ⟨g, 5, none⟩ = some (.bool false) := by rw [cell_of_row _ _ _ _ _ _ HG.out]; rfl
  have k0 : w1.frozen? ⟨g, 0, none⟩ = false := frozen_of HG.out
  have k1 : w1.frozen? ⟨g, 1, none⟩ = false := frozen_of HG.out
  have k2 : w1.frozen? ⟨g, 2, none⟩ = false := frozen_of HG.out
  have k3 : w1.frozen? ⟨g, 3, none⟩ = false := frozen_of HG.out
  have k4 : w1.frozen? ⟨g, 4, none⟩ = false := frozen_of HG.out
  have k5 : w1.frozen? ⟨g, 5, none⟩ = false := frozen_of HG.out
  have q1 : (key == 121) = false := by rw [beq_eq_false_iff_ne]; rintro rfl; exact hkey (by decide)
  have q2 : (key == 100) = false := by rw [beq_eq_false_iff_ne]; rintro rfl; exact hkey (by decide)
  have q3 : (key == 99) = false := by rw [beq_eq_false_iff_ne]; rintro rfl; exact hkey (by decide)
  have q4 : (key == 62) = false := by rw [beq_eq_false_iff_ne]; rintro rfl; exact hkey (by decide)
  have q5 : (key == 60) = false := by rw [beq_eq_false_iff_ne]; rintro rfl; exact hkey (by decide)
  have q6 : (key == 16777333) = false := by rw [beq_eq_false_iff_ne]; rintro rfl; exact hkey (by decide)
  have q7 : (key == 16777301) = false := by rw [beq_eq_false_iff_ne]; rintro rfl; exact hkey (by decide)
  have q8 : (key == 16777342) = false := by rw [beq_eq_false_iff_ne]; rintro rfl; exact hkey (by decide)
  clear hkey
  go_wp2
  refine bodyPost_ret (res_chg rfl _ _ g 0 0 ⟨#[]⟩ 0 ⟨#[]⟩ false (0, 0) rfl ((heap_set (heap_set (heap_set (heap_set (heap_set (heap_set HG.out _) _) _) _) _) _).trans rfl)) rfl ⟨rfl, ?_⟩
  exact HK1.out.fresh (((((((Kept.refl (fun b => b = g) w1).setCell (p := ⟨g, 0, none⟩) rfl _).setCell (p := ⟨g, 1, none⟩) rfl _).setCell (p := ⟨g, 2, none⟩) rfl _).setCell (p := ⟨g, 3, none⟩) rfl _).setCell (p := ⟨g, 4, none⟩) rfl _).setCell (p := ⟨g, 5, none⟩) rfl _) (fun b hb e => by have := HGS.out; omega)
end Go.Proofs.YtpgoikecignldaaDoor
