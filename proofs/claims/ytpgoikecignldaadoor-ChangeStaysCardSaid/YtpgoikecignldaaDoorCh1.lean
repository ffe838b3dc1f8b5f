/-
  THE PROGRAM's small ones: rest, between, first, spotOf (change).
-/
import Derived.Test.YtpgoikecignldaaDoorRe
import Derived.Test.YtpgoikecignldaaDoorBr
import Derived.Test.YtpgoikecignldaaDoorSp2
import Derived.Test.YtpgoikecignldaaDoorChP
set_option linter.unusedVariables false
namespace Go.Proofs.YtpgoikecignldaaDoor
open Go Go.RowKit

set_option maxRecDepth 100000 in
theorem chrest_yes (s : ByteArray) (k : Nat) (w : World) (hT : Tabs w) (hm : mayB s = true) (hk : k ≤ (rs s).length) :
    Calls Tryd.prog 23 #[.string s, .int .i64 k] w fun e w' => e = .returned (.int .i64 (Rw.rst (rs s) k : Nat)) ∧ Kept (fun _ => False) w w' := by
  have cR := rest_yes s k w hT hm hk
  have hl := rs_len s
  have hr := Rw.rst_le (rs s) k
  generalize rs s = t at *
  generalize Rw.rst t k = V at *
  clear hT hm
  go_enter Tryd.func23, Tryd.ntmps23
  go_wp2_with (go_at_call 33; refine cR.mono ?_; rintro e w1 ⟨rfl, hk1⟩)
  go_ret
  exact ⟨rfl, hk1⟩
set_option maxRecDepth 100000 in
theorem chbetween_yes (a b : ByteArray) (w : World) (hT : Tabs w) (hma : mayB a = true) (hmb : mayB b = true) :
    Calls Tryd.prog 28 #[.string a, .string b] w fun e w' => e = .returned (btw (rs a) (rs b)) ∧ Kept (fun _ => False) w w' := by
  have hka : Kept (fun _ => False) w (w.alloc (patO 0 0 ⟨#[]⟩)) := (Kept.refl _ w).alloc _
  have cB := between_yes a b _ (hT.kept hka id id) hma hmb
  unfold btw at cB ⊢
  generalize ((Rw.bat (rs a) (rs b) : Nat) : Int) = X at *
  generalize ((Rw.bdel (rs a) (rs b) : Nat) : Int) = D at *
  generalize runesBytes (Rw.bins (rs a) (rs b)) = Sx at *
  have HKA := Lib.hid hka
  have HG0 : Hid ((w.alloc (patO 0 0 ⟨#[]⟩)).heap[w.heap.size]? = some (patO 0 0 ⟨#[]⟩)) := heap_alloc_new w _
  obtain ⟨g, hg⟩ : ∃ g, w.heap.size = g := ⟨_, rfl⟩
  have HGS := Lib.hid hg
  clear hT hma hmb hka
  go_enter Tryd.func28, Tryd.ntmps28
  go_upto_region 1 with fail
  simp only [hg] at HG0 ⊢
  clear hg
  generalize w.alloc (patO 0 0 ⟨#[]⟩) = wa at *
  go_upto_region 2 with (go_at_call 40; refine cB.mono ?_; rintro e w1 ⟨rfl, hk1⟩)
  have HG1 : Hid ((w1.alloc (patO X D Sx)).heap[w1.heap.size]? = some (patO X D Sx)) := heap_alloc_new w1 _
  have HK1 : Hid (Kept (fun _ => False) w (w1.alloc (patO X D Sx))) := (HKA.out.trans hk1).alloc _
  have HH1 : Hid ((w1.alloc (patO X D Sx)).heap[g]? = some (patO 0 0 ⟨#[]⟩)) := (((Kept.refl (fun _ => False) w1).alloc (patO X D Sx)).block g (by have := hk1.size; have := heap_lt HG0.out; omega) id).trans ((hk1.block g (heap_lt HG0.out) id).trans HG0.out)
  clear hk1 cB
  generalize w1.alloc (patO X D Sx) = w2 at *
  generalize w1.heap.size = h at *
  have c0 : w2.cell? ⟨h, 0, none⟩ = some (.int .i64 X) := by rw [cell_of_row _ _ _ _ _ _ HG1.out]; rfl
  have c1 : w2.cell? ⟨h, 1, none⟩ = some (.int .i64 D) := by rw [cell_of_row _ _ _ _ _ _ HG1.out]; rfl
  have c2 : w2.cell? ⟨h, 2, none⟩ = some (.string Sx) := by rw [cell_of_row _ _ _ _ _ _ HG1.out]; rfl
  have g0 : w2.cell? ⟨g, 0, none⟩ = some (.int .i64 0) := by rw [cell_of_row _ _ _ _ _ _ HH1.out]; rfl
  have g1 : w2.cell? ⟨g, 1, none⟩ = some (.int .i64 0) := by rw [cell_of_row _ _ _ _ _ _ HH1.out]; rfl
  have g2 : w2.cell? ⟨g, 2, none⟩ = some (.string ⟨#[]⟩) := by rw [cell_of_row _ _ _ _ _ _ HH1.out]; rfl
  have k0 : w2.frozen? ⟨g, 0, none⟩ = false := frozen_of HH1.out
  have k1 : w2.frozen? ⟨g, 1, none⟩ = false := frozen_of HH1.out
  have k2 : w2.frozen? ⟨g, 2, none⟩ = false := frozen_of HH1.out
  go_wp2
  refine bodyPost_ret (res_pat1 rfl _ _ g X D Sx (0, 0) rfl ((heap_set (heap_set (heap_set HH1.out _) _) _).trans rfl)) rfl ⟨rfl, ?_⟩
  exact HK1.out.fresh ((((Kept.refl (fun b => b = g) w2).setCell (p := ⟨g, 0, none⟩) rfl _).setCell (p := ⟨g, 1, none⟩) rfl _).setCell (p := ⟨g, 2, none⟩) rfl _) (fun b hb e => by have := HGS.out; omega)
set_option maxRecDepth 100000 in
theorem chfirst_yes (s : ByteArray) (k : Nat) (w : World) (hT : Tabs w) (hm : mayB s = true) (hk : k ≤ (rs s).length) :
    Calls Tryd.prog 35 #[.string s, .int .i64 k] w fun e w' => e = .returned (.int .i64 (Rw.rst (rs s) (Rw.fst (rs s) k) : Nat)) ∧ Kept (fun _ => False) w w' := by
  have hsz := mayB_size hm
  have hl := rs_len s
  obtain ⟨cap, w2, hcap, hcv, hk2, hlt, hR⟩ := conv_rs s w (by omega)
  have hf : Rw.fst (rs s) k ≤ (rs s).length := Nat.le_trans (Rw.fst_le _ _ hk) (Rw.en_le _ _ hk)
  have cF := first_any _ _ cap _ k w2 hR (rs_runey (mayB_valid hm)) hk (by omega)
  have cR := chrest_yes s (Rw.fst (rs s) k) w2 (hT.kept hk2 id id) hm hf
  have HK2 := Lib.hid hk2
  generalize Rw.fst (rs s) k = F at *
  generalize rs s = t at *
  generalize Rw.rst t F = V at *
  clear hT hm hR hk2
  go_enter Tryd.func35, Tryd.ntmps35
  go_wp2_with (first | (go_at_call 44; refine cF.mono ?_; rintro e w1 ⟨rfl, rfl⟩) | (go_at_call 23; refine cR.mono ?_; rintro e w3 ⟨rfl, hk3⟩))
  go_ret
  exact ⟨rfl, HK2.out.trans hk3⟩
abbrev rngV (lo hi : Int) (line : Bool) : Value := .agg #[.int .i64 lo, .int .i64 hi, .bool line]
abbrev rngO (lo hi : Int) (line : Bool) : Obj := .cells #[.int .i64 lo, .int .i64 hi, .bool line] 36
set_option maxRecDepth 100000 in
theorem spotOf_yes (A : Option Addr) (n c : Nat) (t : List Int) (lo hi at' : Nat) (line : Bool) (w : World) (hA : Rn w A n t) (hlo : lo ≤ n) (hat : at' ≤ n) (hn : n ≤ 100000) :
    Calls Tryd.prog 24 #[.slice A n c, rngV lo hi line, .int .i64 at'] w fun e w' => e = .returned (.int .i64 (Rw.spt t lo line at' : Nat)) ∧ Kept (fun _ => False) w w' := by
  have hka : Kept (fun _ => False) w (w.alloc (rngO lo hi line)) := (Kept.refl _ w).alloc _
  have HG0 : Hid ((w.alloc (rngO lo hi line)).heap[w.heap.size]? = some (rngO lo hi line)) := heap_alloc_new w _
  have hA' := hA.kept hka (fun _ _ => id)
  have c1 := row_any A n c t at' _ hA' hat hn
  have c2 := row_any A n c t lo _ hA' hlo hn
  have hb := Rw.beg_le t at'
  have he := Rw.en_le t lo (by rw [hA.1]; exact hlo)
  rw [hA.1] at he
  have HS : Hid (Rw.spt t lo line at' = if line then min (Rw.en t lo) (lo + (at' - Rw.beg t at')) else lo) := rfl
  generalize Rw.spt t lo line at' = V at *
  generalize Rw.beg t at' = x1 at *
  generalize Rw.en t at' = x2 at *
  generalize Rw.beg t lo = x3 at *
  generalize Rw.en t lo = x4 at *
  have HKA := Lib.hid hka
  clear hka hA hA'
  go_enter Tryd.func24, Tryd.ntmps24
  go_upto_region 1 with fail
  obtain ⟨g, hg⟩ : ∃ g, w.heap.size = g := ⟨_, rfl⟩
  simp only [hg] at HG0 ⊢
  clear hg
  generalize w.alloc (rngO lo hi line) = wa at *
  have f0 : wa.cell? ⟨g, 0, none⟩ = some (.int .i64 lo) := by rw [cell_of_row _ _ _ _ _ _ HG0.out]; rfl
  have f2 : wa.cell? ⟨g, 2, none⟩ = some (.bool line) := by rw [cell_of_row _ _ _ _ _ _ HG0.out]; rfl
  cases line with
  | false =>
    go_wp2
    go_ret
    exact ⟨by rw [HS.out]; rfl, HKA.out⟩
  | true =>
    have HV : Hid (V = min x4 (lo + (at' - x1))) := HS.out.trans (if_pos rfl)
    go_wp2_with (go_at_call 34; first | (refine c1.mono ?_; rintro e w1 ⟨rfl, rfl⟩; clear c1) | (refine c2.mono ?_; rintro e w1 ⟨rfl, rfl⟩; clear c2))
    go_ret
    have e : min ((lo : Int) + (at' : Int) - (x1 : Int)) (x4 : Int) = (V : Nat) := by rw [HV.out]; omega
    exact ⟨by rw [← e]; rfl, HKA.out⟩
end Go.Proofs.YtpgoikecignldaaDoor
