/-
  THE MOTIONS BY ROWS, of the program: Move, of whatever text, offset, key and count.
-/
import Derived.Test.YtnjknebhogdgfaaDoorLn2
import Derived.Test.YtnjknebhogdgfaaDoorTx2
set_option linter.unusedVariables false
namespace Go.Proofs.YtnjknebhogdgfaaDoor
open Go Go.RowKit

theorem runes_yes (s : ByteArray) (k : Nat) (w : World) (hT : Tabs w) (hm : mayB s = true) (hk : k ≤ (rs s).length) :
    Calls Tryd.prog 35 #[.string s, .int .i64 k] w fun e w' => Kept (fun _ => False) w w' ∧ ∃ b cap, e = .returned (.tuple #[.slice (some ⟨b, 0, none⟩) (rs s).length cap, .bool true]) ∧ w.heap.size ≤ b ∧ Rn w' (some ⟨b, 0, none⟩) (rs s).length (rs s) := by
  have hsz := mayB_size hm
  have cC := check_any s w (by omega) hT
  rw [hm] at cC
  have hl := rs_len s
  have cV := fun w1 => conv_rs s w1 (by omega)
  generalize rs s = t at *
  clear hT hm
  go_enter Tryd.func35, Tryd.ntmps35
  go_wp2_with (go_at_call 49; refine cC.mono ?_; rintro e w1 ⟨rfl, hk1⟩; obtain ⟨cap, w2, hcap, hcv, hk2, hlt, hR⟩ := cV w1; have HK1 := Lib.hid hk1; have HK2 := Lib.hid hk2; have HR := Lib.hid hR; clear cC cV hk1 hk2 hR)
  have hgs : w.heap.size ≤ w1.heap.size := HK1.out.size
  generalize w1.heap.size = g at *
  exact bodyPost_ret (v := .tuple #[.slice (some ⟨g, 0, none⟩) t.length cap, .bool true]) (by simp [results, Tryd.results35, go_sem]) rfl ⟨HK1.out.trans HK2.out, g, cap, rfl, hgs, HR.out⟩
theorem runes_no (s : ByteArray) (k : Int) (w : World) (hs : s.size ≤ 140737488351232) (hT : Tabs w) (hno : ¬ (mayB s = true ∧ 0 ≤ k ∧ k ≤ (rs s).length)) :
    Calls Tryd.prog 35 #[.string s, .int .i64 k] w fun e w' => Kept (fun _ => False) w w' ∧ e = .returned (.tuple #[.slice none 0 0, .bool false]) := by
  have cC := check_any s w (by omega) hT
  cases hm : mayB s with
  | false =>
    rw [hm] at cC
    clear hT hm hno
    go_enter Tryd.func35, Tryd.ntmps35
    go_wp2_with (go_at_call 49; refine cC.mono ?_; rintro e w1 ⟨rfl, hk1⟩)
    exact bodyPost_ret (v := .tuple #[.slice none 0 0, .bool false]) (by simp [results, Tryd.results35, go_sem]) rfl ⟨hk1, rfl⟩
  | true =>
    rw [hm] at cC
    have hsz := mayB_size hm
    have hl := rs_len s
    have cV := fun w1 => conv_rs s w1 (by omega)
    have hkk : k < 0 ∨ ((rs s).length : Int) < k := by
      by_cases h1 : 0 ≤ k
      · right
        by_cases h2 : k ≤ (rs s).length
        · exact absurd ⟨hm, h1, h2⟩ hno
        · omega
      · left; omega
    generalize rs s = t at *
    clear hT hm hno
    rcases hkk with h1 | h1
    · have b1 : decide (k < 0) = true := by simp; omega
      go_enter Tryd.func35, Tryd.ntmps35
      go_wp2_with (go_at_call 49; refine cC.mono ?_; rintro e w1 ⟨rfl, hk1⟩; obtain ⟨cap, w2, hcap, hcv, hk2, hlt, hR⟩ := cV w1; have HK1 := Lib.hid hk1; have HK2 := Lib.hid hk2; clear cC cV hk1 hk2 hR)
      exact bodyPost_ret (v := .tuple #[.slice none 0 0, .bool false]) (by simp [results, Tryd.results35, go_sem]) rfl ⟨HK1.out.trans HK2.out, rfl⟩
    · have b1 : decide (k < 0) = false := by simp; omega
      have b2 : decide ((t.length : Int) < k) = true := by simp; omega
      go_enter Tryd.func35, Tryd.ntmps35
      go_wp2_with (go_at_call 49; refine cC.mono ?_; rintro e w1 ⟨rfl, hk1⟩; obtain ⟨cap, w2, hcap, hcv, hk2, hlt, hR⟩ := cV w1; have HK1 := Lib.hid hk1; have HK2 := Lib.hid hk2; clear cC cV hk1 hk2 hR)
      exact bodyPost_ret (v := .tuple #[.slice none 0 0, .bool false]) (by simp [results, Tryd.results35, go_sem]) rfl ⟨HK1.out.trans HK2.out, rfl⟩
theorem heap_two {w : World} {g : Nat} {a b x k : Value} (h : w.heap[g]? = some (.cells #[a, b] 42 (0, 0))) : ((w.setCell ⟨g, 0, none⟩ x).setCell ⟨g, 1, none⟩ k).heap[g]? = some (.cells #[x, k] 42 (0, 0)) := by
  rw [heap_set (heap_set h x) k]
  rfl
theorem res_two {fn : Func} {p u : Tmp} (h : fn.results = #[.cell p 42, .tmp u]) (tmps : Array Value) {w : World} {g : Nat} {a b : Value} (x k : Int) (hb : w.heap[g]? = some (.cells #[a, b] 42 (0, 0))) (hp : tmps.getD p undef = .pointer (some ⟨g, 0, none⟩)) :
    (results fn tmps).run Tryd.prog ((w.setCell ⟨g, 0, none⟩ (.int .i64 x)).setCell ⟨g, 1, none⟩ (.int .i64 k)) = .ok (.tuple #[tgt x k, tmps.getD u undef]) ((w.setCell ⟨g, 0, none⟩ (.int .i64 x)).setCell ⟨g, 1, none⟩ (.int .i64 k)) := by
  have hl : (loadVar 42 ⟨g, 0, none⟩).run Tryd.prog ((w.setCell ⟨g, 0, none⟩ (.int .i64 x)).setCell ⟨g, 1, none⟩ (.int .i64 k)) = .ok (tgt x k) ((w.setCell ⟨g, 0, none⟩ (.int .i64 x)).setCell ⟨g, 1, none⟩ (.int .i64 k)) :=
    run_loadVar_row _ _ _ _ _ _ _ (heap_two hb) Tryd.underlying42 rfl (by kernel_rfl)
  rw [results_cell_tmp h, hp]
  simp [asAddr, Result.andThen, hl]
theorem Kept.two {w w2 : World} (h : Kept (fun _ => False) (w.alloc zeroT) w2) (x k : Value) : Kept (fun _ => False) w ((w2.setCell ⟨w.heap.size, 0, none⟩ x).setCell ⟨w.heap.size, 1, none⟩ k) :=
  ((Kept.refl (fun _ => False) w).alloc zeroT).fresh ((h.mono (T := fun g => g = w.heap.size) (fun _ _ h => h.elim)).setCell rfl x |>.setCell rfl k) (fun k hk e => by omega)
theorem m104_any (s : ByteArray) (k m : Nat) (w : World) (hT : Tabs w) (hm : mayB s = true) (hk : k ≤ (rs s).length) (hc : m ≤ 999) :
    Calls Tryd.prog 29 #[.string s, .int .i64 k, .int .i64 104, .int .i64 m] w fun e w' => e = .returned (ans (Rw.to (rs s) k 104 m) 0) ∧ Kept (fun _ => False) w w' := by
  have hT1 : Tabs (w.alloc zeroT) := hT.kept ((Kept.refl (fun _ => False) w).alloc _) id id
  have cU := runes_yes s k (w.alloc zeroT) hT1 hm hk
  have hl := rs_len s
  have hsz := mayB_size hm
  have hry := rs_runey (mayB_valid hm)
  have hto : Rw.to (rs s) k 104 m = Rw.to (rs s) k 104 (max m 1) := by unfold Rw.to; simp [show max (max m 1) 1 = max m 1 by omega]
  rw [hto]
  clear hto
  have b1 : decide ((m : Int) < 0) = false := by simp
  have b2 : decide (999 < (m : Int)) = false := by simp; omega
  have hq : max (m : Int) 1 = ((max m 1 : Nat) : Int) := by omega
  have hq1 : 1 ≤ max m 1 ∧ max m 1 ≤ 1000 := by omega
  generalize max m 1 = q at *
  obtain ⟨hq1, hq2⟩ := hq1
  have hb : Hid ((w.alloc zeroT).heap[w.heap.size]? = some zeroT) := heap_alloc_new w _
  have hbs : w.heap.size < (w.alloc zeroT).heap.size := by simp
  generalize rs s = t at *
  clear hT hm hT1
  go_enter Tryd.func29, Tryd.ntmps29
  go_wp2_with (go_at_call 35; refine cU.mono ?_; rintro e w1 ⟨hk1, b, cap, rfl, hbg, hR⟩)
  clear cU
  have cW := w104_any (m := q) (c := cap) hR hry hk (by omega) hq2 hq1
  refine cW.mono ?_
  rintro e w2 ⟨rfl, hk2⟩
  clear cW
  have h2 : w2.heap[w.heap.size]? = some zeroT := ((hk2.block _ (Nat.lt_of_lt_of_le hbs hk1.size) id).trans (hk1.block _ hbs id)).trans hb.out
  have c0 : w2.cell? ⟨w.heap.size, 0, none⟩ = some (.int .i64 0) := by rw [cell_of_row _ _ _ _ _ _ h2]; rfl
  have c1 : w2.cell? ⟨w.heap.size, 1, none⟩ = some (.int .i64 0) := by rw [cell_of_row _ _ _ _ _ _ h2]; rfl
  have f0 : w2.frozen? ⟨w.heap.size, 0, none⟩ = false := frozen_of h2
  have f1 : w2.frozen? ⟨w.heap.size, 1, none⟩ = false := frozen_of h2
  have H2 := Lib.hid h2
  have HK := Lib.hid (hk1.trans hk2)
  clear hk1 hk2 h2 hR hb
  cases hto : Rw.to t k 104 q with
  | none =>
    have HO := Lib.hid hto
    clear hto
    unfold ans tgt
    simp only
    go_wp2
    refine bodyPost_ret (res_two rfl _ 0 0 H2.out rfl) rfl ⟨?_, HK.out.two _ _⟩
    rw [HO.out]
    rfl
  | some x =>
    have HO := Lib.hid hto
    clear hto
    unfold ans tgt
    simp only
    go_wp2
    refine bodyPost_ret (res_two rfl _ x 0 H2.out rfl) rfl ⟨?_, HK.out.two _ _⟩
    rw [HO.out]
    rfl
theorem m108_any (s : ByteArray) (k m : Nat) (w : World) (hT : Tabs w) (hm : mayB s = true) (hk : k ≤ (rs s).length) (hc : m ≤ 999) :
    Calls Tryd.prog 29 #[.string s, .int .i64 k, .int .i64 108, .int .i64 m] w fun e w' => e = .returned (ans (Rw.to (rs s) k 108 m) 0) ∧ Kept (fun _ => False) w w' := by
  have hT1 : Tabs (w.alloc zeroT) := hT.kept ((Kept.refl (fun _ => False) w).alloc _) id id
  have cU := runes_yes s k (w.alloc zeroT) hT1 hm hk
  have hl := rs_len s
  have hsz := mayB_size hm
  have hry := rs_runey (mayB_valid hm)
  have hto : Rw.to (rs s) k 108 m = Rw.to (rs s) k 108 (max m 1) := by unfold Rw.to; simp [show max (max m 1) 1 = max m 1 by omega]
  rw [hto]
  clear hto
  have b1 : decide ((m : Int) < 0) = false := by simp
  have b2 : decide (999 < (m : Int)) = false := by simp; omega
  have hq : max (m : Int) 1 = ((max m 1 : Nat) : Int) := by omega
  have hq1 : 1 ≤ max m 1 ∧ max m 1 ≤ 1000 := by omega
  generalize max m 1 = q at *
  obtain ⟨hq1, hq2⟩ := hq1
  have hb : Hid ((w.alloc zeroT).heap[w.heap.size]? = some zeroT) := heap_alloc_new w _
  have hbs : w.heap.size < (w.alloc zeroT).heap.size := by simp
  generalize rs s = t at *
  clear hT hm hT1
  go_enter Tryd.func29, Tryd.ntmps29
  go_wp2_with (go_at_call 35; refine cU.mono ?_; rintro e w1 ⟨hk1, b, cap, rfl, hbg, hR⟩)
  clear cU
  have cW := w108_any (m := q) (c := cap) hR hry hk (by omega) hq2 hq1
  refine cW.mono ?_
  rintro e w2 ⟨rfl, hk2⟩
  clear cW
  have h2 : w2.heap[w.heap.size]? = some zeroT := ((hk2.block _ (Nat.lt_of_lt_of_le hbs hk1.size) id).trans (hk1.block _ hbs id)).trans hb.out
  have c0 : w2.cell? ⟨w.heap.size, 0, none⟩ = some (.int .i64 0) := by rw [cell_of_row _ _ _ _ _ _ h2]; rfl
  have c1 : w2.cell? ⟨w.heap.size, 1, none⟩ = some (.int .i64 0) := by rw [cell_of_row _ _ _ _ _ _ h2]; rfl
  have f0 : w2.frozen? ⟨w.heap.size, 0, none⟩ = false := frozen_of h2
  have f1 : w2.frozen? ⟨w.heap.size, 1, none⟩ = false := frozen_of h2
  have H2 := Lib.hid h2
  have HK := Lib.hid (hk1.trans hk2)
  clear hk1 hk2 h2 hR hb
  cases hto : Rw.to t k 108 q with
  | none =>
    have HO := Lib.hid hto
    clear hto
    unfold ans tgt
    simp only
    go_wp2
    refine bodyPost_ret (res_two rfl _ 0 0 H2.out rfl) rfl ⟨?_, HK.out.two _ _⟩
    rw [HO.out]
    rfl
  | some x =>
    have HO := Lib.hid hto
    clear hto
    unfold ans tgt
    simp only
    go_wp2
    refine bodyPost_ret (res_two rfl _ x 0 H2.out rfl) rfl ⟨?_, HK.out.two _ _⟩
    rw [HO.out]
    rfl
theorem m48_any (s : ByteArray) (k m : Nat) (w : World) (hT : Tabs w) (hm : mayB s = true) (hk : k ≤ (rs s).length) (hc : m ≤ 999) :
    Calls Tryd.prog 29 #[.string s, .int .i64 k, .int .i64 48, .int .i64 m] w fun e w' => e = .returned (ans (Rw.to (rs s) k 48 m) 0) ∧ Kept (fun _ => False) w w' := by
  have hT1 : Tabs (w.alloc zeroT) := hT.kept ((Kept.refl (fun _ => False) w).alloc _) id id
  have cU := runes_yes s k (w.alloc zeroT) hT1 hm hk
  have hl := rs_len s
  have hsz := mayB_size hm
  have hry := rs_runey (mayB_valid hm)
  have hto : Rw.to (rs s) k 48 m = Rw.to (rs s) k 48 (max m 1) := rfl
  rw [hto]
  clear hto
  have b1 : decide ((m : Int) < 0) = false := by simp
  have b2 : decide (999 < (m : Int)) = false := by simp; omega
  have hq : max (m : Int) 1 = ((max m 1 : Nat) : Int) := by omega
  have hq1 : 1 ≤ max m 1 ∧ max m 1 ≤ 1000 := by omega
  generalize max m 1 = q at *
  obtain ⟨hq1, hq2⟩ := hq1
  have hb : Hid ((w.alloc zeroT).heap[w.heap.size]? = some zeroT) := heap_alloc_new w _
  have hbs : w.heap.size < (w.alloc zeroT).heap.size := by simp
  generalize rs s = t at *
  clear hT hm hT1
  go_enter Tryd.func29, Tryd.ntmps29
  go_wp2_with (go_at_call 35; refine cU.mono ?_; rintro e w1 ⟨hk1, b, cap, rfl, hbg, hR⟩)
  clear cU
  have cW := w48_any (m := q) (c := cap) hR hry hk (by omega) hq2 hq1
  refine cW.mono ?_
  rintro e w2 ⟨rfl, hk2⟩
  clear cW
  have h2 : w2.heap[w.heap.size]? = some zeroT := ((hk2.block _ (Nat.lt_of_lt_of_le hbs hk1.size) id).trans (hk1.block _ hbs id)).trans hb.out
  have c0 : w2.cell? ⟨w.heap.size, 0, none⟩ = some (.int .i64 0) := by rw [cell_of_row _ _ _ _ _ _ h2]; rfl
  have c1 : w2.cell? ⟨w.heap.size, 1, none⟩ = some (.int .i64 0) := by rw [cell_of_row _ _ _ _ _ _ h2]; rfl
  have f0 : w2.frozen? ⟨w.heap.size, 0, none⟩ = false := frozen_of h2
  have f1 : w2.frozen? ⟨w.heap.size, 1, none⟩ = false := frozen_of h2
  have H2 := Lib.hid h2
  have HK := Lib.hid (hk1.trans hk2)
  clear hk1 hk2 h2 hR hb
  cases hto : Rw.to t k 48 q with
  | none =>
    have HO := Lib.hid hto
    clear hto
    unfold ans tgt
    simp only
    go_wp2
    refine bodyPost_ret (res_two rfl _ 0 0 H2.out rfl) rfl ⟨?_, HK.out.two _ _⟩
    rw [HO.out]
    rfl
  | some x =>
    have HO := Lib.hid hto
    clear hto
    unfold ans tgt
    simp only
    go_wp2
    refine bodyPost_ret (res_two rfl _ x 0 H2.out rfl) rfl ⟨?_, HK.out.two _ _⟩
    rw [HO.out]
    rfl
theorem m94_any (s : ByteArray) (k m : Nat) (w : World) (hT : Tabs w) (hm : mayB s = true) (hk : k ≤ (rs s).length) (hc : m ≤ 999) :
    Calls Tryd.prog 29 #[.string s, .int .i64 k, .int .i64 94, .int .i64 m] w fun e w' => e = .returned (ans (Rw.to (rs s) k 94 m) 0) ∧ Kept (fun _ => False) w w' := by
  have hT1 : Tabs (w.alloc zeroT) := hT.kept ((Kept.refl (fun _ => False) w).alloc _) id id
  have cU := runes_yes s k (w.alloc zeroT) hT1 hm hk
  have hl := rs_len s
  have hsz := mayB_size hm
  have hry := rs_runey (mayB_valid hm)
  have hto : Rw.to (rs s) k 94 m = Rw.to (rs s) k 94 (max m 1) := rfl
  rw [hto]
  clear hto
  have b1 : decide ((m : Int) < 0) = false := by simp
  have b2 : decide (999 < (m : Int)) = false := by simp; omega
  have hq : max (m : Int) 1 = ((max m 1 : Nat) : Int) := by omega
  have hq1 : 1 ≤ max m 1 ∧ max m 1 ≤ 1000 := by omega
  generalize max m 1 = q at *
  obtain ⟨hq1, hq2⟩ := hq1
  have hb : Hid ((w.alloc zeroT).heap[w.heap.size]? = some zeroT) := heap_alloc_new w _
  have hbs : w.heap.size < (w.alloc zeroT).heap.size := by simp
  generalize rs s = t at *
  clear hT hm hT1
  go_enter Tryd.func29, Tryd.ntmps29
  go_wp2_with (go_at_call 35; refine cU.mono ?_; rintro e w1 ⟨hk1, b, cap, rfl, hbg, hR⟩)
  clear cU
  have cW := w94_any (m := q) (c := cap) hR hry hk (by omega) hq2 hq1
  refine cW.mono ?_
  rintro e w2 ⟨rfl, hk2⟩
  clear cW
  have h2 : w2.heap[w.heap.size]? = some zeroT := ((hk2.block _ (Nat.lt_of_lt_of_le hbs hk1.size) id).trans (hk1.block _ hbs id)).trans hb.out
  have c0 : w2.cell? ⟨w.heap.size, 0, none⟩ = some (.int .i64 0) := by rw [cell_of_row _ _ _ _ _ _ h2]; rfl
  have c1 : w2.cell? ⟨w.heap.size, 1, none⟩ = some (.int .i64 0) := by rw [cell_of_row _ _ _ _ _ _ h2]; rfl
  have f0 : w2.frozen? ⟨w.heap.size, 0, none⟩ = false := frozen_of h2
  have f1 : w2.frozen? ⟨w.heap.size, 1, none⟩ = false := frozen_of h2
  have H2 := Lib.hid h2
  have HK := Lib.hid (hk1.trans hk2)
  clear hk1 hk2 h2 hR hb
  cases hto : Rw.to t k 94 q with
  | none =>
    have HO := Lib.hid hto
    clear hto
    unfold ans tgt
    simp only
    go_wp2
    refine bodyPost_ret (res_two rfl _ 0 0 H2.out rfl) rfl ⟨?_, HK.out.two _ _⟩
    rw [HO.out]
    rfl
  | some x =>
    have HO := Lib.hid hto
    clear hto
    unfold ans tgt
    simp only
    go_wp2
    refine bodyPost_ret (res_two rfl _ x 0 H2.out rfl) rfl ⟨?_, HK.out.two _ _⟩
    rw [HO.out]
    rfl
theorem m36_any (s : ByteArray) (k m : Nat) (w : World) (hT : Tabs w) (hm : mayB s = true) (hk : k ≤ (rs s).length) (hc : m ≤ 999) :
    Calls Tryd.prog 29 #[.string s, .int .i64 k, .int .i64 36, .int .i64 m] w fun e w' => e = .returned (ans (Rw.to (rs s) k 36 m) 1) ∧ Kept (fun _ => False) w w' := by
  have hT1 : Tabs (w.alloc zeroT) := hT.kept ((Kept.refl (fun _ => False) w).alloc _) id id
  have cU := runes_yes s k (w.alloc zeroT) hT1 hm hk
  have hl := rs_len s
  have hsz := mayB_size hm
  have hry := rs_runey (mayB_valid hm)
  have hto : Rw.to (rs s) k 36 m = Rw.to (rs s) k 36 (max m 1) := by unfold Rw.to; simp [show max (max m 1) 1 = max m 1 by omega]
  rw [hto]
  clear hto
  have b1 : decide ((m : Int) < 0) = false := by simp
  have b2 : decide (999 < (m : Int)) = false := by simp; omega
  have hq : max (m : Int) 1 = ((max m 1 : Nat) : Int) := by omega
  have hq1 : 1 ≤ max m 1 ∧ max m 1 ≤ 1000 := by omega
  generalize max m 1 = q at *
  obtain ⟨hq1, hq2⟩ := hq1
  have hb : Hid ((w.alloc zeroT).heap[w.heap.size]? = some zeroT) := heap_alloc_new w _
  have hbs : w.heap.size < (w.alloc zeroT).heap.size := by simp
  generalize rs s = t at *
  clear hT hm hT1
  go_enter Tryd.func29, Tryd.ntmps29
  go_wp2_with (go_at_call 35; refine cU.mono ?_; rintro e w1 ⟨hk1, b, cap, rfl, hbg, hR⟩)
  clear cU
  have cW := a36_any (m := q) (c := cap) hR hry hk (by omega) hq2 hq1
  refine cW.mono ?_
  rintro e w2 ⟨rfl, hk2⟩
  clear cW
  have h2 : w2.heap[w.heap.size]? = some zeroT := ((hk2.block _ (Nat.lt_of_lt_of_le hbs hk1.size) id).trans (hk1.block _ hbs id)).trans hb.out
  have c0 : w2.cell? ⟨w.heap.size, 0, none⟩ = some (.int .i64 0) := by rw [cell_of_row _ _ _ _ _ _ h2]; rfl
  have c1 : w2.cell? ⟨w.heap.size, 1, none⟩ = some (.int .i64 0) := by rw [cell_of_row _ _ _ _ _ _ h2]; rfl
  have f0 : w2.frozen? ⟨w.heap.size, 0, none⟩ = false := frozen_of h2
  have f1 : w2.frozen? ⟨w.heap.size, 1, none⟩ = false := frozen_of h2
  have H2 := Lib.hid h2
  have HK := Lib.hid (hk1.trans hk2)
  clear hk1 hk2 h2 hR hb
  cases hto : Rw.to t k 36 q with
  | none =>
    have HO := Lib.hid hto
    clear hto
    unfold ans tgt
    simp only
    go_wp2
    refine bodyPost_ret (res_two rfl _ 0 0 H2.out rfl) rfl ⟨?_, HK.out.two _ _⟩
    rw [HO.out]
    rfl
  | some x =>
    have HO := Lib.hid hto
    clear hto
    unfold ans tgt
    simp only
    go_wp2
    refine bodyPost_ret (res_two rfl _ x 1 H2.out rfl) rfl ⟨?_, HK.out.two _ _⟩
    rw [HO.out]
    rfl
theorem m106_any (s : ByteArray) (k m : Nat) (w : World) (hT : Tabs w) (hm : mayB s = true) (hk : k ≤ (rs s).length) (hc : m ≤ 999) :
    Calls Tryd.prog 29 #[.string s, .int .i64 k, .int .i64 106, .int .i64 m] w fun e w' => e = .returned (ans (Rw.to (rs s) k 106 m) 2) ∧ Kept (fun _ => False) w w' := by
  have hT1 : Tabs (w.alloc zeroT) := hT.kept ((Kept.refl (fun _ => False) w).alloc _) id id
  have cU := runes_yes s k (w.alloc zeroT) hT1 hm hk
  have hl := rs_len s
  have hsz := mayB_size hm
  have hry := rs_runey (mayB_valid hm)
  have hto : Rw.to (rs s) k 106 m = Rw.to (rs s) k 106 (max m 1) := by unfold Rw.to; simp [show max (max m 1) 1 = max m 1 by omega]
  rw [hto]
  clear hto
  have b1 : decide ((m : Int) < 0) = false := by simp
  have b2 : decide (999 < (m : Int)) = false := by simp; omega
  have hq : max (m : Int) 1 = ((max m 1 : Nat) : Int) := by omega
  have hq1 : 1 ≤ max m 1 ∧ max m 1 ≤ 1000 := by omega
  generalize max m 1 = q at *
  obtain ⟨hq1, hq2⟩ := hq1
  have hb : Hid ((w.alloc zeroT).heap[w.heap.size]? = some zeroT) := heap_alloc_new w _
  have hbs : w.heap.size < (w.alloc zeroT).heap.size := by simp
  generalize rs s = t at *
  clear hT hm hT1
  go_enter Tryd.func29, Tryd.ntmps29
  go_wp2_with (go_at_call 35; refine cU.mono ?_; rintro e w1 ⟨hk1, b, cap, rfl, hbg, hR⟩)
  clear cU
  have cW := a106_any (m := q) (c := cap) hR hry hk (by omega) hq2 hq1
  refine cW.mono ?_
  rintro e w2 ⟨rfl, hk2⟩
  clear cW
  have h2 : w2.heap[w.heap.size]? = some zeroT := ((hk2.block _ (Nat.lt_of_lt_of_le hbs hk1.size) id).trans (hk1.block _ hbs id)).trans hb.out
  have c0 : w2.cell? ⟨w.heap.size, 0, none⟩ = some (.int .i64 0) := by rw [cell_of_row _ _ _ _ _ _ h2]; rfl
  have c1 : w2.cell? ⟨w.heap.size, 1, none⟩ = some (.int .i64 0) := by rw [cell_of_row _ _ _ _ _ _ h2]; rfl
  have f0 : w2.frozen? ⟨w.heap.size, 0, none⟩ = false := frozen_of h2
  have f1 : w2.frozen? ⟨w.heap.size, 1, none⟩ = false := frozen_of h2
  have H2 := Lib.hid h2
  have HK := Lib.hid (hk1.trans hk2)
  clear hk1 hk2 h2 hR hb
  cases hto : Rw.to t k 106 q with
  | none =>
    have HO := Lib.hid hto
    clear hto
    unfold ans tgt
    simp only
    go_wp2
    refine bodyPost_ret (res_two rfl _ 0 0 H2.out rfl) rfl ⟨?_, HK.out.two _ _⟩
    rw [HO.out]
    rfl
  | some x =>
    have HO := Lib.hid hto
    clear hto
    unfold ans tgt
    simp only
    go_wp2
    refine bodyPost_ret (res_two rfl _ x 2 H2.out rfl) rfl ⟨?_, HK.out.two _ _⟩
    rw [HO.out]
    rfl
theorem m107_any (s : ByteArray) (k m : Nat) (w : World) (hT : Tabs w) (hm : mayB s = true) (hk : k ≤ (rs s).length) (hc : m ≤ 999) :
    Calls Tryd.prog 29 #[.string s, .int .i64 k, .int .i64 107, .int .i64 m] w fun e w' => e = .returned (ans (Rw.to (rs s) k 107 m) 2) ∧ Kept (fun _ => False) w w' := by
  have hT1 : Tabs (w.alloc zeroT) := hT.kept ((Kept.refl (fun _ => False) w).alloc _) id id
  have cU := runes_yes s k (w.alloc zeroT) hT1 hm hk
  have hl := rs_len s
  have hsz := mayB_size hm
  have hry := rs_runey (mayB_valid hm)
  have hto : Rw.to (rs s) k 107 m = Rw.to (rs s) k 107 (max m 1) := by unfold Rw.to; simp [show max (max m 1) 1 = max m 1 by omega]
  rw [hto]
  clear hto
  have b1 : decide ((m : Int) < 0) = false := by simp
  have b2 : decide (999 < (m : Int)) = false := by simp; omega
  have hq : max (m : Int) 1 = ((max m 1 : Nat) : Int) := by omega
  have hq1 : 1 ≤ max m 1 ∧ max m 1 ≤ 1000 := by omega
  generalize max m 1 = q at *
  obtain ⟨hq1, hq2⟩ := hq1
  have hb : Hid ((w.alloc zeroT).heap[w.heap.size]? = some zeroT) := heap_alloc_new w _
  have hbs : w.heap.size < (w.alloc zeroT).heap.size := by simp
  generalize rs s = t at *
  clear hT hm hT1
  go_enter Tryd.func29, Tryd.ntmps29
  go_wp2_with (go_at_call 35; refine cU.mono ?_; rintro e w1 ⟨hk1, b, cap, rfl, hbg, hR⟩)
  clear cU
  have cW := a107_any (m := q) (c := cap) hR hry hk (by omega) hq2 hq1
  refine cW.mono ?_
  rintro e w2 ⟨rfl, hk2⟩
  clear cW
  have h2 : w2.heap[w.heap.size]? = some zeroT := ((hk2.block _ (Nat.lt_of_lt_of_le hbs hk1.size) id).trans (hk1.block _ hbs id)).trans hb.out
  have c0 : w2.cell? ⟨w.heap.size, 0, none⟩ = some (.int .i64 0) := by rw [cell_of_row _ _ _ _ _ _ h2]; rfl
  have c1 : w2.cell? ⟨w.heap.size, 1, none⟩ = some (.int .i64 0) := by rw [cell_of_row _ _ _ _ _ _ h2]; rfl
  have f0 : w2.frozen? ⟨w.heap.size, 0, none⟩ = false := frozen_of h2
  have f1 : w2.frozen? ⟨w.heap.size, 1, none⟩ = false := frozen_of h2
  have H2 := Lib.hid h2
  have HK := Lib.hid (hk1.trans hk2)
  clear hk1 hk2 h2 hR hb
  cases hto : Rw.to t k 107 q with
  | none =>
    have HO := Lib.hid hto
    clear hto
    unfold ans tgt
    simp only
    go_wp2
    refine bodyPost_ret (res_two rfl _ 0 0 H2.out rfl) rfl ⟨?_, HK.out.two _ _⟩
    rw [HO.out]
    rfl
  | some x =>
    have HO := Lib.hid hto
    clear hto
    unfold ans tgt
    simp only
    go_wp2
    refine bodyPost_ret (res_two rfl _ x 2 H2.out rfl) rfl ⟨?_, HK.out.two _ _⟩
    rw [HO.out]
    rfl
theorem m43_any (s : ByteArray) (k m : Nat) (w : World) (hT : Tabs w) (hm : mayB s = true) (hk : k ≤ (rs s).length) (hc : m ≤ 999) :
    Calls Tryd.prog 29 #[.string s, .int .i64 k, .int .i64 43, .int .i64 m] w fun e w' => e = .returned (ans (Rw.to (rs s) k 43 m) 2) ∧ Kept (fun _ => False) w w' := by
  have hT1 : Tabs (w.alloc zeroT) := hT.kept ((Kept.refl (fun _ => False) w).alloc _) id id
  have cU := runes_yes s k (w.alloc zeroT) hT1 hm hk
  have hl := rs_len s
  have hsz := mayB_size hm
  have hry := rs_runey (mayB_valid hm)
  have hto : Rw.to (rs s) k 43 m = Rw.to (rs s) k 43 (max m 1) := by unfold Rw.to; simp [show max (max m 1) 1 = max m 1 by omega]
  rw [hto]
  clear hto
  have b1 : decide ((m : Int) < 0) = false := by simp
  have b2 : decide (999 < (m : Int)) = false := by simp; omega
  have hq : max (m : Int) 1 = ((max m 1 : Nat) : Int) := by omega
  have hq1 : 1 ≤ max m 1 ∧ max m 1 ≤ 1000 := by omega
  generalize max m 1 = q at *
  obtain ⟨hq1, hq2⟩ := hq1
  have hb : Hid ((w.alloc zeroT).heap[w.heap.size]? = some zeroT) := heap_alloc_new w _
  have hbs : w.heap.size < (w.alloc zeroT).heap.size := by simp
  generalize rs s = t at *
  clear hT hm hT1
  go_enter Tryd.func29, Tryd.ntmps29
  go_wp2_with (go_at_call 35; refine cU.mono ?_; rintro e w1 ⟨hk1, b, cap, rfl, hbg, hR⟩)
  clear cU
  have cW := a43_any (m := q) (c := cap) hR hry hk (by omega) hq2 hq1
  refine cW.mono ?_
  rintro e w2 ⟨rfl, hk2⟩
  clear cW
  have h2 : w2.heap[w.heap.size]? = some zeroT := ((hk2.block _ (Nat.lt_of_lt_of_le hbs hk1.size) id).trans (hk1.block _ hbs id)).trans hb.out
  have c0 : w2.cell? ⟨w.heap.size, 0, none⟩ = some (.int .i64 0) := by rw [cell_of_row _ _ _ _ _ _ h2]; rfl
  have c1 : w2.cell? ⟨w.heap.size, 1, none⟩ = some (.int .i64 0) := by rw [cell_of_row _ _ _ _ _ _ h2]; rfl
  have f0 : w2.frozen? ⟨w.heap.size, 0, none⟩ = false := frozen_of h2
  have f1 : w2.frozen? ⟨w.heap.size, 1, none⟩ = false := frozen_of h2
  have H2 := Lib.hid h2
  have HK := Lib.hid (hk1.trans hk2)
  clear hk1 hk2 h2 hR hb
  cases hto : Rw.to t k 43 q with
  | none =>
    have HO := Lib.hid hto
    clear hto
    unfold ans tgt
    simp only
    go_wp2
    refine bodyPost_ret (res_two rfl _ 0 0 H2.out rfl) rfl ⟨?_, HK.out.two _ _⟩
    rw [HO.out]
    rfl
  | some x =>
    have HO := Lib.hid hto
    clear hto
    unfold ans tgt
    simp only
    go_wp2
    refine bodyPost_ret (res_two rfl _ x 2 H2.out rfl) rfl ⟨?_, HK.out.two _ _⟩
    rw [HO.out]
    rfl
theorem m45_any (s : ByteArray) (k m : Nat) (w : World) (hT : Tabs w) (hm : mayB s = true) (hk : k ≤ (rs s).length) (hc : m ≤ 999) :
    Calls Tryd.prog 29 #[.string s, .int .i64 k, .int .i64 45, .int .i64 m] w fun e w' => e = .returned (ans (Rw.to (rs s) k 45 m) 2) ∧ Kept (fun _ => False) w w' := by
  have hT1 : Tabs (w.alloc zeroT) := hT.kept ((Kept.refl (fun _ => False) w).alloc _) id id
  have cU := runes_yes s k (w.alloc zeroT) hT1 hm hk
  have hl := rs_len s
  have hsz := mayB_size hm
  have hry := rs_runey (mayB_valid hm)
  have hto : Rw.to (rs s) k 45 m = Rw.to (rs s) k 45 (max m 1) := by unfold Rw.to; simp [show max (max m 1) 1 = max m 1 by omega]
  rw [hto]
  clear hto
  have b1 : decide ((m : Int) < 0) = false := by simp
  have b2 : decide (999 < (m : Int)) = false := by simp; omega
  have hq : max (m : Int) 1 = ((max m 1 : Nat) : Int) := by omega
  have hq1 : 1 ≤ max m 1 ∧ max m 1 ≤ 1000 := by omega
  generalize max m 1 = q at *
  obtain ⟨hq1, hq2⟩ := hq1
  have hb : Hid ((w.alloc zeroT).heap[w.heap.size]? = some zeroT) := heap_alloc_new w _
  have hbs : w.heap.size < (w.alloc zeroT).heap.size := by simp
  generalize rs s = t at *
  clear hT hm hT1
  go_enter Tryd.func29, Tryd.ntmps29
  go_wp2_with (go_at_call 35; refine cU.mono ?_; rintro e w1 ⟨hk1, b, cap, rfl, hbg, hR⟩)
  clear cU
  have cW := a45_any (m := q) (c := cap) hR hry hk (by omega) hq2 hq1
  refine cW.mono ?_
  rintro e w2 ⟨rfl, hk2⟩
  clear cW
  have h2 : w2.heap[w.heap.size]? = some zeroT := ((hk2.block _ (Nat.lt_of_lt_of_le hbs hk1.size) id).trans (hk1.block _ hbs id)).trans hb.out
  have c0 : w2.cell? ⟨w.heap.size, 0, none⟩ = some (.int .i64 0) := by rw [cell_of_row _ _ _ _ _ _ h2]; rfl
  have c1 : w2.cell? ⟨w.heap.size, 1, none⟩ = some (.int .i64 0) := by rw [cell_of_row _ _ _ _ _ _ h2]; rfl
  have f0 : w2.frozen? ⟨w.heap.size, 0, none⟩ = false := frozen_of h2
  have f1 : w2.frozen? ⟨w.heap.size, 1, none⟩ = false := frozen_of h2
  have H2 := Lib.hid h2
  have HK := Lib.hid (hk1.trans hk2)
  clear hk1 hk2 h2 hR hb
  cases hto : Rw.to t k 45 q with
  | none =>
    have HO := Lib.hid hto
    clear hto
    unfold ans tgt
    simp only
    go_wp2
    refine bodyPost_ret (res_two rfl _ 0 0 H2.out rfl) rfl ⟨?_, HK.out.two _ _⟩
    rw [HO.out]
    rfl
  | some x =>
    have HO := Lib.hid hto
    clear hto
    unfold ans tgt
    simp only
    go_wp2
    refine bodyPost_ret (res_two rfl _ x 2 H2.out rfl) rfl ⟨?_, HK.out.two _ _⟩
    rw [HO.out]
    rfl
theorem m95_any (s : ByteArray) (k m : Nat) (w : World) (hT : Tabs w) (hm : mayB s = true) (hk : k ≤ (rs s).length) (hc : m ≤ 999) :
    Calls Tryd.prog 29 #[.string s, .int .i64 k, .int .i64 95, .int .i64 m] w fun e w' => e = .returned (ans (Rw.to (rs s) k 95 m) 2) ∧ Kept (fun _ => False) w w' := by
  have hT1 : Tabs (w.alloc zeroT) := hT.kept ((Kept.refl (fun _ => False) w).alloc _) id id
  have cU := runes_yes s k (w.alloc zeroT) hT1 hm hk
  have hl := rs_len s
  have hsz := mayB_size hm
  have hry := rs_runey (mayB_valid hm)
  have hto : Rw.to (rs s) k 95 m = Rw.to (rs s) k 95 (max m 1) := by unfold Rw.to; simp [show max (max m 1) 1 = max m 1 by omega]
  rw [hto]
  clear hto
  have b1 : decide ((m : Int) < 0) = false := by simp
  have b2 : decide (999 < (m : Int)) = false := by simp; omega
  have hq : max (m : Int) 1 = ((max m 1 : Nat) : Int) := by omega
  have hq1 : 1 ≤ max m 1 ∧ max m 1 ≤ 1000 := by omega
  generalize max m 1 = q at *
  obtain ⟨hq1, hq2⟩ := hq1
  have hb : Hid ((w.alloc zeroT).heap[w.heap.size]? = some zeroT) := heap_alloc_new w _
  have hbs : w.heap.size < (w.alloc zeroT).heap.size := by simp
  generalize rs s = t at *
  clear hT hm hT1
  go_enter Tryd.func29, Tryd.ntmps29
  go_wp2_with (go_at_call 35; refine cU.mono ?_; rintro e w1 ⟨hk1, b, cap, rfl, hbg, hR⟩)
  clear cU
  have cW := a95_any (m := q) (c := cap) hR hry hk (by omega) hq2 hq1
  refine cW.mono ?_
  rintro e w2 ⟨rfl, hk2⟩
  clear cW
  have h2 : w2.heap[w.heap.size]? = some zeroT := ((hk2.block _ (Nat.lt_of_lt_of_le hbs hk1.size) id).trans (hk1.block _ hbs id)).trans hb.out
  have c0 : w2.cell? ⟨w.heap.size, 0, none⟩ = some (.int .i64 0) := by rw [cell_of_row _ _ _ _ _ _ h2]; rfl
  have c1 : w2.cell? ⟨w.heap.size, 1, none⟩ = some (.int .i64 0) := by rw [cell_of_row _ _ _ _ _ _ h2]; rfl
  have f0 : w2.frozen? ⟨w.heap.size, 0, none⟩ = false := frozen_of h2
  have f1 : w2.frozen? ⟨w.heap.size, 1, none⟩ = false := frozen_of h2
  have H2 := Lib.hid h2
  have HK := Lib.hid (hk1.trans hk2)
  clear hk1 hk2 h2 hR hb
  cases hto : Rw.to t k 95 q with
  | none =>
    have HO := Lib.hid hto
    clear hto
    unfold ans tgt
    simp only
    go_wp2
    refine bodyPost_ret (res_two rfl _ 0 0 H2.out rfl) rfl ⟨?_, HK.out.two _ _⟩
    rw [HO.out]
    rfl
  | some x =>
    have HO := Lib.hid hto
    clear hto
    unfold ans tgt
    simp only
    go_wp2
    refine bodyPost_ret (res_two rfl _ x 2 H2.out rfl) rfl ⟨?_, HK.out.two _ _⟩
    rw [HO.out]
    rfl
theorem m71_any (s : ByteArray) (k m : Nat) (w : World) (hT : Tabs w) (hm : mayB s = true) (hk : k ≤ (rs s).length) (hc : m ≤ 999) :
    Calls Tryd.prog 29 #[.string s, .int .i64 k, .int .i64 71, .int .i64 m] w fun e w' => e = .returned (ans (Rw.to (rs s) k 71 m) 2) ∧ Kept (fun _ => False) w w' := by
  have hT1 : Tabs (w.alloc zeroT) := hT.kept ((Kept.refl (fun _ => False) w).alloc _) id id
  have cU := runes_yes s k (w.alloc zeroT) hT1 hm hk
  have hl := rs_len s
  have hsz := mayB_size hm
  have hry := rs_runey (mayB_valid hm)
  have b1 : decide ((m : Int) < 0) = false := by simp
  have b2 : decide (999 < (m : Int)) = false := by simp; omega
  have hq : max (m : Int) 1 = ((max m 1 : Nat) : Int) := by omega
  have hq1 : 1 ≤ max m 1 ∧ max m 1 ≤ 1000 := by omega
  generalize max m 1 = q at *
  obtain ⟨hq1, hq2⟩ := hq1
  have hb : Hid ((w.alloc zeroT).heap[w.heap.size]? = some zeroT) := heap_alloc_new w _
  have hbs : w.heap.size < (w.alloc zeroT).heap.size := by simp
  generalize rs s = t at *
  clear hT hm hT1
  go_enter Tryd.func29, Tryd.ntmps29
  go_wp2_with (go_at_call 35; refine cU.mono ?_; rintro e w1 ⟨hk1, b, cap, rfl, hbg, hR⟩)
  clear cU
  have cW := numbered_any (k := t.length) (m := m) (c := cap) hR hry (by omega) (by omega) (by omega)
  refine cW.mono ?_
  rintro e w2 ⟨rfl, hk2⟩
  clear cW
  have h2 : w2.heap[w.heap.size]? = some zeroT := ((hk2.block _ (Nat.lt_of_lt_of_le hbs hk1.size) id).trans (hk1.block _ hbs id)).trans hb.out
  have c0 : w2.cell? ⟨w.heap.size, 0, none⟩ = some (.int .i64 0) := by rw [cell_of_row _ _ _ _ _ _ h2]; rfl
  have c1 : w2.cell? ⟨w.heap.size, 1, none⟩ = some (.int .i64 0) := by rw [cell_of_row _ _ _ _ _ _ h2]; rfl
  have f0 : w2.frozen? ⟨w.heap.size, 0, none⟩ = false := frozen_of h2
  have f1 : w2.frozen? ⟨w.heap.size, 1, none⟩ = false := frozen_of h2
  have H2 := Lib.hid h2
  have HK := Lib.hid (hk1.trans hk2)
  clear hk1 hk2 h2 hR hb
  have hto : Hid (Rw.to t k 71 m = some (if m = 0 then Rw.fst t t.length else Rw.nth t m)) := by show _ = _; unfold Rw.to; simp
  generalize (if m = 0 then Rw.fst t t.length else Rw.nth t m) = x at *
  unfold tgt
  go_wp2
  refine bodyPost_ret (res_two rfl _ x 2 H2.out rfl) rfl ⟨?_, HK.out.two _ _⟩
  rw [hto.out]
  rfl
theorem m16777319_any (s : ByteArray) (k m : Nat) (w : World) (hT : Tabs w) (hm : mayB s = true) (hk : k ≤ (rs s).length) (hc : m ≤ 999) :
    Calls Tryd.prog 29 #[.string s, .int .i64 k, .int .i64 16777319, .int .i64 m] w fun e w' => e = .returned (ans (Rw.to (rs s) k 16777319 m) 2) ∧ Kept (fun _ => False) w w' := by
  have hT1 : Tabs (w.alloc zeroT) := hT.kept ((Kept.refl (fun _ => False) w).alloc _) id id
  have cU := runes_yes s k (w.alloc zeroT) hT1 hm hk
  have hl := rs_len s
  have hsz := mayB_size hm
  have hry := rs_runey (mayB_valid hm)
  have b1 : decide ((m : Int) < 0) = false := by simp
  have b2 : decide (999 < (m : Int)) = false := by simp; omega
  have hq : max (m : Int) 1 = ((max m 1 : Nat) : Int) := by omega
  have hq1 : 1 ≤ max m 1 ∧ max m 1 ≤ 1000 := by omega
  generalize max m 1 = q at *
  obtain ⟨hq1, hq2⟩ := hq1
  have hb : Hid ((w.alloc zeroT).heap[w.heap.size]? = some zeroT) := heap_alloc_new w _
  have hbs : w.heap.size < (w.alloc zeroT).heap.size := by simp
  generalize rs s = t at *
  clear hT hm hT1
  go_enter Tryd.func29, Tryd.ntmps29
  go_wp2_with (go_at_call 35; refine cU.mono ?_; rintro e w1 ⟨hk1, b, cap, rfl, hbg, hR⟩)
  clear cU
  have cW := numbered_any (k := 0) (m := m) (c := cap) hR hry (by omega) (by omega) (by omega)
  refine cW.mono ?_
  rintro e w2 ⟨rfl, hk2⟩
  clear cW
  have h2 : w2.heap[w.heap.size]? = some zeroT := ((hk2.block _ (Nat.lt_of_lt_of_le hbs hk1.size) id).trans (hk1.block _ hbs id)).trans hb.out
  have c0 : w2.cell? ⟨w.heap.size, 0, none⟩ = some (.int .i64 0) := by rw [cell_of_row _ _ _ _ _ _ h2]; rfl
  have c1 : w2.cell? ⟨w.heap.size, 1, none⟩ = some (.int .i64 0) := by rw [cell_of_row _ _ _ _ _ _ h2]; rfl
  have f0 : w2.frozen? ⟨w.heap.size, 0, none⟩ = false := frozen_of h2
  have f1 : w2.frozen? ⟨w.heap.size, 1, none⟩ = false := frozen_of h2
  have H2 := Lib.hid h2
  have HK := Lib.hid (hk1.trans hk2)
  clear hk1 hk2 h2 hR hb
  have hto : Hid (Rw.to t k 16777319 m = some (if m = 0 then Rw.fst t 0 else Rw.nth t m)) := by show _ = _; unfold Rw.to; simp
  generalize (if m = 0 then Rw.fst t 0 else Rw.nth t m) = x at *
  unfold tgt
  go_wp2
  refine bodyPost_ret (res_two rfl _ x 2 H2.out rfl) rfl ⟨?_, HK.out.two _ _⟩
  rw [hto.out]
  rfl
theorem move_no (s : ByteArray) (k key m : Int) (w : World) (hs : s.size ≤ 140737488351232) (hT : Tabs w) (hno : ¬ ((mayB s = true ∧ 0 ≤ k ∧ k ≤ (rs s).length) ∧ 0 ≤ m ∧ m ≤ 999)) :
    Calls Tryd.prog 29 #[.string s, .int .i64 k, .int .i64 key, .int .i64 m] w fun e w' => e = .returned (.tuple #[tgt 0 0, .int .i64 1]) ∧ Kept (fun _ => False) w w' := by
  have hT1 : Tabs (w.alloc zeroT) := hT.kept ((Kept.refl (fun _ => False) w).alloc _) id id
  have hb : Hid ((w.alloc zeroT).heap[w.heap.size]? = some zeroT) := heap_alloc_new w _
  have hbs : w.heap.size < (w.alloc zeroT).heap.size := by simp
  by_cases hy : mayB s = true ∧ 0 ≤ k ∧ k ≤ (rs s).length
  · obtain ⟨hm, h0, h1⟩ := hy
    obtain ⟨kk, rfl⟩ := Int.eq_ofNat_of_zero_le h0
    have cU := runes_yes s kk (w.alloc zeroT) hT1 hm (by omega)
    have hmm : m < 0 ∨ 999 < m := by
      by_cases h2 : 0 ≤ m
      · right
        by_cases h3 : m ≤ 999
        · exact absurd ⟨⟨hm, h0, h1⟩, h2, h3⟩ hno
        · omega
      · left; omega
    clear hT hm hT1 hno h0 h1
    generalize rs s = t at *
    rcases hmm with h1 | h1
    case' inl => have b1 : decide (m < 0) = true := by simp; omega
    case' inr =>
      have b1 : decide (m < 0) = false := by simp; omega
      have b2 : decide (999 < m) = true := by simp; omega
    all_goals
      go_enter Tryd.func29, Tryd.ntmps29
      go_wp2_with (go_at_call 35; refine cU.mono ?_; rintro e w2 ⟨hk2, b, cap, rfl, hbg, hR⟩; have h2 : w2.heap[w.heap.size]? = some zeroT := (hk2.block _ hbs id).trans hb.out; have c0 : w2.cell? ⟨w.heap.size, 0, none⟩ = some (.int .i64 0) := (by rw [cell_of_row _ _ _ _ _ _ h2]; rfl); have c1 : w2.cell? ⟨w.heap.size, 1, none⟩ = some (.int .i64 0) := (by rw [cell_of_row _ _ _ _ _ _ h2]; rfl); have f0 : w2.frozen? ⟨w.heap.size, 0, none⟩ = false := frozen_of h2; have f1 : w2.frozen? ⟨w.heap.size, 1, none⟩ = false := frozen_of h2; have H2 := Lib.hid h2; have HK := Lib.hid hk2; clear hk2 h2 hR)
      exact bodyPost_ret (res_two rfl _ 0 0 H2.out rfl) rfl ⟨rfl, HK.out.two _ _⟩
  · have cU := runes_no s k (w.alloc zeroT) hs hT1 hy
    clear hT hT1 hno hy
    go_enter Tryd.func29, Tryd.ntmps29
    go_wp2_with (go_at_call 35; refine cU.mono ?_; rintro e w2 ⟨hk2, rfl⟩; have h2 : w2.heap[w.heap.size]? = some zeroT := (hk2.block _ hbs id).trans hb.out; have c0 : w2.cell? ⟨w.heap.size, 0, none⟩ = some (.int .i64 0) := (by rw [cell_of_row _ _ _ _ _ _ h2]; rfl); have c1 : w2.cell? ⟨w.heap.size, 1, none⟩ = some (.int .i64 0) := (by rw [cell_of_row _ _ _ _ _ _ h2]; rfl); have f0 : w2.frozen? ⟨w.heap.size, 0, none⟩ = false := frozen_of h2; have f1 : w2.frozen? ⟨w.heap.size, 1, none⟩ = false := frozen_of h2; have H2 := Lib.hid h2; have HK := Lib.hid hk2; clear hk2 h2)
    exact bodyPost_ret (res_two rfl _ 0 0 H2.out rfl) rfl ⟨rfl, HK.out.two _ _⟩
theorem move_key (s : ByteArray) (k m : Nat) (key : Int) (w : World) (hT : Tabs w) (hm : mayB s = true) (hk : k ≤ (rs s).length) (hc : m ≤ 999) (hno : ¬ Rw.Line key) :
    Calls Tryd.prog 29 #[.string s, .int .i64 k, .int .i64 key, .int .i64 m] w fun e w' => e = .returned (.tuple #[tgt 0 0, .int .i64 1]) ∧ Kept (fun _ => False) w w' := by
  have hT1 : Tabs (w.alloc zeroT) := hT.kept ((Kept.refl (fun _ => False) w).alloc _) id id
  have hb : Hid ((w.alloc zeroT).heap[w.heap.size]? = some zeroT) := heap_alloc_new w _
  have hbs : w.heap.size < (w.alloc zeroT).heap.size := by simp
  have cU := runes_yes s k (w.alloc zeroT) hT1 hm hk
  have hsz := mayB_size hm
  have hl := rs_len s
  have b1 : decide ((m : Int) < 0) = false := by simp
  have b2 : decide (999 < (m : Int)) = false := by simp; omega
  have hq : max (m : Int) 1 = ((max m 1 : Nat) : Int) := by omega
  have hq1 : 1 ≤ max m 1 ∧ max m 1 ≤ 1000 := by omega
  generalize max m 1 = q at *
  have hne : ∀ a, Rw.Line a → (key == a) = false := fun a ha => by
    rw [beq_eq_false_iff_ne]
    rintro rfl
    exact hno ha
  have e0 := hne 104 (by decide)
  have e1 := hne 108 (by decide)
  have e2 := hne 48 (by decide)
  have e3 := hne 94 (by decide)
  have e4 := hne 36 (by decide)
  have e5 := hne 106 (by decide)
  have e6 := hne 107 (by decide)
  have e7 := hne 43 (by decide)
  have e8 := hne 45 (by decide)
  have e9 := hne 95 (by decide)
  have e10 := hne 71 (by decide)
  have e11 := hne 16777319 (by decide)
  clear hT hm hT1 hno hne
  generalize rs s = t at *
  go_enter Tryd.func29, Tryd.ntmps29
  go_wp2_with (go_at_call 35; refine cU.mono ?_; rintro e w2 ⟨hk2, b, cap, rfl, hbg, hR⟩; have h2 : w2.heap[w.heap.size]? = some zeroT := (hk2.block _ hbs id).trans hb.out; have c0 : w2.cell? ⟨w.heap.size, 0, none⟩ = some (.int .i64 0) := (by rw [cell_of_row _ _ _ _ _ _ h2]; rfl); have c1 : w2.cell? ⟨w.heap.size, 1, none⟩ = some (.int .i64 0) := (by rw [cell_of_row _ _ _ _ _ _ h2]; rfl); have f0 : w2.frozen? ⟨w.heap.size, 0, none⟩ = false := frozen_of h2; have f1 : w2.frozen? ⟨w.heap.size, 1, none⟩ = false := frozen_of h2; have H2 := Lib.hid h2; have HK := Lib.hid hk2; clear hk2 h2 hR)
  exact bodyPost_ret (res_two rfl _ 0 0 H2.out rfl) rfl ⟨rfl, HK.out.two _ _⟩
/-- Of whatever key of these. -/
theorem move_yes (s : ByteArray) (k m : Nat) (key : Int) (w : World) (hT : Tabs w) (hm : mayB s = true) (hk : k ≤ (rs s).length) (hc : m ≤ 999) (hl : Rw.Line key) :
    Calls Tryd.prog 29 #[.string s, .int .i64 k, .int .i64 key, .int .i64 m] w fun e w' => e = .returned (ans (Rw.to (rs s) k key m) (Rw.kd key)) ∧ Kept (fun _ => False) w w' := by
  rcases hl with rfl | rfl | rfl | rfl | rfl | rfl | rfl | rfl | rfl | rfl | rfl | rfl
  · exact m104_any s k m w hT hm hk hc
  · exact m108_any s k m w hT hm hk hc
  · exact m48_any s k m w hT hm hk hc
  · exact m94_any s k m w hT hm hk hc
  · exact m36_any s k m w hT hm hk hc
  · exact m106_any s k m w hT hm hk hc
  · exact m107_any s k m w hT hm hk hc
  · exact m43_any s k m w hT hm hk hc
  · exact m45_any s k m w hT hm hk hc
  · exact m95_any s k m w hT hm hk hc
  · exact m71_any s k m w hT hm hk hc
  · exact m16777319_any s k m w hT hm hk hc
end Go.Proofs.YtnjknebhogdgfaaDoor
