/-
  THAT change WAKES; the reference's Apply (patch).
-/
import Derived.Test.YtpgoikecignldaaDoorOd
import Derived.Test.YtpgoikecignldaaDoorRc
set_option linter.unusedVariables false
namespace Go.Proofs.YtpgoikecignldaaDoor
open Go Go.RowKit

theorem pat_facts {w : World} {g : Nat} {a d : Int} {s : ByteArray} (h : w.heap[g]? = some (patO a d s)) : w.cell? ⟨g, 0, none⟩ = some (.int .i64 a) ∧ w.cell? ⟨g, 1, none⟩ = some (.int .i64 d) ∧ w.cell? ⟨g, 2, none⟩ = some (.string s) :=
  ⟨by rw [cell_of_row _ _ _ _ _ _ h]; rfl, by rw [cell_of_row _ _ _ _ _ _ h]; rfl, by rw [cell_of_row _ _ _ _ _ _ h]; rfl⟩
set_option maxRecDepth 100000 in
theorem rapply_any (s : ByteArray) (pa pd : Nat) (ins : ByteArray) (w : World) (hs : s.size ≤ 6000) (hp : pa + pd ≤ (rs s).length) (hi : ins.size ≤ 100000) :
    Calls Tryd.prog 11 #[.string s, patV pa pd ins] w fun e w' => e = .returned (.string (runesBytes ((rs s).take pa) ++ ins ++ runesBytes ((rs s).drop (pa + pd)))) ∧ Kept (fun _ => False) w w' := by
  have hl := rs_len s
  have hka : Kept (fun _ => False) w (w.alloc (patO pa pd ins)) := (Kept.refl _ w).alloc _
  have HG0 : Hid ((w.alloc (patO pa pd ins)).heap[w.heap.size]? = some (patO pa pd ins)) := heap_alloc_new w _
  obtain ⟨cap, w2, hcap, hcv, hk2, hlt, hR⟩ := conv_rs s (w.alloc (patO pa pd ins)) (by omega)
  have hz : (w.alloc (patO pa pd ins)).heap.size = w.heap.size + 1 := by simp
  rw [hz] at hcv hR
  obtain ⟨f0, f1, f2⟩ := pat_facts ((hk2.block _ (heap_lt HG0.out) id).trans HG0.out)
  have hsA : (runesBytes ((rs s).take pa)).size ≤ 100000 := by
    rw [txt_size]
    have h1 : ∀ l : List Int, (Utf.bytes l).length ≤ 4 * l.length := fun l => by
      induction l with
      | nil => exact Nat.le_refl _
      | cons c l ih => show (Utf.enc c ++ Utf.bytes l).length ≤ _; have := (Utf.enc_length c).2; rw [List.length_append, List.length_cons]; omega
    have := h1 ((rs s).take pa)
    rw [List.length_take] at this
    omega
  have hsC : (runesBytes ((rs s).drop (pa + pd))).size ≤ 100000 := by
    rw [txt_size]
    have h1 : ∀ l : List Int, (Utf.bytes l).length ≤ 4 * l.length := fun l => by
      induction l with
      | nil => exact Nat.le_refl _
      | cons c l ih => show (Utf.enc c ++ Utf.bytes l).length ≤ _; have := (Utf.enc_length c).2; rw [List.length_append, List.length_cons]; omega
    have := h1 ((rs s).drop (pa + pd))
    rw [List.length_drop] at this
    omega
  generalize rs s = t at *
  have hcA := fun u => run_cut_h u (some ⟨w.heap.size + 1, 0, none⟩) t.length cap pa (pa : Int) rfl (by omega)
  have hcC := fun u => run_cut_l u (some ⟨w.heap.size + 1, 0, none⟩) t.length cap (pa + pd) ((pa : Int) + (pd : Int)) (by omega) hp hcap
  have hRA : Rn w2 (cutB (some ⟨w.heap.size + 1, 0, none⟩) cap 0) pa (t.take pa) := by rw [cutB_zero]; exact hR.take (by omega)
  have hRC : Rn w2 (cutB (some ⟨w.heap.size + 1, 0, none⟩) cap (pa + pd)) (t.length - (pa + pd)) (t.drop (pa + pd)) := hR.drop hp hcap
  generalize cutB (some ⟨w.heap.size + 1, 0, none⟩) cap 0 = CA at *
  generalize cutB (some ⟨w.heap.size + 1, 0, none⟩) cap (pa + pd) = CC at *
  have htA : ∀ r, (convert 30 9 (.slice CA pa cap)).run Tryd.prog (w2.drewN r) = .ok (.string (runesBytes (t.take pa))) (w2.drewN r) := fun r => run_txt (w := w2.drewN r) hRA
  have htC : ∀ r, (convert 30 9 (.slice CC (t.length - (pa + pd)) (cap - (pa + pd)))).run Tryd.prog (w2.drewN r) = .ok (.string (runesBytes (t.drop (pa + pd)))) (w2.drewN r) := fun r => run_txt (w := w2.drewN r) hRC
  generalize runesBytes (t.take pa) = SA at *
  generalize runesBytes (t.drop (pa + pd)) = SC at *
  have ad1 : ∀ u, (Op.stringOp .add SA ins).run Tryd.prog u = .ok (.string (SA ++ ins)) u := fun u => run_string_add_sum u SA ins (by omega)
  have ad2 : ∀ u, (Op.stringOp .add (SA ++ ins) SC).run Tryd.prog u = .ok (.string (SA ++ ins ++ SC)) u := fun u => run_string_add_sum u (SA ++ ins) SC (by rw [ByteArray.size_append]; omega)
  have hw1 : IntKind.i64.wrap ((pa : Int) + (pd : Int)) = (pa : Int) + (pd : Int) := IntWalk.i64_in _ ⟨by omega, by omega⟩
  have HK2 := Lib.hid (hka.trans hk2)
  clear hk2 hka hR hRA hRC
  go_enter Tryd.func11, Tryd.ntmps11
  go_upto_region 2 with fail
  go_quiet (fail)
  go_wp2
  go_ret
  exact ⟨rfl, HK2.out.drewN _⟩
/-- The text that wakes. -/
def abT : ByteArray := ⟨#[97, 98]⟩
theorem abT_rs : rs abT = [97, 98] := by decide
theorem abT_may : mayB abT = true := by decide
theorem lnum_any (x : Int) (w : World) : Calls Tryd.prog 9 #[.int .i64 x] w fun e w' => e = .returned (.int .i64 x) ∧ w' = w := by
  go_enter Tryd.func9, Tryd.ntmps9
  go_wp2
  go_ret
  exact ⟨rfl, rfl⟩
theorem wake_vals : chgV (Rw.bat (rs abT) (Rw.lft (rs abT) 0 1) : Nat) (Rw.bdel (rs abT) (Rw.lft (rs abT) 0 1) : Nat) (runesBytes (Rw.bins (rs abT) (Rw.lft (rs abT) 0 1))) ((0 : Nat) : Int) (runesBytes (Rw.tkn (rs abT) 0 1)) false = chgV 0 1 ⟨#[]⟩ 0 ⟨#[97]⟩ false := by
  rw [abT_rs]
  have e1 : Rw.bat [97, 98] (Rw.lft [97, 98] 0 1) = 0 := by decide
  have e2 : Rw.bdel [97, 98] (Rw.lft [97, 98] 0 1) = 1 := by decide
  have e3 : runesBytes (Rw.bins [97, 98] (Rw.lft [97, 98] 0 1)) = ⟨#[]⟩ := by decide
  have e4 : runesBytes (Rw.tkn [97, 98] 0 1) = ⟨#[97]⟩ := by decide
  rw [e1, e2, e3, e4]
  rfl
theorem wake_app : runesBytes ((rs abT).take 0) ++ (⟨#[]⟩ : ByteArray) ++ runesBytes ((rs abT).drop (0 + 1)) = ⟨#[98]⟩ := by
  rw [abT_rs]
  decide
set_option maxRecDepth 100000 in
theorem chwakes_any (w : World) (hT : Tabs w) : Calls Tryd.prog 14 #[] w fun e w' => e = .returned (.bool true) ∧ Kept (fun _ => False) w w' := by
  have cM := of_d abT 0 1 false 100 0 0 1 0 w hT abT_may (by omega) ⟨by omega, by rw [abT_rs]; decide, fun h => by cases h⟩ (.inr (.inl ⟨rfl, rfl, rfl, rfl, by rw [abT_rs]; decide⟩))
  rw [wake_vals] at cM
  have cA := fun w => rapply_any abT 0 1 ⟨#[]⟩ w (by decide) (by rw [abT_rs]; decide) (by decide)
  rw [wake_app] at cA
  unfold abT at *
  have HCA := Lib.hid cA
  clear hT cA
  go_enter Tryd.func14, Tryd.ntmps14
  go_wp2_with (first | (go_at_call 8; refine cM.mono ?_; rintro e w1 ⟨rfl, hk1⟩; have HK1 := Lib.hid hk1; clear hk1 cM) | (go_at_call 9; refine (lnum_any _ _).mono ?_; rintro e w2 ⟨rfl, hw⟩; have hw2 := hw.symm; subst hw2) | (go_at_call 11; refine (HCA.out _).mono ?_; rintro e w3 ⟨rfl, hk3⟩))
  go_ret
  exact ⟨rfl, (HK1.out.alloc _).trans hk3⟩
end Go.Proofs.YtpgoikecignldaaDoor
