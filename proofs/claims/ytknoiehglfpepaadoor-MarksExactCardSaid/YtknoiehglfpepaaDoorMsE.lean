/-
  MARKS: how much a script weighs; that they wake.
-/
import Derived.Test.YtknoiehglfpepaaDoorMsD
set_option linter.unusedVariables false
namespace Go.Proofs.YtknoiehglfpepaaDoor
open Go Go.RowKit

theorem num6_any (x : Int) (w : World) : Calls Tryd.prog 8 #[.int .i64 x] w fun e w' => e = .returned (.int .i64 x) ∧ w' = w := by
  go_enter Tryd.func8, Tryd.ntmps8
  go_wp2
  go_ret
  exact ⟨rfl, rfl⟩
theorem texts_none (w : World) : Calls Tryd.prog 38 #[.slice none 0 0] w fun e w' => e = .returned (.int .i64 0) ∧ w' = w := by
  go_enter Tryd.func38, Tryd.ntmps38
  go_wp2
  go_loop [3, 4] (fun m i => m = .int .i64 0 ∧ i = .int .i64 0) (fun _ _ => 0)
  case atStart => exact ⟨rfl, rfl⟩
  case round =>
    obtain ⟨rfl, rfl⟩ := hrel
    go_wp2
    go_ret
    exact ⟨rfl, rfl⟩
theorem heavy_none (w : World) : Calls Tryd.prog 29 #[.agg #[.slice none 0 0, .int .i64 0, .int .i64 0, .int .i64 0, .int .i64 0]] w fun e w' => e = .returned (.bool false) ∧ Kept (fun _ => False) w w' := by
  have cT := texts_none (w.alloc (.cells #[.slice none 0 0, .int .i64 0, .int .i64 0, .int .i64 0, .int .i64 0] 56))
  go_enter Tryd.func29, Tryd.ntmps29
  go_wp2_with (go_at_call 38; refine cT.mono ?_; rintro e w' ⟨rfl, rfl⟩)
  go_ret
  exact ⟨rfl, (Kept.refl _ w).alloc _⟩
theorem heavy4_none (w : World) : Calls Tryd.prog 23 #[.agg #[.slice none 0 0, .int .i64 0, .int .i64 0, .int .i64 0, .int .i64 0, .slice none 0 0, .int .i64 0]] w fun e w' => e = .returned (.bool false) ∧ Kept (fun _ => False) w w' := by
  have hka : Kept (fun _ => False) w (w.alloc (.cells #[.slice none 0 0, .int .i64 0, .int .i64 0, .int .i64 0, .int .i64 0, .slice none 0 0, .int .i64 0] 59)) := (Kept.refl _ w).alloc _
  have HKA := Lib.hid hka
  clear hka
  go_enter Tryd.func23, Tryd.ntmps23
  go_wp2_with fail
  go_loop [3, 4] (fun m i => m = .int .i64 0 ∧ i = .int .i64 0) (fun _ _ => 0)
  case atStart => exact ⟨rfl, rfl⟩
  case round =>
    obtain ⟨rfl, rfl⟩ := hrel
    go_wp2_with (go_at_call 29; refine (heavy_none _).mono ?_; rintro e w' ⟨rfl, hk⟩)
    go_ret
    exact ⟨rfl, HKA.out.trans hk⟩
set_option maxRecDepth 100000 in
set_option maxHeartbeats 1000000 in
theorem heavy6_any (p : ScrM) (w : World) (h : ScrMOk w p) :
    Calls Tryd.prog 5 #[.agg p.cells] w fun e w' => (∃ b : Bool, e = .returned (.bool b) ∧ (b = false → p.mn ≤ 4000)) ∧ Kept (fun _ => False) w w' := by
  have hK0 : Hid (Kept (fun _ => False) w (w.alloc (.cells p.cells 25))) := (Kept.refl _ w).alloc _
  have hP0 : Hid (PSc (w.alloc (.cells p.cells 25)) w.heap.size p) := heap_alloc_new w _
  have hA0 : Hid (ScrMOk (w.alloc (.cells p.cells 25)) p) := h.kept hK0.out
  obtain ⟨M, mn, mc, marks, L, ln, lc, acts⟩ := p
  have hmn : mn ≤ 140737488351232 := h.mn
  have hln : ln ≤ 140737488351232 := h.ln
  clear h
  unfold ScrM.cells at *
  simp only at *
  go_enter Tryd.func5, Tryd.ntmps5
  go_wp2_with fail
  generalize hpb : w.heap.size = pb at hP0 ⊢
  clear hpb
  generalize w.alloc (.cells #[.slice M mn mc, .slice L ln lc] 25) = wa at *
  have p0 : wa.cell? ⟨pb, 0, none⟩ = some (.slice M mn mc) := hP0.out.c 0
  have p1 : wa.cell? ⟨pb, 1, none⟩ = some (.slice L ln lc) := hP0.out.c 1
  go_loop [3, 4] (fun v i => ∃ (k : Nat) (q : Int), k ≤ ln ∧ i = .int .i64 k ∧ v = .int .i64 q ∧ (mn : Int) ≤ q ∧ q ≤ 600000000000000) (fun _ i => ln - (intOf i).toNat)
  case atStart => exact ⟨0, mn, Nat.zero_le _, rfl, rfl, by omega, by omega⟩
  case round =>
    obtain ⟨k, q, hk, rfl, rfl, h1, h2⟩ := hrel
    by_cases hlt : k < ln
    · by_cases hq : q < 1048576
      · obtain ⟨ad, b, rfl, hs, c0, c1, c2, c3, c4, c5, _, _, _, _, _, hsz⟩ := hA0.out.acts.at_ hlt
        clear hs c0 c1 c2 c3 c4
        have bq : decide (q < 1048576) = true := by simp; omega
        go_wp2
        go_round
        case rel => exact ⟨k + 1, q + 1 + b.s.size, by omega, by go_num, by go_num, by omega, by omega⟩
        case measure => simp [intOf]; omega
      · have bq : decide (q < 1048576) = false := by simp; omega
        have b6 : decide (4000 < q) = true := by simp; omega
        go_wp2
        go_ret
        exact ⟨.inr rfl, hK0.out⟩
    · obtain rfl : k = ln := by omega
      by_cases hq6 : 4000 < q
      · have b6 : decide (4000 < q) = true := by simp; omega
        go_wp2
        go_ret
        exact ⟨.inr rfl, hK0.out⟩
      · have b6 : decide (4000 < q) = false := by simp; omega
        have hm4 : mn ≤ 4000 := by omega
        go_wp2
        go_ret
        exact ⟨.inl rfl, hK0.out⟩
theorem wake_set {m f : Nat} (h : Rw.SetAt [] 98 m f) : Rw.mset [] 98 4 m f = [[98, 4]] := by
  have h1 := h.le
  have h2 := h.mf
  simp only [List.length_nil] at h1 h2
  obtain rfl : m = 0 := by omega
  obtain rfl : f = 0 := by omega
  rfl
theorem rws_nil (w : World) : Rws w none 0 2 [] := ⟨rfl, fun i r h => by simp at h⟩
set_option maxRecDepth 100000 in
theorem wakes6_any (w : World) : Calls Tryd.prog 22 #[] w fun e w' => e = .returned (.bool true) ∧ Kept (fun _ => False) w w' := by
  have cS := mset_yes none 0 0 [] 98 4 w (rws_nil w) ⟨Nat.le_refl _, fun _ => rfl⟩ (by omega) (fun i x y h => by simp at h) (by omega) (by omega)
  have ho : Rw.mOk [[98, 4]] := by
    intro i x y h
    match i, h with
    | 0, h =>
      simp only [List.getElem?_cons_zero, Option.some.injEq] at h
      injection h with e1 e2
      injection e2 with e2 _
      exact ⟨by omega, by omega, fun _ _ h => by omega⟩
    | i + 1, h => simp at h
  have HO := Lib.hid ho
  clear ho
  go_enter Tryd.func22, Tryd.ntmps22
  go_wp2_with fail
  refine cS.mono ?_
  rintro e w1 ⟨⟨m, f, hat, hm⟩, hk1⟩
  rw [wake_set hat] at hm
  obtain ⟨B, c', rfl, hR, _, _⟩ := hm
  have cG := mget_yes B 1 c' [[98, 4]] 98 w1 hR (by omega) HO.out
  rw [show Rw.mget [[98, 4]] 98 = some 4 from rfl] at cG
  unfold getT at cG
  simp only at cG
  have HK1 := Lib.hid hk1
  clear hk1 hat hR
  go_wp2_with (first | (go_at_call 15; refine cG.mono ?_; rintro e w2 ⟨rfl, hk2⟩; have HK2 := Lib.hid (HK1.out.trans hk2); clear hk2) | (go_at_call 8; refine (num6_any _ _).mono ?_; rintro e w' ⟨rfl, hw⟩; have hw2 := hw.symm; subst hw2))
  go_ret
  exact ⟨rfl, HK2.out⟩
end Go.Proofs.YtknoiehglfpepaaDoor
