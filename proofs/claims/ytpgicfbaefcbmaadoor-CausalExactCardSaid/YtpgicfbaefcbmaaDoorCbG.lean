/-
  CAUSAL ORDER: the law CausalExact: how it begins.
-/
import Derived.Test.YtpgicfbaefcbmaaDoorCaU
import Derived.Test.YtpgicfbaefcbmaaDoorCbD
import Derived.Test.YtpgicfbaefcbmaaDoorCbE
import Derived.Test.YtpgicfbaefcbmaaDoorCbF
set_option linter.unusedVariables false
namespace Go.Proofs.YtpgicfbaefcbmaaDoor
open Go Go.RowKit Go.ChangeShapes Go.WideShapes Go.ChangeAt

theorem ScrOk.kept {w w' : World} {p : Scr} (h : ScrOk w p) (hk : Kept (fun _ => False) w w') : ScrOk w' p :=
  ⟨h.v.kept hk (fun _ _ => id), h.vi, h.vn, h.w.kept hk (fun _ _ => id) (fun _ _ _ _ => id), h.xn, h.wc, h.o.kept hk (fun _ _ => id) (fun _ _ _ _ => id), h.on, h.oc⟩
set_option maxRecDepth 100000 in
set_option maxHeartbeats 2000000 in
theorem heavy26_any (p : Scr) (w : World) (h : ScrOk w p) :
    Calls Tryd.prog 18 #[.agg p.cells] w fun e w' => (∃ b : Bool, e = .returned (.bool b) ∧ (b = false → p.vn ≤ 50 ∧ p.xn ≤ 1500 ∧ p.on ≤ 1500)) ∧ Kept (fun _ => False) w w' := by
  have hK0 : Hid (Kept (fun _ => False) w (w.alloc (.cells p.cells 48))) := (Kept.refl _ w).alloc _
  have hP0 := heap_alloc_new w (.cells p.cells 48)
  have hA0 : Hid (ScrOk (w.alloc (.cells p.cells 48)) p) := h.kept hK0.out
  have HP0 := Lib.hid hP0
  obtain ⟨V, vn, vc, vs, X, xn, xc, ws, O, on, oc, os⟩ := p
  have hxn := h.xn
  have hon := h.on
  have hvn := h.vn
  clear h hP0
  unfold Scr.cells at *
  simp only at *
  go_enter Tryd.func18, Tryd.ntmps18
  go_upto_region 1 with fail
  generalize hpb : w.heap.size = pb at HP0 ⊢
  clear hpb
  generalize w.alloc (.cells #[.slice V vn vc, .slice X xn xc, .slice O on oc] 48) = wa at *
  have p0 : wa.cell? ⟨pb, 0, none⟩ = some (.slice V vn vc) := cell_of_row _ _ _ _ _ _ HP0.out
  have p1 : wa.cell? ⟨pb, 1, none⟩ = some (.slice X xn xc) := cell_of_row _ _ _ _ _ _ HP0.out
  have p2 : wa.cell? ⟨pb, 2, none⟩ = some (.slice O on oc) := cell_of_row _ _ _ _ _ _ HP0.out
  have cX := opsweight_any X xn xc ws wa hA0.out.w hxn
  have cO := opsweight_any O on oc os wa hA0.out.o hon
  obtain ⟨G, hG⟩ : ∃ G : Bool, decide ((vn : Int) > 50) = G := ⟨_, rfl⟩
  have hG2 : decide (50 < (vn : Int)) = G := hG
  have HG := Lib.hid hG
  cases G
  · go_wp2_with (first
      | (go_at_call 37; first | (refine cX.mono ?_; clear cX; rintro e w' ⟨⟨q, rfl, hq1, hq2⟩, hw⟩; have hw2 := hw.symm; subst hw2) | (refine cO.mono ?_; clear cO; rintro e w' ⟨⟨r, rfl, hr1, hr2⟩, hw⟩; have hw2 := hw.symm; subst hw2)))
    all_goals go_ret
    all_goals first
      | (refine ⟨⟨_, rfl, fun h => ?_⟩, hK0.out⟩
         have h : (decide (1500 < q) || decide (1500 < r)) = false := h
         simp only [Bool.or_eq_false_iff, decide_eq_false_iff_not] at h
         have hG := HG.out
         rw [decide_eq_false_iff_not] at hG
         exact ⟨by omega, by omega, by omega⟩)
      | (refine ⟨⟨_, rfl, fun h => ?_⟩, hK0.out⟩
         have h : decide (1500 < r) = false := h
         rw [decide_eq_false_iff_not] at h
         have hG := HG.out
         rw [decide_eq_false_iff_not] at hG
         exact ⟨by omega, by omega, by omega⟩)
      | exact ⟨.inr rfl, hK0.out⟩
      | exact ⟨⟨true, rfl, fun h => by cases h⟩, hK0.out⟩
  · go_wp2_with fail
    all_goals go_ret
    all_goals first
      | exact ⟨.inr rfl, hK0.out⟩
      | exact ⟨⟨true, rfl, fun h => by cases h⟩, hK0.out⟩
/-- The law's two: a vector, what waits. -/
structure LX (w : World) (V W : Value) (M : Nat) (vs : List Int) (al : List OpS) : Prop where
  v : ∃ A n c, V = .slice A n c ∧ Nums w A n vs ∧ n ≤ 50
  w : ∃ A n c, W = .slice A n c ∧ OpsM w A n al ∧ n ≤ M ∧ Cp A n c
theorem LX.keep {w w' : World} {V W : Value} {M : Nat} {vs : List Int} {al : List OpS} (h : LX w V W M vs al) (hk : Kept (fun _ => False) w w') : LX w' V W M vs al := by
  obtain ⟨⟨A, n, c, e, hn, h5⟩, A2, n2, c2, e2, hM, hm, hc⟩ := h
  exact ⟨⟨A, n, c, e, hn.kept hk (fun _ _ => id), h5⟩, A2, n2, c2, e2, hM.kept hk (fun _ _ => id) (fun _ _ _ _ => id), hm, hc⟩
end Go.Proofs.YtpgicfbaefcbmaaDoor
