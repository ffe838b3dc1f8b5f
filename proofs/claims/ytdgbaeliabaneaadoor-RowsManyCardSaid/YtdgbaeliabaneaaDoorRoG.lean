/-
  TREES OF ROWS balanced: the left side is higher, by its own right side.
-/
import Derived.Test.YtdgbaeliabaneaaDoorRoF
import Derived.BigQuiet
set_option linter.unusedVariables false
namespace Go.Proofs.YtdgbaeliabaneaaDoor
open Go Go.RowKit

theorem ok_lr {a c d r : Tr} {x y s : ByteArray} (h : (Tr.node (.node a x (.node c y d)) s r).Ok) : (Tr.node a x c).Ok ∧ (Tr.node d s r).Ok ∧ (Tr.node (.node a x c) y (.node d s r)).Ok := by
  have h1 := h.si
  have h2 := h.by_
  have h3 := h.ru
  obtain ⟨⟨m1, ⟨m2, m3, m4, m5⟩, m6, m7⟩, m8, m9, m10⟩ := h.sm
  simp only [Tr.size, Tr.by_, Tr.ru] at h1 h2 h3
  refine ⟨⟨⟨m1, m2, m6, m7⟩, ?_, ?_, ?_⟩, ⟨⟨m3, m8, m9, m10⟩, ?_, ?_, ?_⟩, ⟨⟨⟨m1, m2, m6, m7⟩, ⟨m3, m8, m9, m10⟩, m4, m5⟩, ?_, ?_, ?_⟩⟩ <;> simp only [Tr.size, Tr.by_, Tr.ru] <;> omega
set_option maxRecDepth 100000 in
set_option maxHeartbeats 4000000 in
theorem balance_lr (vl vr : Value) (a c d r : Tr) (x y s : ByteArray) (X : Nat → Prop) (w : World) (hl : TrM w X vl (.node a x (.node c y d))) (hr : TrM w X vr r) (hX : ∀ q, w.heap.size ≤ q → ¬ X q) (hO : (Tr.node (.node a x (.node c y d)) s r).Ok) (h1 : r.ht + 1 < (Tr.node a x (.node c y d)).ht) (h2 : ¬ (Tr.node c y d).ht ≤ a.ht) :
    Calls Tryd.prog 49 #[vl, .string s, vr] w fun e w' => (∃ v, e = .returned v ∧ TrM w' X v (.node (.node a x c) y (.node d s r))) ∧ Kept (fun _ => False) w w' := by
  have c1 := tall_any _ vl X w hl
  have c2 := tall_any r vr X w hr
  have g1 := (Tr.node a x (.node c y d)).ht_size
  have g2 := r.ht_size
  have g3 := hO.l.si
  have g4 := hO.r.si
  obtain ⟨lb, va, vb, rfl, hx, hbk, ha, hb⟩ := hl
  obtain ⟨pr, rfl⟩ := hr.ptr
  obtain ⟨pa, rfl⟩ := ha.ptr
  have hbb := hb
  obtain ⟨qb, vc, vd, rfl, hqx, hqk, hc, hd⟩ := hb
  obtain ⟨pc, rfl⟩ := hc.ptr
  obtain ⟨pd, rfl⟩ := hd.ptr
  have m0 : w.cell? ⟨qb, 0, none⟩ = some (.string y) := cell_of_row _ _ _ _ _ _ hqk
  have m1 : w.cell? ⟨qb, 1, none⟩ = some (.pointer pc) := cell_of_row _ _ _ _ _ _ hqk
  have m2 : w.cell? ⟨qb, 2, none⟩ = some (.pointer pd) := cell_of_row _ _ _ _ _ _ hqk
  have f0 : w.cell? ⟨lb, 0, none⟩ = some (.string x) := cell_of_row _ _ _ _ _ _ hbk
  have f1 : w.cell? ⟨lb, 1, none⟩ = some (.pointer pa) := cell_of_row _ _ _ _ _ _ hbk
  have f2 : w.cell? ⟨lb, 2, none⟩ = some (.pointer (some ⟨qb, 0, none⟩)) := cell_of_row _ _ _ _ _ _ hbk
  have hdr : Kept (fun _ => False) w w.drew := (Kept.refl _ w).drew
  have k0 : w.drew.cell? ⟨lb, 0, none⟩ = some (.string x) := f0
  have c3 := tall_any a (.pointer pa) X w.drew (TrM.keptF hdr ha)
  have c4 := tall_any (.node c y d) (.pointer (some ⟨qb, 0, none⟩)) X w.drew (TrM.keptF hdr hbb)
  obtain ⟨H, hH⟩ : ∃ H, (Tr.node a x (.node c y d)).ht = H := ⟨_, rfl⟩
  rw [hH] at c1 h1 g1
  have e1 : IntKind.i64.wrap ((r.ht : Int) + 1) = (r.ht : Int) + 1 := IntWalk.i64_in _ ⟨by omega, by omega⟩
  have d1 : decide ((r.ht : Int) + 1 < (H : Int)) = true := decide_eq_true (by omega)
  obtain ⟨G, hG⟩ : ∃ G, (Tr.node c y d).ht = G := ⟨_, rfl⟩
  rw [hG] at c4 h2
  have d2 : decide ((G : Int) ≤ (a.ht : Int)) = false := decide_eq_false (by omega)
  have d3 : decide (G ≤ a.ht) = false := decide_eq_false h2
  have HA := Lib.hid ha
  have HC := Lib.hid hc
  have HD := Lib.hid hd
  have HRR := Lib.hid hr
  have HO := Lib.hid hO
  have HX := Lib.hid hX
  clear ha hbb hc hd hqk hG hr hX hO hH hbk g1 g2 g3 g4 h1 h2 hdr
  go_enter Tryd.func49, Tryd.ntmps49
  go_upto_region 2 with (first
    | (go_at_call 40; refine c1.mono ?_; rintro e w' ⟨rfl, hw⟩; have hw2 := hw.symm; subst hw2; clear c1)
    | (go_at_call 40; refine c2.mono ?_; rintro e w' ⟨rfl, hw⟩; have hw2 := hw.symm; subst hw2; clear c2))
  go_region_held3 (fun (W : World) => W.cell? ⟨lb, 1, none⟩ = some (.pointer pa) ∧ W.cell? ⟨lb, 2, none⟩ = some (.pointer (some ⟨qb, 0, none⟩)))
    (exact ⟨f1, f2⟩)
    (first
    | (go_at_call 40; refine c3.mono ?_; rintro e w' ⟨rfl, hw⟩; have hw2 := hw.symm; subst hw2; clear c3)
    | (go_at_call 40; refine c4.mono ?_; rintro e w' ⟨rfl, hw⟩; have hw2 := hw.symm; subst hw2; clear c4))
  have KF : Hid (∀ W, Kept (fun _ => False) w W → W.cell? ⟨lb, 0, none⟩ = some (.string x) ∧ W.cell? ⟨lb, 1, none⟩ = some (.pointer pa) ∧ W.cell? ⟨qb, 0, none⟩ = some (.string y) ∧ W.cell? ⟨qb, 1, none⟩ = some (.pointer pc) ∧ W.cell? ⟨qb, 2, none⟩ = some (.pointer pd)) := fun W hk => ⟨cell_kept hk f0 id, cell_kept hk f1 id, cell_kept hk m0 id, cell_kept hk m1 id, cell_kept hk m2 id⟩
  have f2d : w.drew.cell? ⟨lb, 2, none⟩ = some (.pointer (some ⟨qb, 0, none⟩)) := f2
  go_upto_region 5 with fail
  have HD2 : Hid (Kept (fun _ => False) w w.drew.drew) := (Kept.refl (fun _ => False) w).drew.drew
  have KA := KF.out w.drew.drew HD2.out
  have cO1 := over_ok (.pointer pa) (.pointer pc) a c x X w.drew.drew (TrM.keptF HD2.out HA.out) (TrM.keptF HD2.out HC.out) HX.out (ok_lr HO.out).1
  go_region_held3 (fun (W : World) => W.cell? ⟨lb, 0, none⟩ = some (.string x) ∧ W.cell? ⟨lb, 1, none⟩ = some (.pointer pa) ∧ W.cell? ⟨qb, 0, none⟩ = some (.string y) ∧ W.cell? ⟨qb, 1, none⟩ = some (.pointer pc) ∧ W.cell? ⟨qb, 2, none⟩ = some (.pointer pd))
    (first | with_reducible exact KD | with_reducible exact KC | with_reducible exact KB | with_reducible exact KA)
    (first
      | (go_at_call 42; refine cO1.mono ?_; rintro e w5 ⟨⟨v, rfl, hv⟩, hk5⟩; have HK5 := Lib.hid (HD2.out.trans hk5); have KB := KF.out w5 HK5.out; clear cO1; have cO2 := over_ok (.pointer pd) (.pointer pr) d r s X w5 (TrM.keptF HK5.out HD.out) (TrM.keptF HK5.out HRR.out) (fun q hq => HX.out q (Nat.le_trans HK5.out.size hq)) (ok_lr HO.out).2.1; clear hk5)
      | (go_at_call 42; refine cO2.mono ?_; rintro e w6 ⟨⟨v6, rfl, hv6⟩, hk6⟩; have HK6 := Lib.hid (HK5.out.trans hk6); have KC := KF.out w6 HK6.out; clear cO2; have cO3 := over_ok v v6 (.node a x c) (.node d s r) y X w6 (TrM.keptF hk6 hv) hv6 (fun q hq => HX.out q (Nat.le_trans HK6.out.size hq)) (ok_lr HO.out).2.2; clear hk6)
      | (go_at_call 42; refine cO3.mono ?_; rintro e w7 ⟨⟨v7, rfl, hv7⟩, hk7⟩; have HK7 := Lib.hid (HK6.out.trans hk7); have KD := KF.out w7 HK7.out; clear cO3 hk7))
  all_goals
    go_wp2_with fail
    go_ret
    exact ⟨⟨_, rfl, hv7⟩, HK7.out⟩
end Go.Proofs.YtdgbaeliabaneaaDoor
