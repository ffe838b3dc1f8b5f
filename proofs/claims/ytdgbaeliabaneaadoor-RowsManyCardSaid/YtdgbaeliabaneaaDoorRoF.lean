/-
  TREES OF ROWS balanced: the left side is higher, by its own left side.
-/
import Derived.Test.YtdgbaeliabaneaaDoorRoE
import Derived.BigQuiet
set_option linter.unusedVariables false
namespace Go.Proofs.YtdgbaeliabaneaaDoor
open Go Go.RowKit

theorem ok_ll {a b r : Tr} {x s : ByteArray} (h : (Tr.node (.node a x b) s r).Ok) : (Tr.node b s r).Ok ∧ (Tr.node a x (.node b s r)).Ok := by
  have h1 := h.si
  have h2 := h.by_
  have h3 := h.ru
  obtain ⟨⟨m1, m2, m3, m4⟩, m5, m6, m7⟩ := h.sm
  simp only [Tr.size, Tr.by_, Tr.ru] at h1 h2 h3
  refine ⟨⟨⟨m2, m5, m6, m7⟩, ?_, ?_, ?_⟩, ⟨⟨m1, ⟨m2, m5, m6, m7⟩, m3, m4⟩, ?_, ?_, ?_⟩⟩ <;> simp only [Tr.size, Tr.by_, Tr.ru] <;> omega
set_option maxRecDepth 100000 in
set_option maxHeartbeats 4000000 in
theorem balance_ll (vl vr : Value) (a b r : Tr) (x s : ByteArray) (X : Nat → Prop) (w : World) (hl : TrM w X vl (.node a x b)) (hr : TrM w X vr r) (hX : ∀ q, w.heap.size ≤ q → ¬ X q) (hO : (Tr.node (.node a x b) s r).Ok) (h1 : r.ht + 1 < (Tr.node a x b).ht) (h2 : b.ht ≤ a.ht) :
    Calls Tryd.prog 49 #[vl, .string s, vr] w fun e w' => (∃ v, e = .returned v ∧ TrM w' X v (.node a x (.node b s r))) ∧ Kept (fun _ => False) w w' := by
  have c1 := tall_any _ vl X w hl
  have c2 := tall_any r vr X w hr
  have g1 := (Tr.node a x b).ht_size
  have g2 := r.ht_size
  have g3 := hO.l.si
  have g4 := hO.r.si
  obtain ⟨lb, va, vb, rfl, hx, hbk, ha, hb⟩ := hl
  obtain ⟨pr, rfl⟩ := hr.ptr
  obtain ⟨pa, rfl⟩ := ha.ptr
  obtain ⟨pq, rfl⟩ := hb.ptr
  have f0 : w.cell? ⟨lb, 0, none⟩ = some (.string x) := cell_of_row _ _ _ _ _ _ hbk
  have f1 : w.cell? ⟨lb, 1, none⟩ = some (.pointer pa) := cell_of_row _ _ _ _ _ _ hbk
  have f2 : w.cell? ⟨lb, 2, none⟩ = some (.pointer pq) := cell_of_row _ _ _ _ _ _ hbk
  have hdr : Kept (fun _ => False) w w.drew := (Kept.refl _ w).drew
  have k0 : w.drew.cell? ⟨lb, 0, none⟩ = some (.string x) := f0
  have c3 := tall_any a (.pointer pa) X w.drew (TrM.keptF hdr ha)
  have c4 := tall_any b (.pointer pq) X w.drew (TrM.keptF hdr hb)
  obtain ⟨H, hH⟩ : ∃ H, (Tr.node a x b).ht = H := ⟨_, rfl⟩
  rw [hH] at c1 h1 g1
  have e1 : IntKind.i64.wrap ((r.ht : Int) + 1) = (r.ht : Int) + 1 := IntWalk.i64_in _ ⟨by omega, by omega⟩
  have d1 : decide ((r.ht : Int) + 1 < (H : Int)) = true := decide_eq_true (by omega)
  have d2 : decide ((b.ht : Int) ≤ (a.ht : Int)) = true := decide_eq_true (by omega)
  have d3 : decide (b.ht ≤ a.ht) = true := decide_eq_true h2
  have HA := Lib.hid ha
  have HB := Lib.hid hb
  have HRR := Lib.hid hr
  have HO := Lib.hid hO
  have HX := Lib.hid hX
  clear ha hb hr hX hO hH hbk g1 g2 g3 g4 h1 h2 hdr
  go_enter Tryd.func49, Tryd.ntmps49
  go_upto_region 2 with (first
    | (go_at_call 40; refine c1.mono ?_; rintro e w' ⟨rfl, hw⟩; have hw2 := hw.symm; subst hw2; clear c1)
    | (go_at_call 40; refine c2.mono ?_; rintro e w' ⟨rfl, hw⟩; have hw2 := hw.symm; subst hw2; clear c2))
  go_region_held3 (fun (W : World) => W.cell? ⟨lb, 1, none⟩ = some (.pointer pa) ∧ W.cell? ⟨lb, 2, none⟩ = some (.pointer pq))
    (exact ⟨f1, f2⟩)
    (first
    | (go_at_call 40; refine c3.mono ?_; rintro e w' ⟨rfl, hw⟩; have hw2 := hw.symm; subst hw2; clear c3)
    | (go_at_call 40; refine c4.mono ?_; rintro e w' ⟨rfl, hw⟩; have hw2 := hw.symm; subst hw2; clear c4))
  go_upto_region 3 with fail
  have HD2 : Hid (Kept (fun _ => False) w w.drew.drew) := (Kept.refl (fun _ => False) w).drew.drew
  have KF : Hid (∀ W, Kept (fun _ => False) w W → W.cell? ⟨lb, 0, none⟩ = some (.string x) ∧ W.cell? ⟨lb, 1, none⟩ = some (.pointer pa) ∧ W.cell? ⟨lb, 2, none⟩ = some (.pointer pq)) := fun W hk => ⟨cell_kept hk f0 id, cell_kept hk f1 id, cell_kept hk f2 id⟩
  have KA := KF.out w.drew.drew HD2.out
  have cO1 := over_ok (.pointer pq) (.pointer pr) b r s X w.drew.drew (TrM.keptF HD2.out HB.out) (TrM.keptF HD2.out HRR.out) HX.out (ok_ll HO.out).1
  go_region_held3 (fun (W : World) => W.cell? ⟨lb, 0, none⟩ = some (.string x) ∧ W.cell? ⟨lb, 1, none⟩ = some (.pointer pa) ∧ W.cell? ⟨lb, 2, none⟩ = some (.pointer pq))
    (first | with_reducible exact KC | with_reducible exact KB | with_reducible exact KA)
    (first
      | (go_at_call 42; refine cO1.mono ?_; rintro e w5 ⟨⟨v, rfl, hv⟩, hk5⟩; have HK5 := Lib.hid (HD2.out.trans hk5); have KB := KF.out w5 HK5.out; clear cO1; have cO2 := over_ok (.pointer pa) v a (.node b s r) x X w5 (TrM.keptF HK5.out HA.out) hv (fun q hq => HX.out q (Nat.le_trans HK5.out.size hq)) (ok_ll HO.out).2; clear hk5)
      | (go_at_call 42; refine cO2.mono ?_; rintro e w6 ⟨⟨v6, rfl, hv6⟩, hk6⟩; have HK6 := Lib.hid (HK5.out.trans hk6); have KC := KF.out w6 HK6.out; clear cO2 hk6))
  all_goals
    go_wp2_with fail
    go_ret
    exact ⟨⟨_, rfl, hv6⟩, HK6.out⟩
end Go.Proofs.YtdgbaeliabaneaaDoor
