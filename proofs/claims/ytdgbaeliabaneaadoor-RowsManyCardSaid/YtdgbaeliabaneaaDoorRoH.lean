/-
  TREES OF ROWS balanced: the right side is higher.
-/
import Derived.Test.YtdgbaeliabaneaaDoorRoG
import Derived.BigQuiet
set_option linter.unusedVariables false
namespace Go.Proofs.YtdgbaeliabaneaaDoor
open Go Go.RowKit

theorem ok_rr {l a b : Tr} {s x : ByteArray} (h : (Tr.node l s (.node a x b)).Ok) : (Tr.node l s a).Ok ∧ (Tr.node (.node l s a) x b).Ok := by
  have h1 := h.si
  have h2 := h.by_
  have h3 := h.ru
  obtain ⟨m1, ⟨m2, m3, m4, m5⟩, m6, m7⟩ := h.sm
  simp only [Tr.size, Tr.by_, Tr.ru] at h1 h2 h3
  refine ⟨⟨⟨m1, m2, m6, m7⟩, ?_, ?_, ?_⟩, ⟨⟨⟨m1, m2, m6, m7⟩, m3, m4, m5⟩, ?_, ?_, ?_⟩⟩ <;> simp only [Tr.size, Tr.by_, Tr.ru] <;> omega
theorem ok_rl {l c d b : Tr} {s x y : ByteArray} (h : (Tr.node l s (.node (.node c y d) x b)).Ok) : (Tr.node l s c).Ok ∧ (Tr.node d x b).Ok ∧ (Tr.node (.node l s c) y (.node d x b)).Ok := by
  have h1 := h.si
  have h2 := h.by_
  have h3 := h.ru
  obtain ⟨m1, ⟨⟨m2, m3, m4, m5⟩, m6, m7, m8⟩, m9, m10⟩ := h.sm
  simp only [Tr.size, Tr.by_, Tr.ru] at h1 h2 h3
  refine ⟨⟨⟨m1, m2, m9, m10⟩, ?_, ?_, ?_⟩, ⟨⟨m3, m6, m7, m8⟩, ?_, ?_, ?_⟩, ⟨⟨⟨m1, m2, m9, m10⟩, ⟨m3, m6, m7, m8⟩, m4, m5⟩, ?_, ?_, ?_⟩⟩ <;> simp only [Tr.size, Tr.by_, Tr.ru] <;> omega
set_option maxRecDepth 100000 in
set_option maxHeartbeats 4000000 in
theorem balance_rr (vl vr : Value) (l a b : Tr) (s x : ByteArray) (X : Nat → Prop) (w : World) (hl : TrM w X vl l) (hr : TrM w X vr (.node a x b)) (hX : ∀ q, w.heap.size ≤ q → ¬ X q) (hO : (Tr.node l s (.node a x b)).Ok) (h1 : l.ht + 1 < (Tr.node a x b).ht) (h2 : a.ht ≤ b.ht) :
    Calls Tryd.prog 49 #[vl, .string s, vr] w fun e w' => (∃ v, e = .returned v ∧ TrM w' X v (.node (.node l s a) x b)) ∧ Kept (fun _ => False) w w' := by
  have c1 := Lib.hid (tall_any l vl X w hl)
  have c2 := Lib.hid (tall_any _ vr X w hr)
  have g1 := l.ht_size
  have g2 := (Tr.node a x b).ht_size
  have g3 := hO.l.si
  have g4 := hO.r.si
  obtain ⟨pl, rfl⟩ := hl.ptr
  obtain ⟨lb, va, vb, rfl, hx, hbk, ha, hb⟩ := hr
  obtain ⟨pb, rfl⟩ := hb.ptr
  have f0 : w.cell? ⟨lb, 0, none⟩ = some (.string x) := cell_of_row _ _ _ _ _ _ hbk
  have f2 : w.cell? ⟨lb, 2, none⟩ = some (.pointer pb) := cell_of_row _ _ _ _ _ _ hbk
  have hdr : Kept (fun _ => False) w w.drew := (Kept.refl _ w).drew
  have c4 := tall_any b (.pointer pb) X w.drew (TrM.keptF hdr hb)
  obtain ⟨pa, rfl⟩ := ha.ptr
  have f1 : w.cell? ⟨lb, 1, none⟩ = some (.pointer pa) := cell_of_row _ _ _ _ _ _ hbk
  have c3 := tall_any a (.pointer pa) X w.drew (TrM.keptF hdr ha)
  have d3 : decide ((a.ht : Int) ≤ (b.ht : Int)) = true := decide_eq_true (by omega)
  have d4 : decide (a.ht ≤ b.ht) = true := decide_eq_true h2
  obtain ⟨H, hH⟩ : ∃ H, (Tr.node a x b).ht = H := ⟨_, rfl⟩
  rw [hH] at c2 h1 g2
  have e1 : IntKind.i64.wrap ((H : Int) + 1) = (H : Int) + 1 := IntWalk.i64_in _ ⟨by omega, by omega⟩
  have e2 : IntKind.i64.wrap ((l.ht : Int) + 1) = (l.ht : Int) + 1 := IntWalk.i64_in _ ⟨by omega, by omega⟩
  have d1 : decide ((H : Int) + 1 < (l.ht : Int)) = false := decide_eq_false (by omega)
  have d2 : decide ((l.ht : Int) + 1 < (H : Int)) = true := decide_eq_true (by omega)
  have HL := Lib.hid hl
  have HB := Lib.hid hb
  have HA := Lib.hid ha
  have HO := Lib.hid hO
  have HX := Lib.hid hX
  clear hl hb hX hO hH hbk g1 g2 g3 g4 h1 h2 hdr ha
  go_enter Tryd.func49, Tryd.ntmps49
  have c1a := c1.out
  go_upto_region 7 with (first
    | (go_at_call 40; refine c1a.mono ?_; rintro e w' ⟨rfl, hw⟩; have hw2 := hw.symm; subst hw2; clear c1a; have c2a := c2.out)
    | (go_at_call 40; refine c2a.mono ?_; rintro e w' ⟨rfl, hw⟩; have hw2 := hw.symm; subst hw2; clear c2a; have c2b := c2.out)
    | (go_at_call 40; refine c2b.mono ?_; rintro e w' ⟨rfl, hw⟩; have hw2 := hw.symm; subst hw2; clear c2b; have c1b := c1.out)
    | (go_at_call 40; refine c1b.mono ?_; rintro e w' ⟨rfl, hw⟩; have hw2 := hw.symm; subst hw2; clear c1b))
  go_region_held3 (fun (W : World) => W.cell? ⟨lb, 1, none⟩ = some (.pointer pa) ∧ W.cell? ⟨lb, 2, none⟩ = some (.pointer pb))
    (exact ⟨f1, f2⟩)
    (first
    | (go_at_call 40; refine c3.mono ?_; rintro e w' ⟨rfl, hw⟩; have hw2 := hw.symm; subst hw2; clear c3)
    | (go_at_call 40; refine c4.mono ?_; rintro e w' ⟨rfl, hw⟩; have hw2 := hw.symm; subst hw2; clear c4))
  have KF : Hid (∀ W, Kept (fun _ => False) w W → W.cell? ⟨lb, 0, none⟩ = some (.string x) ∧ W.cell? ⟨lb, 1, none⟩ = some (.pointer pa) ∧ W.cell? ⟨lb, 2, none⟩ = some (.pointer pb)) := fun W hk => ⟨cell_kept hk f0 id, cell_kept hk f1 id, cell_kept hk f2 id⟩
  go_upto_region 8 with fail
  have HD2 : Hid (Kept (fun _ => False) w w.drew.drew) := (Kept.refl (fun _ => False) w).drew.drew
  have KA := KF.out w.drew.drew HD2.out
  have cO1 := over_ok (.pointer pl) (.pointer pa) l a s X w.drew.drew (TrM.keptF HD2.out HL.out) (TrM.keptF HD2.out HA.out) HX.out (ok_rr HO.out).1
  go_region_held3 (fun (W : World) => W.cell? ⟨lb, 0, none⟩ = some (.string x) ∧ W.cell? ⟨lb, 1, none⟩ = some (.pointer pa) ∧ W.cell? ⟨lb, 2, none⟩ = some (.pointer pb))
    (first | with_reducible exact KC | with_reducible exact KB | with_reducible exact KA)
    (first
      | (go_at_call 42; refine cO1.mono ?_; rintro e w5 ⟨⟨v, rfl, hv⟩, hk5⟩; have HK5 := Lib.hid (HD2.out.trans hk5); have KB := KF.out w5 HK5.out; clear cO1; have cO2 := over_ok v (.pointer pb) (.node l s a) b x X w5 hv (TrM.keptF HK5.out HB.out) (fun q hq => HX.out q (Nat.le_trans HK5.out.size hq)) (ok_rr HO.out).2; clear hk5)
      | (go_at_call 42; refine cO2.mono ?_; rintro e w6 ⟨⟨v6, rfl, hv6⟩, hk6⟩; have HK6 := Lib.hid (HK5.out.trans hk6); have KC := KF.out w6 HK6.out; clear cO2 hk6))
  all_goals
    go_wp2_with fail
    go_ret
    exact ⟨⟨_, rfl, hv6⟩, HK6.out⟩
set_option maxRecDepth 100000 in
set_option maxHeartbeats 4000000 in
theorem balance_rl (vl vr : Value) (l c d b : Tr) (s x y : ByteArray) (X : Nat → Prop) (w : World) (hl : TrM w X vl l) (hr : TrM w X vr (.node (.node c y d) x b)) (hX : ∀ q, w.heap.size ≤ q → ¬ X q) (hO : (Tr.node l s (.node (.node c y d) x b)).Ok) (h1 : l.ht + 1 < (Tr.node (.node c y d) x b).ht) (h2 : ¬ (Tr.node c y d).ht ≤ b.ht) :
    Calls Tryd.prog 49 #[vl, .string s, vr] w fun e w' => (∃ v, e = .returned v ∧ TrM w' X v (.node (.node l s c) y (.node d x b))) ∧ Kept (fun _ => False) w w' := by
  have c1 := Lib.hid (tall_any l vl X w hl)
  have c2 := Lib.hid (tall_any _ vr X w hr)
  have g1 := l.ht_size
  have g2 := (Tr.node (.node c y d) x b).ht_size
  have g3 := hO.l.si
  have g4 := hO.r.si
  obtain ⟨pl, rfl⟩ := hl.ptr
  obtain ⟨lb, va, vb, rfl, hx, hbk, ha, hb⟩ := hr
  obtain ⟨pb, rfl⟩ := hb.ptr
  have f0 : w.cell? ⟨lb, 0, none⟩ = some (.string x) := cell_of_row _ _ _ _ _ _ hbk
  have f2 : w.cell? ⟨lb, 2, none⟩ = some (.pointer pb) := cell_of_row _ _ _ _ _ _ hbk
  have hdr : Kept (fun _ => False) w w.drew := (Kept.refl _ w).drew
  have c4 := tall_any b (.pointer pb) X w.drew (TrM.keptF hdr hb)
  have haa := ha
  obtain ⟨qb, vc, vd, rfl, hqx, hqk, hc, hd⟩ := ha
  obtain ⟨pc, rfl⟩ := hc.ptr
  obtain ⟨pd, rfl⟩ := hd.ptr
  have m0 : w.cell? ⟨qb, 0, none⟩ = some (.string y) := cell_of_row _ _ _ _ _ _ hqk
  have m1 : w.cell? ⟨qb, 1, none⟩ = some (.pointer pc) := cell_of_row _ _ _ _ _ _ hqk
  have m2 : w.cell? ⟨qb, 2, none⟩ = some (.pointer pd) := cell_of_row _ _ _ _ _ _ hqk
  have f1 : w.cell? ⟨lb, 1, none⟩ = some (.pointer (some ⟨qb, 0, none⟩)) := cell_of_row _ _ _ _ _ _ hbk
  have c3 := tall_any (.node c y d) (.pointer (some ⟨qb, 0, none⟩)) X w.drew (TrM.keptF hdr haa)
  obtain ⟨G, hG⟩ : ∃ G, (Tr.node c y d).ht = G := ⟨_, rfl⟩
  rw [hG] at c3 h2
  have d3 : decide ((G : Int) ≤ (b.ht : Int)) = false := decide_eq_false (by omega)
  have d4 : decide (G ≤ b.ht) = false := decide_eq_false h2
  obtain ⟨H, hH⟩ : ∃ H, (Tr.node (.node c y d) x b).ht = H := ⟨_, rfl⟩
  rw [hH] at c2 h1 g2
  have e1 : IntKind.i64.wrap ((H : Int) + 1) = (H : Int) + 1 := IntWalk.i64_in _ ⟨by omega, by omega⟩
  have e2 : IntKind.i64.wrap ((l.ht : Int) + 1) = (l.ht : Int) + 1 := IntWalk.i64_in _ ⟨by omega, by omega⟩
  have d1 : decide ((H : Int) + 1 < (l.ht : Int)) = false := decide_eq_false (by omega)
  have d2 : decide ((l.ht : Int) + 1 < (H : Int)) = true := decide_eq_true (by omega)
  have HL := Lib.hid hl
  have HB := Lib.hid hb
  have HC := Lib.hid hc
  have HD := Lib.hid hd
  have HO := Lib.hid hO
  have HX := Lib.hid hX
  clear hl hb hX hO hH hbk g1 g2 g3 g4 h1 h2 hdr haa hc hd hqk hG
  go_enter Tryd.func49, Tryd.ntmps49
  have c1a := c1.out
  go_upto_region 7 with (first
    | (go_at_call 40; refine c1a.mono ?_; rintro e w' ⟨rfl, hw⟩; have hw2 := hw.symm; subst hw2; clear c1a; have c2a := c2.out)
    | (go_at_call 40; refine c2a.mono ?_; rintro e w' ⟨rfl, hw⟩; have hw2 := hw.symm; subst hw2; clear c2a; have c2b := c2.out)
    | (go_at_call 40; refine c2b.mono ?_; rintro e w' ⟨rfl, hw⟩; have hw2 := hw.symm; subst hw2; clear c2b; have c1b := c1.out)
    | (go_at_call 40; refine c1b.mono ?_; rintro e w' ⟨rfl, hw⟩; have hw2 := hw.symm; subst hw2; clear c1b))
  go_region_held3 (fun (W : World) => W.cell? ⟨lb, 1, none⟩ = some (.pointer (some ⟨qb, 0, none⟩)) ∧ W.cell? ⟨lb, 2, none⟩ = some (.pointer pb))
    (exact ⟨f1, f2⟩)
    (first
    | (go_at_call 40; refine c3.mono ?_; rintro e w' ⟨rfl, hw⟩; have hw2 := hw.symm; subst hw2; clear c3)
    | (go_at_call 40; refine c4.mono ?_; rintro e w' ⟨rfl, hw⟩; have hw2 := hw.symm; subst hw2; clear c4))
  have KF : Hid (∀ W, Kept (fun _ => False) w W → W.cell? ⟨lb, 0, none⟩ = some (.string x) ∧ W.cell? ⟨lb, 2, none⟩ = some (.pointer pb) ∧ W.cell? ⟨qb, 0, none⟩ = some (.string y) ∧ W.cell? ⟨qb, 1, none⟩ = some (.pointer pc) ∧ W.cell? ⟨qb, 2, none⟩ = some (.pointer pd)) := fun W hk => ⟨cell_kept hk f0 id, cell_kept hk f2 id, cell_kept hk m0 id, cell_kept hk m1 id, cell_kept hk m2 id⟩
  have f1d : w.drew.cell? ⟨lb, 1, none⟩ = some (.pointer (some ⟨qb, 0, none⟩)) := f1
  go_upto_region 10 with fail
  have HD2 : Hid (Kept (fun _ => False) w w.drew.drew) := (Kept.refl (fun _ => False) w).drew.drew
  have KA := KF.out w.drew.drew HD2.out
  have cO1 := over_ok (.pointer pl) (.pointer pc) l c s X w.drew.drew (TrM.keptF HD2.out HL.out) (TrM.keptF HD2.out HC.out) HX.out (ok_rl HO.out).1
  go_region_held3 (fun (W : World) => W.cell? ⟨lb, 0, none⟩ = some (.string x) ∧ W.cell? ⟨lb, 2, none⟩ = some (.pointer pb) ∧ W.cell? ⟨qb, 0, none⟩ = some (.string y) ∧ W.cell? ⟨qb, 1, none⟩ = some (.pointer pc) ∧ W.cell? ⟨qb, 2, none⟩ = some (.pointer pd))
    (first | with_reducible exact KD | with_reducible exact KC | with_reducible exact KB | with_reducible exact KA)
    (first
      | (go_at_call 42; refine cO1.mono ?_; rintro e w5 ⟨⟨v, rfl, hv⟩, hk5⟩; have HK5 := Lib.hid (HD2.out.trans hk5); have KB := KF.out w5 HK5.out; clear cO1; have cO2 := over_ok (.pointer pd) (.pointer pb) d b x X w5 (TrM.keptF HK5.out HD.out) (TrM.keptF HK5.out HB.out) (fun q hq => HX.out q (Nat.le_trans HK5.out.size hq)) (ok_rl HO.out).2.1; clear hk5)
      | (go_at_call 42; refine cO2.mono ?_; rintro e w6 ⟨⟨v6, rfl, hv6⟩, hk6⟩; have HK6 := Lib.hid (HK5.out.trans hk6); have KC := KF.out w6 HK6.out; clear cO2; have cO3 := over_ok v v6 (.node l s c) (.node d x b) y X w6 (TrM.keptF hk6 hv) hv6 (fun q hq => HX.out q (Nat.le_trans HK6.out.size hq)) (ok_rl HO.out).2.2; clear hk6)
      | (go_at_call 42; refine cO3.mono ?_; rintro e w7 ⟨⟨v7, rfl, hv7⟩, hk7⟩; have HK7 := Lib.hid (HK6.out.trans hk7); have KD := KF.out w7 HK7.out; clear cO3 hk7))
  all_goals
    go_wp2_with fail
    go_ret
    exact ⟨⟨_, rfl, hv7⟩, HK7.out⟩
end Go.Proofs.YtdgbaeliabaneaaDoor
