/-
  TREES OF ROWS joined, whatever their heights.
-/
import Derived.Test.YtdgbaeliabaneaaDoorRoI
set_option linter.unusedVariables false
namespace Go.Proofs.YtdgbaeliabaneaaDoor
open Go Go.RowKit

theorem ok_jl {a b r : Tr} {x s : ByteArray} (h : (Tr.node (.node a x b) s r).Ok) : (Tr.node b s r).Ok ∧ (Tr.node a x (Tr.join b s r)).Ok :=
  ⟨(ok_ll h).1, Tr.Ok.same h (by simp [Tr.rows, Tr.join_rows])⟩
theorem ok_jr {l a b : Tr} {s x : ByteArray} (h : (Tr.node l s (.node a x b)).Ok) : (Tr.node l s a).Ok ∧ (Tr.node (Tr.join l s a) x b).Ok :=
  ⟨(ok_rr h).1, Tr.Ok.same h (by simp [Tr.rows, Tr.join_rows])⟩
set_option maxRecDepth 100000 in
set_option maxHeartbeats 4000000 in
theorem join_l (vl vr : Value) (a b r : Tr) (x s : ByteArray) (X : Nat → Prop) (w : World) (hl : TrM w X vl (.node a x b)) (hr : TrM w X vr r) (hX : ∀ q, w.heap.size ≤ q → ¬ X q) (hO : (Tr.node (.node a x b) s r).Ok) (h1 : r.ht + 1 < (Tr.node a x b).ht)
    (ih : ∀ (vb : Value) (W : World), TrM W X vb b → TrM W X vr r → (∀ q, W.heap.size ≤ q → ¬ X q) → Calls Tryd.prog 43 #[vb, .string s, vr] W fun e w' => (∃ v, e = .returned v ∧ TrM w' X v (Tr.join b s r)) ∧ Kept (fun _ => False) W w') :
    Calls Tryd.prog 43 #[vl, .string s, vr] w fun e w' => (∃ v, e = .returned v ∧ TrM w' X v (Tr.balance a x (Tr.join b s r))) ∧ Kept (fun _ => False) w w' := by
  have c1 := tall_any _ vl X w hl
  have c2 := tall_any r vr X w hr
  have g1 := (Tr.node a x b).ht_size
  have g2 := r.ht_size
  have g3 := hO.l.si
  have g4 := hO.r.si
  obtain ⟨lb, va, vb, rfl, hx, hbk, ha, hb⟩ := hl
  obtain ⟨pr, rfl⟩ := hr.ptr
  obtain ⟨pa, rfl⟩ := ha.ptr
  obtain ⟨pq, rfl⟩ := hb.ptr
  have f0 : w.cell? ⟨lb, 0, none⟩ = some (.string x) := cell_of_row _ _ _ _ _ _ hbk
  have f1 : w.cell? ⟨lb, 1, none⟩ = some (.pointer pa) := cell_of_row _ _ _ _ _ _ hbk
  have f2 : w.cell? ⟨lb, 2, none⟩ = some (.pointer pq) := cell_of_row _ _ _ _ _ _ hbk
  obtain ⟨H, hH⟩ : ∃ H, (Tr.node a x b).ht = H := ⟨_, rfl⟩
  rw [hH] at c1 h1 g1
  have e1 : IntKind.i64.wrap ((r.ht : Int) + 1) = (r.ht : Int) + 1 := IntWalk.i64_in _ ⟨by omega, by omega⟩
  have d1 : decide ((r.ht : Int) + 1 < (H : Int)) = true := decide_eq_true (by omega)
  have HA := Lib.hid ha
  have HRR := Lib.hid hr
  have HO := Lib.hid hO
  have HX := Lib.hid hX
  have HD2 : Hid (Kept (fun _ => False) w w.drew) := (Kept.refl (fun _ => False) w).drew
  have KF : Hid (∀ W, Kept (fun _ => False) w W → W.cell? ⟨lb, 0, none⟩ = some (.string x) ∧ W.cell? ⟨lb, 1, none⟩ = some (.pointer pa) ∧ W.cell? ⟨lb, 2, none⟩ = some (.pointer pq)) := fun W hk => ⟨cell_kept hk f0 id, cell_kept hk f1 id, cell_kept hk f2 id⟩
  have KA := KF.out w.drew HD2.out
  have cJ := ih (.pointer pq) w.drew (TrM.keptF HD2.out hb) (TrM.keptF HD2.out hr) hX
  obtain ⟨T, hT⟩ : ∃ T, Tr.join b s r = T := ⟨_, rfl⟩
  have HOT : Hid ((Tr.node a x T).Ok) := by rw [← hT]; exact (ok_jl hO).2
  rw [hT] at cJ ⊢
  clear ha hb hr hX hO hH hbk g1 g2 g3 g4 h1 ih hT
  go_enter Tryd.func43, Tryd.ntmps43
  go_upto_region 2 with (first
    | (go_at_call 40; refine c1.mono ?_; rintro e w' ⟨rfl, hw⟩; have hw2 := hw.symm; subst hw2; clear c1)
    | (go_at_call 40; refine c2.mono ?_; rintro e w' ⟨rfl, hw⟩; have hw2 := hw.symm; subst hw2; clear c2))
  go_region_held3 (fun (W : World) => W.cell? ⟨lb, 0, none⟩ = some (.string x) ∧ W.cell? ⟨lb, 1, none⟩ = some (.pointer pa) ∧ W.cell? ⟨lb, 2, none⟩ = some (.pointer pq))
    (first | with_reducible exact KC | with_reducible exact KB | with_reducible exact KA)
    (first
      | (go_at_call 43; refine cJ.mono ?_; rintro e w5 ⟨⟨v, rfl, hv⟩, hk5⟩; have HK5 := Lib.hid (HD2.out.trans hk5); have KB := KF.out w5 HK5.out; clear cJ; have cO2 := balance_any (.pointer pa) v a T x X w5 (TrM.keptF HK5.out HA.out) hv (fun q hq => HX.out q (Nat.le_trans HK5.out.size hq)) HOT.out; clear hk5)
      | (go_at_call 49; refine cO2.mono ?_; rintro e w6 ⟨⟨v6, rfl, hv6⟩, hk6⟩; have HK6 := Lib.hid (HK5.out.trans hk6); have KC := KF.out w6 HK6.out; clear cO2 hk6))
  all_goals
    go_wp2_with fail
    go_ret
    exact ⟨⟨_, rfl, hv6⟩, HK6.out⟩
set_option maxRecDepth 100000 in
set_option maxHeartbeats 4000000 in
theorem join_r (vl vr : Value) (l a b : Tr) (s x : ByteArray) (X : Nat → Prop) (w : World) (hl : TrM w X vl l) (hr : TrM w X vr (.node a x b)) (hX : ∀ q, w.heap.size ≤ q → ¬ X q) (hO : (Tr.node l s (.node a x b)).Ok) (h1 : l.ht + 1 < (Tr.node a x b).ht)
    (ih : ∀ (va : Value) (W : World), TrM W X vl l → TrM W X va a → (∀ q, W.heap.size ≤ q → ¬ X q) → Calls Tryd.prog 43 #[vl, .string s, va] W fun e w' => (∃ v, e = .returned v ∧ TrM w' X v (Tr.join l s a)) ∧ Kept (fun _ => False) W w') :
    Calls Tryd.prog 43 #[vl, .string s, vr] w fun e w' => (∃ v, e = .returned v ∧ TrM w' X v (Tr.balance (Tr.join l s a) x b)) ∧ Kept (fun _ => False) w w' := by
  have c1 := Lib.hid (tall_any l vl X w hl)
  have c2 := Lib.hid (tall_any _ vr X w hr)
  have g1 := l.ht_size
  have g2 := (Tr.node a x b).ht_size
  have g3 := hO.l.si
  have g4 := hO.r.si
  obtain ⟨pl, rfl⟩ := hl.ptr
  obtain ⟨lb, va, vb, rfl, hx, hbk, ha, hb⟩ := hr
  obtain ⟨pb, rfl⟩ := hb.ptr
  obtain ⟨pa, rfl⟩ := ha.ptr
  have f0 : w.cell? ⟨lb, 0, none⟩ = some (.string x) := cell_of_row _ _ _ _ _ _ hbk
  have f1 : w.cell? ⟨lb, 1, none⟩ = some (.pointer pa) := cell_of_row _ _ _ _ _ _ hbk
  have f2 : w.cell? ⟨lb, 2, none⟩ = some (.pointer pb) := cell_of_row _ _ _ _ _ _ hbk
  obtain ⟨H, hH⟩ : ∃ H, (Tr.node a x b).ht = H := ⟨_, rfl⟩
  rw [hH] at c2 h1 g2
  have e1 : IntKind.i64.wrap ((H : Int) + 1) = (H : Int) + 1 := IntWalk.i64_in _ ⟨by omega, by omega⟩
  have e2 : IntKind.i64.wrap ((l.ht : Int) + 1) = (l.ht : Int) + 1 := IntWalk.i64_in _ ⟨by omega, by omega⟩
  have d1 : decide ((H : Int) + 1 < (l.ht : Int)) = false := decide_eq_false (by omega)
  have d2 : decide ((l.ht : Int) + 1 < (H : Int)) = true := decide_eq_true (by omega)
  have HB := Lib.hid hb
  have HO := Lib.hid hO
  have HX := Lib.hid hX
  have HD2 : Hid (Kept (fun _ => False) w w.drew) := (Kept.refl (fun _ => False) w).drew
  have KF : Hid (∀ W, Kept (fun _ => False) w W → W.cell? ⟨lb, 0, none⟩ = some (.string x) ∧ W.cell? ⟨lb, 1, none⟩ = some (.pointer pa) ∧ W.cell? ⟨lb, 2, none⟩ = some (.pointer pb)) := fun W hk => ⟨cell_kept hk f0 id, cell_kept hk f1 id, cell_kept hk f2 id⟩
  have KA := KF.out w.drew HD2.out
  have cJ := ih (.pointer pa) w.drew (TrM.keptF HD2.out hl) (TrM.keptF HD2.out ha) hX
  obtain ⟨T, hT⟩ : ∃ T, Tr.join l s a = T := ⟨_, rfl⟩
  have HOT : Hid ((Tr.node T x b).Ok) := by rw [← hT]; exact (ok_jr hO).2
  rw [hT] at cJ ⊢
  clear ha hb hl hX hO hH hbk g1 g2 g3 g4 h1 ih hT
  go_enter Tryd.func43, Tryd.ntmps43
  have c1a := c1.out
  go_upto_region 4 with (first
    | (go_at_call 40; refine c1a.mono ?_; rintro e w' ⟨rfl, hw⟩; have hw2 := hw.symm; subst hw2; clear c1a; have c2a := c2.out)
    | (go_at_call 40; refine c2a.mono ?_; rintro e w' ⟨rfl, hw⟩; have hw2 := hw.symm; subst hw2; clear c2a; have c2b := c2.out)
    | (go_at_call 40; refine c2b.mono ?_; rintro e w' ⟨rfl, hw⟩; have hw2 := hw.symm; subst hw2; clear c2b; have c1b := c1.out)
    | (go_at_call 40; refine c1b.mono ?_; rintro e w' ⟨rfl, hw⟩; have hw2 := hw.symm; subst hw2; clear c1b))
  go_region_held3 (fun (W : World) => W.cell? ⟨lb, 0, none⟩ = some (.string x) ∧ W.cell? ⟨lb, 1, none⟩ = some (.pointer pa) ∧ W.cell? ⟨lb, 2, none⟩ = some (.pointer pb))
    (first | with_reducible exact KC | with_reducible exact KB | with_reducible exact KA)
    (first
      | (go_at_call 43; refine cJ.mono ?_; rintro e w5 ⟨⟨v, rfl, hv⟩, hk5⟩; have HK5 := Lib.hid (HD2.out.trans hk5); have KB := KF.out w5 HK5.out; clear cJ; have cO2 := balance_any v (.pointer pb) T b x X w5 hv (TrM.keptF HK5.out HB.out) (fun q hq => HX.out q (Nat.le_trans HK5.out.size hq)) HOT.out; clear hk5)
      | (go_at_call 49; refine cO2.mono ?_; rintro e w6 ⟨⟨v6, rfl, hv6⟩, hk6⟩; have HK6 := Lib.hid (HK5.out.trans hk6); have KC := KF.out w6 HK6.out; clear cO2 hk6))
  all_goals
    go_wp2_with fail
    go_ret
    exact ⟨⟨_, rfl, hv6⟩, HK6.out⟩
set_option maxRecDepth 100000 in
set_option maxHeartbeats 4000000 in
theorem join_e (vl vr : Value) (l r : Tr) (s : ByteArray) (X : Nat → Prop) (w : World) (hl : TrM w X vl l) (hr : TrM w X vr r) (hX : ∀ q, w.heap.size ≤ q → ¬ X q) (hO : (Tr.node l s r).Ok) (h1 : ¬ r.ht + 1 < l.ht) (h2 : ¬ l.ht + 1 < r.ht) :
    Calls Tryd.prog 43 #[vl, .string s, vr] w fun e w' => (∃ v, e = .returned v ∧ TrM w' X v (.node l s r)) ∧ Kept (fun _ => False) w w' := by
  have c1 := Lib.hid (tall_any l vl X w hl)
  have c2 := Lib.hid (tall_any r vr X w hr)
  have cO := over_ok vl vr l r s X w hl hr hX hO
  have g1 := l.ht_size
  have g2 := r.ht_size
  have g3 := hO.l.si
  have g4 := hO.r.si
  obtain ⟨pl, rfl⟩ := hl.ptr
  obtain ⟨pr, rfl⟩ := hr.ptr
  obtain ⟨a, ha⟩ : ∃ a, l.ht = a := ⟨_, rfl⟩
  obtain ⟨b, hb2⟩ : ∃ b, r.ht = b := ⟨_, rfl⟩
  rw [ha] at c1 h1 h2 g1
  rw [hb2] at c2 h1 h2 g2
  have e1 : IntKind.i64.wrap ((b : Int) + 1) = (b : Int) + 1 := IntWalk.i64_in _ ⟨by omega, by omega⟩
  have e2 : IntKind.i64.wrap ((a : Int) + 1) = (a : Int) + 1 := IntWalk.i64_in _ ⟨by omega, by omega⟩
  have d1 : decide ((b : Int) + 1 < (a : Int)) = false := decide_eq_false (by omega)
  have d2 : decide ((a : Int) + 1 < (b : Int)) = false := decide_eq_false (by omega)
  clear hl hr hX hO ha hb2 g1 g2 g3 g4 h1 h2
  go_enter Tryd.func43, Tryd.ntmps43
  have c1a := c1.out
  go_wp2_with (first
    | (go_at_call 40; refine c1a.mono ?_; rintro e w' ⟨rfl, hw⟩; have hw2 := hw.symm; subst hw2; clear c1a; have c2a := c2.out)
    | (go_at_call 40; refine c2a.mono ?_; rintro e w' ⟨rfl, hw⟩; have hw2 := hw.symm; subst hw2; clear c2a; have c2b := c2.out)
    | (go_at_call 40; refine c2b.mono ?_; rintro e w' ⟨rfl, hw⟩; have hw2 := hw.symm; subst hw2; clear c2b; have c1b := c1.out)
    | (go_at_call 40; refine c1b.mono ?_; rintro e w' ⟨rfl, hw⟩; have hw2 := hw.symm; subst hw2; clear c1b)
    | (go_at_call 42; refine cO.mono ?_; rintro e w5 ⟨⟨v, rfl, hv⟩, hk5⟩; clear cO))
  go_ret
  exact ⟨⟨_, rfl, hv⟩, hk5⟩
theorem join_any (X : Nat → Prop) (s : ByteArray) (l r : Tr) : ∀ (vl vr : Value) (w : World), TrM w X vl l → TrM w X vr r → (∀ q, w.heap.size ≤ q → ¬ X q) → (Tr.node l s r).Ok →
    Calls Tryd.prog 43 #[vl, .string s, vr] w fun e w' => (∃ v, e = .returned v ∧ TrM w' X v (Tr.join l s r)) ∧ Kept (fun _ => False) w w' := by
  induction l, r using Tr.join.induct with
  | case1 l r h ih =>
    intro vl vr w hl hr hX hO
    rw [Tr.join, if_pos h]
    cases l with
    | nil => simp [Tr.ht] at h
    | node a x b => exact join_l vl vr a b r x s X w hl hr hX hO h (fun vb W h1 h2 h3 => ih vb vr W h1 h2 h3 (ok_jl hO).1)
  | case2 l r h h2 ih =>
    intro vl vr w hl hr hX hO
    rw [Tr.join, if_neg h, if_pos h2]
    cases r with
    | nil => simp [Tr.ht] at h2
    | node a x b => exact join_r vl vr l a b s x X w hl hr hX hO h2 (fun va W h1 h2 h3 => ih vl va W h1 h2 h3 (ok_jr hO).1)
  | case3 l r h h2 =>
    intro vl vr w hl hr hX hO
    rw [Tr.join, if_neg h, if_neg h2]
    exact join_e vl vr l r s X w hl hr hX hO h h2
end Go.Proofs.YtdgbaeliabaneaaDoor
