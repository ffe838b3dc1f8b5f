/-
  THE LAW RegsExact: one act that keeps, on both.
-/
import Derived.Test.YtackgnkajffhiaaDoorReJ
set_option linter.unusedVariables false
namespace Go.Proofs.YtackgnkajffhiaaDoor
open Go Go.RowKit

theorem told_none {M : List RegS} {z : Int} {s : ByteArray} {b : Bool} (h : Rs.kpA M z s b = none) (d : Bool) : Rs.told M z s b d = none ∧ Rs.ykA M z s b = none ∧ Rs.dlA M z s b = none := by
  unfold Rs.told Rs.dlA Rs.ykA
  rw [h]
  cases d <;> exact ⟨rfl, rfl, rfl⟩
theorem told_some {M : List RegS} {z : Int} {s : ByteArray} {b : Bool} {x : List RegS × Bool} (h : Rs.kpA M z s b = some x) : ∃ Y Z, Rs.ykA M z s b = some Y ∧ Rs.dlA M z s b = some Z := by
  unfold Rs.dlA Rs.ykA
  rw [h]
  exact ⟨_, _, rfl, rfl⟩
def spoilt : ByteArray := ⟨#[115, 112, 111, 105, 108, 116]⟩
set_option maxRecDepth 100000 in
set_option maxHeartbeats 16000000 in
theorem step_no1a (v : Value) (M : List RegS) (a : ActR) (w : World) (h : Sl w v M) (hn : M.length ≤ 80000) (ha : a.good) (hT : Tabs w) (hb : Rs.okB M = false) (hneg : ¬ (Rs.okB M = true ∧ Rs.Td a.nm ∧ mayB a.s = true)) (hD : ¬ (wz a.k 7 : Int) < 2) (hE : ¬ 3 < (wz a.k 7 : Int)) :
    Calls Tryd.prog 10 #[v, act9V a] w fun e w' => StepOk w' M e ∧ Kept (fun _ => False) w w' := by
  have hB : Rs.okB M = false := hb
  have cY := fun v' W (h' : Sl W v' M) (hT' : Tabs W) => yank_no v' M a.nm a.s a.b W h' (by omega) ha.2.2 hneg hT'
  have cD := fun v' W (h' : Sl W v' M) (hT' : Tabs W) => delete_no v' M a.nm a.s a.b W h' (by omega) ha.2.2 hneg hT'
  clear hneg
  have hka : Kept (fun _ => False) w (w.alloc (act9O a)) := (Kept.refl _ w).alloc _
  have HAB : Hid ((w.alloc (act9O a)).heap[w.heap.size]? = some (act9O a)) := heap_alloc_new w _
  have HKA := Lib.hid hka
  have HV0 := Lib.hid (h.kept hka)
  have HT0 := Lib.hid (hT.kept hka id id)
  have HN := Lib.hid hn
  have HSS := Lib.hid ha.2.2
  have cW := fun W => within_z a.k 7 (by omega) (by omega) W
  obtain ⟨D, hDD⟩ : ∃ D, wz a.k 7 = D := ⟨_, rfl⟩
  simp only [hDD] at cW
  rw [hDD] at hD hE
  obtain ⟨ak, nm, s, b⟩ := a
  simp only at *
  clear hka h hT ha hn hDD
  go_enter Tryd.func10, Tryd.ntmps10
  go_upto_region 1 with fail
  generalize w.alloc (.cells #[.int .i64 ak, .int .i64 nm, .string s, .bool b] 35) = w0 at *
  generalize w.heap.size = pb at *
  go_wp2_with fail
  refine (copyregs_any v M w0 HV0.out (by have := HN.out; omega)).mono ?_
  rintro e w1 ⟨⟨vi, rfl, hi⟩, hk1⟩
  have HI := Lib.hid hi
  have HV1 := Lib.hid (HV0.out.kept hk1)
  have HT1 := Lib.hid (HT0.out.kept hk1 id id)
  have HW1 := Lib.hid (HKA.out.trans hk1)
  have HAB1 := Lib.hid (hk1.cellsAt HAB.out id)
  have HB : Hid (∀ W, Kept (fun _ => False) w1 W → W.cell? ⟨pb, 0, none⟩ = some (.int .i64 ak) ∧ W.cell? ⟨pb, 1, none⟩ = some (.int .i64 nm) ∧ W.cell? ⟨pb, 2, none⟩ = some (.string s) ∧ W.cell? ⟨pb, 3, none⟩ = some (.bool b)) := fun W hk => act9_facts (b := ⟨ak, nm, s, b⟩) (hk.cellsAt HAB1.out id)
  have HVI : Hid (∀ W, Kept (fun _ => False) w1 W → Sl W vi M) := fun W hk => (HI.out.keep hk).sl
  have HVV : Hid (∀ W, Kept (fun _ => False) w1 W → Sl W v M) := fun W hk => HV1.out.kept hk
  have HTT : Hid (∀ W, Kept (fun _ => False) w1 W → Tabs W) := fun W hk => HT1.out.kept hk id id
  have HEQ : Hid (∀ W, Kept (fun _ => False) w1 W → Calls Tryd.prog 23 #[vi, v] W fun e w' => e = .returned (.bool true) ∧ Kept (fun _ => False) W w') := fun W hk => eqregs_yes vi v M W (HVI.out W hk) (HVV.out W hk) (by have := HN.out; omega)
  clear hi hk1 HAB HKA HV0 HT0 HAB1
  have cR := rregs_any v M w1 HV1.out (by have := HN.out; omega) HT1.out
  rw [hB] at cR
  go_wp2_with fail
  refine cR.mono ?_
  clear cR
  rintro e w2 ⟨rfl, hk2⟩
  have HX2 := Lib.hid hk2
  obtain ⟨q0, q1, q2, q3⟩ := HB.out w2 hk2
  clear hk2
  clear hB
  clear hb
  have bD : decide ((D : Int) < 2) = false := decide_eq_false (by omega)
  have bD2 : decide (D < 2) = false := decide_eq_false (by omega)
  have bE : decide (3 < (D : Int)) = false := decide_eq_false (by omega)
  have bE2 : decide (3 < D) = false := decide_eq_false (by omega)
  clear hD hE
  go_wp2_with (go_at_call 20; refine (cW _).mono ?_; rintro e w' ⟨rfl, hw⟩; have hw2 := hw.symm; subst hw2)
  refine (cY _ _ (HVI.out _ HX2.out) (HTT.out _ HX2.out)).mono ?_
  clear q0 q1 q2 q3
  rintro e w3 ⟨rfl, hkw3⟩
  have HX3 := Lib.hid (HX2.out.trans hkw3)
  obtain ⟨q0, q1, q2, q3⟩ := HB.out w3 HX3.out
  clear hkw3
  clear cY
  clear cD
  go_wp2_with (go_at_call 7; refine (num_any _ _).mono ?_; rintro e w' ⟨rfl, hw⟩; have hw2 := hw.symm; subst hw2)
  clear q0 q1 q2 q3
  refine (eqregs_yes (.slice none 0 0) (.slice none 0 0) [] _ (sl_nil _) (sl_nil _) (Nat.zero_le _)).mono ?_
  rintro e wa ⟨rfl, hka⟩
  have HXA := Lib.hid (HX3.out.trans hka)
  clear hka
  go_wp2_with fail
  refine (HEQ.out _ HXA.out).mono ?_
  rintro e wb ⟨rfl, hkwb⟩
  have HXB := Lib.hid (HXA.out.trans hkwb)
  clear hkwb
  go_wp2_with fail
  go_loopw [19] (fun i wr => i = .int .i64 ((0 : Nat) : Int) ∧ wr = wb) (fun _ _ => 0)
  case atStart => exact ⟨rfl, (by first | rfl | trivial)⟩
  case round =>
    obtain ⟨rfl, rfl⟩ := hrel
    go_wp2_with fail
    refine (HEQ.out _ HXB.out).mono ?_
    rintro e wz9 ⟨rfl, hkwz9⟩
    have HXZ := Lib.hid (HXB.out.trans hkwz9)
    clear hkwz9
    go_wp2_with fail
    go_ret2
    exact ⟨⟨v, M, rfl, HVV.out _ HXZ.out, Nat.le_add_right _ _⟩, HW1.out.trans HXZ.out⟩
set_option maxRecDepth 100000 in
set_option maxHeartbeats 16000000 in
theorem step_no2a (v : Value) (M : List RegS) (a : ActR) (w : World) (h : Sl w v M) (hn : M.length ≤ 80000) (ha : a.good) (hT : Tabs w) (hb : Rs.okB M = true) (ht : ¬ Rs.Td a.nm) (hneg : ¬ (Rs.okB M = true ∧ Rs.Td a.nm ∧ mayB a.s = true)) (hD : ¬ (wz a.k 7 : Int) < 2) (hE : ¬ 3 < (wz a.k 7 : Int)) :
    Calls Tryd.prog 10 #[v, act9V a] w fun e w' => StepOk w' M e ∧ Kept (fun _ => False) w w' := by
  have hB : Rs.okB M = true := hb
  have cT := fun W => rtold_any a.nm W
  rw [decide_eq_false ht] at cT
  have cY := fun v' W (h' : Sl W v' M) (hT' : Tabs W) => yank_no v' M a.nm a.s a.b W h' (by omega) ha.2.2 hneg hT'
  have cD := fun v' W (h' : Sl W v' M) (hT' : Tabs W) => delete_no v' M a.nm a.s a.b W h' (by omega) ha.2.2 hneg hT'
  clear hneg ht
  have hka : Kept (fun _ => False) w (w.alloc (act9O a)) := (Kept.refl _ w).alloc _
  have HAB : Hid ((w.alloc (act9O a)).heap[w.heap.size]? = some (act9O a)) := heap_alloc_new w _
  have HKA := Lib.hid hka
  have HV0 := Lib.hid (h.kept hka)
  have HT0 := Lib.hid (hT.kept hka id id)
  have HN := Lib.hid hn
  have HSS := Lib.hid ha.2.2
  have cW := fun W => within_z a.k 7 (by omega) (by omega) W
  obtain ⟨D, hDD⟩ : ∃ D, wz a.k 7 = D := ⟨_, rfl⟩
  simp only [hDD] at cW
  rw [hDD] at hD hE
  obtain ⟨ak, nm, s, b⟩ := a
  simp only at *
  clear hka h hT ha hn hDD
  go_enter Tryd.func10, Tryd.ntmps10
  go_upto_region 1 with fail
  generalize w.alloc (.cells #[.int .i64 ak, .int .i64 nm, .string s, .bool b] 35) = w0 at *
  generalize w.heap.size = pb at *
  go_wp2_with fail
  refine (copyregs_any v M w0 HV0.out (by have := HN.out; omega)).mono ?_
  rintro e w1 ⟨⟨vi, rfl, hi⟩, hk1⟩
  have HI := Lib.hid hi
  have HV1 := Lib.hid (HV0.out.kept hk1)
  have HT1 := Lib.hid (HT0.out.kept hk1 id id)
  have HW1 := Lib.hid (HKA.out.trans hk1)
  have HAB1 := Lib.hid (hk1.cellsAt HAB.out id)
  have HB : Hid (∀ W, Kept (fun _ => False) w1 W → W.cell? ⟨pb, 0, none⟩ = some (.int .i64 ak) ∧ W.cell? ⟨pb, 1, none⟩ = some (.int .i64 nm) ∧ W.cell? ⟨pb, 2, none⟩ = some (.string s) ∧ W.cell? ⟨pb, 3, none⟩ = some (.bool b)) := fun W hk => act9_facts (b := ⟨ak, nm, s, b⟩) (hk.cellsAt HAB1.out id)
  have HVI : Hid (∀ W, Kept (fun _ => False) w1 W → Sl W vi M) := fun W hk => (HI.out.keep hk).sl
  have HVV : Hid (∀ W, Kept (fun _ => False) w1 W → Sl W v M) := fun W hk => HV1.out.kept hk
  have HTT : Hid (∀ W, Kept (fun _ => False) w1 W → Tabs W) := fun W hk => HT1.out.kept hk id id
  have HEQ : Hid (∀ W, Kept (fun _ => False) w1 W → Calls Tryd.prog 23 #[vi, v] W fun e w' => e = .returned (.bool true) ∧ Kept (fun _ => False) W w') := fun W hk => eqregs_yes vi v M W (HVI.out W hk) (HVV.out W hk) (by have := HN.out; omega)
  clear hi hk1 HAB HKA HV0 HT0 HAB1
  have cR := rregs_any v M w1 HV1.out (by have := HN.out; omega) HT1.out
  rw [hB] at cR
  go_wp2_with fail
  refine cR.mono ?_
  clear cR
  rintro e w2 ⟨rfl, hk2⟩
  have HX2 := Lib.hid hk2
  obtain ⟨q0, q1, q2, q3⟩ := HB.out w2 hk2
  clear hk2
  clear hB
  clear hb
  have bD : decide ((D : Int) < 2) = false := decide_eq_false (by omega)
  have bD2 : decide (D < 2) = false := decide_eq_false (by omega)
  have bE : decide (3 < (D : Int)) = false := decide_eq_false (by omega)
  have bE2 : decide (3 < D) = false := decide_eq_false (by omega)
  clear hD hE
  go_wp2_with (go_at_call 20; refine (cW _).mono ?_; rintro e w' ⟨rfl, hw⟩; have hw2 := hw.symm; subst hw2)
  refine (cY _ _ (HVI.out _ HX2.out) (HTT.out _ HX2.out)).mono ?_
  clear q0 q1 q2 q3
  rintro e w3 ⟨rfl, hkw3⟩
  have HX3 := Lib.hid (HX2.out.trans hkw3)
  obtain ⟨q0, q1, q2, q3⟩ := HB.out w3 HX3.out
  clear hkw3
  clear cY
  clear cD
  go_wp2_with (first | (go_at_call 21; refine (cT _).mono ?_; rintro e w' ⟨rfl, hw⟩; have hw2 := hw.symm; subst hw2) | (go_at_call 7; refine (num_any _ _).mono ?_; rintro e w' ⟨rfl, hw⟩; have hw2 := hw.symm; subst hw2))
  clear q0 q1 q2 q3
  refine (eqregs_yes (.slice none 0 0) (.slice none 0 0) [] _ (sl_nil _) (sl_nil _) (Nat.zero_le _)).mono ?_
  rintro e wa ⟨rfl, hka⟩
  have HXA := Lib.hid (HX3.out.trans hka)
  clear hka
  go_wp2_with fail
  refine (HEQ.out _ HXA.out).mono ?_
  rintro e wb ⟨rfl, hkwb⟩
  have HXB := Lib.hid (HXA.out.trans hkwb)
  clear hkwb
  go_wp2_with fail
  go_loopw [19] (fun i wr => i = .int .i64 ((0 : Nat) : Int) ∧ wr = wb) (fun _ _ => 0)
  case atStart => exact ⟨rfl, (by first | rfl | trivial)⟩
  case round =>
    obtain ⟨rfl, rfl⟩ := hrel
    go_wp2_with fail
    refine (HEQ.out _ HXB.out).mono ?_
    rintro e wz9 ⟨rfl, hkwz9⟩
    have HXZ := Lib.hid (HXB.out.trans hkwz9)
    clear hkwz9
    go_wp2_with fail
    go_ret2
    exact ⟨⟨v, M, rfl, HVV.out _ HXZ.out, Nat.le_add_right _ _⟩, HW1.out.trans HXZ.out⟩
set_option maxRecDepth 100000 in
set_option maxHeartbeats 16000000 in
theorem step_no3a (v : Value) (M : List RegS) (a : ActR) (w : World) (h : Sl w v M) (hn : M.length ≤ 80000) (ha : a.good) (hT : Tabs w) (hb : Rs.okB M = true) (ht : Rs.Td a.nm) (hm : mayB a.s = false) (hneg : ¬ (Rs.okB M = true ∧ Rs.Td a.nm ∧ mayB a.s = true)) (hD : ¬ (wz a.k 7 : Int) < 2) (hE : ¬ 3 < (wz a.k 7 : Int)) :
    Calls Tryd.prog 10 #[v, act9V a] w fun e w' => StepOk w' M e ∧ Kept (fun _ => False) w w' := by
  have hB : Rs.okB M = true := hb
  have cT := fun W => rtold_any a.nm W
  rw [decide_eq_true ht] at cT
  have cM := fun W (hT' : Tabs W) => rmay_any a.s W ha.2.2 hT'
  rw [hm] at cM
  have cY := fun v' W (h' : Sl W v' M) (hT' : Tabs W) => yank_no v' M a.nm a.s a.b W h' (by omega) ha.2.2 hneg hT'
  have cD := fun v' W (h' : Sl W v' M) (hT' : Tabs W) => delete_no v' M a.nm a.s a.b W h' (by omega) ha.2.2 hneg hT'
  clear hneg ht hm
  have hka : Kept (fun _ => False) w (w.alloc (act9O a)) := (Kept.refl _ w).alloc _
  have HAB : Hid ((w.alloc (act9O a)).heap[w.heap.size]? = some (act9O a)) := heap_alloc_new w _
  have HKA := Lib.hid hka
  have HV0 := Lib.hid (h.kept hka)
  have HT0 := Lib.hid (hT.kept hka id id)
  have HN := Lib.hid hn
  have HSS := Lib.hid ha.2.2
  have cW := fun W => within_z a.k 7 (by omega) (by omega) W
  obtain ⟨D, hDD⟩ : ∃ D, wz a.k 7 = D := ⟨_, rfl⟩
  simp only [hDD] at cW
  rw [hDD] at hD hE
  obtain ⟨ak, nm, s, b⟩ := a
  simp only at *
  clear hka h hT ha hn hDD
  go_enter Tryd.func10, Tryd.ntmps10
  go_upto_region 1 with fail
  generalize w.alloc (.cells #[.int .i64 ak, .int .i64 nm, .string s, .bool b] 35) = w0 at *
  generalize w.heap.size = pb at *
  go_wp2_with fail
  refine (copyregs_any v M w0 HV0.out (by have := HN.out; omega)).mono ?_
  rintro e w1 ⟨⟨vi, rfl, hi⟩, hk1⟩
  have HI := Lib.hid hi
  have HV1 := Lib.hid (HV0.out.kept hk1)
  have HT1 := Lib.hid (HT0.out.kept hk1 id id)
  have HW1 := Lib.hid (HKA.out.trans hk1)
  have HAB1 := Lib.hid (hk1.cellsAt HAB.out id)
  have HB : Hid (∀ W, Kept (fun _ => False) w1 W → W.cell? ⟨pb, 0, none⟩ = some (.int .i64 ak) ∧ W.cell? ⟨pb, 1, none⟩ = some (.int .i64 nm) ∧ W.cell? ⟨pb, 2, none⟩ = some (.string s) ∧ W.cell? ⟨pb, 3, none⟩ = some (.bool b)) := fun W hk => act9_facts (b := ⟨ak, nm, s, b⟩) (hk.cellsAt HAB1.out id)
  have HVI : Hid (∀ W, Kept (fun _ => False) w1 W → Sl W vi M) := fun W hk => (HI.out.keep hk).sl
  have HVV : Hid (∀ W, Kept (fun _ => False) w1 W → Sl W v M) := fun W hk => HV1.out.kept hk
  have HTT : Hid (∀ W, Kept (fun _ => False) w1 W → Tabs W) := fun W hk => HT1.out.kept hk id id
  have HEQ : Hid (∀ W, Kept (fun _ => False) w1 W → Calls Tryd.prog 23 #[vi, v] W fun e w' => e = .returned (.bool true) ∧ Kept (fun _ => False) W w') := fun W hk => eqregs_yes vi v M W (HVI.out W hk) (HVV.out W hk) (by have := HN.out; omega)
  clear hi hk1 HAB HKA HV0 HT0 HAB1
  have cR := rregs_any v M w1 HV1.out (by have := HN.out; omega) HT1.out
  rw [hB] at cR
  go_wp2_with fail
  refine cR.mono ?_
  clear cR
  rintro e w2 ⟨rfl, hk2⟩
  have HX2 := Lib.hid hk2
  obtain ⟨q0, q1, q2, q3⟩ := HB.out w2 hk2
  clear hk2
  clear hB
  clear hb
  have bD : decide ((D : Int) < 2) = false := decide_eq_false (by omega)
  have bD2 : decide (D < 2) = false := decide_eq_false (by omega)
  have bE : decide (3 < (D : Int)) = false := decide_eq_false (by omega)
  have bE2 : decide (3 < D) = false := decide_eq_false (by omega)
  clear hD hE
  go_wp2_with (go_at_call 20; refine (cW _).mono ?_; rintro e w' ⟨rfl, hw⟩; have hw2 := hw.symm; subst hw2)
  refine (cY _ _ (HVI.out _ HX2.out) (HTT.out _ HX2.out)).mono ?_
  clear q0 q1 q2 q3
  rintro e w3 ⟨rfl, hkw3⟩
  have HX3 := Lib.hid (HX2.out.trans hkw3)
  obtain ⟨q0, q1, q2, q3⟩ := HB.out w3 HX3.out
  clear hkw3
  clear cY
  clear cD
  go_wp2_with (go_at_call 21; refine (cT _).mono ?_; rintro e w' ⟨rfl, hw⟩; have hw2 := hw.symm; subst hw2)
  refine (cM _ (HTT.out _ HX3.out)).mono ?_
  clear q0 q1 q2 q3
  rintro e w5 ⟨rfl, hkw5⟩
  have HX5 := Lib.hid (HX3.out.trans hkw5)
  obtain ⟨q0, q1, q2, q3⟩ := HB.out w5 HX5.out
  clear hkw5
  go_wp2_with (go_at_call 7; refine (num_any _ _).mono ?_; rintro e w' ⟨rfl, hw⟩; have hw2 := hw.symm; subst hw2)
  clear q0 q1 q2 q3
  refine (eqregs_yes (.slice none 0 0) (.slice none 0 0) [] _ (sl_nil _) (sl_nil _) (Nat.zero_le _)).mono ?_
  rintro e wa ⟨rfl, hka⟩
  have HXA := Lib.hid (HX5.out.trans hka)
  clear hka
  go_wp2_with fail
  refine (HEQ.out _ HXA.out).mono ?_
  rintro e wb ⟨rfl, hkwb⟩
  have HXB := Lib.hid (HXA.out.trans hkwb)
  clear hkwb
  go_wp2_with fail
  go_loopw [19] (fun i wr => i = .int .i64 ((0 : Nat) : Int) ∧ wr = wb) (fun _ _ => 0)
  case atStart => exact ⟨rfl, (by first | rfl | trivial)⟩
  case round =>
    obtain ⟨rfl, rfl⟩ := hrel
    go_wp2_with fail
    refine (HEQ.out _ HXB.out).mono ?_
    rintro e wz9 ⟨rfl, hkwz9⟩
    have HXZ := Lib.hid (HXB.out.trans hkwz9)
    clear hkwz9
    go_wp2_with fail
    go_ret2
    exact ⟨⟨v, M, rfl, HVV.out _ HXZ.out, Nat.le_add_right _ _⟩, HW1.out.trans HXZ.out⟩
set_option maxRecDepth 100000 in
set_option maxHeartbeats 16000000 in
theorem step_no1b (v : Value) (M : List RegS) (a : ActR) (w : World) (h : Sl w v M) (hn : M.length ≤ 80000) (ha : a.good) (hT : Tabs w) (hb : Rs.okB M = false) (hneg : ¬ (Rs.okB M = true ∧ Rs.Td a.nm ∧ mayB a.s = true)) (hD : ¬ (wz a.k 7 : Int) < 2) (hE : 3 < (wz a.k 7 : Int)) :
    Calls Tryd.prog 10 #[v, act9V a] w fun e w' => StepOk w' M e ∧ Kept (fun _ => False) w w' := by
  have hB : Rs.okB M = false := hb
  have cY := fun v' W (h' : Sl W v' M) (hT' : Tabs W) => yank_no v' M a.nm a.s a.b W h' (by omega) ha.2.2 hneg hT'
  have cD := fun v' W (h' : Sl W v' M) (hT' : Tabs W) => delete_no v' M a.nm a.s a.b W h' (by omega) ha.2.2 hneg hT'
  clear hneg
  have hka : Kept (fun _ => False) w (w.alloc (act9O a)) := (Kept.refl _ w).alloc _
  have HAB : Hid ((w.alloc (act9O a)).heap[w.heap.size]? = some (act9O a)) := heap_alloc_new w _
  have HKA := Lib.hid hka
  have HV0 := Lib.hid (h.kept hka)
  have HT0 := Lib.hid (hT.kept hka id id)
  have HN := Lib.hid hn
  have HSS := Lib.hid ha.2.2
  have cW := fun W => within_z a.k 7 (by omega) (by omega) W
  obtain ⟨D, hDD⟩ : ∃ D, wz a.k 7 = D := ⟨_, rfl⟩
  simp only [hDD] at cW
  rw [hDD] at hD hE
  obtain ⟨ak, nm, s, b⟩ := a
  simp only at *
  clear hka h hT ha hn hDD
  go_enter Tryd.func10, Tryd.ntmps10
  go_upto_region 1 with fail
  generalize w.alloc (.cells #[.int .i64 ak, .int .i64 nm, .string s, .bool b] 35) = w0 at *
  generalize w.heap.size = pb at *
  go_wp2_with fail
  refine (copyregs_any v M w0 HV0.out (by have := HN.out; omega)).mono ?_
  rintro e w1 ⟨⟨vi, rfl, hi⟩, hk1⟩
  have HI := Lib.hid hi
  have HV1 := Lib.hid (HV0.out.kept hk1)
  have HT1 := Lib.hid (HT0.out.kept hk1 id id)
  have HW1 := Lib.hid (HKA.out.trans hk1)
  have HAB1 := Lib.hid (hk1.cellsAt HAB.out id)
  have HB : Hid (∀ W, Kept (fun _ => False) w1 W → W.cell? ⟨pb, 0, none⟩ = some (.int .i64 ak) ∧ W.cell? ⟨pb, 1, none⟩ = some (.int .i64 nm) ∧ W.cell? ⟨pb, 2, none⟩ = some (.string s) ∧ W.cell? ⟨pb, 3, none⟩ = some (.bool b)) := fun W hk => act9_facts (b := ⟨ak, nm, s, b⟩) (hk.cellsAt HAB1.out id)
  have HVI : Hid (∀ W, Kept (fun _ => False) w1 W → Sl W vi M) := fun W hk => (HI.out.keep hk).sl
  have HVV : Hid (∀ W, Kept (fun _ => False) w1 W → Sl W v M) := fun W hk => HV1.out.kept hk
  have HTT : Hid (∀ W, Kept (fun _ => False) w1 W → Tabs W) := fun W hk => HT1.out.kept hk id id
  have HEQ : Hid (∀ W, Kept (fun _ => False) w1 W → Calls Tryd.prog 23 #[vi, v] W fun e w' => e = .returned (.bool true) ∧ Kept (fun _ => False) W w') := fun W hk => eqregs_yes vi v M W (HVI.out W hk) (HVV.out W hk) (by have := HN.out; omega)
  clear hi hk1 HAB HKA HV0 HT0 HAB1
  have cR := rregs_any v M w1 HV1.out (by have := HN.out; omega) HT1.out
  rw [hB] at cR
  go_wp2_with fail
  refine cR.mono ?_
  clear cR
  rintro e w2 ⟨rfl, hk2⟩
  have HX2 := Lib.hid hk2
  obtain ⟨q0, q1, q2, q3⟩ := HB.out w2 hk2
  clear hk2
  clear hB
  clear hb
  have bD : decide ((D : Int) < 2) = false := decide_eq_false (by omega)
  have bD2 : decide (D < 2) = false := decide_eq_false (by omega)
  have bE : decide (3 < (D : Int)) = true := decide_eq_true (by omega)
  have bE2 : decide (3 < D) = true := decide_eq_true (by omega)
  clear hD hE
  go_wp2_with (go_at_call 20; refine (cW _).mono ?_; rintro e w' ⟨rfl, hw⟩; have hw2 := hw.symm; subst hw2)
  refine (cY _ _ (HVI.out _ HX2.out) (HTT.out _ HX2.out)).mono ?_
  clear q0 q1 q2 q3
  rintro e w3 ⟨rfl, hkw3⟩
  have HX3 := Lib.hid (HX2.out.trans hkw3)
  obtain ⟨q0, q1, q2, q3⟩ := HB.out w3 HX3.out
  clear hkw3
  clear cY
  go_wp2_with fail
  refine (cD _ _ (HVI.out _ HX3.out) (HTT.out _ HX3.out)).mono ?_
  clear q0 q1 q2 q3
  rintro e w4 ⟨rfl, hkw4⟩
  have HX4 := Lib.hid (HX3.out.trans hkw4)
  obtain ⟨q0, q1, q2, q3⟩ := HB.out w4 HX4.out
  clear hkw4
  clear cD
  go_wp2_with (go_at_call 7; refine (num_any _ _).mono ?_; rintro e w' ⟨rfl, hw⟩; have hw2 := hw.symm; subst hw2)
  clear q0 q1 q2 q3
  refine (eqregs_yes (.slice none 0 0) (.slice none 0 0) [] _ (sl_nil _) (sl_nil _) (Nat.zero_le _)).mono ?_
  rintro e wa ⟨rfl, hka⟩
  have HXA := Lib.hid (HX4.out.trans hka)
  clear hka
  go_wp2_with fail
  refine (HEQ.out _ HXA.out).mono ?_
  rintro e wb ⟨rfl, hkwb⟩
  have HXB := Lib.hid (HXA.out.trans hkwb)
  clear hkwb
  go_wp2_with fail
  go_loopw [19] (fun i wr => i = .int .i64 ((0 : Nat) : Int) ∧ wr = wb) (fun _ _ => 0)
  case atStart => exact ⟨rfl, (by first | rfl | trivial)⟩
  case round =>
    obtain ⟨rfl, rfl⟩ := hrel
    go_wp2_with fail
    refine (HEQ.out _ HXB.out).mono ?_
    rintro e wz9 ⟨rfl, hkwz9⟩
    have HXZ := Lib.hid (HXB.out.trans hkwz9)
    clear hkwz9
    go_wp2_with fail
    go_ret2
    exact ⟨⟨v, M, rfl, HVV.out _ HXZ.out, Nat.le_add_right _ _⟩, HW1.out.trans HXZ.out⟩
set_option maxRecDepth 100000 in
set_option maxHeartbeats 16000000 in
theorem step_no2b (v : Value) (M : List RegS) (a : ActR) (w : World) (h : Sl w v M) (hn : M.length ≤ 80000) (ha : a.good) (hT : Tabs w) (hb : Rs.okB M = true) (ht : ¬ Rs.Td a.nm) (hneg : ¬ (Rs.okB M = true ∧ Rs.Td a.nm ∧ mayB a.s = true)) (hD : ¬ (wz a.k 7 : Int) < 2) (hE : 3 < (wz a.k 7 : Int)) :
    Calls Tryd.prog 10 #[v, act9V a] w fun e w' => StepOk w' M e ∧ Kept (fun _ => False) w w' := by
  have hB : Rs.okB M = true := hb
  have cT := fun W => rtold_any a.nm W
  rw [decide_eq_false ht] at cT
  have cY := fun v' W (h' : Sl W v' M) (hT' : Tabs W) => yank_no v' M a.nm a.s a.b W h' (by omega) ha.2.2 hneg hT'
  have cD := fun v' W (h' : Sl W v' M) (hT' : Tabs W) => delete_no v' M a.nm a.s a.b W h' (by omega) ha.2.2 hneg hT'
  clear hneg ht
  have hka : Kept (fun _ => False) w (w.alloc (act9O a)) := (Kept.refl _ w).alloc _
  have HAB : Hid ((w.alloc (act9O a)).heap[w.heap.size]? = some (act9O a)) := heap_alloc_new w _
  have HKA := Lib.hid hka
  have HV0 := Lib.hid (h.kept hka)
  have HT0 := Lib.hid (hT.kept hka id id)
  have HN := Lib.hid hn
  have HSS := Lib.hid ha.2.2
  have cW := fun W => within_z a.k 7 (by omega) (by omega) W
  obtain ⟨D, hDD⟩ : ∃ D, wz a.k 7 = D := ⟨_, rfl⟩
  simp only [hDD] at cW
  rw [hDD] at hD hE
  obtain ⟨ak, nm, s, b⟩ := a
  simp only at *
  clear hka h hT ha hn hDD
  go_enter Tryd.func10, Tryd.ntmps10
  go_upto_region 1 with fail
  generalize w.alloc (.cells #[.int .i64 ak, .int .i64 nm, .string s, .bool b] 35) = w0 at *
  generalize w.heap.size = pb at *
  go_wp2_with fail
  refine (copyregs_any v M w0 HV0.out (by have := HN.out; omega)).mono ?_
  rintro e w1 ⟨⟨vi, rfl, hi⟩, hk1⟩
  have HI := Lib.hid hi
  have HV1 := Lib.hid (HV0.out.kept hk1)
  have HT1 := Lib.hid (HT0.out.kept hk1 id id)
  have HW1 := Lib.hid (HKA.out.trans hk1)
  have HAB1 := Lib.hid (hk1.cellsAt HAB.out id)
  have HB : Hid (∀ W, Kept (fun _ => False) w1 W → W.cell? ⟨pb, 0, none⟩ = some (.int .i64 ak) ∧ W.cell? ⟨pb, 1, none⟩ = some (.int .i64 nm) ∧ W.cell? ⟨pb, 2, none⟩ = some (.string s) ∧ W.cell? ⟨pb, 3, none⟩ = some (.bool b)) := fun W hk => act9_facts (b := ⟨ak, nm, s, b⟩) (hk.cellsAt HAB1.out id)
  have HVI : Hid (∀ W, Kept (fun _ => False) w1 W → Sl W vi M) := fun W hk => (HI.out.keep hk).sl
  have HVV : Hid (∀ W, Kept (fun _ => False) w1 W → Sl W v M) := fun W hk => HV1.out.kept hk
  have HTT : Hid (∀ W, Kept (fun _ => False) w1 W → Tabs W) := fun W hk => HT1.out.kept hk id id
  have HEQ : Hid (∀ W, Kept (fun _ => False) w1 W → Calls Tryd.prog 23 #[vi, v] W fun e w' => e = .returned (.bool true) ∧ Kept (fun _ => False) W w') := fun W hk => eqregs_yes vi v M W (HVI.out W hk) (HVV.out W hk) (by have := HN.out; omega)
  clear hi hk1 HAB HKA HV0 HT0 HAB1
  have cR := rregs_any v M w1 HV1.out (by have := HN.out; omega) HT1.out
  rw [hB] at cR
  go_wp2_with fail
  refine cR.mono ?_
  clear cR
  rintro e w2 ⟨rfl, hk2⟩
  have HX2 := Lib.hid hk2
  obtain ⟨q0, q1, q2, q3⟩ := HB.out w2 hk2
  clear hk2
  clear hB
  clear hb
  have bD : decide ((D : Int) < 2) = false := decide_eq_false (by omega)
  have bD2 : decide (D < 2) = false := decide_eq_false (by omega)
  have bE : decide (3 < (D : Int)) = true := decide_eq_true (by omega)
  have bE2 : decide (3 < D) = true := decide_eq_true (by omega)
  clear hD hE
  go_wp2_with (go_at_call 20; refine (cW _).mono ?_; rintro e w' ⟨rfl, hw⟩; have hw2 := hw.symm; subst hw2)
  refine (cY _ _ (HVI.out _ HX2.out) (HTT.out _ HX2.out)).mono ?_
  clear q0 q1 q2 q3
  rintro e w3 ⟨rfl, hkw3⟩
  have HX3 := Lib.hid (HX2.out.trans hkw3)
  obtain ⟨q0, q1, q2, q3⟩ := HB.out w3 HX3.out
  clear hkw3
  clear cY
  go_wp2_with fail
  refine (cD _ _ (HVI.out _ HX3.out) (HTT.out _ HX3.out)).mono ?_
  clear q0 q1 q2 q3
  rintro e w4 ⟨rfl, hkw4⟩
  have HX4 := Lib.hid (HX3.out.trans hkw4)
  obtain ⟨q0, q1, q2, q3⟩ := HB.out w4 HX4.out
  clear hkw4
  clear cD
  go_wp2_with (first | (go_at_call 21; refine (cT _).mono ?_; rintro e w' ⟨rfl, hw⟩; have hw2 := hw.symm; subst hw2) | (go_at_call 7; refine (num_any _ _).mono ?_; rintro e w' ⟨rfl, hw⟩; have hw2 := hw.symm; subst hw2))
  clear q0 q1 q2 q3
  refine (eqregs_yes (.slice none 0 0) (.slice none 0 0) [] _ (sl_nil _) (sl_nil _) (Nat.zero_le _)).mono ?_
  rintro e wa ⟨rfl, hka⟩
  have HXA := Lib.hid (HX4.out.trans hka)
  clear hka
  go_wp2_with fail
  refine (HEQ.out _ HXA.out).mono ?_
  rintro e wb ⟨rfl, hkwb⟩
  have HXB := Lib.hid (HXA.out.trans hkwb)
  clear hkwb
  go_wp2_with fail
  go_loopw [19] (fun i wr => i = .int .i64 ((0 : Nat) : Int) ∧ wr = wb) (fun _ _ => 0)
  case atStart => exact ⟨rfl, (by first | rfl | trivial)⟩
  case round =>
    obtain ⟨rfl, rfl⟩ := hrel
    go_wp2_with fail
    refine (HEQ.out _ HXB.out).mono ?_
    rintro e wz9 ⟨rfl, hkwz9⟩
    have HXZ := Lib.hid (HXB.out.trans hkwz9)
    clear hkwz9
    go_wp2_with fail
    go_ret2
    exact ⟨⟨v, M, rfl, HVV.out _ HXZ.out, Nat.le_add_right _ _⟩, HW1.out.trans HXZ.out⟩
set_option maxRecDepth 100000 in
set_option maxHeartbeats 16000000 in
theorem step_no3b (v : Value) (M : List RegS) (a : ActR) (w : World) (h : Sl w v M) (hn : M.length ≤ 80000) (ha : a.good) (hT : Tabs w) (hb : Rs.okB M = true) (ht : Rs.Td a.nm) (hm : mayB a.s = false) (hneg : ¬ (Rs.okB M = true ∧ Rs.Td a.nm ∧ mayB a.s = true)) (hD : ¬ (wz a.k 7 : Int) < 2) (hE : 3 < (wz a.k 7 : Int)) :
    Calls Tryd.prog 10 #[v, act9V a] w fun e w' => StepOk w' M e ∧ Kept (fun _ => False) w w' := by
  have hB : Rs.okB M = true := hb
  have cT := fun W => rtold_any a.nm W
  rw [decide_eq_true ht] at cT
  have cM := fun W (hT' : Tabs W) => rmay_any a.s W ha.2.2 hT'
  rw [hm] at cM
  have cY := fun v' W (h' : Sl W v' M) (hT' : Tabs W) => yank_no v' M a.nm a.s a.b W h' (by omega) ha.2.2 hneg hT'
  have cD := fun v' W (h' : Sl W v' M) (hT' : Tabs W) => delete_no v' M a.nm a.s a.b W h' (by omega) ha.2.2 hneg hT'
  clear hneg ht hm
  have hka : Kept (fun _ => False) w (w.alloc (act9O a)) := (Kept.refl _ w).alloc _
  have HAB : Hid ((w.alloc (act9O a)).heap[w.heap.size]? = some (act9O a)) := heap_alloc_new w _
  have HKA := Lib.hid hka
  have HV0 := Lib.hid (h.kept hka)
  have HT0 := Lib.hid (hT.kept hka id id)
  have HN := Lib.hid hn
  have HSS := Lib.hid ha.2.2
  have cW := fun W => within_z a.k 7 (by omega) (by omega) W
  obtain ⟨D, hDD⟩ : ∃ D, wz a.k 7 = D := ⟨_, rfl⟩
  simp only [hDD] at cW
  rw [hDD] at hD hE
  obtain ⟨ak, nm, s, b⟩ := a
  simp only at *
  clear hka h hT ha hn hDD
  go_enter Tryd.func10, Tryd.ntmps10
  go_upto_region 1 with fail
  generalize w.alloc (.cells #[.int .i64 ak, .int .i64 nm, .string s, .bool b] 35) = w0 at *
  generalize w.heap.size = pb at *
  go_wp2_with fail
  refine (copyregs_any v M w0 HV0.out (by have := HN.out; omega)).mono ?_
  rintro e w1 ⟨⟨vi, rfl, hi⟩, hk1⟩
  have HI := Lib.hid hi
  have HV1 := Lib.hid (HV0.out.kept hk1)
  have HT1 := Lib.hid (HT0.out.kept hk1 id id)
  have HW1 := Lib.hid (HKA.out.trans hk1)
  have HAB1 := Lib.hid (hk1.cellsAt HAB.out id)
  have HB : Hid (∀ W, Kept (fun _ => False) w1 W → W.cell? ⟨pb, 0, none⟩ = some (.int .i64 ak) ∧ W.cell? ⟨pb, 1, none⟩ = some (.int .i64 nm) ∧ W.cell? ⟨pb, 2, none⟩ = some (.string s) ∧ W.cell? ⟨pb, 3, none⟩ = some (.bool b)) := fun W hk => act9_facts (b := ⟨ak, nm, s, b⟩) (hk.cellsAt HAB1.out id)
  have HVI : Hid (∀ W, Kept (fun _ => False) w1 W → Sl W vi M) := fun W hk => (HI.out.keep hk).sl
  have HVV : Hid (∀ W, Kept (fun _ => False) w1 W → Sl W v M) := fun W hk => HV1.out.kept hk
  have HTT : Hid (∀ W, Kept (fun _ => False) w1 W → Tabs W) := fun W hk => HT1.out.kept hk id id
  have HEQ : Hid (∀ W, Kept (fun _ => False) w1 W → Calls Tryd.prog 23 #[vi, v] W fun e w' => e = .returned (.bool true) ∧ Kept (fun _ => False) W w') := fun W hk => eqregs_yes vi v M W (HVI.out W hk) (HVV.out W hk) (by have := HN.out; omega)
  clear hi hk1 HAB HKA HV0 HT0 HAB1
  have cR := rregs_any v M w1 HV1.out (by have := HN.out; omega) HT1.out
  rw [hB] at cR
  go_wp2_with fail
  refine cR.mono ?_
  clear cR
  rintro e w2 ⟨rfl, hk2⟩
  have HX2 := Lib.hid hk2
  obtain ⟨q0, q1, q2, q3⟩ := HB.out w2 hk2
  clear hk2
  clear hB
  clear hb
  have bD : decide ((D : Int) < 2) = false := decide_eq_false (by omega)
  have bD2 : decide (D < 2) = false := decide_eq_false (by omega)
  have bE : decide (3 < (D : Int)) = true := decide_eq_true (by omega)
  have bE2 : decide (3 < D) = true := decide_eq_true (by omega)
  clear hD hE
  go_wp2_with (go_at_call 20; refine (cW _).mono ?_; rintro e w' ⟨rfl, hw⟩; have hw2 := hw.symm; subst hw2)
  refine (cY _ _ (HVI.out _ HX2.out) (HTT.out _ HX2.out)).mono ?_
  clear q0 q1 q2 q3
  rintro e w3 ⟨rfl, hkw3⟩
  have HX3 := Lib.hid (HX2.out.trans hkw3)
  obtain ⟨q0, q1, q2, q3⟩ := HB.out w3 HX3.out
  clear hkw3
  clear cY
  go_wp2_with fail
  refine (cD _ _ (HVI.out _ HX3.out) (HTT.out _ HX3.out)).mono ?_
  clear q0 q1 q2 q3
  rintro e w4 ⟨rfl, hkw4⟩
  have HX4 := Lib.hid (HX3.out.trans hkw4)
  obtain ⟨q0, q1, q2, q3⟩ := HB.out w4 HX4.out
  clear hkw4
  clear cD
  go_wp2_with (go_at_call 21; refine (cT _).mono ?_; rintro e w' ⟨rfl, hw⟩; have hw2 := hw.symm; subst hw2)
  refine (cM _ (HTT.out _ HX4.out)).mono ?_
  clear q0 q1 q2 q3
  rintro e w5 ⟨rfl, hkw5⟩
  have HX5 := Lib.hid (HX4.out.trans hkw5)
  obtain ⟨q0, q1, q2, q3⟩ := HB.out w5 HX5.out
  clear hkw5
  go_wp2_with (go_at_call 7; refine (num_any _ _).mono ?_; rintro e w' ⟨rfl, hw⟩; have hw2 := hw.symm; subst hw2)
  clear q0 q1 q2 q3
  refine (eqregs_yes (.slice none 0 0) (.slice none 0 0) [] _ (sl_nil _) (sl_nil _) (Nat.zero_le _)).mono ?_
  rintro e wa ⟨rfl, hka⟩
  have HXA := Lib.hid (HX5.out.trans hka)
  clear hka
  go_wp2_with fail
  refine (HEQ.out _ HXA.out).mono ?_
  rintro e wb ⟨rfl, hkwb⟩
  have HXB := Lib.hid (HXA.out.trans hkwb)
  clear hkwb
  go_wp2_with fail
  go_loopw [19] (fun i wr => i = .int .i64 ((0 : Nat) : Int) ∧ wr = wb) (fun _ _ => 0)
  case atStart => exact ⟨rfl, (by first | rfl | trivial)⟩
  case round =>
    obtain ⟨rfl, rfl⟩ := hrel
    go_wp2_with fail
    refine (HEQ.out _ HXB.out).mono ?_
    rintro e wz9 ⟨rfl, hkwz9⟩
    have HXZ := Lib.hid (HXB.out.trans hkwz9)
    clear hkwz9
    go_wp2_with fail
    go_ret2
    exact ⟨⟨v, M, rfl, HVV.out _ HXZ.out, Nat.le_add_right _ _⟩, HW1.out.trans HXZ.out⟩
set_option maxRecDepth 100000 in
set_option maxHeartbeats 16000000 in
theorem step_nonea (v : Value) (M : List RegS) (a : ActR) (w : World) (h : Sl w v M) (hn : M.length ≤ 80000) (ha : a.good) (hT : Tabs w) (hb : Rs.okB M = true) (ht : Rs.Td a.nm) (hm : mayB a.s = true) (hk : Rs.kpA M a.nm a.s a.b = none) (hD : ¬ (wz a.k 7 : Int) < 2) (hE : ¬ 3 < (wz a.k 7 : Int)) :
    Calls Tryd.prog 10 #[v, act9V a] w fun e w' => StepOk w' M e ∧ Kept (fun _ => False) w w' := by
  have hB : Rs.okB M = true := hb
  have cT := fun W => rtold_any a.nm W
  rw [decide_eq_true ht] at cT
  have cM := fun W (hT' : Tabs W) => rmay_any a.s W ha.2.2 hT'
  rw [hm] at cM
  have cY := fun v' W (h' : Sl W v' M) (hT' : Tabs W) => yank_yes v' M a.nm a.s a.b W h' (by omega) hb ht hm hT'
  have cD := fun v' W (h' : Sl W v' M) (hT' : Tabs W) => delete_yes v' M a.nm a.s a.b W h' (by omega) hb ht hm hT'
  have cK := fun W (h' : Sl W v M) (hT' : Tabs W) => rkeep_any v M a.nm a.s a.b false W h' (by omega) hb hm hT'
  have hto := told_none hk false
  rw [hto.2.1] at cY
  rw [hto.2.2] at cD
  rw [hto.1] at cK
  clear hto hk ht hm
  unfold TellOk at cY cD cK
  simp only at cY cD cK
  have hka : Kept (fun _ => False) w (w.alloc (act9O a)) := (Kept.refl _ w).alloc _
  have HAB : Hid ((w.alloc (act9O a)).heap[w.heap.size]? = some (act9O a)) := heap_alloc_new w _
  have HKA := Lib.hid hka
  have HV0 := Lib.hid (h.kept hka)
  have HT0 := Lib.hid (hT.kept hka id id)
  have HN := Lib.hid hn
  have HSS := Lib.hid ha.2.2
  have cW := fun W => within_z a.k 7 (by omega) (by omega) W
  obtain ⟨D, hDD⟩ : ∃ D, wz a.k 7 = D := ⟨_, rfl⟩
  simp only [hDD] at cW
  rw [hDD] at hD hE
  obtain ⟨ak, nm, s, b⟩ := a
  simp only at *
  clear hka h hT ha hn hDD
  go_enter Tryd.func10, Tryd.ntmps10
  go_upto_region 1 with fail
  generalize w.alloc (.cells #[.int .i64 ak, .int .i64 nm, .string s, .bool b] 35) = w0 at *
  generalize w.heap.size = pb at *
  go_wp2_with fail
  refine (copyregs_any v M w0 HV0.out (by have := HN.out; omega)).mono ?_
  rintro e w1 ⟨⟨vi, rfl, hi⟩, hk1⟩
  have HI := Lib.hid hi
  have HV1 := Lib.hid (HV0.out.kept hk1)
  have HT1 := Lib.hid (HT0.out.kept hk1 id id)
  have HW1 := Lib.hid (HKA.out.trans hk1)
  have HAB1 := Lib.hid (hk1.cellsAt HAB.out id)
  have HB : Hid (∀ W, Kept (fun _ => False) w1 W → W.cell? ⟨pb, 0, none⟩ = some (.int .i64 ak) ∧ W.cell? ⟨pb, 1, none⟩ = some (.int .i64 nm) ∧ W.cell? ⟨pb, 2, none⟩ = some (.string s) ∧ W.cell? ⟨pb, 3, none⟩ = some (.bool b)) := fun W hk => act9_facts (b := ⟨ak, nm, s, b⟩) (hk.cellsAt HAB1.out id)
  have HVI : Hid (∀ W, Kept (fun _ => False) w1 W → Sl W vi M) := fun W hk => (HI.out.keep hk).sl
  have HVV : Hid (∀ W, Kept (fun _ => False) w1 W → Sl W v M) := fun W hk => HV1.out.kept hk
  have HTT : Hid (∀ W, Kept (fun _ => False) w1 W → Tabs W) := fun W hk => HT1.out.kept hk id id
  have HEQ : Hid (∀ W, Kept (fun _ => False) w1 W → Calls Tryd.prog 23 #[vi, v] W fun e w' => e = .returned (.bool true) ∧ Kept (fun _ => False) W w') := fun W hk => eqregs_yes vi v M W (HVI.out W hk) (HVV.out W hk) (by have := HN.out; omega)
  clear hi hk1 HAB HKA HV0 HT0 HAB1
  have cR := rregs_any v M w1 HV1.out (by have := HN.out; omega) HT1.out
  rw [hB] at cR
  go_wp2_with fail
  refine cR.mono ?_
  clear cR
  rintro e w2 ⟨rfl, hk2⟩
  have HX2 := Lib.hid hk2
  obtain ⟨q0, q1, q2, q3⟩ := HB.out w2 hk2
  clear hk2
  clear hB
  clear hb
  have bD : decide ((D : Int) < 2) = false := decide_eq_false (by omega)
  have bD2 : decide (D < 2) = false := decide_eq_false (by omega)
  have bE : decide (3 < (D : Int)) = false := decide_eq_false (by omega)
  have bE2 : decide (3 < D) = false := decide_eq_false (by omega)
  clear hD hE
  go_wp2_with (go_at_call 20; refine (cW _).mono ?_; rintro e w' ⟨rfl, hw⟩; have hw2 := hw.symm; subst hw2)
  refine (cY _ _ (HVI.out _ HX2.out) (HTT.out _ HX2.out)).mono ?_
  clear q0 q1 q2 q3
  rintro e w3 ⟨rfl, hkw3⟩
  have HX3 := Lib.hid (HX2.out.trans hkw3)
  obtain ⟨q0, q1, q2, q3⟩ := HB.out w3 HX3.out
  clear hkw3
  clear cY
  clear cD
  go_wp2_with (go_at_call 21; refine (cT _).mono ?_; rintro e w' ⟨rfl, hw⟩; have hw2 := hw.symm; subst hw2)
  refine (cM _ (HTT.out _ HX3.out)).mono ?_
  clear q0 q1 q2 q3
  rintro e w5 ⟨rfl, hkw5⟩
  have HX5 := Lib.hid (HX3.out.trans hkw5)
  obtain ⟨q0, q1, q2, q3⟩ := HB.out w5 HX5.out
  clear hkw5
  go_wp2_with fail
  refine (cK _ (HVV.out _ HX5.out) (HTT.out _ HX5.out)).mono ?_
  clear q0 q1 q2 q3
  rintro e w6 ⟨rfl, hkw6⟩
  have HX6 := Lib.hid (HX5.out.trans hkw6)
  obtain ⟨q0, q1, q2, q3⟩ := HB.out w6 HX6.out
  clear hkw6
  clear cK
  go_wp2_with (go_at_call 7; refine (num_any _ _).mono ?_; rintro e w' ⟨rfl, hw⟩; have hw2 := hw.symm; subst hw2)
  clear q0 q1 q2 q3
  refine (eqregs_yes (.slice none 0 0) (.slice none 0 0) [] _ (sl_nil _) (sl_nil _) (Nat.zero_le _)).mono ?_
  rintro e wa ⟨rfl, hka⟩
  have HXA := Lib.hid (HX6.out.trans hka)
  clear hka
  go_wp2_with fail
  refine (HEQ.out _ HXA.out).mono ?_
  rintro e wb ⟨rfl, hkwb⟩
  have HXB := Lib.hid (HXA.out.trans hkwb)
  clear hkwb
  go_wp2_with fail
  go_loopw [19] (fun i wr => i = .int .i64 ((0 : Nat) : Int) ∧ wr = wb) (fun _ _ => 0)
  case atStart => exact ⟨rfl, (by first | rfl | trivial)⟩
  case round =>
    obtain ⟨rfl, rfl⟩ := hrel
    go_wp2_with fail
    refine (HEQ.out _ HXB.out).mono ?_
    rintro e wz9 ⟨rfl, hkwz9⟩
    have HXZ := Lib.hid (HXB.out.trans hkwz9)
    clear hkwz9
    go_wp2_with fail
    go_ret2
    exact ⟨⟨v, M, rfl, HVV.out _ HXZ.out, Nat.le_add_right _ _⟩, HW1.out.trans HXZ.out⟩
set_option maxRecDepth 100000 in
set_option maxHeartbeats 16000000 in
theorem step_somea (v : Value) (M : List RegS) (a : ActR) (w : World) (h : Sl w v M) (hn : M.length ≤ 80000) (ha : a.good) (hT : Tabs w) (hb : Rs.okB M = true) (ht : Rs.Td a.nm) (hm : mayB a.s = true) (X : List RegS) (hy : Rs.ykA M a.nm a.s a.b = some X) (hD : ¬ (wz a.k 7 : Int) < 2) (hE : ¬ 3 < (wz a.k 7 : Int)) :
    Calls Tryd.prog 10 #[v, act9V a] w fun e w' => StepOk w' M e ∧ Kept (fun _ => False) w w' := by
  have hB : Rs.okB M = true := hb
  have cT := fun W => rtold_any a.nm W
  rw [decide_eq_true ht] at cT
  have cM := fun W (hT' : Tabs W) => rmay_any a.s W ha.2.2 hT'
  rw [hm] at cM
  have cY := fun v' W (h' : Sl W v' M) (hT' : Tabs W) => yank_yes v' M a.nm a.s a.b W h' (by omega) hb ht hm hT'
  have cD := fun v' W (h' : Sl W v' M) (hT' : Tabs W) => delete_yes v' M a.nm a.s a.b W h' (by omega) hb ht hm hT'
  have cK := fun W (h' : Sl W v M) (hT' : Tabs W) => rkeep_any v M a.nm a.s a.b false W h' (by omega) hb hm hT'
  rw [hy] at cY
  have hto : Rs.told M a.nm a.s a.b false = some X := hy
  rw [hto] at cK
  have HLX := Lib.hid (told_le hto)
  clear hy hto ht hm
  unfold TellOk at cY cD cK
  simp only at cY cD cK
  have hka : Kept (fun _ => False) w (w.alloc (act9O a)) := (Kept.refl _ w).alloc _
  have HAB : Hid ((w.alloc (act9O a)).heap[w.heap.size]? = some (act9O a)) := heap_alloc_new w _
  have HKA := Lib.hid hka
  have HV0 := Lib.hid (h.kept hka)
  have HT0 := Lib.hid (hT.kept hka id id)
  have HN := Lib.hid hn
  have HSS := Lib.hid ha.2.2
  have cW := fun W => within_z a.k 7 (by omega) (by omega) W
  obtain ⟨D, hDD⟩ : ∃ D, wz a.k 7 = D := ⟨_, rfl⟩
  simp only [hDD] at cW
  rw [hDD] at hD hE
  obtain ⟨ak, nm, s, b⟩ := a
  simp only at *
  clear hka h hT ha hn hDD
  go_enter Tryd.func10, Tryd.ntmps10
  go_upto_region 1 with fail
  generalize w.alloc (.cells #[.int .i64 ak, .int .i64 nm, .string s, .bool b] 35) = w0 at *
  generalize w.heap.size = pb at *
  go_wp2_with fail
  refine (copyregs_any v M w0 HV0.out (by have := HN.out; omega)).mono ?_
  rintro e w1 ⟨⟨vi, rfl, hi⟩, hk1⟩
  have HI := Lib.hid hi
  have HV1 := Lib.hid (HV0.out.kept hk1)
  have HT1 := Lib.hid (HT0.out.kept hk1 id id)
  have HW1 := Lib.hid (HKA.out.trans hk1)
  have HAB1 := Lib.hid (hk1.cellsAt HAB.out id)
  have HB : Hid (∀ W, Kept (fun _ => False) w1 W → W.cell? ⟨pb, 0, none⟩ = some (.int .i64 ak) ∧ W.cell? ⟨pb, 1, none⟩ = some (.int .i64 nm) ∧ W.cell? ⟨pb, 2, none⟩ = some (.string s) ∧ W.cell? ⟨pb, 3, none⟩ = some (.bool b)) := fun W hk => act9_facts (b := ⟨ak, nm, s, b⟩) (hk.cellsAt HAB1.out id)
  have HVI : Hid (∀ W, Kept (fun _ => False) w1 W → Sl W vi M) := fun W hk => (HI.out.keep hk).sl
  have HVV : Hid (∀ W, Kept (fun _ => False) w1 W → Sl W v M) := fun W hk => HV1.out.kept hk
  have HTT : Hid (∀ W, Kept (fun _ => False) w1 W → Tabs W) := fun W hk => HT1.out.kept hk id id
  have HEQ : Hid (∀ W, Kept (fun _ => False) w1 W → Calls Tryd.prog 23 #[vi, v] W fun e w' => e = .returned (.bool true) ∧ Kept (fun _ => False) W w') := fun W hk => eqregs_yes vi v M W (HVI.out W hk) (HVV.out W hk) (by have := HN.out; omega)
  clear hi hk1 HAB HKA HV0 HT0 HAB1
  have cR := rregs_any v M w1 HV1.out (by have := HN.out; omega) HT1.out
  rw [hB] at cR
  go_wp2_with fail
  refine cR.mono ?_
  clear cR
  rintro e w2 ⟨rfl, hk2⟩
  have HX2 := Lib.hid hk2
  obtain ⟨q0, q1, q2, q3⟩ := HB.out w2 hk2
  clear hk2
  clear hB
  clear hb
  have bD : decide ((D : Int) < 2) = false := decide_eq_false (by omega)
  have bD2 : decide (D < 2) = false := decide_eq_false (by omega)
  have bE : decide (3 < (D : Int)) = false := decide_eq_false (by omega)
  have bE2 : decide (3 < D) = false := decide_eq_false (by omega)
  clear hD hE
  go_wp2_with (go_at_call 20; refine (cW _).mono ?_; rintro e w' ⟨rfl, hw⟩; have hw2 := hw.symm; subst hw2)
  refine (cY _ _ (HVI.out _ HX2.out) (HTT.out _ HX2.out)).mono ?_
  clear q0 q1 q2 q3
  rintro e w3 ⟨⟨vy, rfl, how3⟩, hkw3⟩
  have HOY := Lib.hid (how3.mono HX2.out.size)
  have HX3 := Lib.hid (HX2.out.trans hkw3)
  obtain ⟨q0, q1, q2, q3⟩ := HB.out w3 HX3.out
  clear hkw3 how3
  clear cY
  clear cD
  go_wp2_with (go_at_call 21; refine (cT _).mono ?_; rintro e w' ⟨rfl, hw⟩; have hw2 := hw.symm; subst hw2)
  refine (cM _ (HTT.out _ HX3.out)).mono ?_
  clear q0 q1 q2 q3 cM
  rintro e w5 ⟨rfl, hkw5⟩
  have HX5 := Lib.hid (HX3.out.trans hkw5)
  have HO5 := Lib.hid (HOY.out.keep hkw5)
  obtain ⟨q0, q1, q2, q3⟩ := HB.out w5 HX5.out
  clear hkw5
  go_wp2_with fail
  refine (cK _ (HVV.out _ HX5.out) (HTT.out _ HX5.out)).mono ?_
  clear q0 q1 q2 q3 cK
  rintro e w6 ⟨⟨vw, rfl, how⟩, hkw6⟩
  have HX6 := Lib.hid (HX5.out.trans hkw6)
  have HOW := Lib.hid how
  have HO6 := Lib.hid (HO5.out.keep hkw6)
  have HFAR : Hid (∀ k, vy.ownBlock = some k → ∀ j, vw.ownBlock = some j → j ≠ k) := fun k hk j hj => by have := (HO5.out.lt k hk).2; have := (HOW.out.lt j hj).1; omega
  clear hkw6 how
  go_wp2_with (go_at_call 7; refine (num_any _ _).mono ?_; rintro e w' ⟨rfl, hw⟩; have hw2 := hw.symm; subst hw2)
  refine (eqregs_yes vy vw X _ HO6.out.sl HOW.out.sl (by have := HLX.out; have := HN.out; omega)).mono ?_
  rintro e wa ⟨rfl, hka⟩
  have HXA := Lib.hid (HX6.out.trans hka)
  have HOA := Lib.hid (HO6.out.keep hka)
  have HWA := Lib.hid (HOW.out.keep hka)
  clear hka
  go_wp2_with fail
  refine (HEQ.out _ HXA.out).mono ?_
  rintro e wb ⟨rfl, hkb⟩
  have HXB := Lib.hid (HXA.out.trans hkb)
  have HOB := Lib.hid (HOA.out.keep hkb)
  have HWB := Lib.hid (HWA.out.keep hkb)
  clear hkb HOA HWA HO6 HOW HO5
  have hown := HOB.out.own
  obtain ⟨n, hn⟩ : ∃ n, X.length = n := ⟨_, rfl⟩
  have hnl : n ≤ 90000 := by have := HLX.out; have := HN.out; omega
  obtain ⟨xs, hxs⟩ : ∃ xs, flatR X = xs := ⟨_, rfl⟩
  rw [hn, hxs] at hown
  have HNX := Lib.hid hn
  clear hn hxs
  rcases id hown.2 with ⟨rfl, rfl⟩ | ⟨g, cap, cur, rfl, hg, hgg, hcap, hcm, hcs, hts⟩
  · clear hown
    go_wp2_with fail
    go_loopw [19] (fun i wr => i = .int .i64 ((0 : Nat) : Int) ∧ wr = wb) (fun _ _ => 0)
    case atStart => exact ⟨rfl, (by first | rfl | trivial)⟩
    case round =>
      obtain ⟨rfl, rfl⟩ := hrel
      go_wp2_with fail
      refine (HEQ.out _ HXB.out).mono ?_
      rintro e wz9 ⟨rfl, hkwz9⟩
      have HWZ := Lib.hid (HWB.out.keep hkwz9)
      have HXZ := Lib.hid (HXB.out.trans hkwz9)
      clear hkwz9
      go_wp2_with fail
      refine (copyregs_any vw X _ HWZ.out.sl (by have := HLX.out; have := HN.out; omega)).mono ?_
      rintro e wf ⟨⟨vf, rfl, hof⟩, hkf⟩
      have HOF := Lib.hid hof
      have HXF := Lib.hid (HXZ.out.trans hkf)
      clear hof hkf
      go_wp2_with fail
      go_ret2
      exact ⟨⟨vf, X, rfl, HOF.out.sl, by have := HLX.out; omega⟩, HW1.out.trans HXF.out⟩
  · have HO := Lib.hid hown
    have HG1 := Lib.hid hg
    clear hown hgg hcs hts hg
    go_wp2_with fail
    go_loopw [19] (fun i wr => ∃ (k : Nat) (xs' : List Value), k ≤ n ∧ i = .int .i64 k ∧ wr.ownsRow w1.heap.size 41 3 (.slice (some ⟨g, 0, none⟩) n cap) n xs' ∧ Kept (fun b => b = g) wb wr) (fun i _ => n - (intOf i).toNat)
    case atStart => exact ⟨0, xs, Nat.zero_le _, rfl, HO.out, Kept.refl _ _⟩
    case round =>
      obtain ⟨k, xs', hk, rfl, hown, hkept⟩ := hrel
      have HKG := Lib.hid hkept
      clear hkept
      by_cases hkn : k < n
      · have hlen : k * 3 + 2 < xs'.length := by rw [hown.1]; omega
        have hcell : wr.cell? ⟨g, k * 3, none⟩ = some (xs'[k * 3]'(by omega)) := by rw [hown.cellAt (k * 3) (by omega)]; exact List.getElem?_eq_getElem _
        have hcell1 : wr.cell? ⟨g, k * 3 + 1, none⟩ = some (xs'[k * 3 + 1]'(by omega)) := by rw [hown.cellAt (k * 3 + 1) (by omega)]; exact List.getElem?_eq_getElem _
        have hcell2 : wr.cell? ⟨g, k * 3 + 2, none⟩ = some (xs'[k * 3 + 2]'hlen) := by rw [hown.cellAt (k * 3 + 2) (by omega)]; exact List.getElem?_eq_getElem _
        have hfr : wr.frozen? ⟨g, k * 3, none⟩ = false := hown.frozenAt _
        have hfr1 : wr.frozen? ⟨g, k * 3 + 1, none⟩ = false := hown.frozenAt _
        have hfr2 : wr.frozen? ⟨g, k * 3 + 2, none⟩ = false := hown.frozenAt _
        have hst := (((((hown.stored (k * 3) (.int .i64 0)).1).stored (k * 3 + 1) (.string ⟨#[115, 112, 111, 105, 108, 116]⟩)).1).stored (k * 3 + 2) (.bool false)).1
        have HK2 := Lib.hid (((HKG.out.setCell (p := ⟨g, k * 3, none⟩) rfl (.int .i64 0)).setCell (p := ⟨g, k * 3 + 1, none⟩) rfl (.string ⟨#[115, 112, 111, 105, 108, 116]⟩)).setCell (p := ⟨g, k * 3 + 2, none⟩) rfl (.bool false))
        have HS := Lib.hid hst
        have b1 : decide (k < n) = true := decide_eq_true hkn
        have b2 : decide ((k : Int) < (n : Int)) = true := decide_eq_true (by omega)
        have t1 : (0 : Int) ≤ (k : Int) := by omega
        have t2 : (k : Int) < (n : Int) := by omega
        clear hst hown
        go_wp2_with fail
        go_roundw
        case rel => exact ⟨k + 1, _, by omega, by go_num, HS.out, HK2.out⟩
        case measure => simp [intOf] <;> omega
      · obtain rfl : k = n := by omega
        have b1 : decide (k < k) = false := decide_eq_false (by omega)
        have b2 : decide ((k : Int) < (k : Int)) = false := decide_eq_false (by omega)
        have HXG := Lib.hid (HXB.out.fresh HKG.out (fun p hp e => by have e : p = g := e; have := HG1.out; omega))
        have HWG := Lib.hid (HWB.out.kept HKG.out (fun j hj e => HFAR.out g rfl j hj e))
        clear hown
        go_wp2_with fail
        refine (HEQ.out _ HXG.out).mono ?_
        rintro e wz9 ⟨rfl, hkwz9⟩
        have HWZ := Lib.hid (HWG.out.keep hkwz9)
        have HXZ := Lib.hid (HXG.out.trans hkwz9)
        clear hkwz9
        go_wp2_with fail
        refine (copyregs_any vw X _ HWZ.out.sl (by have := HLX.out; have := HN.out; omega)).mono ?_
        rintro e wf ⟨⟨vf, rfl, hof⟩, hkf⟩
        have HOF := Lib.hid hof
        have HXF := Lib.hid (HXZ.out.trans hkf)
        clear hof hkf
        go_wp2_with fail
        go_ret2
        exact ⟨⟨vf, X, rfl, HOF.out.sl, by have := HLX.out; omega⟩, HW1.out.trans HXF.out⟩
set_option maxRecDepth 100000 in
set_option maxHeartbeats 16000000 in
theorem step_noneb (v : Value) (M : List RegS) (a : ActR) (w : World) (h : Sl w v M) (hn : M.length ≤ 80000) (ha : a.good) (hT : Tabs w) (hb : Rs.okB M = true) (ht : Rs.Td a.nm) (hm : mayB a.s = true) (hk : Rs.kpA M a.nm a.s a.b = none) (hD : ¬ (wz a.k 7 : Int) < 2) (hE : 3 < (wz a.k 7 : Int)) :
    Calls Tryd.prog 10 #[v, act9V a] w fun e w' => StepOk w' M e ∧ Kept (fun _ => False) w w' := by
  have hB : Rs.okB M = true := hb
  have cT := fun W => rtold_any a.nm W
  rw [decide_eq_true ht] at cT
  have cM := fun W (hT' : Tabs W) => rmay_any a.s W ha.2.2 hT'
  rw [hm] at cM
  have cY := fun v' W (h' : Sl W v' M) (hT' : Tabs W) => yank_yes v' M a.nm a.s a.b W h' (by omega) hb ht hm hT'
  have cD := fun v' W (h' : Sl W v' M) (hT' : Tabs W) => delete_yes v' M a.nm a.s a.b W h' (by omega) hb ht hm hT'
  have cK := fun W (h' : Sl W v M) (hT' : Tabs W) => rkeep_any v M a.nm a.s a.b true W h' (by omega) hb hm hT'
  have hto := told_none hk true
  rw [hto.2.1] at cY
  rw [hto.2.2] at cD
  rw [hto.1] at cK
  clear hto hk ht hm
  unfold TellOk at cY cD cK
  simp only at cY cD cK
  have hka : Kept (fun _ => False) w (w.alloc (act9O a)) := (Kept.refl _ w).alloc _
  have HAB : Hid ((w.alloc (act9O a)).heap[w.heap.size]? = some (act9O a)) := heap_alloc_new w _
  have HKA := Lib.hid hka
  have HV0 := Lib.hid (h.kept hka)
  have HT0 := Lib.hid (hT.kept hka id id)
  have HN := Lib.hid hn
  have HSS := Lib.hid ha.2.2
  have cW := fun W => within_z a.k 7 (by omega) (by omega) W
  obtain ⟨D, hDD⟩ : ∃ D, wz a.k 7 = D := ⟨_, rfl⟩
  simp only [hDD] at cW
  rw [hDD] at hD hE
  obtain ⟨ak, nm, s, b⟩ := a
  simp only at *
  clear hka h hT ha hn hDD
  go_enter Tryd.func10, Tryd.ntmps10
  go_upto_region 1 with fail
  generalize w.alloc (.cells #[.int .i64 ak, .int .i64 nm, .string s, .bool b] 35) = w0 at *
  generalize w.heap.size = pb at *
  go_wp2_with fail
  refine (copyregs_any v M w0 HV0.out (by have := HN.out; omega)).mono ?_
  rintro e w1 ⟨⟨vi, rfl, hi⟩, hk1⟩
  have HI := Lib.hid hi
  have HV1 := Lib.hid (HV0.out.kept hk1)
  have HT1 := Lib.hid (HT0.out.kept hk1 id id)
  have HW1 := Lib.hid (HKA.out.trans hk1)
  have HAB1 := Lib.hid (hk1.cellsAt HAB.out id)
  have HB : Hid (∀ W, Kept (fun _ => False) w1 W → W.cell? ⟨pb, 0, none⟩ = some (.int .i64 ak) ∧ W.cell? ⟨pb, 1, none⟩ = some (.int .i64 nm) ∧ W.cell? ⟨pb, 2, none⟩ = some (.string s) ∧ W.cell? ⟨pb, 3, none⟩ = some (.bool b)) := fun W hk => act9_facts (b := ⟨ak, nm, s, b⟩) (hk.cellsAt HAB1.out id)
  have HVI : Hid (∀ W, Kept (fun _ => False) w1 W → Sl W vi M) := fun W hk => (HI.out.keep hk).sl
  have HVV : Hid (∀ W, Kept (fun _ => False) w1 W → Sl W v M) := fun W hk => HV1.out.kept hk
  have HTT : Hid (∀ W, Kept (fun _ => False) w1 W → Tabs W) := fun W hk => HT1.out.kept hk id id
  have HEQ : Hid (∀ W, Kept (fun _ => False) w1 W → Calls Tryd.prog 23 #[vi, v] W fun e w' => e = .returned (.bool true) ∧ Kept (fun _ => False) W w') := fun W hk => eqregs_yes vi v M W (HVI.out W hk) (HVV.out W hk) (by have := HN.out; omega)
  clear hi hk1 HAB HKA HV0 HT0 HAB1
  have cR := rregs_any v M w1 HV1.out (by have := HN.out; omega) HT1.out
  rw [hB] at cR
  go_wp2_with fail
  refine cR.mono ?_
  clear cR
  rintro e w2 ⟨rfl, hk2⟩
  have HX2 := Lib.hid hk2
  obtain ⟨q0, q1, q2, q3⟩ := HB.out w2 hk2
  clear hk2
  clear hB
  clear hb
  have bD : decide ((D : Int) < 2) = false := decide_eq_false (by omega)
  have bD2 : decide (D < 2) = false := decide_eq_false (by omega)
  have bE : decide (3 < (D : Int)) = true := decide_eq_true (by omega)
  have bE2 : decide (3 < D) = true := decide_eq_true (by omega)
  clear hD hE
  go_wp2_with (go_at_call 20; refine (cW _).mono ?_; rintro e w' ⟨rfl, hw⟩; have hw2 := hw.symm; subst hw2)
  refine (cY _ _ (HVI.out _ HX2.out) (HTT.out _ HX2.out)).mono ?_
  clear q0 q1 q2 q3
  rintro e w3 ⟨rfl, hkw3⟩
  have HX3 := Lib.hid (HX2.out.trans hkw3)
  obtain ⟨q0, q1, q2, q3⟩ := HB.out w3 HX3.out
  clear hkw3
  clear cY
  go_wp2_with fail
  refine (cD _ _ (HVI.out _ HX3.out) (HTT.out _ HX3.out)).mono ?_
  clear q0 q1 q2 q3
  rintro e w4 ⟨rfl, hkw4⟩
  have HX4 := Lib.hid (HX3.out.trans hkw4)
  obtain ⟨q0, q1, q2, q3⟩ := HB.out w4 HX4.out
  clear hkw4
  clear cD
  go_wp2_with (go_at_call 21; refine (cT _).mono ?_; rintro e w' ⟨rfl, hw⟩; have hw2 := hw.symm; subst hw2)
  refine (cM _ (HTT.out _ HX4.out)).mono ?_
  clear q0 q1 q2 q3
  rintro e w5 ⟨rfl, hkw5⟩
  have HX5 := Lib.hid (HX4.out.trans hkw5)
  obtain ⟨q0, q1, q2, q3⟩ := HB.out w5 HX5.out
  clear hkw5
  go_wp2_with fail
  refine (cK _ (HVV.out _ HX5.out) (HTT.out _ HX5.out)).mono ?_
  clear q0 q1 q2 q3
  rintro e w6 ⟨rfl, hkw6⟩
  have HX6 := Lib.hid (HX5.out.trans hkw6)
  obtain ⟨q0, q1, q2, q3⟩ := HB.out w6 HX6.out
  clear hkw6
  clear cK
  go_wp2_with (go_at_call 7; refine (num_any _ _).mono ?_; rintro e w' ⟨rfl, hw⟩; have hw2 := hw.symm; subst hw2)
  clear q0 q1 q2 q3
  refine (eqregs_yes (.slice none 0 0) (.slice none 0 0) [] _ (sl_nil _) (sl_nil _) (Nat.zero_le _)).mono ?_
  rintro e wa ⟨rfl, hka⟩
  have HXA := Lib.hid (HX6.out.trans hka)
  clear hka
  go_wp2_with fail
  refine (HEQ.out _ HXA.out).mono ?_
  rintro e wb ⟨rfl, hkwb⟩
  have HXB := Lib.hid (HXA.out.trans hkwb)
  clear hkwb
  go_wp2_with fail
  go_loopw [19] (fun i wr => i = .int .i64 ((0 : Nat) : Int) ∧ wr = wb) (fun _ _ => 0)
  case atStart => exact ⟨rfl, (by first | rfl | trivial)⟩
  case round =>
    obtain ⟨rfl, rfl⟩ := hrel
    go_wp2_with fail
    refine (HEQ.out _ HXB.out).mono ?_
    rintro e wz9 ⟨rfl, hkwz9⟩
    have HXZ := Lib.hid (HXB.out.trans hkwz9)
    clear hkwz9
    go_wp2_with fail
    go_ret2
    exact ⟨⟨v, M, rfl, HVV.out _ HXZ.out, Nat.le_add_right _ _⟩, HW1.out.trans HXZ.out⟩
set_option maxRecDepth 100000 in
set_option maxHeartbeats 16000000 in
theorem step_someb (v : Value) (M : List RegS) (a : ActR) (w : World) (h : Sl w v M) (hn : M.length ≤ 80000) (ha : a.good) (hT : Tabs w) (hb : Rs.okB M = true) (ht : Rs.Td a.nm) (hm : mayB a.s = true) (X Y : List RegS) (hy : Rs.ykA M a.nm a.s a.b = some Y) (hd : Rs.dlA M a.nm a.s a.b = some X) (hD : ¬ (wz a.k 7 : Int) < 2) (hE : 3 < (wz a.k 7 : Int)) :
    Calls Tryd.prog 10 #[v, act9V a] w fun e w' => StepOk w' M e ∧ Kept (fun _ => False) w w' := by
  have hB : Rs.okB M = true := hb
  have cT := fun W => rtold_any a.nm W
  rw [decide_eq_true ht] at cT
  have cM := fun W (hT' : Tabs W) => rmay_any a.s W ha.2.2 hT'
  rw [hm] at cM
  have cY := fun v' W (h' : Sl W v' M) (hT' : Tabs W) => yank_yes v' M a.nm a.s a.b W h' (by omega) hb ht hm hT'
  have cD := fun v' W (h' : Sl W v' M) (hT' : Tabs W) => delete_yes v' M a.nm a.s a.b W h' (by omega) hb ht hm hT'
  have cK := fun W (h' : Sl W v M) (hT' : Tabs W) => rkeep_any v M a.nm a.s a.b true W h' (by omega) hb hm hT'
  rw [hy] at cY
  rw [hd] at cD
  have hto : Rs.told M a.nm a.s a.b true = some X := hd
  rw [hto] at cK
  have HLX := Lib.hid (told_le hto)
  clear hy hd hto ht hm
  unfold TellOk at cY cD cK
  simp only at cY cD cK
  have hka : Kept (fun _ => False) w (w.alloc (act9O a)) := (Kept.refl _ w).alloc _
  have HAB : Hid ((w.alloc (act9O a)).heap[w.heap.size]? = some (act9O a)) := heap_alloc_new w _
  have HKA := Lib.hid hka
  have HV0 := Lib.hid (h.kept hka)
  have HT0 := Lib.hid (hT.kept hka id id)
  have HN := Lib.hid hn
  have HSS := Lib.hid ha.2.2
  have cW := fun W => within_z a.k 7 (by omega) (by omega) W
  obtain ⟨D, hDD⟩ : ∃ D, wz a.k 7 = D := ⟨_, rfl⟩
  simp only [hDD] at cW
  rw [hDD] at hD hE
  obtain ⟨ak, nm, s, b⟩ := a
  simp only at *
  clear hka h hT ha hn hDD
  go_enter Tryd.func10, Tryd.ntmps10
  go_upto_region 1 with fail
  generalize w.alloc (.cells #[.int .i64 ak, .int .i64 nm, .string s, .bool b] 35) = w0 at *
  generalize w.heap.size = pb at *
  go_wp2_with fail
  refine (copyregs_any v M w0 HV0.out (by have := HN.out; omega)).mono ?_
  rintro e w1 ⟨⟨vi, rfl, hi⟩, hk1⟩
  have HI := Lib.hid hi
  have HV1 := Lib.hid (HV0.out.kept hk1)
  have HT1 := Lib.hid (HT0.out.kept hk1 id id)
  have HW1 := Lib.hid (HKA.out.trans hk1)
  have HAB1 := Lib.hid (hk1.cellsAt HAB.out id)
  have HB : Hid (∀ W, Kept (fun _ => False) w1 W → W.cell? ⟨pb, 0, none⟩ = some (.int .i64 ak) ∧ W.cell? ⟨pb, 1, none⟩ = some (.int .i64 nm) ∧ W.cell? ⟨pb, 2, none⟩ = some (.string s) ∧ W.cell? ⟨pb, 3, none⟩ = some (.bool b)) := fun W hk => act9_facts (b := ⟨ak, nm, s, b⟩) (hk.cellsAt HAB1.out id)
  have HVI : Hid (∀ W, Kept (fun _ => False) w1 W → Sl W vi M) := fun W hk => (HI.out.keep hk).sl
  have HVV : Hid (∀ W, Kept (fun _ => False) w1 W → Sl W v M) := fun W hk => HV1.out.kept hk
  have HTT : Hid (∀ W, Kept (fun _ => False) w1 W → Tabs W) := fun W hk => HT1.out.kept hk id id
  have HEQ : Hid (∀ W, Kept (fun _ => False) w1 W → Calls Tryd.prog 23 #[vi, v] W fun e w' => e = .returned (.bool true) ∧ Kept (fun _ => False) W w') := fun W hk => eqregs_yes vi v M W (HVI.out W hk) (HVV.out W hk) (by have := HN.out; omega)
  clear hi hk1 HAB HKA HV0 HT0 HAB1
  have cR := rregs_any v M w1 HV1.out (by have := HN.out; omega) HT1.out
  rw [hB] at cR
  go_wp2_with fail
  refine cR.mono ?_
  clear cR
  rintro e w2 ⟨rfl, hk2⟩
  have HX2 := Lib.hid hk2
  obtain ⟨q0, q1, q2, q3⟩ := HB.out w2 hk2
  clear hk2
  clear hB
  clear hb
  have bD : decide ((D : Int) < 2) = false := decide_eq_false (by omega)
  have bD2 : decide (D < 2) = false := decide_eq_false (by omega)
  have bE : decide (3 < (D : Int)) = true := decide_eq_true (by omega)
  have bE2 : decide (3 < D) = true := decide_eq_true (by omega)
  clear hD hE
  go_wp2_with (go_at_call 20; refine (cW _).mono ?_; rintro e w' ⟨rfl, hw⟩; have hw2 := hw.symm; subst hw2)
  refine (cY _ _ (HVI.out _ HX2.out) (HTT.out _ HX2.out)).mono ?_
  clear q0 q1 q2 q3
  rintro e w3 ⟨⟨vy, rfl, how3⟩, hkw3⟩
  have HOY := Lib.hid (how3.mono HX2.out.size)
  have HX3 := Lib.hid (HX2.out.trans hkw3)
  obtain ⟨q0, q1, q2, q3⟩ := HB.out w3 HX3.out
  clear hkw3 how3
  clear cY
  go_wp2_with fail
  refine (cD _ _ (HVI.out _ HX3.out) (HTT.out _ HX3.out)).mono ?_
  clear q0 q1 q2 q3
  rintro e w4 ⟨⟨vx, rfl, how4⟩, hkw4⟩
  have HOX := Lib.hid (how4.mono HX3.out.size)
  have HX4 := Lib.hid (HX3.out.trans hkw4)
  obtain ⟨q0, q1, q2, q3⟩ := HB.out w4 HX4.out
  clear hkw4 how4
  clear cD
  go_wp2_with (go_at_call 21; refine (cT _).mono ?_; rintro e w' ⟨rfl, hw⟩; have hw2 := hw.symm; subst hw2)
  refine (cM _ (HTT.out _ HX4.out)).mono ?_
  clear q0 q1 q2 q3 cM
  rintro e w5 ⟨rfl, hkw5⟩
  have HX5 := Lib.hid (HX4.out.trans hkw5)
  have HO5 := Lib.hid (HOX.out.keep hkw5)
  obtain ⟨q0, q1, q2, q3⟩ := HB.out w5 HX5.out
  clear hkw5
  go_wp2_with fail
  refine (cK _ (HVV.out _ HX5.out) (HTT.out _ HX5.out)).mono ?_
  clear q0 q1 q2 q3 cK
  rintro e w6 ⟨⟨vw, rfl, how⟩, hkw6⟩
  have HX6 := Lib.hid (HX5.out.trans hkw6)
  have HOW := Lib.hid how
  have HO6 := Lib.hid (HO5.out.keep hkw6)
  have HFAR : Hid (∀ k, vx.ownBlock = some k → ∀ j, vw.ownBlock = some j → j ≠ k) := fun k hk j hj => by have := (HO5.out.lt k hk).2; have := (HOW.out.lt j hj).1; omega
  clear hkw6 how
  go_wp2_with (go_at_call 7; refine (num_any _ _).mono ?_; rintro e w' ⟨rfl, hw⟩; have hw2 := hw.symm; subst hw2)
  refine (eqregs_yes vx vw X _ HO6.out.sl HOW.out.sl (by have := HLX.out; have := HN.out; omega)).mono ?_
  rintro e wa ⟨rfl, hka⟩
  have HXA := Lib.hid (HX6.out.trans hka)
  have HOA := Lib.hid (HO6.out.keep hka)
  have HWA := Lib.hid (HOW.out.keep hka)
  clear hka
  go_wp2_with fail
  refine (HEQ.out _ HXA.out).mono ?_
  rintro e wb ⟨rfl, hkb⟩
  have HXB := Lib.hid (HXA.out.trans hkb)
  have HOB := Lib.hid (HOA.out.keep hkb)
  have HWB := Lib.hid (HWA.out.keep hkb)
  clear hkb HOA HWA HO6 HOW HO5
  have hown := HOB.out.own
  obtain ⟨n, hn⟩ : ∃ n, X.length = n := ⟨_, rfl⟩
  have hnl : n ≤ 90000 := by have := HLX.out; have := HN.out; omega
  obtain ⟨xs, hxs⟩ : ∃ xs, flatR X = xs := ⟨_, rfl⟩
  rw [hn, hxs] at hown
  have HNX := Lib.hid hn
  clear hn hxs
  rcases id hown.2 with ⟨rfl, rfl⟩ | ⟨g, cap, cur, rfl, hg, hgg, hcap, hcm, hcs, hts⟩
  · clear hown
    go_wp2_with fail
    go_loopw [19] (fun i wr => i = .int .i64 ((0 : Nat) : Int) ∧ wr = wb) (fun _ _ => 0)
    case atStart => exact ⟨rfl, (by first | rfl | trivial)⟩
    case round =>
      obtain ⟨rfl, rfl⟩ := hrel
      go_wp2_with fail
      refine (HEQ.out _ HXB.out).mono ?_
      rintro e wz9 ⟨rfl, hkwz9⟩
      have HWZ := Lib.hid (HWB.out.keep hkwz9)
      have HXZ := Lib.hid (HXB.out.trans hkwz9)
      clear hkwz9
      go_wp2_with fail
      refine (copyregs_any vw X _ HWZ.out.sl (by have := HLX.out; have := HN.out; omega)).mono ?_
      rintro e wf ⟨⟨vf, rfl, hof⟩, hkf⟩
      have HOF := Lib.hid hof
      have HXF := Lib.hid (HXZ.out.trans hkf)
      clear hof hkf
      go_wp2_with fail
      go_ret2
      exact ⟨⟨vf, X, rfl, HOF.out.sl, by have := HLX.out; omega⟩, HW1.out.trans HXF.out⟩
  · have HO := Lib.hid hown
    have HG1 := Lib.hid hg
    clear hown hgg hcs hts hg
    go_wp2_with fail
    go_loopw [19] (fun i wr => ∃ (k : Nat) (xs' : List Value), k ≤ n ∧ i = .int .i64 k ∧ wr.ownsRow w1.heap.size 41 3 (.slice (some ⟨g, 0, none⟩) n cap) n xs' ∧ Kept (fun b => b = g) wb wr) (fun i _ => n - (intOf i).toNat)
    case atStart => exact ⟨0, xs, Nat.zero_le _, rfl, HO.out, Kept.refl _ _⟩
    case round =>
      obtain ⟨k, xs', hk, rfl, hown, hkept⟩ := hrel
      have HKG := Lib.hid hkept
      clear hkept
      by_cases hkn : k < n
      · have hlen : k * 3 + 2 < xs'.length := by rw [hown.1]; omega
        have hcell : wr.cell? ⟨g, k * 3, none⟩ = some (xs'[k * 3]'(by omega)) := by rw [hown.cellAt (k * 3) (by omega)]; exact List.getElem?_eq_getElem _
        have hcell1 : wr.cell? ⟨g, k * 3 + 1, none⟩ = some (xs'[k * 3 + 1]'(by omega)) := by rw [hown.cellAt (k * 3 + 1) (by omega)]; exact List.getElem?_eq_getElem _
        have hcell2 : wr.cell? ⟨g, k * 3 + 2, none⟩ = some (xs'[k * 3 + 2]'hlen) := by rw [hown.cellAt (k * 3 + 2) (by omega)]; exact List.getElem?_eq_getElem _
        have hfr : wr.frozen? ⟨g, k * 3, none⟩ = false := hown.frozenAt _
        have hfr1 : wr.frozen? ⟨g, k * 3 + 1, none⟩ = false := hown.frozenAt _
        have hfr2 : wr.frozen? ⟨g, k * 3 + 2, none⟩ = false := hown.frozenAt _
        have hst := (((((hown.stored (k * 3) (.int .i64 0)).1).stored (k * 3 + 1) (.string ⟨#[115, 112, 111, 105, 108, 116]⟩)).1).stored (k * 3 + 2) (.bool false)).1
        have HK2 := Lib.hid (((HKG.out.setCell (p := ⟨g, k * 3, none⟩) rfl (.int .i64 0)).setCell (p := ⟨g, k * 3 + 1, none⟩) rfl (.string ⟨#[115, 112, 111, 105, 108, 116]⟩)).setCell (p := ⟨g, k * 3 + 2, none⟩) rfl (.bool false))
        have HS := Lib.hid hst
        have b1 : decide (k < n) = true := decide_eq_true hkn
        have b2 : decide ((k : Int) < (n : Int)) = true := decide_eq_true (by omega)
        have t1 : (0 : Int) ≤ (k : Int) := by omega
        have t2 : (k : Int) < (n : Int) := by omega
        clear hst hown
        go_wp2_with fail
        go_roundw
        case rel => exact ⟨k + 1, _, by omega, by go_num, HS.out, HK2.out⟩
        case measure => simp [intOf] <;> omega
      · obtain rfl : k = n := by omega
        have b1 : decide (k < k) = false := decide_eq_false (by omega)
        have b2 : decide ((k : Int) < (k : Int)) = false := decide_eq_false (by omega)
        have HXG := Lib.hid (HXB.out.fresh HKG.out (fun p hp e => by have e : p = g := e; have := HG1.out; omega))
        have HWG := Lib.hid (HWB.out.kept HKG.out (fun j hj e => HFAR.out g rfl j hj e))
        clear hown
        go_wp2_with fail
        refine (HEQ.out _ HXG.out).mono ?_
        rintro e wz9 ⟨rfl, hkwz9⟩
        have HWZ := Lib.hid (HWG.out.keep hkwz9)
        have HXZ := Lib.hid (HXG.out.trans hkwz9)
        clear hkwz9
        go_wp2_with fail
        refine (copyregs_any vw X _ HWZ.out.sl (by have := HLX.out; have := HN.out; omega)).mono ?_
        rintro e wf ⟨⟨vf, rfl, hof⟩, hkf⟩
        have HOF := Lib.hid hof
        have HXF := Lib.hid (HXZ.out.trans hkf)
        clear hof hkf
        go_wp2_with fail
        go_ret2
        exact ⟨⟨vf, X, rfl, HOF.out.sl, by have := HLX.out; omega⟩, HW1.out.trans HXF.out⟩
theorem step_any (v : Value) (M : List RegS) (a : ActR) (w : World) (h : Sl w v M) (hn : M.length ≤ 80000) (ha : a.good) (hT : Tabs w) :
    Calls Tryd.prog 10 #[v, act9V a] w fun e w' => StepOk w' M e ∧ Kept (fun _ => False) w w' := by
  by_cases hD : (wz a.k 7 : Int) < 2
  · exact step_get v M a w h hn ha hT hD
  · by_cases hE : 3 < (wz a.k 7 : Int)
    · cases hb : Rs.okB M with
      | false => exact step_no1b v M a w h hn ha hT hb (fun hc => by rw [hb] at hc; exact Bool.noConfusion hc.1) hD hE
      | true =>
        by_cases ht : Rs.Td a.nm
        · cases hm : mayB a.s with
          | false => exact step_no3b v M a w h hn ha hT hb ht hm (fun hc => by rw [hm] at hc; exact Bool.noConfusion hc.2.2) hD hE
          | true =>
            cases hk : Rs.kpA M a.nm a.s a.b with
            | none => exact step_noneb v M a w h hn ha hT hb ht hm hk hD hE
            | some x =>
              obtain ⟨Y, Z, hy, hd⟩ := told_some hk
              exact step_someb v M a w h hn ha hT hb ht hm Z Y hy hd hD hE
        · exact step_no2b v M a w h hn ha hT hb ht (fun hc => ht hc.2.1) hD hE
    · cases hb : Rs.okB M with
      | false => exact step_no1a v M a w h hn ha hT hb (fun hc => by rw [hb] at hc; exact Bool.noConfusion hc.1) hD hE
      | true =>
        by_cases ht : Rs.Td a.nm
        · cases hm : mayB a.s with
          | false => exact step_no3a v M a w h hn ha hT hb ht hm (fun hc => by rw [hm] at hc; exact Bool.noConfusion hc.2.2) hD hE
          | true =>
            cases hk : Rs.kpA M a.nm a.s a.b with
            | none => exact step_nonea v M a w h hn ha hT hb ht hm hk hD hE
            | some x =>
              obtain ⟨Y, Z, hy, hd⟩ := told_some hk
              exact step_somea v M a w h hn ha hT hb ht hm Y hy hD hE
        · exact step_no2a v M a w h hn ha hT hb ht (fun hc => ht hc.2.1) hD hE
end Go.Proofs.YtackgnkajffhiaaDoor
