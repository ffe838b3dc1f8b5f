/-
  THE LAW RegsExact: one act on both.
-/
import Derived.Test.YtackgnkajffhiaaDoorReI
import Derived.Test.YtackgnkajffhiaaDoorReH
set_option linter.unusedVariables false
namespace Go.Proofs.YtackgnkajffhiaaDoor
open Go Go.RowKit

/-- A number, brought within bounds. -/
def wz (x n : Int) : Nat := (IntKind.u64.wrap x % n).toNat
theorem wz_lt (x n : Int) (hn : 1 ≤ n) : (wz x n : Int) < n := by
  unfold wz
  have h1 := Int.emod_nonneg (IntKind.u64.wrap x) (show n ≠ 0 by omega)
  have h2 := Int.emod_lt_of_pos (IntKind.u64.wrap x) (show 0 < n by omega)
  omega
theorem within_z (x n : Int) (hn : 1 ≤ n) (hm : n ≤ 9223372036854775807) (w : World) : Calls Tryd.prog 20 #[.int .i64 x, .int .i64 n] w fun e w' => e = .returned (.int .i64 (wz x n)) ∧ w' = w := by
  have e1 : IntKind.u64.wrap n = n := IntWalk.u64_in n ⟨by omega, by omega⟩
  obtain ⟨q, hq, hq0⟩ : ∃ q, IntKind.u64.wrap x = q ∧ 0 ≤ q := ⟨_, rfl, by simp [IntKind.wrap, IntKind.bits, IntKind.signed]; omega⟩
  have e2 : q.tmod n = q % n := by rw [Int.tmod_eq_emod_of_nonneg hq0]
  have hlt := wz_lt x n hn
  have hwi : ((wz x n : Nat) : Int) = q % n := by
    unfold wz
    rw [hq]
    exact Int.toNat_of_nonneg (Int.emod_nonneg q (show n ≠ 0 by omega))
  obtain ⟨k, hk⟩ : ∃ k : Nat, wz x n = k := ⟨_, rfl⟩
  rw [hk] at hwi hlt ⊢
  have e4 : IntKind.u64.wrap (k : Int) = (k : Int) := IntWalk.u64_in _ ⟨by omega, by omega⟩
  have hn0 : (n == 0) = false := by rw [beq_eq_false_iff_ne]; omega
  have HK := Lib.hid hwi
  clear hwi hk
  go_enter Tryd.func20, Tryd.ntmps20
  go_wp2
  go_ret
  refine ⟨?_, rfl⟩
  show Ending.returned (.int .i64 (wrap64 (q % n))) = _
  rw [← HK.out, IntWalk.wrap64_in _ ⟨by omega, by omega⟩]
theorem rkeep_any (v : Value) (M : List RegS) (z : Int) (s : ByteArray) (b d : Bool) (w : World) (h : Sl w v M) (hn : M.length ≤ 90000) (hM : Rs.okB M = true) (hs : mayB s = true) (hT : Tabs w) :
    Calls Tryd.prog 24 #[v, .int .i64 z, .string s, .bool b, .bool d] w fun e w' => TellOk w' w.heap.size (Rs.told M z s b d) e ∧ Kept (fun _ => False) w w' := by
  by_cases h0 : z = 95
  · exact rkeep_hole v M z s b d w h hn hM hs hT h0
  · by_cases h1 : Rs.Sm z
    · exact rkeep_small v M z s b d w h hn hM hs hT h0 h1
    · by_cases h2 : Rs.Gt z
      · exact rkeep_great v M z s b d w h hn hM hs hT h0 h1 h2
      · exact rkeep_else v M z s b d w h hn hM hs hT h0 h1 h2
theorem told_le {M X : List RegS} {z : Int} {s : ByteArray} {b d : Bool} (h : Rs.told M z s b d = some X) : X.length ≤ M.length + 3 := by
  unfold Rs.told Rs.dlA Rs.ykA at h
  have hp := put_le
  have ht := turn_le
  cases hk : Rs.kpA M z s b with
  | none =>
    rw [hk] at h
    cases d <;> cases h
  | some x =>
    obtain ⟨Y, t⟩ := x
    have hl := kpA_le hk
    rw [hk] at h
    cases d
    · cases t
      · have e : Y = X := Option.some.inj h
        rw [← e]; omega
      · have e : Rs.put Y ⟨48, s, b⟩ = X := Option.some.inj h
        have := hp Y ⟨48, s, b⟩
        rw [← e]; omega
    · cases t
      · have e : Y = X := Option.some.inj h
        rw [← e]; omega
      · have e : (if (b || s.data.toList.contains 10) = true then Rs.put (Rs.turn Y) ⟨49, s, b⟩ else Rs.put Y ⟨45, s, b⟩) = X := Option.some.inj h
        rw [← e]
        split
        · have := hp (Rs.turn Y) ⟨49, s, b⟩
          have := ht Y
          omega
        · have := hp Y ⟨45, s, b⟩
          omega
abbrev act9O (a : ActR) : Obj := .cells #[.int .i64 a.k, .int .i64 a.nm, .string a.s, .bool a.b] 35
abbrev act9V (a : ActR) : Value := .agg #[.int .i64 a.k, .int .i64 a.nm, .string a.s, .bool a.b]
theorem act9_facts {w : World} {g : Nat} {b : ActR} (h : w.heap[g]? = some (act9O b)) : w.cell? ⟨g, 0, none⟩ = some (.int .i64 b.k) ∧ w.cell? ⟨g, 1, none⟩ = some (.int .i64 b.nm) ∧ w.cell? ⟨g, 2, none⟩ = some (.string b.s) ∧ w.cell? ⟨g, 3, none⟩ = some (.bool b.b) :=
  ⟨cell_of_row w g 0 _ _ _ h, cell_of_row w g 1 _ _ _ h, cell_of_row w g 2 _ _ _ h, cell_of_row w g 3 _ _ _ h⟩
/-- What step tells. -/
def StepOk (w' : World) (M : List RegS) (e : Ending) : Prop := ∃ v' M', e = .returned (.tuple #[v', .bool true]) ∧ Sl w' v' M' ∧ M'.length ≤ M.length + 3
set_option maxRecDepth 100000 in
set_option maxHeartbeats 16000000 in
theorem step_get_bad (v : Value) (M : List RegS) (a : ActR) (w : World) (h : Sl w v M) (hn : M.length ≤ 80000) (ha : a.good) (hT : Tabs w) (hb : Rs.okB M = false) (hneg : ¬ (Rs.okB M = true ∧ Rs.Td a.nm)) (hD : (wz a.k 7 : Int) < 2) :
    Calls Tryd.prog 10 #[v, act9V a] w fun e w' => StepOk w' M e ∧ Kept (fun _ => False) w w' := by
  have hB : Rs.okB M = false := hb
  have hga : getA M a.nm = .tuple #[regV zReg, .int .i64 1] := by
    unfold getA
    rw [if_neg (fun hc => hneg hc)]
  have cG := fun v' W (h' : Sl W v' M) (hT' : Tabs W) => get_all v' M a.nm W h' (by omega) hT'
  simp only [hga] at cG
  clear hga hneg
  have hka : Kept (fun _ => False) w (w.alloc (act9O a)) := (Kept.refl _ w).alloc _
  have HAB : Hid ((w.alloc (act9O a)).heap[w.heap.size]? = some (act9O a)) := heap_alloc_new w _
  have HKA := Lib.hid hka
  have HV0 := Lib.hid (h.kept hka)
  have HT0 := Lib.hid (hT.kept hka id id)
  have HN := Lib.hid hn
  have HSS := Lib.hid ha.2.2
  have cW := fun W => within_z a.k 7 (by omega) (by omega) W
  obtain ⟨D, hDD⟩ : ∃ D, wz a.k 7 = D := ⟨_, rfl⟩
  simp only [hDD] at cW
  rw [hDD] at hD
  obtain ⟨ak, nm, s, b⟩ := a
  simp only at *
  clear hka h hT ha hn hDD
  go_enter Tryd.func10, Tryd.ntmps10
  go_upto_region 1 with fail
  generalize w.alloc (.cells #[.int .i64 ak, .int .i64 nm, .string s, .bool b] 35) = w0 at *
  generalize w.heap.size = pb at *
  go_wp2_with fail
  refine (copyregs_any v M w0 HV0.out (by have := HN.out; omega)).mono ?_
  rintro e w1 ⟨⟨vi, rfl, hi⟩, hk1⟩
  have HI := Lib.hid hi
  have HV1 := Lib.hid (HV0.out.kept hk1)
  have HT1 := Lib.hid (HT0.out.kept hk1 id id)
  have HW1 := Lib.hid (HKA.out.trans hk1)
  have HAB1 := Lib.hid (hk1.cellsAt HAB.out id)
  have HB : Hid (∀ W, Kept (fun _ => False) w1 W → W.cell? ⟨pb, 0, none⟩ = some (.int .i64 ak) ∧ W.cell? ⟨pb, 1, none⟩ = some (.int .i64 nm) ∧ W.cell? ⟨pb, 2, none⟩ = some (.string s) ∧ W.cell? ⟨pb, 3, none⟩ = some (.bool b)) := fun W hk => act9_facts (b := ⟨ak, nm, s, b⟩) (hk.cellsAt HAB1.out id)
  have HVI : Hid (∀ W, Kept (fun _ => False) w1 W → Sl W vi M) := fun W hk => (HI.out.keep hk).sl
  have HVV : Hid (∀ W, Kept (fun _ => False) w1 W → Sl W v M) := fun W hk => HV1.out.kept hk
  have HTT : Hid (∀ W, Kept (fun _ => False) w1 W → Tabs W) := fun W hk => HT1.out.kept hk id id
  have HEQ : Hid (∀ W, Kept (fun _ => False) w1 W → Calls Tryd.prog 23 #[vi, v] W fun e w' => e = .returned (.bool true) ∧ Kept (fun _ => False) W w') := fun W hk => eqregs_yes vi v M W (HVI.out W hk) (HVV.out W hk) (by have := HN.out; omega)
  clear hi hk1 HAB HKA HV0 HT0 HAB1
  have cR := rregs_any v M w1 HV1.out (by have := HN.out; omega) HT1.out
  rw [hB] at cR
  go_wp2_with fail
  refine cR.mono ?_
  clear cR
  rintro e w2 ⟨rfl, hk2⟩
  have HX2 := Lib.hid hk2
  obtain ⟨q0, q1, q2, q3⟩ := HB.out w2 hk2
  clear hk2
  clear hB hb
  have bD : decide ((D : Int) < 2) = true := decide_eq_true hD
  have bD2 : decide (D < 2) = true := decide_eq_true (by omega)
  clear hD
  go_wp2_with (go_at_call 20; refine (cW _).mono ?_; rintro e w' ⟨rfl, hw⟩; have hw2 := hw.symm; subst hw2)
  refine (cG _ _ (HVI.out _ HX2.out) (HTT.out _ HX2.out)).mono ?_
  clear cG q0 q1 q2 q3
  rintro e w3 ⟨rfl, hk3⟩
  have HX3 := Lib.hid (HX2.out.trans hk3)
  clear hk3
  have hr4 : ((w3.alloc (regO zReg)).alloc (regO zReg)).heap[w3.heap.size]? = some (regO zReg) := Kept.cellsAt (S := fun _ => False) ((Kept.refl _ _).alloc _) (heap_alloc_new w3 _) id
  have hz4 : ((w3.alloc (regO zReg)).alloc (regO zReg)).heap[(w3.alloc (regO zReg)).heap.size]? = some (regO zReg) := heap_alloc_new _ _
  have hk4 : Kept (fun _ => False) w3 ((w3.alloc (regO zReg)).alloc (regO zReg)) := ((Kept.refl _ w3).alloc _).alloc _
  have hsz : (w3.alloc (regO zReg)).heap.size = w3.heap.size + 1 := Array.size_push _
  rw [hsz] at hz4
  have HR4 := Lib.hid hr4
  have HZ4 := Lib.hid hz4
  have HX4 := Lib.hid (HX3.out.trans hk4)
  have HGZ : Hid (w1.heap.size ≤ w3.heap.size + 1) := by show _ ≤ _; have := HX3.out.size; omega
  have HGR : Hid (w3.heap.size ≠ w3.heap.size + 1) := by show _ ≠ _; omega
  clear hr4 hz4 hk4 hsz
  obtain ⟨q0, q1, q2, q3⟩ := HB.out w3 HX3.out
  go_upto_region 7 with fail
  clear q0 q1 q2 q3
  simp only [regO] at HR4 HZ4 HX4
  generalize (w3.alloc (.cells #[.int .i64 0, .string ⟨#[]⟩, .bool false] 41)).alloc (.cells #[.int .i64 0, .string ⟨#[]⟩, .bool false] 41) = w4 at *
  generalize w3.heap.size = gr at *
  obtain ⟨q0, q1, q2, q3⟩ := HB.out w4 HX4.out
  obtain ⟨⟨r0, r1, r2⟩, _⟩ := rzs (r := zReg) HR4.out
  obtain ⟨⟨z0, z1, z2⟩, _⟩ := rzs (r := zReg) HZ4.out
  go_wp2_with (go_at_call 7; refine (num_any _ _).mono ?_; rintro e w' ⟨rfl, hw⟩; have hw2 := hw.symm; subst hw2)
  refine (HEQ.out _ HX4.out).mono ?_
  rintro e w5 ⟨rfl, hkw5⟩
  have HX5 := Lib.hid (HX4.out.trans hkw5)
  clear hkw5
  clear q0 q1 q2 q3 r0 r1 r2 z0 z1 z2
  go_wp2_with fail
  go_ret2
  exact ⟨⟨v, M, rfl, HVV.out _ HX5.out, Nat.le_add_right _ _⟩, HW1.out.trans HX5.out⟩
set_option maxRecDepth 100000 in
set_option maxHeartbeats 16000000 in
theorem step_get_no (v : Value) (M : List RegS) (a : ActR) (w : World) (h : Sl w v M) (hn : M.length ≤ 80000) (ha : a.good) (hT : Tabs w) (hb : Rs.okB M = true) (ht : ¬ Rs.Td a.nm) (hneg : ¬ (Rs.okB M = true ∧ Rs.Td a.nm)) (hD : (wz a.k 7 : Int) < 2) :
    Calls Tryd.prog 10 #[v, act9V a] w fun e w' => StepOk w' M e ∧ Kept (fun _ => False) w w' := by
  have hB : Rs.okB M = true := hb
  have hga : getA M a.nm = .tuple #[regV zReg, .int .i64 1] := by
    unfold getA
    rw [if_neg (fun hc => hneg hc)]
  have cT := fun W => rtold_any a.nm W
  rw [decide_eq_false ht] at cT
  have cG := fun v' W (h' : Sl W v' M) (hT' : Tabs W) => get_all v' M a.nm W h' (by omega) hT'
  simp only [hga] at cG
  clear hga ht hneg
  have hka : Kept (fun _ => False) w (w.alloc (act9O a)) := (Kept.refl _ w).alloc _
  have HAB : Hid ((w.alloc (act9O a)).heap[w.heap.size]? = some (act9O a)) := heap_alloc_new w _
  have HKA := Lib.hid hka
  have HV0 := Lib.hid (h.kept hka)
  have HT0 := Lib.hid (hT.kept hka id id)
  have HN := Lib.hid hn
  have HSS := Lib.hid ha.2.2
  have cW := fun W => within_z a.k 7 (by omega) (by omega) W
  obtain ⟨D, hDD⟩ : ∃ D, wz a.k 7 = D := ⟨_, rfl⟩
  simp only [hDD] at cW
  rw [hDD] at hD
  obtain ⟨ak, nm, s, b⟩ := a
  simp only at *
  clear hka h hT ha hn hDD
  go_enter Tryd.func10, Tryd.ntmps10
  go_upto_region 1 with fail
  generalize w.alloc (.cells #[.int .i64 ak, .int .i64 nm, .string s, .bool b] 35) = w0 at *
  generalize w.heap.size = pb at *
  go_wp2_with fail
  refine (copyregs_any v M w0 HV0.out (by have := HN.out; omega)).mono ?_
  rintro e w1 ⟨⟨vi, rfl, hi⟩, hk1⟩
  have HI := Lib.hid hi
  have HV1 := Lib.hid (HV0.out.kept hk1)
  have HT1 := Lib.hid (HT0.out.kept hk1 id id)
  have HW1 := Lib.hid (HKA.out.trans hk1)
  have HAB1 := Lib.hid (hk1.cellsAt HAB.out id)
  have HB : Hid (∀ W, Kept (fun _ => False) w1 W → W.cell? ⟨pb, 0, none⟩ = some (.int .i64 ak) ∧ W.cell? ⟨pb, 1, none⟩ = some (.int .i64 nm) ∧ W.cell? ⟨pb, 2, none⟩ = some (.string s) ∧ W.cell? ⟨pb, 3, none⟩ = some (.bool b)) := fun W hk => act9_facts (b := ⟨ak, nm, s, b⟩) (hk.cellsAt HAB1.out id)
  have HVI : Hid (∀ W, Kept (fun _ => False) w1 W → Sl W vi M) := fun W hk => (HI.out.keep hk).sl
  have HVV : Hid (∀ W, Kept (fun _ => False) w1 W → Sl W v M) := fun W hk => HV1.out.kept hk
  have HTT : Hid (∀ W, Kept (fun _ => False) w1 W → Tabs W) := fun W hk => HT1.out.kept hk id id
  have HEQ : Hid (∀ W, Kept (fun _ => False) w1 W → Calls Tryd.prog 23 #[vi, v] W fun e w' => e = .returned (.bool true) ∧ Kept (fun _ => False) W w') := fun W hk => eqregs_yes vi v M W (HVI.out W hk) (HVV.out W hk) (by have := HN.out; omega)
  clear hi hk1 HAB HKA HV0 HT0 HAB1
  have cR := rregs_any v M w1 HV1.out (by have := HN.out; omega) HT1.out
  rw [hB] at cR
  go_wp2_with fail
  refine cR.mono ?_
  clear cR
  rintro e w2 ⟨rfl, hk2⟩
  have HX2 := Lib.hid hk2
  obtain ⟨q0, q1, q2, q3⟩ := HB.out w2 hk2
  clear hk2
  clear hB hb
  have bD : decide ((D : Int) < 2) = true := decide_eq_true hD
  have bD2 : decide (D < 2) = true := decide_eq_true (by omega)
  clear hD
  go_wp2_with (go_at_call 20; refine (cW _).mono ?_; rintro e w' ⟨rfl, hw⟩; have hw2 := hw.symm; subst hw2)
  refine (cG _ _ (HVI.out _ HX2.out) (HTT.out _ HX2.out)).mono ?_
  clear cG q0 q1 q2 q3
  rintro e w3 ⟨rfl, hk3⟩
  have HX3 := Lib.hid (HX2.out.trans hk3)
  clear hk3
  have hr4 : ((w3.alloc (regO zReg)).alloc (regO zReg)).heap[w3.heap.size]? = some (regO zReg) := Kept.cellsAt (S := fun _ => False) ((Kept.refl _ _).alloc _) (heap_alloc_new w3 _) id
  have hz4 : ((w3.alloc (regO zReg)).alloc (regO zReg)).heap[(w3.alloc (regO zReg)).heap.size]? = some (regO zReg) := heap_alloc_new _ _
  have hk4 : Kept (fun _ => False) w3 ((w3.alloc (regO zReg)).alloc (regO zReg)) := ((Kept.refl _ w3).alloc _).alloc _
  have hsz : (w3.alloc (regO zReg)).heap.size = w3.heap.size + 1 := Array.size_push _
  rw [hsz] at hz4
  have HR4 := Lib.hid hr4
  have HZ4 := Lib.hid hz4
  have HX4 := Lib.hid (HX3.out.trans hk4)
  have HGZ : Hid (w1.heap.size ≤ w3.heap.size + 1) := by show _ ≤ _; have := HX3.out.size; omega
  have HGR : Hid (w3.heap.size ≠ w3.heap.size + 1) := by show _ ≠ _; omega
  clear hr4 hz4 hk4 hsz
  obtain ⟨q0, q1, q2, q3⟩ := HB.out w3 HX3.out
  go_upto_region 7 with fail
  clear q0 q1 q2 q3
  simp only [regO] at HR4 HZ4 HX4
  generalize (w3.alloc (.cells #[.int .i64 0, .string ⟨#[]⟩, .bool false] 41)).alloc (.cells #[.int .i64 0, .string ⟨#[]⟩, .bool false] 41) = w4 at *
  generalize w3.heap.size = gr at *
  obtain ⟨q0, q1, q2, q3⟩ := HB.out w4 HX4.out
  obtain ⟨⟨r0, r1, r2⟩, _⟩ := rzs (r := zReg) HR4.out
  obtain ⟨⟨z0, z1, z2⟩, _⟩ := rzs (r := zReg) HZ4.out
  go_wp2_with (first | (go_at_call 7; refine (num_any _ _).mono ?_; rintro e w' ⟨rfl, hw⟩; have hw2 := hw.symm; subst hw2) | (go_at_call 21; refine (cT _).mono ?_; rintro e w' ⟨rfl, hw⟩; have hw2 := hw.symm; subst hw2))
  refine (HEQ.out _ HX4.out).mono ?_
  rintro e w5 ⟨rfl, hkw5⟩
  have HX5 := Lib.hid (HX4.out.trans hkw5)
  clear hkw5
  clear q0 q1 q2 q3 r0 r1 r2 z0 z1 z2
  go_wp2_with fail
  go_ret2
  exact ⟨⟨v, M, rfl, HVV.out _ HX5.out, Nat.le_add_right _ _⟩, HW1.out.trans HX5.out⟩
set_option maxRecDepth 100000 in
set_option maxHeartbeats 16000000 in
theorem step_get_none (v : Value) (M : List RegS) (a : ActR) (w : World) (h : Sl w v M) (hn : M.length ≤ 80000) (ha : a.good) (hT : Tabs w) (hb : Rs.okB M = true) (ht : Rs.Td a.nm) (hg : Rs.get M (nmOf a.nm) = none) (hD : (wz a.k 7 : Int) < 2) :
    Calls Tryd.prog 10 #[v, act9V a] w fun e w' => StepOk w' M e ∧ Kept (fun _ => False) w w' := by
  have hB : Rs.okB M = true := hb
  have hga : getA M a.nm = .tuple #[regV zReg, .int .i64 7] := by
    unfold getA
    rw [if_pos ⟨hb, ht⟩, hg]
    rfl
  have cT := fun W => rtold_any a.nm W
  rw [decide_eq_true ht] at cT
  have cG := fun v' W (h' : Sl W v' M) (hT' : Tabs W) => get_all v' M a.nm W h' (by omega) hT'
  simp only [hga] at cG
  have cA := fun W (h' : Sl W v M) => ask_any v M a.nm W h' (by omega)
  simp only [hg, fndV] at cA
  clear hga hg ht
  have hka : Kept (fun _ => False) w (w.alloc (act9O a)) := (Kept.refl _ w).alloc _
  have HAB : Hid ((w.alloc (act9O a)).heap[w.heap.size]? = some (act9O a)) := heap_alloc_new w _
  have HKA := Lib.hid hka
  have HV0 := Lib.hid (h.kept hka)
  have HT0 := Lib.hid (hT.kept hka id id)
  have HN := Lib.hid hn
  have HSS := Lib.hid ha.2.2
  have cW := fun W => within_z a.k 7 (by omega) (by omega) W
  obtain ⟨D, hDD⟩ : ∃ D, wz a.k 7 = D := ⟨_, rfl⟩
  simp only [hDD] at cW
  rw [hDD] at hD
  obtain ⟨ak, nm, s, b⟩ := a
  simp only at *
  clear hka h hT ha hn hDD
  go_enter Tryd.func10, Tryd.ntmps10
  go_upto_region 1 with fail
  generalize w.alloc (.cells #[.int .i64 ak, .int .i64 nm, .string s, .bool b] 35) = w0 at *
  generalize w.heap.size = pb at *
  go_wp2_with fail
  refine (copyregs_any v M w0 HV0.out (by have := HN.out; omega)).mono ?_
  rintro e w1 ⟨⟨vi, rfl, hi⟩, hk1⟩
  have HI := Lib.hid hi
  have HV1 := Lib.hid (HV0.out.kept hk1)
  have HT1 := Lib.hid (HT0.out.kept hk1 id id)
  have HW1 := Lib.hid (HKA.out.trans hk1)
  have HAB1 := Lib.hid (hk1.cellsAt HAB.out id)
  have HB : Hid (∀ W, Kept (fun _ => False) w1 W → W.cell? ⟨pb, 0, none⟩ = some (.int .i64 ak) ∧ W.cell? ⟨pb, 1, none⟩ = some (.int .i64 nm) ∧ W.cell? ⟨pb, 2, none⟩ = some (.string s) ∧ W.cell? ⟨pb, 3, none⟩ = some (.bool b)) := fun W hk => act9_facts (b := ⟨ak, nm, s, b⟩) (hk.cellsAt HAB1.out id)
  have HVI : Hid (∀ W, Kept (fun _ => False) w1 W → Sl W vi M) := fun W hk => (HI.out.keep hk).sl
  have HVV : Hid (∀ W, Kept (fun _ => False) w1 W → Sl W v M) := fun W hk => HV1.out.kept hk
  have HTT : Hid (∀ W, Kept (fun _ => False) w1 W → Tabs W) := fun W hk => HT1.out.kept hk id id
  have HEQ : Hid (∀ W, Kept (fun _ => False) w1 W → Calls Tryd.prog 23 #[vi, v] W fun e w' => e = .returned (.bool true) ∧ Kept (fun _ => False) W w') := fun W hk => eqregs_yes vi v M W (HVI.out W hk) (HVV.out W hk) (by have := HN.out; omega)
  clear hi hk1 HAB HKA HV0 HT0 HAB1
  have cR := rregs_any v M w1 HV1.out (by have := HN.out; omega) HT1.out
  rw [hB] at cR
  go_wp2_with fail
  refine cR.mono ?_
  clear cR
  rintro e w2 ⟨rfl, hk2⟩
  have HX2 := Lib.hid hk2
  obtain ⟨q0, q1, q2, q3⟩ := HB.out w2 hk2
  clear hk2
  clear hB hb
  have bD : decide ((D : Int) < 2) = true := decide_eq_true hD
  have bD2 : decide (D < 2) = true := decide_eq_true (by omega)
  clear hD
  go_wp2_with (go_at_call 20; refine (cW _).mono ?_; rintro e w' ⟨rfl, hw⟩; have hw2 := hw.symm; subst hw2)
  refine (cG _ _ (HVI.out _ HX2.out) (HTT.out _ HX2.out)).mono ?_
  clear cG q0 q1 q2 q3
  rintro e w3 ⟨rfl, hk3⟩
  have HX3 := Lib.hid (HX2.out.trans hk3)
  clear hk3
  have hr4 : ((w3.alloc (regO zReg)).alloc (regO zReg)).heap[w3.heap.size]? = some (regO zReg) := Kept.cellsAt (S := fun _ => False) ((Kept.refl _ _).alloc _) (heap_alloc_new w3 _) id
  have hz4 : ((w3.alloc (regO zReg)).alloc (regO zReg)).heap[(w3.alloc (regO zReg)).heap.size]? = some (regO zReg) := heap_alloc_new _ _
  have hk4 : Kept (fun _ => False) w3 ((w3.alloc (regO zReg)).alloc (regO zReg)) := ((Kept.refl _ w3).alloc _).alloc _
  have hsz : (w3.alloc (regO zReg)).heap.size = w3.heap.size + 1 := Array.size_push _
  rw [hsz] at hz4
  have HR4 := Lib.hid hr4
  have HZ4 := Lib.hid hz4
  have HX4 := Lib.hid (HX3.out.trans hk4)
  have HGZ : Hid (w1.heap.size ≤ w3.heap.size + 1) := by show _ ≤ _; have := HX3.out.size; omega
  have HGR : Hid (w3.heap.size ≠ w3.heap.size + 1) := by show _ ≠ _; omega
  clear hr4 hz4 hk4 hsz
  obtain ⟨q0, q1, q2, q3⟩ := HB.out w3 HX3.out
  go_upto_region 7 with fail
  clear q0 q1 q2 q3
  simp only [regO] at HR4 HZ4 HX4
  generalize (w3.alloc (.cells #[.int .i64 0, .string ⟨#[]⟩, .bool false] 41)).alloc (.cells #[.int .i64 0, .string ⟨#[]⟩, .bool false] 41) = w4 at *
  generalize w3.heap.size = gr at *
  obtain ⟨q0, q1, q2, q3⟩ := HB.out w4 HX4.out
  obtain ⟨⟨r0, r1, r2⟩, _⟩ := rzs (r := zReg) HR4.out
  obtain ⟨⟨z0, z1, z2⟩, _⟩ := rzs (r := zReg) HZ4.out
  go_wp2_with (go_at_call 21; refine (cT _).mono ?_; rintro e w' ⟨rfl, hw⟩; have hw2 := hw.symm; subst hw2)
  refine (cA _ (HVV.out _ HX4.out)).mono ?_
  clear cA q0 q1 q2 q3 r0 r1 r2 z0 z1 z2
  rintro e w5 ⟨rfl, hk5⟩
  have HR5 := Lib.hid ((hk5.trans ((Kept.refl _ w5).alloc (regO zReg))).cellsAt HR4.out id)
  have HZ5 := Lib.hid ((hk5.trans ((Kept.refl _ w5).alloc (regO zReg))).cellsAt HZ4.out id)
  have HX5 := Lib.hid (HX4.out.trans (hk5.trans ((Kept.refl _ w5).alloc (regO zReg))))
  clear hk5
  simp only [regO] at HR5 HZ5 HX5
  go_upto_region 10 with fail
  generalize w5.alloc (.cells #[.int .i64 0, .string ⟨#[]⟩, .bool false] 41) = w6 at *
  obtain ⟨⟨r0, r1, r2⟩, _⟩ := rzs (r := zReg) HR5.out
  obtain ⟨⟨z0, z1, z2⟩, _⟩ := rzs (r := zReg) HZ5.out
  go_wp2_with (go_at_call 7; refine (num_any _ _).mono ?_; rintro e w' ⟨rfl, hw⟩; have hw2 := hw.symm; subst hw2)
  refine (HEQ.out _ HX5.out).mono ?_
  rintro e w7 ⟨rfl, hkw7⟩
  have HX6 := Lib.hid (HX5.out.trans hkw7)
  clear hkw7
  clear r0 r1 r2 z0 z1 z2
  go_wp2_with fail
  go_ret2
  exact ⟨⟨v, M, rfl, HVV.out _ HX6.out, Nat.le_add_right _ _⟩, HW1.out.trans HX6.out⟩
set_option maxRecDepth 100000 in
set_option maxHeartbeats 16000000 in
theorem step_get_some (v : Value) (M : List RegS) (a : ActR) (w : World) (h : Sl w v M) (hn : M.length ≤ 80000) (ha : a.good) (hT : Tabs w) (rn : Int) (rs' : ByteArray) (rb' : Bool) (hb : Rs.okB M = true) (ht : Rs.Td a.nm) (hg : Rs.get M (nmOf a.nm) = some ⟨rn, rs', rb'⟩) (hD : (wz a.k 7 : Int) < 2) :
    Calls Tryd.prog 10 #[v, act9V a] w fun e w' => StepOk w' M e ∧ Kept (fun _ => False) w w' := by
  have hB : Rs.okB M = true := hb
  have hga : getA M a.nm = .tuple #[regV ⟨rn, rs', rb'⟩, .int .i64 0] := by
    unfold getA
    rw [if_pos ⟨hb, ht⟩, hg]
    rfl
  have cT := fun W => rtold_any a.nm W
  rw [decide_eq_true ht] at cT
  have cG := fun v' W (h' : Sl W v' M) (hT' : Tabs W) => get_all v' M a.nm W h' (by omega) hT'
  simp only [hga] at cG
  have cA := fun W (h' : Sl W v M) => ask_any v M a.nm W h' (by omega)
  simp only [hg, fndV] at cA
  clear hga hg ht
  have hka : Kept (fun _ => False) w (w.alloc (act9O a)) := (Kept.refl _ w).alloc _
  have HAB : Hid ((w.alloc (act9O a)).heap[w.heap.size]? = some (act9O a)) := heap_alloc_new w _
  have HKA := Lib.hid hka
  have HV0 := Lib.hid (h.kept hka)
  have HT0 := Lib.hid (hT.kept hka id id)
  have HN := Lib.hid hn
  have HSS := Lib.hid ha.2.2
  have cW := fun W => within_z a.k 7 (by omega) (by omega) W
  obtain ⟨D, hDD⟩ : ∃ D, wz a.k 7 = D := ⟨_, rfl⟩
  simp only [hDD] at cW
  rw [hDD] at hD
  obtain ⟨ak, nm, s, b⟩ := a
  simp only at *
  clear hka h hT ha hn hDD
  go_enter Tryd.func10, Tryd.ntmps10
  go_upto_region 1 with fail
  generalize w.alloc (.cells #[.int .i64 ak, .int .i64 nm, .string s, .bool b] 35) = w0 at *
  generalize w.heap.size = pb at *
  go_wp2_with fail
  refine (copyregs_any v M w0 HV0.out (by have := HN.out; omega)).mono ?_
  rintro e w1 ⟨⟨vi, rfl, hi⟩, hk1⟩
  have HI := Lib.hid hi
  have HV1 := Lib.hid (HV0.out.kept hk1)
  have HT1 := Lib.hid (HT0.out.kept hk1 id id)
  have HW1 := Lib.hid (HKA.out.trans hk1)
  have HAB1 := Lib.hid (hk1.cellsAt HAB.out id)
  have HB : Hid (∀ W, Kept (fun _ => False) w1 W → W.cell? ⟨pb, 0, none⟩ = some (.int .i64 ak) ∧ W.cell? ⟨pb, 1, none⟩ = some (.int .i64 nm) ∧ W.cell? ⟨pb, 2, none⟩ = some (.string s) ∧ W.cell? ⟨pb, 3, none⟩ = some (.bool b)) := fun W hk => act9_facts (b := ⟨ak, nm, s, b⟩) (hk.cellsAt HAB1.out id)
  have HVI : Hid (∀ W, Kept (fun _ => False) w1 W → Sl W vi M) := fun W hk => (HI.out.keep hk).sl
  have HVV : Hid (∀ W, Kept (fun _ => False) w1 W → Sl W v M) := fun W hk => HV1.out.kept hk
  have HTT : Hid (∀ W, Kept (fun _ => False) w1 W → Tabs W) := fun W hk => HT1.out.kept hk id id
  have HEQ : Hid (∀ W, Kept (fun _ => False) w1 W → Calls Tryd.prog 23 #[vi, v] W fun e w' => e = .returned (.bool true) ∧ Kept (fun _ => False) W w') := fun W hk => eqregs_yes vi v M W (HVI.out W hk) (HVV.out W hk) (by have := HN.out; omega)
  clear hi hk1 HAB HKA HV0 HT0 HAB1
  have cR := rregs_any v M w1 HV1.out (by have := HN.out; omega) HT1.out
  rw [hB] at cR
  go_wp2_with fail
  refine cR.mono ?_
  clear cR
  rintro e w2 ⟨rfl, hk2⟩
  have HX2 := Lib.hid hk2
  obtain ⟨q0, q1, q2, q3⟩ := HB.out w2 hk2
  clear hk2
  clear hB hb
  have bD : decide ((D : Int) < 2) = true := decide_eq_true hD
  have bD2 : decide (D < 2) = true := decide_eq_true (by omega)
  clear hD
  go_wp2_with (go_at_call 20; refine (cW _).mono ?_; rintro e w' ⟨rfl, hw⟩; have hw2 := hw.symm; subst hw2)
  refine (cG _ _ (HVI.out _ HX2.out) (HTT.out _ HX2.out)).mono ?_
  clear cG q0 q1 q2 q3
  rintro e w3 ⟨rfl, hk3⟩
  have HX3 := Lib.hid (HX2.out.trans hk3)
  clear hk3
  have hr4 : ((w3.alloc (regO ⟨rn, rs', rb'⟩)).alloc (regO zReg)).heap[w3.heap.size]? = some (regO ⟨rn, rs', rb'⟩) := Kept.cellsAt (S := fun _ => False) ((Kept.refl _ _).alloc _) (heap_alloc_new w3 _) id
  have hz4 : ((w3.alloc (regO ⟨rn, rs', rb'⟩)).alloc (regO zReg)).heap[(w3.alloc (regO ⟨rn, rs', rb'⟩)).heap.size]? = some (regO zReg) := heap_alloc_new _ _
  have hk4 : Kept (fun _ => False) w3 ((w3.alloc (regO ⟨rn, rs', rb'⟩)).alloc (regO zReg)) := ((Kept.refl _ w3).alloc _).alloc _
  have hsz : (w3.alloc (regO ⟨rn, rs', rb'⟩)).heap.size = w3.heap.size + 1 := Array.size_push _
  rw [hsz] at hz4
  have HR4 := Lib.hid hr4
  have HZ4 := Lib.hid hz4
  have HX4 := Lib.hid (HX3.out.trans hk4)
  have HGZ : Hid (w1.heap.size ≤ w3.heap.size + 1) := by show _ ≤ _; have := HX3.out.size; omega
  have HGR : Hid (w3.heap.size ≠ w3.heap.size + 1) := by show _ ≠ _; omega
  clear hr4 hz4 hk4 hsz
  obtain ⟨q0, q1, q2, q3⟩ := HB.out w3 HX3.out
  go_upto_region 7 with fail
  clear q0 q1 q2 q3
  simp only [regO] at HR4 HZ4 HX4
  generalize (w3.alloc (.cells #[.int .i64 rn, .string rs', .bool rb'] 41)).alloc (.cells #[.int .i64 0, .string ⟨#[]⟩, .bool false] 41) = w4 at *
  generalize w3.heap.size = gr at *
  obtain ⟨q0, q1, q2, q3⟩ := HB.out w4 HX4.out
  obtain ⟨⟨r0, r1, r2⟩, _⟩ := rzs (r := ⟨rn, rs', rb'⟩) HR4.out
  obtain ⟨⟨z0, z1, z2⟩, _⟩ := rzs (r := zReg) HZ4.out
  go_wp2_with (go_at_call 21; refine (cT _).mono ?_; rintro e w' ⟨rfl, hw⟩; have hw2 := hw.symm; subst hw2)
  refine (cA _ (HVV.out _ HX4.out)).mono ?_
  clear cA q0 q1 q2 q3 r0 r1 r2 z0 z1 z2
  rintro e w5 ⟨rfl, hk5⟩
  have hkk := hk5.trans ((Kept.refl _ w5).alloc (regO ⟨rn, rs', rb'⟩))
  have HR5 := Lib.hid (hkk.cellsAt HR4.out id)
  have HZ5 := Lib.hid (hkk.cellsAt HZ4.out id)
  have HX5 := Lib.hid (HX4.out.trans hkk)
  have HY5 : Hid ((w5.alloc (regO ⟨rn, rs', rb'⟩)).heap[w5.heap.size]? = some (regO ⟨rn, rs', rb'⟩)) := heap_alloc_new w5 _
  clear hk5 hkk
  simp only [regO] at HR5 HZ5 HX5 HY5
  go_upto_region 10 with fail
  generalize w5.alloc (.cells #[.int .i64 rn, .string rs', .bool rb'] 41) = w6 at *
  generalize w5.heap.size = gy at *
  obtain ⟨⟨r0, r1, r2⟩, _⟩ := rzs (r := ⟨rn, rs', rb'⟩) HR5.out
  obtain ⟨⟨y0, y1, y2⟩, _⟩ := rzs (r := ⟨rn, rs', rb'⟩) HY5.out
  obtain ⟨⟨z0, z1, z2⟩, f0, f1, f2⟩ := rzs (r := zReg) HZ5.out
  have HZ6 : Hid ((((w6.setCell ⟨gr + 1, 0, none⟩ (.int .i64 rn)).setCell ⟨gr + 1, 1, none⟩ (.string rs')).setCell ⟨gr + 1, 2, none⟩ (.bool rb')).heap[gr + 1]? = some (regO ⟨rn, rs', rb'⟩)) := three HZ5.out _ _ _
  have hk6 : Kept (fun p => p = gr + 1) w6 (((w6.setCell ⟨gr + 1, 0, none⟩ (.int .i64 rn)).setCell ⟨gr + 1, 1, none⟩ (.string rs')).setCell ⟨gr + 1, 2, none⟩ (.bool rb')) := Kept.three (Kept.refl (fun p => p = gr + 1) w6) rfl _ _ _
  have HR6 := Lib.hid (hk6.cellsAt HR5.out (fun e => HGR.out e))
  have HX6 := Lib.hid (HX5.out.fresh hk6 (fun p hp e => by have e : p = gr + 1 := e; have := HGZ.out; omega))
  clear hk6
  simp only [regO] at HZ6 HR6
  go_wp2_with fail
  go_region
  clear r0 r1 r2 y0 y1 y2 z0 z1 z2 f0 f1 f2
  generalize ((w6.setCell ⟨gr + 1, 0, none⟩ (.int .i64 rn)).setCell ⟨gr + 1, 1, none⟩ (.string rs')).setCell ⟨gr + 1, 2, none⟩ (.bool rb') = w7 at *
  have HX7 := Lib.hid HX6.out.drew
  obtain ⟨⟨r0, r1, r2⟩, _⟩ := rzs (w := w7.drew) (r := ⟨rn, rs', rb'⟩) HR6.out
  obtain ⟨⟨z0, z1, z2⟩, _⟩ := rzs (w := w7.drew) (r := ⟨rn, rs', rb'⟩) HZ6.out
  go_wp2_with (go_at_call 7; refine (num_any _ _).mono ?_; rintro e w' ⟨rfl, hw⟩; have hw2 := hw.symm; subst hw2)
  refine (HEQ.out _ HX7.out).mono ?_
  rintro e w8 ⟨rfl, hkw8⟩
  have HX8 := Lib.hid (HX7.out.trans hkw8)
  clear hkw8
  clear r0 r1 r2 z0 z1 z2
  go_wp2_with fail
  go_ret2
  exact ⟨⟨v, M, rfl, HVV.out _ HX8.out, Nat.le_add_right _ _⟩, HW1.out.trans HX8.out⟩
theorem step_get (v : Value) (M : List RegS) (a : ActR) (w : World) (h : Sl w v M) (hn : M.length ≤ 80000) (ha : a.good) (hT : Tabs w) (hD : (wz a.k 7 : Int) < 2) :
    Calls Tryd.prog 10 #[v, act9V a] w fun e w' => StepOk w' M e ∧ Kept (fun _ => False) w w' := by
  cases hb : Rs.okB M with
  | false => exact step_get_bad v M a w h hn ha hT hb (fun hc => by rw [hb] at hc; exact Bool.noConfusion hc.1) hD
  | true =>
    by_cases ht : Rs.Td a.nm
    · cases hg : Rs.get M (nmOf a.nm) with
      | none => exact step_get_none v M a w h hn ha hT hb ht hg hD
      | some r => exact step_get_some v M a w h hn ha hT r.n r.s r.b hb ht hg hD
    · exact step_get_no v M a w h hn ha hT hb ht (fun hc => ht hc.2) hD
end Go.Proofs.YtackgnkajffhiaaDoor
