/-
  REGIONS: what may be, as the reference says.
-/
import Derived.Test.YtbofjefblhnkoaaGreatDoorRgO
import Derived.Test.YtbofjefblhnkoaaGreatDoorObS
set_option linter.unusedVariables false
set_option maxRecDepth 100000
namespace Go.Proofs.YtbofjefblhnkoaaGreatDoor
open Go Go.RowKit Pk

instance (key : Int) : Decidable (Rw.Oper key) := by unfold Rw.Oper; infer_instance
theorem roper_any (key : Int) (w : World) : Calls Tryz.prog 26 #[.int .i64 key] w fun e w' => e = .returned (.bool (decide (Rw.Oper key))) ∧ Kept (fun _ => False) w w' := by
  have hN := nums_new w [100, 99, 121, 62, 60, 16777333, 16777301, 16777342] 3
  have cI := zin_any (some ⟨w.heap.size, 0, none⟩) 8 8 _ key _ hN (by decide)
  have HL : Hid (key ∈ ([100, 99, 121, 62, 60, 16777333, 16777301, 16777342] : List Int) ↔ Rw.Oper key) := by
    show _ ↔ _
    unfold Rw.Oper
    simp
  clear hN
  go_enter Tryz.func26, Tryz.ntmps26
  go_wp2_with (go_at_call 59; refine cI.mono ?_; rintro e w' ⟨⟨r, rfl, h1, h2, h3⟩, rfl⟩; have H3 := Lib.hid h3; clear h3)
  have hb : decide (0 ≤ r) = decide (Rw.Oper key) := decide_eq_decide.2 (H3.out.trans HL.out)
  have HB := Lib.hid hb
  clear hb H3
  go_ret
  rw [← HB.out]
  exact ⟨rfl, (Kept.refl _ w).alloc _⟩
/-- The way that a command goes. -/
def Way (c2 c3 c4 : Int) : Prop := (c4 ≠ 0 ∧ (c4 = 105 ∨ c4 = 97) ∧ Rw.Obj c3) ∨ (c4 = 0 ∧ (c3 = c2 ∨ Rw.kin c3 ≠ 0))
instance (c2 c3 c4 : Int) : Decidable (Way c2 c3 c4) := by unfold Way; infer_instance
def GoodF (L : Nat) (x c1 c2 c3 c4 k1 : Int) (M : List (List Int)) : Prop := Rw.Oper c2 ∧ (0 ≤ x ∧ x ≤ (L : Int)) ∧ (0 ≤ c1 ∧ c1 ≤ 999) ∧ (k1 = 0 ∨ Rw.Seek k1) ∧ Rw.mOk M ∧ Way c2 c3 c4
set_option maxHeartbeats 2000000 in
theorem rmo1 (TA : Option Addr) (tc : Nat) (t : List Int) (k c0 c1 c2 c3 c4 c5 k1 k2 : Int) (A : Option Addr) (n c : Nat) (M : List (List Int)) (w : World) (hl : t.length ≤ 100000) (hA : Rws w A n 2 M) (hn : n ≤ 100000) (h1 : ¬ Rw.Oper c2) :
    Calls Tryz.prog 10 #[.slice TA t.length tc, .int .i64 k, cmdV c0 c1 c2 c3 c4 c5, sekV k1 k2, .slice A n c] w fun e w' => e = .returned (.bool false) ∧ Kept (fun _ => False) w w' := by
  have HK0 : Hid (Kept (fun _ => False) w ((w.alloc (cmdO c0 c1 c2 c3 c4 c5)).alloc (sekO k1 k2))) := ((Kept.refl _ w).alloc _).alloc _
  have HP0 := Lib.hid (par_new w c0 c1 c2 c3 c4 c5 k1 k2)
  obtain ⟨a0, a1, a2, a3, a4, a5, a6, a7⟩ := HP0.out.facts
  have cO := fun W => roper_any c2 W
  have cN := fun W => znum_any k (t.length : Int) W
  have cN2 := fun W => znum_any c1 999 W
  have cS := fun W => Sk.seek_any k1 W
  have cM := fun W (hk' : Kept (fun _ => False) w W) => rmarks_any A n c M W (hA.kept hk' (fun _ _ => id)) hn
  have cJ := fun W => robject_any c3 W
  have cI := fun W => is_any c3 W
  simp only [decide_eq_false h1] at cO
  clear hA h1
  go_enter Tryz.func10, Tryz.ntmps10
  go_wp2_with (first
    | (go_at_call 26; refine (cO _).mono ?_; rintro e w1 ⟨rfl, hk1⟩; have HK1 := Lib.hid (HK0.out.trans hk1); have HP1 := Lib.hid (HP0.out.kept hk1); obtain ⟨p0, p1, p2, p3, p4, p5, p6, p7⟩ := HP1.out.facts; clear hk1 a0 a1 a2 a3 a4 a5 a6 a7))
  go_ret
  exact ⟨rfl, HK1.out⟩
set_option maxHeartbeats 2000000 in
theorem rmo2 (TA : Option Addr) (tc : Nat) (t : List Int) (k c0 c1 c2 c3 c4 c5 k1 k2 : Int) (A : Option Addr) (n c : Nat) (M : List (List Int)) (w : World) (hl : t.length ≤ 100000) (hA : Rws w A n 2 M) (hn : n ≤ 100000) (h1 : Rw.Oper c2) (h2 : ¬ (0 ≤ k ∧ k ≤ (t.length : Int))) :
    Calls Tryz.prog 10 #[.slice TA t.length tc, .int .i64 k, cmdV c0 c1 c2 c3 c4 c5, sekV k1 k2, .slice A n c] w fun e w' => e = .returned (.bool false) ∧ Kept (fun _ => False) w w' := by
  have HK0 : Hid (Kept (fun _ => False) w ((w.alloc (cmdO c0 c1 c2 c3 c4 c5)).alloc (sekO k1 k2))) := ((Kept.refl _ w).alloc _).alloc _
  have HP0 := Lib.hid (par_new w c0 c1 c2 c3 c4 c5 k1 k2)
  obtain ⟨a0, a1, a2, a3, a4, a5, a6, a7⟩ := HP0.out.facts
  have cO := fun W => roper_any c2 W
  have cN := fun W => znum_any k (t.length : Int) W
  have cN2 := fun W => znum_any c1 999 W
  have cS := fun W => Sk.seek_any k1 W
  have cM := fun W (hk' : Kept (fun _ => False) w W) => rmarks_any A n c M W (hA.kept hk' (fun _ _ => id)) hn
  have cJ := fun W => robject_any c3 W
  have cI := fun W => is_any c3 W
  simp only [decide_eq_true h1] at cO
  simp only [decide_eq_false h2] at cN
  clear hA h1 h2
  go_enter Tryz.func10, Tryz.ntmps10
  go_wp2_with (first
    | (go_at_call 26; refine (cO _).mono ?_; rintro e w1 ⟨rfl, hk1⟩; have HK1 := Lib.hid (HK0.out.trans hk1); have HP1 := Lib.hid (HP0.out.kept hk1); obtain ⟨p0, p1, p2, p3, p4, p5, p6, p7⟩ := HP1.out.facts; clear hk1 a0 a1 a2 a3 a4 a5 a6 a7)
    | (go_at_call 16; refine (cN _).mono ?_; rintro e w' ⟨rfl, hw⟩; have hw2 := hw.symm; subst hw2; clear cN))
  go_ret
  exact ⟨rfl, HK1.out⟩
set_option maxHeartbeats 2000000 in
theorem rmo3 (TA : Option Addr) (tc : Nat) (t : List Int) (k c0 c1 c2 c3 c4 c5 k1 k2 : Int) (A : Option Addr) (n c : Nat) (M : List (List Int)) (w : World) (hl : t.length ≤ 100000) (hA : Rws w A n 2 M) (hn : n ≤ 100000) (h1 : Rw.Oper c2) (h2 : 0 ≤ k ∧ k ≤ (t.length : Int)) (h3 : ¬ (0 ≤ c1 ∧ c1 ≤ 999)) :
    Calls Tryz.prog 10 #[.slice TA t.length tc, .int .i64 k, cmdV c0 c1 c2 c3 c4 c5, sekV k1 k2, .slice A n c] w fun e w' => e = .returned (.bool false) ∧ Kept (fun _ => False) w w' := by
  have HK0 : Hid (Kept (fun _ => False) w ((w.alloc (cmdO c0 c1 c2 c3 c4 c5)).alloc (sekO k1 k2))) := ((Kept.refl _ w).alloc _).alloc _
  have HP0 := Lib.hid (par_new w c0 c1 c2 c3 c4 c5 k1 k2)
  obtain ⟨a0, a1, a2, a3, a4, a5, a6, a7⟩ := HP0.out.facts
  have cO := fun W => roper_any c2 W
  have cN := fun W => znum_any k (t.length : Int) W
  have cN2 := fun W => znum_any c1 999 W
  have cS := fun W => Sk.seek_any k1 W
  have cM := fun W (hk' : Kept (fun _ => False) w W) => rmarks_any A n c M W (hA.kept hk' (fun _ _ => id)) hn
  have cJ := fun W => robject_any c3 W
  have cI := fun W => is_any c3 W
  simp only [decide_eq_true h1] at cO
  simp only [decide_eq_true h2] at cN
  simp only [decide_eq_false h3] at cN2
  clear hA h1 h2 h3
  go_enter Tryz.func10, Tryz.ntmps10
  go_wp2_with (first
    | (go_at_call 26; refine (cO _).mono ?_; rintro e w1 ⟨rfl, hk1⟩; have HK1 := Lib.hid (HK0.out.trans hk1); have HP1 := Lib.hid (HP0.out.kept hk1); obtain ⟨p0, p1, p2, p3, p4, p5, p6, p7⟩ := HP1.out.facts; clear hk1 a0 a1 a2 a3 a4 a5 a6 a7)
    | (go_at_call 16; refine (cN _).mono ?_; rintro e w' ⟨rfl, hw⟩; have hw2 := hw.symm; subst hw2; clear cN)
    | (go_at_call 16; refine (cN2 _).mono ?_; rintro e w' ⟨rfl, hw⟩; have hw2 := hw.symm; subst hw2))
  go_ret
  exact ⟨rfl, HK1.out⟩
set_option maxHeartbeats 2000000 in
theorem rmo4 (TA : Option Addr) (tc : Nat) (t : List Int) (k c0 c1 c2 c3 c4 c5 k1 k2 : Int) (A : Option Addr) (n c : Nat) (M : List (List Int)) (w : World) (hl : t.length ≤ 100000) (hA : Rws w A n 2 M) (hn : n ≤ 100000) (h1 : Rw.Oper c2) (h2 : 0 ≤ k ∧ k ≤ (t.length : Int)) (h3 : 0 ≤ c1 ∧ c1 ≤ 999) (h4 : ¬ (k1 = 0 ∨ Rw.Seek k1)) :
    Calls Tryz.prog 10 #[.slice TA t.length tc, .int .i64 k, cmdV c0 c1 c2 c3 c4 c5, sekV k1 k2, .slice A n c] w fun e w' => e = .returned (.bool false) ∧ Kept (fun _ => False) w w' := by
  have HK0 : Hid (Kept (fun _ => False) w ((w.alloc (cmdO c0 c1 c2 c3 c4 c5)).alloc (sekO k1 k2))) := ((Kept.refl _ w).alloc _).alloc _
  have HP0 := Lib.hid (par_new w c0 c1 c2 c3 c4 c5 k1 k2)
  obtain ⟨a0, a1, a2, a3, a4, a5, a6, a7⟩ := HP0.out.facts
  have cO := fun W => roper_any c2 W
  have cN := fun W => znum_any k (t.length : Int) W
  have cN2 := fun W => znum_any c1 999 W
  have cS := fun W => Sk.seek_any k1 W
  have cM := fun W (hk' : Kept (fun _ => False) w W) => rmarks_any A n c M W (hA.kept hk' (fun _ _ => id)) hn
  have cJ := fun W => robject_any c3 W
  have cI := fun W => is_any c3 W
  simp only [decide_eq_true h1] at cO
  simp only [decide_eq_true h2] at cN
  simp only [decide_eq_true h3] at cN2
  have hns : ¬ Rw.Seek k1 := fun h => h4 (.inr h)
  have d1 : (k1 != 0) = true := by simpa using fun h => h4 (.inl h)
  simp only [decide_eq_false hns] at cS
  clear hA h1 h2 h3 h4 hns
  go_enter Tryz.func10, Tryz.ntmps10
  go_wp2_with (first
    | (go_at_call 26; refine (cO _).mono ?_; rintro e w1 ⟨rfl, hk1⟩; have HK1 := Lib.hid (HK0.out.trans hk1); have HP1 := Lib.hid (HP0.out.kept hk1); obtain ⟨p0, p1, p2, p3, p4, p5, p6, p7⟩ := HP1.out.facts; clear hk1 a0 a1 a2 a3 a4 a5 a6 a7)
    | (go_at_call 16; refine (cN _).mono ?_; rintro e w' ⟨rfl, hw⟩; have hw2 := hw.symm; subst hw2; clear cN)
    | (go_at_call 16; refine (cN2 _).mono ?_; rintro e w' ⟨rfl, hw⟩; have hw2 := hw.symm; subst hw2)
    | (go_at_call 27; refine (cS _).mono ?_; rintro e w2 ⟨rfl, hk2⟩; have HK2 := Lib.hid (HK1.out.trans hk2); have HP2 := Lib.hid (HP1.out.kept hk2); obtain ⟨q0, q1, q2, q3, q4, q5, q6, q7⟩ := HP2.out.facts; clear hk2))
  go_ret
  exact ⟨rfl, HK2.out⟩
set_option maxHeartbeats 2000000 in
theorem rmo5 (TA : Option Addr) (tc : Nat) (t : List Int) (k c0 c1 c2 c3 c4 c5 k1 k2 : Int) (A : Option Addr) (n c : Nat) (M : List (List Int)) (w : World) (hl : t.length ≤ 100000) (hA : Rws w A n 2 M) (hn : n ≤ 100000) (h1 : Rw.Oper c2) (h2 : 0 ≤ k ∧ k ≤ (t.length : Int)) (h3 : 0 ≤ c1 ∧ c1 ≤ 999) (h4 : k1 = 0 ∨ Rw.Seek k1) (h5 : ¬ Rw.mOk M) :
    Calls Tryz.prog 10 #[.slice TA t.length tc, .int .i64 k, cmdV c0 c1 c2 c3 c4 c5, sekV k1 k2, .slice A n c] w fun e w' => e = .returned (.bool false) ∧ Kept (fun _ => False) w w' := by
  have HK0 : Hid (Kept (fun _ => False) w ((w.alloc (cmdO c0 c1 c2 c3 c4 c5)).alloc (sekO k1 k2))) := ((Kept.refl _ w).alloc _).alloc _
  have HP0 := Lib.hid (par_new w c0 c1 c2 c3 c4 c5 k1 k2)
  obtain ⟨a0, a1, a2, a3, a4, a5, a6, a7⟩ := HP0.out.facts
  have cO := fun W => roper_any c2 W
  have cN := fun W => znum_any k (t.length : Int) W
  have cN2 := fun W => znum_any c1 999 W
  have cS := fun W => Sk.seek_any k1 W
  have cM := fun W (hk' : Kept (fun _ => False) w W) => rmarks_any A n c M W (hA.kept hk' (fun _ _ => id)) hn
  have cJ := fun W => robject_any c3 W
  have cI := fun W => is_any c3 W
  simp only [decide_eq_true h1] at cO
  simp only [decide_eq_true h2] at cN
  simp only [decide_eq_true h3] at cN2
  have hq : (k1 != 0) = false ∨ ((k1 != 0) = true ∧ decide (Rw.Seek k1) = true) := by
    by_cases h0 : k1 = 0
    · exact .inl (by simpa using h0)
    · exact .inr ⟨by simpa using h0, decide_eq_true (h4.resolve_left h0)⟩
  have HO := Lib.hid h5
  generalize decide (Rw.Seek k1) = K1 at *
  clear hA h1 h2 h3 h4 h5
  rcases hq with d1 | ⟨d1, rfl⟩
  all_goals
    go_enter Tryz.func10, Tryz.ntmps10
    go_wp2_with (first
      | (go_at_call 26; refine (cO _).mono ?_; rintro e w1 ⟨rfl, hk1⟩; have HK1 := Lib.hid (HK0.out.trans hk1); have HP1 := Lib.hid (HP0.out.kept hk1); obtain ⟨p0, p1, p2, p3, p4, p5, p6, p7⟩ := HP1.out.facts; clear hk1 a0 a1 a2 a3 a4 a5 a6 a7)
      | (go_at_call 16; refine (cN _).mono ?_; rintro e w' ⟨rfl, hw⟩; have hw2 := hw.symm; subst hw2; clear cN)
      | (go_at_call 16; refine (cN2 _).mono ?_; rintro e w' ⟨rfl, hw⟩; have hw2 := hw.symm; subst hw2)
      | (go_at_call 27; refine (cS _).mono ?_; rintro e w2 ⟨rfl, hk2⟩; have HK2 := Lib.hid (HK1.out.trans hk2); have HP2 := Lib.hid (HP1.out.kept hk2); obtain ⟨q0, q1, q2, q3, q4, q5, q6, q7⟩ := HP2.out.facts; clear hk2)
      | (go_at_call 28; refine (cM _ HK2.out).mono ?_; rintro e w3 ⟨⟨b, rfl, hb⟩, hk3⟩; obtain rfl : b = false := (by rw [Bool.eq_false_iff]; exact fun e => HO.out (hb.1 e)); have HKM := Lib.hid (HK2.out.trans hk3); have HPM := Lib.hid (HP2.out.kept hk3); obtain ⟨r0, r1, r2, r3, r4, r5, r6, r7⟩ := HPM.out.facts; clear hk3 hb)
      | (go_at_call 28; refine (cM _ HK1.out).mono ?_; rintro e w3 ⟨⟨b, rfl, hb⟩, hk3⟩; obtain rfl : b = false := (by rw [Bool.eq_false_iff]; exact fun e => HO.out (hb.1 e)); have HKM := Lib.hid (HK1.out.trans hk3); have HPM := Lib.hid (HP1.out.kept hk3); obtain ⟨r0, r1, r2, r3, r4, r5, r6, r7⟩ := HPM.out.facts; clear hk3 hb))
    go_ret
    exact ⟨rfl, HKM.out⟩
end Go.Proofs.YtbofjefblhnkoaaGreatDoor
set_option linter.unusedVariables false
set_option maxRecDepth 100000
namespace Go.Proofs.YtbofjefblhnkoaaGreatDoor
open Go Go.RowKit Pk

set_option maxHeartbeats 2000000 in
theorem rmo6 (TA : Option Addr) (tc : Nat) (t : List Int) (k c0 c1 c2 c3 c4 c5 k1 k2 : Int) (A : Option Addr) (n c : Nat) (M : List (List Int)) (w : World) (hl : t.length ≤ 100000) (hA : Rws w A n 2 M) (hn : n ≤ 100000) (h1 : Rw.Oper c2) (h2 : 0 ≤ k ∧ k ≤ (t.length : Int)) (h3 : 0 ≤ c1 ∧ c1 ≤ 999) (h4 : k1 = 0 ∨ Rw.Seek k1) (h5 : Rw.mOk M) :
    Calls Tryz.prog 10 #[.slice TA t.length tc, .int .i64 k, cmdV c0 c1 c2 c3 c4 c5, sekV k1 k2, .slice A n c] w fun e w' => e = .returned (.bool (decide (Way c2 c3 c4))) ∧ Kept (fun _ => False) w w' := by
  have HK0 : Hid (Kept (fun _ => False) w ((w.alloc (cmdO c0 c1 c2 c3 c4 c5)).alloc (sekO k1 k2))) := ((Kept.refl _ w).alloc _).alloc _
  have HP0 := Lib.hid (par_new w c0 c1 c2 c3 c4 c5 k1 k2)
  obtain ⟨a0, a1, a2, a3, a4, a5, a6, a7⟩ := HP0.out.facts
  have cO := fun W => roper_any c2 W
  have cN := fun W => znum_any k (t.length : Int) W
  have cN2 := fun W => znum_any c1 999 W
  have cS := fun W => Sk.seek_any k1 W
  have cM := fun W (hk' : Kept (fun _ => False) w W) => rmarks_any A n c M W (hA.kept hk' (fun _ _ => id)) hn
  have cJ := fun W => robject_any c3 W
  have cI := fun W => is_any c3 W
  simp only [decide_eq_true h1] at cO
  simp only [decide_eq_true h2] at cN
  simp only [decide_eq_true h3] at cN2
  have hq : (k1 != 0) = false ∨ ((k1 != 0) = true ∧ decide (Rw.Seek k1) = true) := by
    by_cases h0 : k1 = 0
    · exact .inl (by simpa using h0)
    · exact .inr ⟨by simpa using h0, decide_eq_true (h4.resolve_left h0)⟩
  have HO := Lib.hid h5
  have hw : ∃ V, decide (Way c2 c3 c4) = V ∧ (((c4 != 0) = true ∧ (((c4 == 105) = true ∧ V = decide (Rw.Obj c3)) ∨ ((c4 == 105) = false ∧ (c4 == 97) = true ∧ V = decide (Rw.Obj c3)) ∨ ((c4 == 105) = false ∧ (c4 == 97) = false ∧ V = false))) ∨ ((c4 != 0) = false ∧ (((c3 == c2) = true ∧ V = true) ∨ ((c3 == c2) = false ∧ V = decide (Rw.kin c3 ≠ 0))))) := by
    refine ⟨_, rfl, ?_⟩
    unfold Way
    by_cases h0 : c4 = 0
    · refine .inr ⟨by simpa using h0, ?_⟩
      by_cases e : c3 = c2
      · exact .inl ⟨by simpa using e, decide_eq_true (.inr ⟨h0, .inl e⟩)⟩
      · refine .inr ⟨beq_eq_false_iff_ne.2 e, decide_eq_decide.2 ⟨fun h => ?_, fun h => .inr ⟨h0, .inr h⟩⟩⟩
        rcases h with ⟨h, _⟩ | ⟨_, h⟩
        · exact absurd h0 h
        · exact h.resolve_left e
    · refine .inl ⟨by simpa using h0, ?_⟩
      by_cases e : c4 = 105
      · refine .inl ⟨by simpa using e, decide_eq_decide.2 ⟨fun h => ?_, fun h => .inl ⟨h0, .inl e, h⟩⟩⟩
        rcases h with ⟨_, _, h⟩ | ⟨h, _⟩
        · exact h
        · exact absurd h h0
      · by_cases e2 : c4 = 97
        · refine .inr (.inl ⟨beq_eq_false_iff_ne.2 e, by simpa using e2, decide_eq_decide.2 ⟨fun h => ?_, fun h => .inl ⟨h0, .inr e2, h⟩⟩⟩)
          rcases h with ⟨_, _, h⟩ | ⟨h, _⟩
          · exact h
          · exact absurd h h0
        · refine .inr (.inr ⟨beq_eq_false_iff_ne.2 e, beq_eq_false_iff_ne.2 e2, decide_eq_false fun h => ?_⟩)
          rcases h with ⟨_, h, _⟩ | ⟨h, _⟩
          · exact h.elim e e2
          · exact absurd h h0
  obtain ⟨V, hV, hw⟩ := hw
  rw [hV]
  clear hV
  generalize decide (Rw.Seek k1) = K1 at *
  generalize decide (Rw.Obj c3) = VO at *
  generalize decide (Rw.kin c3 ≠ 0) = VI at *
  clear hA h1 h2 h3 h4 h5
  rcases hq with d1 | ⟨d1, rfl⟩
  all_goals
    rcases hw with ⟨z0, ⟨z1, rfl⟩ | ⟨z1, z2, rfl⟩ | ⟨z1, z2, rfl⟩⟩ | ⟨z0, ⟨z1, rfl⟩ | ⟨z1, rfl⟩⟩
    all_goals
      go_enter Tryz.func10, Tryz.ntmps10
      go_wp2_with (first
        | (go_at_call 26; refine (cO _).mono ?_; rintro e w1 ⟨rfl, hk1⟩; have HK1 := Lib.hid (HK0.out.trans hk1); have HP1 := Lib.hid (HP0.out.kept hk1); obtain ⟨p0, p1, p2, p3, p4, p5, p6, p7⟩ := HP1.out.facts; clear hk1 a0 a1 a2 a3 a4 a5 a6 a7)
        | (go_at_call 16; refine (cN _).mono ?_; rintro e w' ⟨rfl, hw⟩; have hw2 := hw.symm; subst hw2; clear cN)
        | (go_at_call 16; refine (cN2 _).mono ?_; rintro e w' ⟨rfl, hw⟩; have hw2 := hw.symm; subst hw2)
        | (go_at_call 27; refine (cS _).mono ?_; rintro e w2 ⟨rfl, hk2⟩; have HK2 := Lib.hid (HK1.out.trans hk2); have HP2 := Lib.hid (HP1.out.kept hk2); obtain ⟨q0, q1, q2, q3, q4, q5, q6, q7⟩ := HP2.out.facts; clear hk2)
        | (go_at_call 28; refine (cM _ HK2.out).mono ?_; rintro e w3 ⟨⟨b, rfl, hb⟩, hk3⟩; obtain rfl : b = true := hb.2 HO.out; have HKM := Lib.hid (HK2.out.trans hk3); have HPM := Lib.hid (HP2.out.kept hk3); obtain ⟨r0, r1, r2, r3, r4, r5, r6, r7⟩ := HPM.out.facts; clear hk3 hb)
        | (go_at_call 28; refine (cM _ HK1.out).mono ?_; rintro e w3 ⟨⟨b, rfl, hb⟩, hk3⟩; obtain rfl : b = true := hb.2 HO.out; have HKM := Lib.hid (HK1.out.trans hk3); have HPM := Lib.hid (HP1.out.kept hk3); obtain ⟨r0, r1, r2, r3, r4, r5, r6, r7⟩ := HPM.out.facts; clear hk3 hb)
        | (go_at_call 29; refine (cJ _).mono ?_; rintro e w4 ⟨rfl, hk4⟩; have HKJ := Lib.hid (HKM.out.trans hk4); clear hk4)
        | (go_at_call 30; refine (cI _).mono ?_; rintro e w4 ⟨rfl, hk4⟩; have HKJ := Lib.hid (HKM.out.trans hk4); clear hk4))
      go_ret
      first | exact ⟨rfl, HKJ.out⟩ | exact ⟨rfl, HKM.out⟩
theorem rmo_yes (TA : Option Addr) (tc : Nat) (t : List Int) (k c0 c1 c2 c3 c4 c5 k1 k2 : Int) (A : Option Addr) (n c : Nat) (M : List (List Int)) (w : World) (hl : t.length ≤ 100000) (hA : Rws w A n 2 M) (hn : n ≤ 100000) (h : GoodF t.length k c1 c2 c3 c4 k1 M) :
    Calls Tryz.prog 10 #[.slice TA t.length tc, .int .i64 k, cmdV c0 c1 c2 c3 c4 c5, sekV k1 k2, .slice A n c] w fun e w' => e = .returned (.bool true) ∧ Kept (fun _ => False) w w' := by
  obtain ⟨h1, h2, h3, h4, h5, h6⟩ := h
  have := rmo6 TA tc t k c0 c1 c2 c3 c4 c5 k1 k2 A n c M w hl hA hn h1 h2 h3 h4 h5
  rw [decide_eq_true h6] at this
  exact this
theorem rmo_no (TA : Option Addr) (tc : Nat) (t : List Int) (k c0 c1 c2 c3 c4 c5 k1 k2 : Int) (A : Option Addr) (n c : Nat) (M : List (List Int)) (w : World) (hl : t.length ≤ 100000) (hA : Rws w A n 2 M) (hn : n ≤ 100000) (h : ¬ GoodF t.length k c1 c2 c3 c4 k1 M) :
    Calls Tryz.prog 10 #[.slice TA t.length tc, .int .i64 k, cmdV c0 c1 c2 c3 c4 c5, sekV k1 k2, .slice A n c] w fun e w' => e = .returned (.bool false) ∧ Kept (fun _ => False) w w' := by
  by_cases h1 : Rw.Oper c2
  case neg => exact rmo1 TA tc t k c0 c1 c2 c3 c4 c5 k1 k2 A n c M w hl hA hn h1
  by_cases h2 : 0 ≤ k ∧ k ≤ (t.length : Int)
  case neg => exact rmo2 TA tc t k c0 c1 c2 c3 c4 c5 k1 k2 A n c M w hl hA hn h1 h2
  by_cases h3 : 0 ≤ c1 ∧ c1 ≤ 999
  case neg => exact rmo3 TA tc t k c0 c1 c2 c3 c4 c5 k1 k2 A n c M w hl hA hn h1 h2 h3
  by_cases h4 : k1 = 0 ∨ Rw.Seek k1
  case neg => exact rmo4 TA tc t k c0 c1 c2 c3 c4 c5 k1 k2 A n c M w hl hA hn h1 h2 h3 h4
  by_cases h5 : Rw.mOk M
  case neg => exact rmo5 TA tc t k c0 c1 c2 c3 c4 c5 k1 k2 A n c M w hl hA hn h1 h2 h3 h4 h5
  have := rmo6 TA tc t k c0 c1 c2 c3 c4 c5 k1 k2 A n c M w hl hA hn h1 h2 h3 h4 h5
  rw [decide_eq_false (fun h6 => h ⟨h1, h2, h3, h4, h5, h6⟩)] at this
  exact this
end Go.Proofs.YtbofjefblhnkoaaGreatDoor
