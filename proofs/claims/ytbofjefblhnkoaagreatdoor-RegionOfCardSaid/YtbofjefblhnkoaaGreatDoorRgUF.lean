/-
  REGIONS: commands that may not be.
-/
import Derived.Test.YtbofjefblhnkoaaGreatDoorRgO
import Derived.Test.YtbofjefblhnkoaaGreatDoorObS
import Derived.Test.YtbofjefblhnkoaaGreatDoorRgT
set_option linter.unusedVariables false
set_option maxRecDepth 100000
namespace Go.Proofs.YtbofjefblhnkoaaGreatDoor
open Go Go.RowKit Pk

/-- May it be? -/
def MayG (s : ByteArray) (x c1 c2 c3 c4 k1 : Int) (M : List (List Int)) : Prop := (mayB s = true ∧ 0 ≤ x ∧ x ≤ ((rs s).length : Int)) ∧ Rw.Oper c2 ∧ (0 ≤ c1 ∧ c1 ≤ 999) ∧ (k1 = 0 ∨ Rw.Seek k1) ∧ Rw.mOk M ∧ Rw.ofMay c2 c4 c3
theorem place_bad (s : ByteArray) (x : Int) (w : World) (hs : s.size ≤ 140737488351232) (hT : Tabs w) (h : ¬ (mayB s = true ∧ 0 ≤ x ∧ x ≤ ((rs s).length : Int))) :
    Calls Tryz.prog 39 #[.string s, .int .i64 x] w fun e w' => (∃ E : Int, e = .returned (.tuple #[.agg #[.int .i64 0, .int .i64 0], .int .i64 E]) ∧ E ≠ 0) ∧ Kept (fun _ => False) w w' := by
  cases hm : mayB s with
  | false => exact (place_form s x w hs hT hm).mono fun e w' ⟨he, hk⟩ => ⟨⟨1, he, by decide⟩, hk⟩
  | true => exact (place_none s x w hT hm (fun h' => h ⟨hm, h'⟩)).mono fun e w' ⟨he, hk⟩ => ⟨⟨3, he, by decide⟩, hk⟩
set_option maxHeartbeats 2000000 in
theorem pmn1 (s : ByteArray) (k c0 c1 c2 c3 c4 c5 k1 k2 : Int) (A : Option Addr) (n c : Nat) (M : List (List Int)) (w : World) (hs : s.size ≤ 140737488351232) (hT : Tabs w) (hA : Rws w A n 2 M) (hn : n ≤ 100000) (h1 : ¬ (mayB s = true ∧ 0 ≤ k ∧ k ≤ ((rs s).length : Int))) :
    Calls Tryz.prog 21 #[.string s, .int .i64 k, cmdV c0 c1 c2 c3 c4 c5, sekV k1 k2, .slice A n c] w fun e w' => e = .returned (.bool false) ∧ Kept (fun _ => False) w w' := by
  have HK0 : Hid (Kept (fun _ => False) w ((w.alloc (cmdO c0 c1 c2 c3 c4 c5)).alloc (sekO k1 k2))) := ((Kept.refl _ w).alloc _).alloc _
  have HP0 := Lib.hid (par_new w c0 c1 c2 c3 c4 c5 k1 k2)
  have cP := fun W (hk' : Kept (fun _ => False) w W) => place_bad s k W hs (hT.kept hk' id id) h1
  clear hT hA h1
  go_enter Tryz.func21, Tryz.ntmps21
  go_wp2_with (first
    | (go_at_call 39; refine (cP _ HK0.out).mono ?_; rintro e w1 ⟨⟨E, rfl, hE⟩, hk1⟩; have bE : (E != 0) = true := (by simpa using hE); have HX1 : Hid (Kept (fun _ => False) w1 (w1.alloc (.cells #[.int .i64 0, .int .i64 0] 24))) := (Kept.refl (fun _ => False) w1).alloc _; have HKA := Lib.hid (HK0.out.trans (hk1.trans HX1.out)); have HPA := Lib.hid ((HP0.out.kept hk1).kept HX1.out); obtain ⟨a0, a1, a2, a3, a4, a5, a6, a7⟩ := HPA.out.facts; clear hk1))
  go_ret
  exact ⟨rfl, HKA.out⟩
set_option maxHeartbeats 2000000 in
theorem pmn2 (s : ByteArray) (k c0 c1 c2 c3 c4 c5 k1 k2 : Int) (A : Option Addr) (n c : Nat) (M : List (List Int)) (w : World) (hs : s.size ≤ 140737488351232) (hT : Tabs w) (hA : Rws w A n 2 M) (hn : n ≤ 100000) (h1 : mayB s = true ∧ 0 ≤ k ∧ k ≤ ((rs s).length : Int)) (h2 : ¬ Rw.Oper c2) :
    Calls Tryz.prog 21 #[.string s, .int .i64 k, cmdV c0 c1 c2 c3 c4 c5, sekV k1 k2, .slice A n c] w fun e w' => e = .returned (.bool false) ∧ Kept (fun _ => False) w w' := by
  have HK0 : Hid (Kept (fun _ => False) w ((w.alloc (cmdO c0 c1 c2 c3 c4 c5)).alloc (sekO k1 k2))) := ((Kept.refl _ w).alloc _).alloc _
  have HP0 := Lib.hid (par_new w c0 c1 c2 c3 c4 c5 k1 k2)
  obtain ⟨hm, hk0, hk1⟩ := h1
  obtain ⟨k, rfl⟩ := Int.eq_ofNat_of_zero_le hk0
  have cP := fun W (hk' : Kept (fun _ => False) w W) => place_yes s k W (hT.kept hk' id id) hm (by omega)
  generalize Rw.nl (rs s) k = p0 at *
  generalize k - Rw.beg (rs s) k = p1 at *
  have cO := fun W => isoper_f h2 W
  clear hT hA hm h2
  go_enter Tryz.func21, Tryz.ntmps21
  go_wp2_with (first
    | (go_at_call 39; refine (cP _ HK0.out).mono ?_; rintro e w1 ⟨rfl, hk1⟩; have HX1 : Hid (Kept (fun _ => False) w1 (w1.alloc (.cells #[.int .i64 p0, .int .i64 p1] 24))) := (Kept.refl (fun _ => False) w1).alloc _; have HKA := Lib.hid (HK0.out.trans (hk1.trans HX1.out)); have HPA := Lib.hid ((HP0.out.kept hk1).kept HX1.out); obtain ⟨a0, a1, a2, a3, a4, a5, a6, a7⟩ := HPA.out.facts; clear hk1)
    | (go_at_call 40; refine (cO _).mono ?_; rintro e w' ⟨rfl, hw⟩; have hw2 := hw.symm; subst hw2))
  go_ret
  exact ⟨rfl, HKA.out⟩
set_option maxHeartbeats 2000000 in
theorem pmn3 (s : ByteArray) (k c0 c1 c2 c3 c4 c5 k1 k2 : Int) (A : Option Addr) (n c : Nat) (M : List (List Int)) (w : World) (hs : s.size ≤ 140737488351232) (hT : Tabs w) (hA : Rws w A n 2 M) (hn : n ≤ 100000) (h1 : mayB s = true ∧ 0 ≤ k ∧ k ≤ ((rs s).length : Int))(h2 : Rw.Oper c2) (h3 : ¬ (0 ≤ c1 ∧ c1 ≤ 999)) :
    Calls Tryz.prog 21 #[.string s, .int .i64 k, cmdV c0 c1 c2 c3 c4 c5, sekV k1 k2, .slice A n c] w fun e w' => e = .returned (.bool false) ∧ Kept (fun _ => False) w w' := by
  have HK0 : Hid (Kept (fun _ => False) w ((w.alloc (cmdO c0 c1 c2 c3 c4 c5)).alloc (sekO k1 k2))) := ((Kept.refl _ w).alloc _).alloc _
  have HP0 := Lib.hid (par_new w c0 c1 c2 c3 c4 c5 k1 k2)
  obtain ⟨hm, hk0, hk1⟩ := h1
  obtain ⟨k, rfl⟩ := Int.eq_ofNat_of_zero_le hk0
  have cP := fun W (hk' : Kept (fun _ => False) w W) => place_yes s k W (hT.kept hk' id id) hm (by omega)
  generalize Rw.nl (rs s) k = p0 at *
  generalize k - Rw.beg (rs s) k = p1 at *
  have cO := fun W => isoper_t h2 W
  clear hT hA hm h2
  by_cases h0 : c1 < 0
  · have b1 : decide (c1 < 0) = true := decide_eq_true h0
    clear h3 h0
    go_enter Tryz.func21, Tryz.ntmps21
    go_wp2_with (first
      | (go_at_call 39; refine (cP _ HK0.out).mono ?_; rintro e w1 ⟨rfl, hk1⟩; have HX1 : Hid (Kept (fun _ => False) w1 (w1.alloc (.cells #[.int .i64 p0, .int .i64 p1] 24))) := (Kept.refl (fun _ => False) w1).alloc _; have HKA := Lib.hid (HK0.out.trans (hk1.trans HX1.out)); have HPA := Lib.hid ((HP0.out.kept hk1).kept HX1.out); obtain ⟨a0, a1, a2, a3, a4, a5, a6, a7⟩ := HPA.out.facts; clear hk1)
      | (go_at_call 40; refine (cO _).mono ?_; rintro e w' ⟨rfl, hw⟩; have hw2 := hw.symm; subst hw2))
    go_ret
    exact ⟨rfl, HKA.out⟩
  · have b1 : decide (c1 < 0) = false := decide_eq_false h0
    have b2 : decide (999 < c1) = true := decide_eq_true (by omega)
    clear h3 h0
    go_enter Tryz.func21, Tryz.ntmps21
    go_wp2_with (first
      | (go_at_call 39; refine (cP _ HK0.out).mono ?_; rintro e w1 ⟨rfl, hk1⟩; have HX1 : Hid (Kept (fun _ => False) w1 (w1.alloc (.cells #[.int .i64 p0, .int .i64 p1] 24))) := (Kept.refl (fun _ => False) w1).alloc _; have HKA := Lib.hid (HK0.out.trans (hk1.trans HX1.out)); have HPA := Lib.hid ((HP0.out.kept hk1).kept HX1.out); obtain ⟨a0, a1, a2, a3, a4, a5, a6, a7⟩ := HPA.out.facts; clear hk1)
      | (go_at_call 40; refine (cO _).mono ?_; rintro e w' ⟨rfl, hw⟩; have hw2 := hw.symm; subst hw2))
    go_ret
    exact ⟨rfl, HKA.out⟩
set_option maxHeartbeats 2000000 in
theorem pmn4 (s : ByteArray) (k c0 c1 c2 c3 c4 c5 k1 k2 : Int) (A : Option Addr) (n c : Nat) (M : List (List Int)) (w : World) (hs : s.size ≤ 140737488351232) (hT : Tabs w) (hA : Rws w A n 2 M) (hn : n ≤ 100000) (h1 : mayB s = true ∧ 0 ≤ k ∧ k ≤ ((rs s).length : Int))(h2 : Rw.Oper c2)(h3 : 0 ≤ c1 ∧ c1 ≤ 999) (h4 : ¬ (k1 = 0 ∨ Rw.Seek k1)) :
    Calls Tryz.prog 21 #[.string s, .int .i64 k, cmdV c0 c1 c2 c3 c4 c5, sekV k1 k2, .slice A n c] w fun e w' => e = .returned (.bool false) ∧ Kept (fun _ => False) w w' := by
  have HK0 : Hid (Kept (fun _ => False) w ((w.alloc (cmdO c0 c1 c2 c3 c4 c5)).alloc (sekO k1 k2))) := ((Kept.refl _ w).alloc _).alloc _
  have HP0 := Lib.hid (par_new w c0 c1 c2 c3 c4 c5 k1 k2)
  obtain ⟨hm, hk0, hk1⟩ := h1
  obtain ⟨k, rfl⟩ := Int.eq_ofNat_of_zero_le hk0
  have cP := fun W (hk' : Kept (fun _ => False) w W) => place_yes s k W (hT.kept hk' id id) hm (by omega)
  generalize Rw.nl (rs s) k = p0 at *
  generalize k - Rw.beg (rs s) k = p1 at *
  have cO := fun W => isoper_t h2 W
  have b1 : decide (c1 < 0) = false := decide_eq_false (by omega)
  have b2 : decide (999 < c1) = false := decide_eq_false (by omega)
  have hns : ¬ Rw.Seek k1 := fun h => h4 (.inr h)
  have d1 : (k1 == 0) = false := beq_eq_false_iff_ne.2 (fun h => h4 (.inl h))
  have d2 : (k1 != 0) = true := by simpa using fun h => h4 (.inl h)
  have cT : ∀ W, Calls Tryz.prog 41 #[.int .i64 k1] W fun e w' => e = .returned (.tuple #[.int .i64 0, .int .i64 1]) ∧ w' = W := fun W => (Sk.turned_any k1 W).mono fun e w' ⟨⟨x, y, he, h1, _⟩, hw⟩ => ⟨by rw [he, (h1 hns).1, (h1 hns).2], hw⟩
  clear hT hA hm h2 h3 h4 hns
  go_enter Tryz.func21, Tryz.ntmps21
  go_wp2_with (first
    | (go_at_call 39; refine (cP _ HK0.out).mono ?_; rintro e w1 ⟨rfl, hk1⟩; have HX1 : Hid (Kept (fun _ => False) w1 (w1.alloc (.cells #[.int .i64 p0, .int .i64 p1] 24))) := (Kept.refl (fun _ => False) w1).alloc _; have HKA := Lib.hid (HK0.out.trans (hk1.trans HX1.out)); have HPA := Lib.hid ((HP0.out.kept hk1).kept HX1.out); obtain ⟨a0, a1, a2, a3, a4, a5, a6, a7⟩ := HPA.out.facts; clear hk1)
    | (go_at_call 40; refine (cO _).mono ?_; rintro e w' ⟨rfl, hw⟩; have hw2 := hw.symm; subst hw2)
    | (go_at_call 41; refine (cT _).mono ?_; rintro e w' ⟨rfl, hw⟩; have hw2 := hw.symm; subst hw2))
  go_ret
  exact ⟨rfl, HKA.out⟩
set_option maxHeartbeats 2000000 in
theorem pmn5 (s : ByteArray) (k c0 c1 c2 c3 c4 c5 k1 k2 : Int) (A : Option Addr) (n c : Nat) (M : List (List Int)) (w : World) (hs : s.size ≤ 140737488351232) (hT : Tabs w) (hA : Rws w A n 2 M) (hn : n ≤ 100000) (h1 : mayB s = true ∧ 0 ≤ k ∧ k ≤ ((rs s).length : Int))(h2 : Rw.Oper c2)(h3 : 0 ≤ c1 ∧ c1 ≤ 999)(h4 : k1 = 0 ∨ Rw.Seek k1) (h5 : ¬ Rw.mOk M) :
    Calls Tryz.prog 21 #[.string s, .int .i64 k, cmdV c0 c1 c2 c3 c4 c5, sekV k1 k2, .slice A n c] w fun e w' => e = .returned (.bool false) ∧ Kept (fun _ => False) w w' := by
  have HK0 : Hid (Kept (fun _ => False) w ((w.alloc (cmdO c0 c1 c2 c3 c4 c5)).alloc (sekO k1 k2))) := ((Kept.refl _ w).alloc _).alloc _
  have HP0 := Lib.hid (par_new w c0 c1 c2 c3 c4 c5 k1 k2)
  obtain ⟨hm, hk0, hk1⟩ := h1
  obtain ⟨k, rfl⟩ := Int.eq_ofNat_of_zero_le hk0
  have cP := fun W (hk' : Kept (fun _ => False) w W) => place_yes s k W (hT.kept hk' id id) hm (by omega)
  generalize Rw.nl (rs s) k = p0 at *
  generalize k - Rw.beg (rs s) k = p1 at *
  have cO := fun W => isoper_t h2 W
  have b1 : decide (c1 < 0) = false := decide_eq_false (by omega)
  have b2 : decide (999 < c1) = false := decide_eq_false (by omega)
  have hx' : ∃ U V : Int, (∀ W, Calls Tryz.prog 41 #[.int .i64 k1] W fun e w' => e = .returned (.tuple #[.int .i64 U, .int .i64 V]) ∧ w' = W) ∧ (((k1 == 0) = true ∧ (k1 != 0) = false) ∨ ((k1 == 0) = false ∧ (k1 != 0) = true ∧ V = 0)) := by
    by_cases h0 : Rw.Seek k1
    · exact ⟨_, _, fun W => turned_yes h0 W, .inr ⟨by simp; unfold Rw.Seek at h0; omega, by simp; unfold Rw.Seek at h0; omega, rfl⟩⟩
    · obtain rfl := h4.resolve_right h0
      exact ⟨_, _, fun W => (Sk.turned_any 0 W).mono fun e w' ⟨⟨x, y, he, h1, _⟩, hw⟩ => ⟨by rw [he, (h1 h0).1, (h1 h0).2], hw⟩, .inl ⟨rfl, rfl⟩⟩
  obtain ⟨U, V, cT, hx'⟩ := hx'
  have cC := fun W (hk' : Kept (fun _ => False) w W) => pcheck_any A n c M W (hA.kept hk' (fun _ _ => id)) hn
  have HNO := Lib.hid h5
  clear hT hA hm h2 h3 h4 h5
  rcases hx' with ⟨d1, d2⟩ | ⟨d1, d2, rfl⟩
  all_goals
    go_enter Tryz.func21, Tryz.ntmps21
    go_wp2_with (first
      | (go_at_call 39; refine (cP _ HK0.out).mono ?_; rintro e w1 ⟨rfl, hk1⟩; have HX1 : Hid (Kept (fun _ => False) w1 (w1.alloc (.cells #[.int .i64 p0, .int .i64 p1] 24))) := (Kept.refl (fun _ => False) w1).alloc _; have HKA := Lib.hid (HK0.out.trans (hk1.trans HX1.out)); have HPA := Lib.hid ((HP0.out.kept hk1).kept HX1.out); obtain ⟨a0, a1, a2, a3, a4, a5, a6, a7⟩ := HPA.out.facts; clear hk1)
      | (go_at_call 40; refine (cO _).mono ?_; rintro e w' ⟨rfl, hw⟩; have hw2 := hw.symm; subst hw2)
      | (go_at_call 41; refine (cT _).mono ?_; rintro e w' ⟨rfl, hw⟩; have hw2 := hw.symm; subst hw2)
      | (go_at_call 42; refine (cC _ HKA.out).mono ?_; rintro e w2 ⟨⟨E, rfl, hE1, hE⟩, hk2⟩; obtain rfl : E = 1 := hE1.resolve_left (fun e => HNO.out (hE.1 e)); have HKB := Lib.hid (HKA.out.trans hk2); obtain ⟨r0, r1, r2, r3, r4, r5, r6, r7⟩ := (HPA.out.kept hk2).facts; clear hk2 hE hE1))
    go_ret
    exact ⟨rfl, HKB.out⟩
set_option maxHeartbeats 2000000 in
theorem pmn6 (s : ByteArray) (k c0 c1 c2 c3 c4 c5 k1 k2 : Int) (A : Option Addr) (n c : Nat) (M : List (List Int)) (w : World) (hs : s.size ≤ 140737488351232) (hT : Tabs w) (hA : Rws w A n 2 M) (hn : n ≤ 100000) (h1 : mayB s = true ∧ 0 ≤ k ∧ k ≤ ((rs s).length : Int))(h2 : Rw.Oper c2)(h3 : 0 ≤ c1 ∧ c1 ≤ 999)(h4 : k1 = 0 ∨ Rw.Seek k1)(h5 : Rw.mOk M) (h6 : ¬ Rw.ofMay c2 c4 c3) :
    Calls Tryz.prog 21 #[.string s, .int .i64 k, cmdV c0 c1 c2 c3 c4 c5, sekV k1 k2, .slice A n c] w fun e w' => e = .returned (.bool false) ∧ Kept (fun _ => False) w w' := by
  have HK0 : Hid (Kept (fun _ => False) w ((w.alloc (cmdO c0 c1 c2 c3 c4 c5)).alloc (sekO k1 k2))) := ((Kept.refl _ w).alloc _).alloc _
  have HP0 := Lib.hid (par_new w c0 c1 c2 c3 c4 c5 k1 k2)
  obtain ⟨hm, hk0, hk1⟩ := h1
  obtain ⟨k, rfl⟩ := Int.eq_ofNat_of_zero_le hk0
  have cP := fun W (hk' : Kept (fun _ => False) w W) => place_yes s k W (hT.kept hk' id id) hm (by omega)
  generalize Rw.nl (rs s) k = p0 at *
  generalize k - Rw.beg (rs s) k = p1 at *
  have cO := fun W => isoper_t h2 W
  have b1 : decide (c1 < 0) = false := decide_eq_false (by omega)
  have b2 : decide (999 < c1) = false := decide_eq_false (by omega)
  have hx' : ∃ U V : Int, (∀ W, Calls Tryz.prog 41 #[.int .i64 k1] W fun e w' => e = .returned (.tuple #[.int .i64 U, .int .i64 V]) ∧ w' = W) ∧ (((k1 == 0) = true ∧ (k1 != 0) = false) ∨ ((k1 == 0) = false ∧ (k1 != 0) = true ∧ V = 0)) := by
    by_cases h0 : Rw.Seek k1
    · exact ⟨_, _, fun W => turned_yes h0 W, .inr ⟨by simp; unfold Rw.Seek at h0; omega, by simp; unfold Rw.Seek at h0; omega, rfl⟩⟩
    · obtain rfl := h4.resolve_right h0
      exact ⟨_, _, fun W => (Sk.turned_any 0 W).mono fun e w' ⟨⟨x, y, he, h1, _⟩, hw⟩ => ⟨by rw [he, (h1 h0).1, (h1 h0).2], hw⟩, .inl ⟨rfl, rfl⟩⟩
  obtain ⟨U, V, cT, hx'⟩ := hx'
  have cC := fun W (hk' : Kept (fun _ => False) w W) => pcheck_any A n c M W (hA.kept hk' (fun _ _ => id)) hn
  have cI := fun W => mvis_any c3 W
  have HO := Lib.hid h5
  unfold Rw.ofMay at h6
  simp only [not_or, not_and] at h6
  obtain ⟨q1, q2, h6⟩ := h6
  have q1 : (c4 == 105) = false := beq_eq_false_iff_ne.2 q1
  have q2 : (c4 == 97) = false := beq_eq_false_iff_ne.2 q2
  have hq : ((c4 == 0) = false) ∨ ((c4 == 0) = true ∧ (c3 == c2) = false ∧ (Rw.kin c3 != 0) = false) := by
    by_cases h0 : c4 = 0
    · obtain ⟨h7, h8⟩ := h6 h0
      exact .inr ⟨by simpa using h0, beq_eq_false_iff_ne.2 h7, by simpa using h8⟩
    · exact .inl (beq_eq_false_iff_ne.2 h0)
  generalize Rw.kin c3 = K3 at *
  clear hT hA hm h2 h3 h4 h5 h6
  rcases hx' with ⟨d1, d2⟩ | ⟨d1, d2, rfl⟩
  all_goals
    rcases hq with q3 | ⟨q3, q4, q5⟩
    all_goals
      go_enter Tryz.func21, Tryz.ntmps21
      go_wp2_with (first
        | (go_at_call 39; refine (cP _ HK0.out).mono ?_; rintro e w1 ⟨rfl, hk1⟩; have HX1 : Hid (Kept (fun _ => False) w1 (w1.alloc (.cells #[.int .i64 p0, .int .i64 p1] 24))) := (Kept.refl (fun _ => False) w1).alloc _; have HKA := Lib.hid (HK0.out.trans (hk1.trans HX1.out)); have HPA := Lib.hid ((HP0.out.kept hk1).kept HX1.out); obtain ⟨a0, a1, a2, a3, a4, a5, a6, a7⟩ := HPA.out.facts; clear hk1)
        | (go_at_call 40; refine (cO _).mono ?_; rintro e w' ⟨rfl, hw⟩; have hw2 := hw.symm; subst hw2)
        | (go_at_call 41; refine (cT _).mono ?_; rintro e w' ⟨rfl, hw⟩; have hw2 := hw.symm; subst hw2)
        | (go_at_call 42; refine (cC _ HKA.out).mono ?_; rintro e w2 ⟨⟨E, rfl, _, hE⟩, hk2⟩; obtain rfl : E = 0 := hE.2 HO.out; have HKB := Lib.hid (HKA.out.trans hk2); obtain ⟨r0, r1, r2, r3, r4, r5, r6, r7⟩ := (HPA.out.kept hk2).facts; clear hk2 hE)
        | (go_at_call 43; refine (cI _).mono ?_; rintro e w' ⟨rfl, hw⟩; have hw2 := hw.symm; subst hw2))
      go_ret
      exact ⟨rfl, HKB.out⟩
theorem pmay_f (s : ByteArray) (k c0 c1 c2 c3 c4 c5 k1 k2 : Int) (A : Option Addr) (n c : Nat) (M : List (List Int)) (w : World) (hs : s.size ≤ 140737488351232) (hT : Tabs w) (hA : Rws w A n 2 M) (hn : n ≤ 100000) (h : ¬ MayG s k c1 c2 c3 c4 k1 M) :
    Calls Tryz.prog 21 #[.string s, .int .i64 k, cmdV c0 c1 c2 c3 c4 c5, sekV k1 k2, .slice A n c] w fun e w' => e = .returned (.bool false) ∧ Kept (fun _ => False) w w' := by
  by_cases h1 : mayB s = true ∧ 0 ≤ k ∧ k ≤ ((rs s).length : Int)
  case neg => exact pmn1 s k c0 c1 c2 c3 c4 c5 k1 k2 A n c M w hs hT hA hn h1
  by_cases h2 : Rw.Oper c2
  case neg => exact pmn2 s k c0 c1 c2 c3 c4 c5 k1 k2 A n c M w hs hT hA hn h1 h2
  by_cases h3 : 0 ≤ c1 ∧ c1 ≤ 999
  case neg => exact pmn3 s k c0 c1 c2 c3 c4 c5 k1 k2 A n c M w hs hT hA hn h1 h2 h3
  by_cases h4 : k1 = 0 ∨ Rw.Seek k1
  case neg => exact pmn4 s k c0 c1 c2 c3 c4 c5 k1 k2 A n c M w hs hT hA hn h1 h2 h3 h4
  by_cases h5 : Rw.mOk M
  case neg => exact pmn5 s k c0 c1 c2 c3 c4 c5 k1 k2 A n c M w hs hT hA hn h1 h2 h3 h4 h5
  exact pmn6 s k c0 c1 c2 c3 c4 c5 k1 k2 A n c M w hs hT hA hn h1 h2 h3 h4 h5 (fun h6 => h ⟨h1, h2, h3, h4, h5, h6⟩)
end Go.Proofs.YtbofjefblhnkoaaGreatDoor
set_option linter.unusedVariables false
set_option maxRecDepth 100000
namespace Go.Proofs.YtbofjefblhnkoaaGreatDoor
open Go Go.RowKit Pk

set_option maxHeartbeats 4000000 in
theorem pof_wide (s : ByteArray) (k m : Nat) (c0 c2 c3 c4 c5 k1 k2 : Int) (A : Option Addr) (n c : Nat) (lo hi : Int) (ln : Bool) (er : Int) (w : World) (cM : ∀ W, Kept (fun _ => False) w W → Calls Tryz.prog 21 #[.string s, .int .i64 k, cmdV c0 m c2 c3 c4 c5, sekV k1 k2, .slice A n c] W fun e w' => e = .returned (.bool true) ∧ Kept (fun _ => False) W w') (hc : m ≤ 999) (hw : c4 ≠ 0) (cX : ∀ W, Kept (fun _ => False) w W → Calls Tryz.prog 22 #[.string s, .int .i64 k, .int .i64 c4, .int .i64 c3, .int .i64 (Rw.times m : Nat)] W fun e w' => e = .returned (.tuple #[rngV lo hi ln, .int .i64 er]) ∧ Kept (fun _ => False) W w') :
    Calls Tryz.prog 8 #[.string s, .int .i64 k, cmdV c0 m c2 c3 c4 c5, sekV k1 k2, .slice A n c] w fun e w' => e = .returned (if er = 0 then .tuple #[rngV lo hi ln, sekV k1 k2, .int .i64 0] else .tuple #[rngV 0 0 false, sekV 0 0, .int .i64 er]) ∧ Kept (fun _ => False) w w' := by
  have b0 : (c4 == 0) = false := beq_eq_false_iff_ne.2 hw
  have b0' : (c4 != 0) = true := by simpa using hw
  clear hw
  have hq : max (m : Int) 1 = ((Rw.times m : Nat) : Int) := by unfold Rw.times; omega
  generalize Rw.times m = q at *
  have HK0 : Hid (Kept (fun _ => False) w ((((w.alloc (cmdO c0 m c2 c3 c4 c5)).alloc (sekO k1 k2)).alloc (rngO 0 0 false)).alloc (sekO 0 0))) := ((((Kept.refl _ w).alloc _).alloc _).alloc _).alloc _
  have HF0 := Lib.hid (fourR_new w c0 m c2 c3 c4 c5 k1 k2)
  by_cases her : er = 0
  · rw [if_pos her]
    subst her
    obtain ⟨B, hB⟩ : ∃ B, w.heap.size = B := ⟨_, rfl⟩
    go_enter Tryz.func8, Tryz.ntmps8
    go_upto_region 1 with fail
    have HBW := Lib.hid hB
    simp only [hB] at HF0 ⊢
    clear hB
    generalize (((w.alloc (cmdO c0 m c2 c3 c4 c5)).alloc (sekO k1 k2)).alloc (rngO 0 0 false)).alloc (sekO 0 0) = W0 at *
    obtain ⟨a0, a1, a2, a3, a4, a5, a6, a7⟩ := HF0.out.cmd
    go_upto_region 4 with (go_at_call 21; refine (cM _ HK0.out).mono ?_; rintro e w1 ⟨rfl, hk1⟩; have HK1 := Lib.hid (HK0.out.trans hk1); have HF1 := Lib.hid (HF0.out.kept hk1); obtain ⟨d0, d1, d2, d3, d4, d5, d6, d7⟩ := HF1.out.cmd; clear hk1 a0 a1 a2 a3 a4 a5 a6 a7)
    obtain ⟨x1, x2, x3, x4⟩ := two_facts HF1.out.d
    go_upto_region 10 with fail
    have HF2 := Lib.hid (HF1.out.setX k1 k2)
    have HK2 := Lib.hid (HK1.out.fresh (Kept.pair (Kept.refl (fun q => q = B + 1 + 1 + 1) w1) rfl (.int .i64 k1) (.int .i64 k2)) (fun q hq e => by have := HBW.out; omega))
    clear x1 x2 x3 x4 d0 d1 d2 d3 d4 d5 d6 d7
    generalize (w1.setCell ⟨B + 1 + 1 + 1, 0, none⟩ (.int .i64 k1)).setCell ⟨B + 1 + 1 + 1, 1, none⟩ (.int .i64 k2) = W2 at *
    obtain ⟨a0, a1, a2, a3, a4, a5, a6, a7⟩ := HF2.out.cmd
    go_upto_region 13 with (go_at_call 22; refine (cX _ HK2.out).mono ?_; rintro e w6 ⟨rfl, hk6⟩; have HK6 := Lib.hid (HK2.out.trans hk6); have HF6 := Lib.hid (HF2.out.kept hk6); obtain ⟨⟨g0, g1, g2⟩, ⟨f0, f1, f2⟩⟩ := HF6.out.rng; clear hk6 a0 a1 a2 a3 a4 a5 a6 a7)
    have HF7 := Lib.hid (HF6.out.setR lo hi ln)
    have HK7 := Lib.hid (HK6.out.fresh (Kept.three (Kept.refl (fun q => q = B + 1 + 1) w6) rfl (.int .i64 lo) (.int .i64 hi) (.bool ln)) (fun q hq e => by have := HBW.out; omega))
    clear g0 g1 g2 f0 f1 f2
    generalize ((w6.setCell ⟨B + 1 + 1, 0, none⟩ (.int .i64 lo)).setCell ⟨B + 1 + 1, 1, none⟩ (.int .i64 hi)).setCell ⟨B + 1 + 1, 2, none⟩ (.bool ln) = W7 at *
    go_upto_region 15 with fail
    obtain ⟨⟨g0, g1, g2⟩, ⟨f0, f1, f2⟩⟩ := HF7.out.rng
    obtain ⟨x1, x2, x3, x4⟩ := two_facts HF7.out.d
    go_region
    all_goals
      try go_wp2
      have FF := (((HF7.out.setR lo hi ln).setX k1 k2).kept ((Kept.refl (fun _ => False) _).drew))
      have KK := (Kept.pair (g := B + 1 + 1 + 1) (Kept.three (g := B + 1 + 1) (Kept.refl (fun q => q = B + 1 + 1 ∨ q = B + 1 + 1 + 1) W7) (.inl rfl) (.int .i64 lo) (.int .i64 hi) (.bool ln)) (.inr rfl) (.int .i64 k1) (.int .i64 k2)).drew
      refine bodyPost_ret (res_of rfl _ _ (B + 1 + 1) (B + 1 + 1 + 1) lo hi ln k1 k2 rfl rfl ?_ ?_) rfl ⟨rfl, ?_⟩
      · exact FF.c
      · exact FF.d
      · exact HK7.out.fresh KK (fun q hq e => by have := HBW.out; omega)
  · rw [if_neg her]
    have bE : (er == 0) = false := beq_eq_false_iff_ne.2 her
    have bE' : (er != 0) = true := by simpa using her
    clear her
    obtain ⟨B, hB⟩ : ∃ B, w.heap.size = B := ⟨_, rfl⟩
    go_enter Tryz.func8, Tryz.ntmps8
    go_upto_region 1 with fail
    have HBW := Lib.hid hB
    simp only [hB] at HF0 ⊢
    clear hB
    generalize (((w.alloc (cmdO c0 m c2 c3 c4 c5)).alloc (sekO k1 k2)).alloc (rngO 0 0 false)).alloc (sekO 0 0) = W0 at *
    obtain ⟨a0, a1, a2, a3, a4, a5, a6, a7⟩ := HF0.out.cmd
    go_upto_region 4 with (go_at_call 21; refine (cM _ HK0.out).mono ?_; rintro e w1 ⟨rfl, hk1⟩; have HK1 := Lib.hid (HK0.out.trans hk1); have HF1 := Lib.hid (HF0.out.kept hk1); obtain ⟨d0, d1, d2, d3, d4, d5, d6, d7⟩ := HF1.out.cmd; clear hk1 a0 a1 a2 a3 a4 a5 a6 a7)
    obtain ⟨x1, x2, x3, x4⟩ := two_facts HF1.out.d
    go_upto_region 10 with fail
    have HF2 := Lib.hid (HF1.out.setX k1 k2)
    have HK2 := Lib.hid (HK1.out.fresh (Kept.pair (Kept.refl (fun q => q = B + 1 + 1 + 1) w1) rfl (.int .i64 k1) (.int .i64 k2)) (fun q hq e => by have := HBW.out; omega))
    clear x1 x2 x3 x4 d0 d1 d2 d3 d4 d5 d6 d7
    generalize (w1.setCell ⟨B + 1 + 1 + 1, 0, none⟩ (.int .i64 k1)).setCell ⟨B + 1 + 1 + 1, 1, none⟩ (.int .i64 k2) = W2 at *
    obtain ⟨a0, a1, a2, a3, a4, a5, a6, a7⟩ := HF2.out.cmd
    go_upto_region 13 with (go_at_call 22; refine (cX _ HK2.out).mono ?_; rintro e w6 ⟨rfl, hk6⟩; have HK6 := Lib.hid (HK2.out.trans hk6); have HF6 := Lib.hid (HF2.out.kept hk6); obtain ⟨⟨g0, g1, g2⟩, ⟨f0, f1, f2⟩⟩ := HF6.out.rng; clear hk6 a0 a1 a2 a3 a4 a5 a6 a7)
    have HF7 := Lib.hid (HF6.out.setR lo hi ln)
    have HK7 := Lib.hid (HK6.out.fresh (Kept.three (Kept.refl (fun q => q = B + 1 + 1) w6) rfl (.int .i64 lo) (.int .i64 hi) (.bool ln)) (fun q hq e => by have := HBW.out; omega))
    clear g0 g1 g2 f0 f1 f2
    generalize ((w6.setCell ⟨B + 1 + 1, 0, none⟩ (.int .i64 lo)).setCell ⟨B + 1 + 1, 1, none⟩ (.int .i64 hi)).setCell ⟨B + 1 + 1, 2, none⟩ (.bool ln) = W7 at *
    obtain ⟨⟨g0, g1, g2⟩, ⟨f0, f1, f2⟩⟩ := HF7.out.rng
    obtain ⟨x1, x2, x3, x4⟩ := two_facts HF7.out.d
    go_wp2_with fail
    have FF := ((HF7.out.setR 0 0 false).setX 0 0)
    have KK := (Kept.pair (g := B + 1 + 1 + 1) (Kept.three (g := B + 1 + 1) (Kept.refl (fun q => q = B + 1 + 1 ∨ q = B + 1 + 1 + 1) W7) (.inl rfl) (.int .i64 0) (.int .i64 0) (.bool false)) (.inr rfl) (.int .i64 0) (.int .i64 0))
    refine bodyPost_ret (res_of rfl _ _ (B + 1 + 1) (B + 1 + 1 + 1) 0 0 false 0 0 rfl rfl ?_ ?_) rfl ⟨rfl, ?_⟩
    · exact FF.c
    · exact FF.d
    · exact HK7.out.fresh KK (fun q hq e => by have := HBW.out; omega)
set_option maxHeartbeats 4000000 in
theorem pof_rows (s : ByteArray) (k m : Nat) (c0 c2 c3 c4 c5 k1 k2 : Int) (A : Option Addr) (n c : Nat) (lo hi : Int) (ln : Bool) (er : Int) (w : World) (cM : ∀ W, Kept (fun _ => False) w W → Calls Tryz.prog 21 #[.string s, .int .i64 k, cmdV c0 m c2 c3 c4 c5, sekV k1 k2, .slice A n c] W fun e w' => e = .returned (.bool true) ∧ Kept (fun _ => False) W w') (hc : m ≤ 999) (hw : c4 = 0) (hw2 : c3 = c2) (cX : ∀ W, Kept (fun _ => False) w W → Calls Tryz.prog 23 #[.string s, .int .i64 k, .int .i64 (Rw.times m : Nat)] W fun e w' => e = .returned (.tuple #[rngV lo hi ln, .int .i64 er]) ∧ Kept (fun _ => False) W w') :
    Calls Tryz.prog 8 #[.string s, .int .i64 k, cmdV c0 m c2 c3 c4 c5, sekV k1 k2, .slice A n c] w fun e w' => e = .returned (if er = 0 then .tuple #[rngV lo hi ln, sekV k1 k2, .int .i64 0] else .tuple #[rngV 0 0 false, sekV 0 0, .int .i64 er]) ∧ Kept (fun _ => False) w w' := by
  subst hw hw2
  have hq : max (m : Int) 1 = ((Rw.times m : Nat) : Int) := by unfold Rw.times; omega
  generalize Rw.times m = q at *
  have HK0 : Hid (Kept (fun _ => False) w ((((w.alloc (cmdO c0 m c3 c3 0 c5)).alloc (sekO k1 k2)).alloc (rngO 0 0 false)).alloc (sekO 0 0))) := ((((Kept.refl _ w).alloc _).alloc _).alloc _).alloc _
  have HF0 := Lib.hid (fourR_new w c0 m c3 c3 0 c5 k1 k2)
  by_cases her : er = 0
  · rw [if_pos her]
    subst her
    obtain ⟨B, hB⟩ : ∃ B, w.heap.size = B := ⟨_, rfl⟩
    go_enter Tryz.func8, Tryz.ntmps8
    go_upto_region 1 with fail
    have HBW := Lib.hid hB
    simp only [hB] at HF0 ⊢
    clear hB
    generalize (((w.alloc (cmdO c0 m c3 c3 0 c5)).alloc (sekO k1 k2)).alloc (rngO 0 0 false)).alloc (sekO 0 0) = W0 at *
    obtain ⟨a0, a1, a2, a3, a4, a5, a6, a7⟩ := HF0.out.cmd
    go_upto_region 4 with (go_at_call 21; refine (cM _ HK0.out).mono ?_; rintro e w1 ⟨rfl, hk1⟩; have HK1 := Lib.hid (HK0.out.trans hk1); have HF1 := Lib.hid (HF0.out.kept hk1); obtain ⟨d0, d1, d2, d3, d4, d5, d6, d7⟩ := HF1.out.cmd; clear hk1 a0 a1 a2 a3 a4 a5 a6 a7)
    obtain ⟨x1, x2, x3, x4⟩ := two_facts HF1.out.d
    go_upto_region 12 with fail
    have HF2 := Lib.hid (HF1.out.setX k1 k2)
    have HK2 := Lib.hid (HK1.out.fresh (Kept.pair (Kept.refl (fun q => q = B + 1 + 1 + 1) w1) rfl (.int .i64 k1) (.int .i64 k2)) (fun q hq e => by have := HBW.out; omega))
    clear x1 x2 x3 x4 d0 d1 d2 d3 d4 d5 d6 d7
    generalize (w1.setCell ⟨B + 1 + 1 + 1, 0, none⟩ (.int .i64 k1)).setCell ⟨B + 1 + 1 + 1, 1, none⟩ (.int .i64 k2) = W2 at *
    obtain ⟨a0, a1, a2, a3, a4, a5, a6, a7⟩ := HF2.out.cmd
    go_upto_region 13 with (go_at_call 23; refine (cX _ HK2.out).mono ?_; rintro e w6 ⟨rfl, hk6⟩; have HK6 := Lib.hid (HK2.out.trans hk6); have HF6 := Lib.hid (HF2.out.kept hk6); obtain ⟨⟨g0, g1, g2⟩, ⟨f0, f1, f2⟩⟩ := HF6.out.rng; clear hk6 a0 a1 a2 a3 a4 a5 a6 a7)
    have HF7 := Lib.hid (HF6.out.setR lo hi ln)
    have HK7 := Lib.hid (HK6.out.fresh (Kept.three (Kept.refl (fun q => q = B + 1 + 1) w6) rfl (.int .i64 lo) (.int .i64 hi) (.bool ln)) (fun q hq e => by have := HBW.out; omega))
    clear g0 g1 g2 f0 f1 f2
    generalize ((w6.setCell ⟨B + 1 + 1, 0, none⟩ (.int .i64 lo)).setCell ⟨B + 1 + 1, 1, none⟩ (.int .i64 hi)).setCell ⟨B + 1 + 1, 2, none⟩ (.bool ln) = W7 at *
    go_upto_region 15 with fail
    obtain ⟨⟨g0, g1, g2⟩, ⟨f0, f1, f2⟩⟩ := HF7.out.rng
    obtain ⟨x1, x2, x3, x4⟩ := two_facts HF7.out.d
    go_region
    all_goals
      try go_wp2
      have FF := (((HF7.out.setR lo hi ln).setX k1 k2).kept ((Kept.refl (fun _ => False) _).drew))
      have KK := (Kept.pair (g := B + 1 + 1 + 1) (Kept.three (g := B + 1 + 1) (Kept.refl (fun q => q = B + 1 + 1 ∨ q = B + 1 + 1 + 1) W7) (.inl rfl) (.int .i64 lo) (.int .i64 hi) (.bool ln)) (.inr rfl) (.int .i64 k1) (.int .i64 k2)).drew
      refine bodyPost_ret (res_of rfl _ _ (B + 1 + 1) (B + 1 + 1 + 1) lo hi ln k1 k2 rfl rfl ?_ ?_) rfl ⟨rfl, ?_⟩
      · exact FF.c
      · exact FF.d
      · exact HK7.out.fresh KK (fun q hq e => by have := HBW.out; omega)
  · rw [if_neg her]
    have bE : (er == 0) = false := beq_eq_false_iff_ne.2 her
    have bE' : (er != 0) = true := by simpa using her
    clear her
    obtain ⟨B, hB⟩ : ∃ B, w.heap.size = B := ⟨_, rfl⟩
    go_enter Tryz.func8, Tryz.ntmps8
    go_upto_region 1 with fail
    have HBW := Lib.hid hB
    simp only [hB] at HF0 ⊢
    clear hB
    generalize (((w.alloc (cmdO c0 m c3 c3 0 c5)).alloc (sekO k1 k2)).alloc (rngO 0 0 false)).alloc (sekO 0 0) = W0 at *
    obtain ⟨a0, a1, a2, a3, a4, a5, a6, a7⟩ := HF0.out.cmd
    go_upto_region 4 with (go_at_call 21; refine (cM _ HK0.out).mono ?_; rintro e w1 ⟨rfl, hk1⟩; have HK1 := Lib.hid (HK0.out.trans hk1); have HF1 := Lib.hid (HF0.out.kept hk1); obtain ⟨d0, d1, d2, d3, d4, d5, d6, d7⟩ := HF1.out.cmd; clear hk1 a0 a1 a2 a3 a4 a5 a6 a7)
    obtain ⟨x1, x2, x3, x4⟩ := two_facts HF1.out.d
    go_upto_region 12 with fail
    have HF2 := Lib.hid (HF1.out.setX k1 k2)
    have HK2 := Lib.hid (HK1.out.fresh (Kept.pair (Kept.refl (fun q => q = B + 1 + 1 + 1) w1) rfl (.int .i64 k1) (.int .i64 k2)) (fun q hq e => by have := HBW.out; omega))
    clear x1 x2 x3 x4 d0 d1 d2 d3 d4 d5 d6 d7
    generalize (w1.setCell ⟨B + 1 + 1 + 1, 0, none⟩ (.int .i64 k1)).setCell ⟨B + 1 + 1 + 1, 1, none⟩ (.int .i64 k2) = W2 at *
    obtain ⟨a0, a1, a2, a3, a4, a5, a6, a7⟩ := HF2.out.cmd
    go_upto_region 13 with (go_at_call 23; refine (cX _ HK2.out).mono ?_; rintro e w6 ⟨rfl, hk6⟩; have HK6 := Lib.hid (HK2.out.trans hk6); have HF6 := Lib.hid (HF2.out.kept hk6); obtain ⟨⟨g0, g1, g2⟩, ⟨f0, f1, f2⟩⟩ := HF6.out.rng; clear hk6 a0 a1 a2 a3 a4 a5 a6 a7)
    have HF7 := Lib.hid (HF6.out.setR lo hi ln)
    have HK7 := Lib.hid (HK6.out.fresh (Kept.three (Kept.refl (fun q => q = B + 1 + 1) w6) rfl (.int .i64 lo) (.int .i64 hi) (.bool ln)) (fun q hq e => by have := HBW.out; omega))
    clear g0 g1 g2 f0 f1 f2
    generalize ((w6.setCell ⟨B + 1 + 1, 0, none⟩ (.int .i64 lo)).setCell ⟨B + 1 + 1, 1, none⟩ (.int .i64 hi)).setCell ⟨B + 1 + 1, 2, none⟩ (.bool ln) = W7 at *
    obtain ⟨⟨g0, g1, g2⟩, ⟨f0, f1, f2⟩⟩ := HF7.out.rng
    obtain ⟨x1, x2, x3, x4⟩ := two_facts HF7.out.d
    go_wp2_with fail
    have FF := ((HF7.out.setR 0 0 false).setX 0 0)
    have KK := (Kept.pair (g := B + 1 + 1 + 1) (Kept.three (g := B + 1 + 1) (Kept.refl (fun q => q = B + 1 + 1 ∨ q = B + 1 + 1 + 1) W7) (.inl rfl) (.int .i64 0) (.int .i64 0) (.bool false)) (.inr rfl) (.int .i64 0) (.int .i64 0))
    refine bodyPost_ret (res_of rfl _ _ (B + 1 + 1) (B + 1 + 1 + 1) 0 0 false 0 0 rfl rfl ?_ ?_) rfl ⟨rfl, ?_⟩
    · exact FF.c
    · exact FF.d
    · exact HK7.out.fresh KK (fun q hq e => by have := HBW.out; omega)
set_option maxHeartbeats 2000000 in
theorem pof_no (s : ByteArray) (k m c0 c2 c3 c4 c5 k1 k2 : Int) (A : Option Addr) (n c : Nat) (w : World) (cM : ∀ W, Kept (fun _ => False) w W → Calls Tryz.prog 21 #[.string s, .int .i64 k, cmdV c0 m c2 c3 c4 c5, sekV k1 k2, .slice A n c] W fun e w' => e = .returned (.bool false) ∧ Kept (fun _ => False) W w') :
    Calls Tryz.prog 8 #[.string s, .int .i64 k, cmdV c0 m c2 c3 c4 c5, sekV k1 k2, .slice A n c] w fun e w' => e = .returned (.tuple #[rngV 0 0 false, sekV 0 0, .int .i64 1]) ∧ Kept (fun _ => False) w w' := by
  have HK0 : Hid (Kept (fun _ => False) w ((((w.alloc (cmdO c0 m c2 c3 c4 c5)).alloc (sekO k1 k2)).alloc (rngO 0 0 false)).alloc (sekO 0 0))) := ((((Kept.refl _ w).alloc _).alloc _).alloc _).alloc _
  have HF0 := Lib.hid (fourR_new w c0 m c2 c3 c4 c5 k1 k2)
  obtain ⟨B, hB⟩ : ∃ B, w.heap.size = B := ⟨_, rfl⟩
  go_enter Tryz.func8, Tryz.ntmps8
  go_upto_region 1 with fail
  have HBW := Lib.hid hB
  simp only [hB] at HF0 ⊢
  clear hB
  generalize (((w.alloc (cmdO c0 m c2 c3 c4 c5)).alloc (sekO k1 k2)).alloc (rngO 0 0 false)).alloc (sekO 0 0) = W0 at *
  obtain ⟨a0, a1, a2, a3, a4, a5, a6, a7⟩ := HF0.out.cmd
  go_upto_region 2 with (go_at_call 21; refine (cM _ HK0.out).mono ?_; rintro e w1 ⟨rfl, hk1⟩; have HK1 := Lib.hid (HK0.out.trans hk1); have HF1 := Lib.hid (HF0.out.kept hk1); clear hk1 a0 a1 a2 a3 a4 a5 a6 a7)
  obtain ⟨⟨g0, g1, g2⟩, ⟨f0, f1, f2⟩⟩ := HF1.out.rng
  obtain ⟨x1, x2, x3, x4⟩ := two_facts HF1.out.d
  go_wp2_with fail
  have FF := ((HF1.out.setR 0 0 false).setX 0 0)
  have KK := (Kept.pair (g := B + 1 + 1 + 1) (Kept.three (g := B + 1 + 1) (Kept.refl (fun q => q = B + 1 + 1 ∨ q = B + 1 + 1 + 1) w1) (.inl rfl) (.int .i64 0) (.int .i64 0) (.bool false)) (.inr rfl) (.int .i64 0) (.int .i64 0))
  refine bodyPost_ret (res_of rfl _ _ (B + 1 + 1) (B + 1 + 1 + 1) 0 0 false 0 0 rfl rfl ?_ ?_) rfl ⟨rfl, ?_⟩
  · exact FF.c
  · exact FF.d
  · exact HK1.out.fresh KK (fun q hq e => by have := HBW.out; omega)
set_option maxHeartbeats 4000000 in
theorem pof_none (s : ByteArray) (k m : Nat) (c0 c2 c3 c5 k1 k2 : Int) (A : Option Addr) (n c : Nat) (M : List (List Int)) (w : World) (hT : Tabs w) (hA : Rws w A n 2 M) (hn : n ≤ 100000) (hm : mayB s = true) (hk : k ≤ (rs s).length) (hop : Rw.Oper c2) (hc : m ≤ 999) (hx : k1 = 0 ∨ Rw.Seek k1) (ho : Rw.mOk M) (hne : c3 ≠ c2) (hkin : Rw.kin c3 ≠ 0)
    (hgo : Rw.goM (rs s) k c3 c5 m k1 k2 M = none) :
    Calls Tryz.prog 8 #[.string s, .int .i64 k, cmdV c0 m c2 c3 0 c5, sekV k1 k2, .slice A n c] w fun e w' => e = .returned (.tuple #[rngV 0 0 false, sekV 0 0, .int .i64 6]) ∧ Kept (fun _ => False) w w' := by
  have HK0 : Hid (Kept (fun _ => False) w ((((w.alloc (cmdO c0 m c2 c3 0 c5)).alloc (sekO k1 k2)).alloc (rngO 0 0 false)).alloc (sekO 0 0))) := ((((Kept.refl _ w).alloc _).alloc _).alloc _).alloc _
  have HF0 := Lib.hid (fourR_new w c0 m c2 c3 0 c5 k1 k2)
  have cM := fun W (hk' : Kept (fun _ => False) w W) => pmay_t s k c0 m c2 c3 0 c5 k1 k2 A n c M W (hT.kept hk' id id) (hA.kept hk' (fun _ _ => id)) hn hm hk hop (by omega) hx ho (.inr (.inr ⟨rfl, .inr hkin⟩))
  have cG := fun W (hk' : Kept (fun _ => False) w W) => pgo_yes s k m c0 c2 c3 0 c5 k1 k2 A n c M W (hT.kept hk' id id) hm hk hc hx (hA.kept hk' (fun _ _ => id)) hn ho hkin
  simp only [hgo] at cG
  unfold goV tgt at cG
  simp only at cG
  have b1 : (c3 == c2) = false := beq_eq_false_iff_ne.2 hne
  have HCG := Lib.hid cG
  clear hT hA hm hop hx ho hne hkin hgo cG
  obtain ⟨B, hB⟩ : ∃ B, w.heap.size = B := ⟨_, rfl⟩
  go_enter Tryz.func8, Tryz.ntmps8
  go_upto_region 1 with fail
  have HBW := Lib.hid hB
  simp only [hB] at HF0 ⊢
  clear hB
  generalize (((w.alloc (cmdO c0 m c2 c3 0 c5)).alloc (sekO k1 k2)).alloc (rngO 0 0 false)).alloc (sekO 0 0) = W0 at *
  obtain ⟨a0, a1, a2, a3, a4, a5, a6, a7⟩ := HF0.out.cmd
  go_upto_region 4 with (go_at_call 21; refine (cM _ HK0.out).mono ?_; rintro e w1 ⟨rfl, hk1⟩; have HK1 := Lib.hid (HK0.out.trans hk1); have HF1 := Lib.hid (HF0.out.kept hk1); obtain ⟨d0, d1, d2, d3, d4, d5, d6, d7⟩ := HF1.out.cmd; clear hk1 a0 a1 a2 a3 a4 a5 a6 a7)
  obtain ⟨x1, x2, x3, x4⟩ := two_facts HF1.out.d
  go_upto_region 5 with fail
  have HF2 := Lib.hid (HF1.out.setX k1 k2)
  have HK2 := Lib.hid (HK1.out.fresh (Kept.pair (Kept.refl (fun q => q = B + 1 + 1 + 1) w1) rfl (.int .i64 k1) (.int .i64 k2)) (fun q hq e => by have := HBW.out; omega))
  clear x1 x2 x3 x4 d0 d1 d2 d3 d4 d5 d6 d7
  generalize (w1.setCell ⟨B + 1 + 1 + 1, 0, none⟩ (.int .i64 k1)).setCell ⟨B + 1 + 1 + 1, 1, none⟩ (.int .i64 k2) = W2 at *
  obtain ⟨a0, a1, a2, a3, a4, a5, a6, a7⟩ := HF2.out.cmd
  go_upto_region 6 with fail
  clear a0 a1 a2 a3 a4 a5 a6 a7
  have HT3 : Hid ((W2.alloc (tgtO 0 0)).heap[W2.heap.size]? = some (tgtO 0 0)) := heap_alloc_new W2 _
  have HF3 := Lib.hid (HF2.out.kept ((Kept.refl (fun _ => False) W2).alloc (tgtO 0 0)))
  have HK3 := Lib.hid (HK2.out.alloc (tgtO 0 0))
  have htb : B + 1 + 1 + 1 < W2.heap.size := heap_lt HF2.out.d
  generalize W2.heap.size = tb at *
  generalize W2.alloc (tgtO 0 0) = W3 at *
  obtain ⟨a0, a1, a2, a3, a4, a5, a6, a7⟩ := HF3.out.cmd
  go_upto_region 7 with (go_at_call 24; refine (HCG.out _ HK3.out).mono ?_; rintro e w4 ⟨rfl, hk4⟩; have HK4 := Lib.hid (HK3.out.trans hk4); have HF4 := Lib.hid (HF3.out.kept hk4); have HT4 := Lib.hid ((hk4.block _ (heap_lt HT3.out) id).trans HT3.out); obtain ⟨e1, e2, e3, e4⟩ := two_facts HT4.out; obtain ⟨g1, g2, g3, g4⟩ := two_facts HF4.out.d; clear hk4 a0 a1 a2 a3 a4 a5 a6 a7)
  have HF5 := Lib.hid (((HF4.out.far htb 0 (.int .i64 0)).far htb 1 (.int .i64 0)).setX 0 0)
  have HK5 := Lib.hid (HK4.out.fresh (Kept.pair (Kept.pair (Kept.refl (fun q => q = tb ∨ q = B + 1 + 1 + 1) w4) (.inl rfl) (.int .i64 0) (.int .i64 0)) (.inr rfl) (.int .i64 0) (.int .i64 0)) (fun q hq e => by have := HBW.out; omega))
  clear e1 e2 e3 e4 g1 g2 g3 g4
  generalize (((w4.setCell ⟨tb, 0, none⟩ (.int .i64 0)).setCell ⟨tb, 1, none⟩ (.int .i64 0)).setCell ⟨B + 1 + 1 + 1, 0, none⟩ (.int .i64 0)).setCell ⟨B + 1 + 1 + 1, 1, none⟩ (.int .i64 0) = W5 at *
  obtain ⟨⟨g0, g1, g2⟩, ⟨f0, f1, f2⟩⟩ := HF5.out.rng
  obtain ⟨x1, x2, x3, x4⟩ := two_facts HF5.out.d
  go_wp2_with fail
  have FF := ((HF5.out.setR 0 0 false).setX 0 0)
  have KK := (Kept.pair (g := B + 1 + 1 + 1) (Kept.three (g := B + 1 + 1) (Kept.refl (fun q => q = B + 1 + 1 ∨ q = B + 1 + 1 + 1) W5) (.inl rfl) (.int .i64 0) (.int .i64 0) (.bool false)) (.inr rfl) (.int .i64 0) (.int .i64 0))
  refine bodyPost_ret (res_of rfl _ _ (B + 1 + 1) (B + 1 + 1 + 1) 0 0 false 0 0 rfl rfl ?_ ?_) rfl ⟨rfl, ?_⟩
  · exact FF.c
  · exact FF.d
  · exact HK5.out.fresh KK (fun q hq e => by have := HBW.out; omega)
end Go.Proofs.YtbofjefblhnkoaaGreatDoor
