/-
  REGIONS: what a command may be; the region of a motion; that regions wake.
-/
import Derived.Test.YtbofjefblhnkoaaGreatDoorRgB
import Derived.Test.YtbofjefblhnkoaaGreatDoorZMs
set_option linter.unusedVariables false
set_option maxRecDepth 100000
namespace Go.Proofs.YtbofjefblhnkoaaGreatDoor
open Go Go.RowKit

/-- An operator's key. -/
def Rw.Oper (key : Int) : Prop := key = 100 ∨ key = 99 ∨ key = 121 ∨ key = 62 ∨ key = 60 ∨ key = 16777333 ∨ key = 16777301 ∨ key = 16777342
set_option maxHeartbeats 1000000 in
theorem isoper_any (key : Int) (w : World) : Calls Tryz.prog 40 #[.int .i64 key] w fun e w' => (∃ b : Bool, e = .returned (.bool b) ∧ (b = true ↔ Rw.Oper key)) ∧ w' = w := by
  by_cases hm : Rw.Oper key
  · have HM := Lib.hid hm
    unfold Rw.Oper at hm
    rcases hm with rfl | rfl | rfl | rfl | rfl | rfl | rfl | rfl
    all_goals
      go_enter Tryz.func40, Tryz.ntmps40
      go_wp2
      go_ret
      first | exact ⟨⟨true, rfl, fun _ => HM.out, fun _ => rfl⟩, rfl⟩ | exact ⟨HM.out, rfl⟩ | exact HM.out
  · have HM := Lib.hid hm
    unfold Rw.Oper at hm
    simp only [not_or] at hm
    obtain ⟨n0, n1, n2, n3, n4, n5, n6, n7⟩ := hm
    have b0 : (key == 100) = false := beq_eq_false_iff_ne.2 n0
    have b1 : (key == 99) = false := beq_eq_false_iff_ne.2 n1
    have b2 : (key == 121) = false := beq_eq_false_iff_ne.2 n2
    have b3 : (key == 62) = false := beq_eq_false_iff_ne.2 n3
    have b4 : (key == 60) = false := beq_eq_false_iff_ne.2 n4
    have b5 : (key == 16777333) = false := beq_eq_false_iff_ne.2 n5
    have b6 : (key == 16777301) = false := beq_eq_false_iff_ne.2 n6
    have b7 : (key == 16777342) = false := beq_eq_false_iff_ne.2 n7
    clear n0 n1 n2 n3 n4 n5 n6 n7
    go_enter Tryz.func40, Tryz.ntmps40
    go_wp2
    go_ret
    first | exact ⟨⟨false, rfl, fun h => (by cases h), fun h => absurd h HM.out⟩, rfl⟩ | exact ⟨HM.out, rfl⟩ | exact HM.out
theorem isoper_t {key : Int} (h : Rw.Oper key) (w : World) : Calls Tryz.prog 40 #[.int .i64 key] w fun e w' => e = .returned (.bool true) ∧ w' = w :=
  (isoper_any key w).mono fun e w' ⟨⟨b, he, hb⟩, hw⟩ => ⟨by rw [he, hb.2 h], hw⟩
theorem isoper_f {key : Int} (h : ¬ Rw.Oper key) (w : World) : Calls Tryz.prog 40 #[.int .i64 key] w fun e w' => e = .returned (.bool false) ∧ w' = w :=
  (isoper_any key w).mono fun e w' ⟨⟨b, he, hb⟩, hw⟩ => ⟨by rw [he, Bool.eq_false_iff.2 (fun h' => h (hb.1 h'))], hw⟩
theorem mvis_any (key : Int) (w : World) : Calls Tryz.prog 43 #[.int .i64 key] w fun e w' => e = .returned (.bool (Rw.kin key != 0)) ∧ w' = w := by
  have cK := fun W => kindOf_any key W
  generalize Rw.kin key = K0 at *
  go_enter Tryz.func43, Tryz.ntmps43
  go_wp2_with (go_at_call 49; refine (cK _).mono ?_; rintro e w' ⟨rfl, hw⟩; have hw2 := hw.symm; subst hw2)
  go_ret
  exact ⟨rfl, rfl⟩
/-- What a command's operator may be asked. -/
def Rw.ofMay (oper wide key : Int) : Prop := wide = 105 ∨ wide = 97 ∨ wide = 0 ∧ (key = oper ∨ Rw.kin key ≠ 0)
set_option maxHeartbeats 4000000 in
theorem pmay_t (s : ByteArray) (k : Nat) (c0 c1 c2 c3 c4 c5 k1 k2 : Int) (A : Option Addr) (n c : Nat) (M : List (List Int)) (w : World) (hT : Tabs w) (hA : Rws w A n 2 M) (hn : n ≤ 100000) (hm : mayB s = true) (hk : k ≤ (rs s).length) (hop : Rw.Oper c2) (hc : 0 ≤ c1 ∧ c1 ≤ 999) (hx : k1 = 0 ∨ Rw.Seek k1) (ho : Rw.mOk M) (hof : Rw.ofMay c2 c4 c3) :
    Calls Tryz.prog 21 #[.string s, .int .i64 k, cmdV c0 c1 c2 c3 c4 c5, sekV k1 k2, .slice A n c] w fun e w' => e = .returned (.bool true) ∧ Kept (fun _ => False) w w' := by
  have HK0 : Hid (Kept (fun _ => False) w ((w.alloc (cmdO c0 c1 c2 c3 c4 c5)).alloc (sekO k1 k2))) := ((Kept.refl _ w).alloc _).alloc _
  have HP0 := Lib.hid (par_new w c0 c1 c2 c3 c4 c5 k1 k2)
  have cP := fun W (hk' : Kept (fun _ => False) w W) => place_yes s k W (hT.kept hk' id id) hm hk
  have cO := fun W => isoper_t hop W
  have cC := fun W (hk' : Kept (fun _ => False) w W) => pcheck_any A n c M W (hA.kept hk' (fun _ _ => id)) hn
  have cI := fun W => mvis_any c3 W
  have HO := Lib.hid ho
  generalize Rw.nl (rs s) k = p0 at *
  generalize k - Rw.beg (rs s) k = p1 at *
  have b1 : decide (c1 < 0) = false := decide_eq_false (by omega)
  have b2 : decide (999 < c1) = false := decide_eq_false (by omega)
  have hx' : ∃ U V : Int, (∀ W, Calls Tryz.prog 41 #[.int .i64 k1] W fun e w' => e = .returned (.tuple #[.int .i64 U, .int .i64 V]) ∧ w' = W) ∧ (((k1 == 0) = true ∧ (k1 != 0) = false) ∨ ((k1 == 0) = false ∧ (k1 != 0) = true ∧ V = 0)) := by
    by_cases h0 : Rw.Seek k1
    · exact ⟨_, _, fun W => turned_yes h0 W, .inr ⟨by simp; unfold Rw.Seek at h0; omega, by simp; unfold Rw.Seek at h0; omega, rfl⟩⟩
    · obtain rfl := hx.resolve_right h0
      exact ⟨_, _, fun W => (Sk.turned_any 0 W).mono fun e w' ⟨⟨x, y, he, h1, _⟩, hw⟩ => ⟨by rw [he, (h1 h0).1, (h1 h0).2], hw⟩, .inl ⟨rfl, rfl⟩⟩
  obtain ⟨U, V, cT, hx'⟩ := hx'
  have hof' : ((c4 == 105) = true) ∨ ((c4 == 105) = false ∧ (c4 == 97) = true) ∨ ((c4 == 105) = false ∧ (c4 == 97) = false ∧ (c4 == 0) = true ∧ (c3 == c2) = true) ∨ ((c4 == 105) = false ∧ (c4 == 97) = false ∧ (c4 == 0) = true ∧ (c3 == c2) = false ∧ (Rw.kin c3 != 0) = true) := by
    rcases hof with rfl | rfl | ⟨rfl, h⟩
    · exact .inl rfl
    · exact .inr (.inl ⟨rfl, rfl⟩)
    · by_cases e : c3 = c2
      · exact .inr (.inr (.inl ⟨rfl, rfl, rfl, by simp [e]⟩))
      · exact .inr (.inr (.inr ⟨rfl, rfl, rfl, by simp [e], by simpa using h.resolve_left e⟩))
  generalize Rw.kin c3 = K3 at *
  clear hT hA hm hop hx ho hof hk
  rcases hx' with ⟨d1, d2⟩ | ⟨d1, d2, rfl⟩
  all_goals
    rcases hof' with q1 | ⟨q1, q2⟩ | ⟨q1, q2, q3, q4⟩ | ⟨q1, q2, q3, q4, q5⟩
    all_goals
      go_enter Tryz.func21, Tryz.ntmps21
      go_wp2_with (first
        | (go_at_call 39; refine (cP _ HK0.out).mono ?_; rintro e w1 ⟨rfl, hk1⟩; have HX1 : Hid (Kept (fun _ => False) w1 (w1.alloc (.cells #[.int .i64 p0, .int .i64 p1] 24))) := (Kept.refl (fun _ => False) w1).alloc _; have HKA := Lib.hid (HK0.out.trans (hk1.trans HX1.out)); have HPA := Lib.hid ((HP0.out.kept hk1).kept HX1.out); obtain ⟨a0, a1, a2, a3, a4, a5, a6, a7⟩ := HPA.out.facts; clear hk1)
        | (go_at_call 40; refine (cO _).mono ?_; rintro e w' ⟨rfl, hw⟩; have hw2 := hw.symm; subst hw2)
        | (go_at_call 41; refine (cT _).mono ?_; rintro e w' ⟨rfl, hw⟩; have hw2 := hw.symm; subst hw2)
        | (go_at_call 42; refine (cC _ HKA.out).mono ?_; rintro e w2 ⟨⟨E, rfl, _, hE⟩, hk2⟩; obtain rfl : E = 0 := hE.2 HO.out; have HKB := Lib.hid (HKA.out.trans hk2); obtain ⟨r0, r1, r2, r3, r4, r5, r6, r7⟩ := (HPA.out.kept hk2).facts; clear hk2 hE)
        | (go_at_call 43; refine (cI _).mono ?_; rintro e w' ⟨rfl, hw⟩; have hw2 := hw.symm; subst hw2))
      go_ret
      exact ⟨rfl, HKB.out⟩
/-- What is told of the region of a motion. -/
def ofgV (t : List Int) (k : Nat) (o : Option (Int × Int × Int × Int)) : Value := match o with
  | some (a, kd, x, y) => .tuple #[btR (Rw.bt t k a.toNat kd), sekV x y, .int .i64 0]
  | none => .tuple #[rngV 0 0 false, sekV 0 0, .int .i64 6]
end Go.Proofs.YtbofjefblhnkoaaGreatDoor
