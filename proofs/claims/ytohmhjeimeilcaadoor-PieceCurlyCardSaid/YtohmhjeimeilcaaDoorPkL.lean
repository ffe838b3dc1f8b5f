/-
  BRACKETS: whatever arguments; what the laws' loops hold.
-/
import Derived.Test.YtohmhjeimeilcaaDoorPkB
import Derived.Test.YtohmhjeimeilcaaDoorAo2
import Derived.Test.YtohmhjeimeilcaaDoorAoH
set_option linter.unusedVariables false
namespace Go.Proofs.YtohmhjeimeilcaaDoor
open Go Go.RowKit

/-- A text and one of its offsets? -/
def GoodP (s : ByteArray) (x : Int) : Prop := mayB s = true ∧ 0 ≤ x ∧ x ≤ ((rs s).length : Int)
instance (s : ByteArray) (x : Int) : Decidable (GoodP s x) := by unfold GoodP; infer_instance
theorem pmate_no (s : ByteArray) (x : Int) (w : World) (hs : s.size ≤ 140737488351232) (hT : Tabs w) (h : ¬ GoodP s x) :
    Calls Tryd.prog 17 #[.string s, .int .i64 x] w fun e w' => Kept (fun _ => False) w w' ∧ e = .returned (.tuple #[.int .i64 0, .int .i64 1]) := by
  have cU := runes_no s x w hs hT h
  clear hT h
  go_enter Tryd.func17, Tryd.ntmps17
  go_wp2_with (go_at_call 32; refine cU.mono ?_; rintro e w1 ⟨hk1, rfl⟩)
  exact bodyPost_ret (v := .tuple #[.int .i64 0, .int .i64 1]) (by simp [results, Tryd.results17, go_sem]) rfl ⟨hk1, rfl⟩
theorem pmove_no (s : ByteArray) (x : Int) (w : World) (hs : s.size ≤ 140737488351232) (hT : Tabs w) (h : ¬ GoodP s x) :
    Calls Tryd.prog 18 #[.string s, .int .i64 x] w fun e w' => Kept (fun _ => False) w w' ∧ e = .returned (.tuple #[.int .i64 0, .int .i64 1]) := by
  have cU := runes_no s x w hs hT h
  clear hT h
  go_enter Tryd.func18, Tryd.ntmps18
  go_wp2_with (go_at_call 32; refine cU.mono ?_; rintro e w1 ⟨hk1, rfl⟩)
  exact bodyPost_ret (v := .tuple #[.int .i64 0, .int .i64 1]) (by simp [results, Tryd.results18, go_sem]) rfl ⟨hk1, rfl⟩
theorem paround_no (s : ByteArray) (x kind cnt : Int) (w : World) (hs : s.size ≤ 140737488351232) (hT : Tabs w) (h : ¬ (GoodP s x ∧ (kind = 40 ∨ kind = 91 ∨ kind = 123) ∧ 1 ≤ cnt ∧ cnt ≤ 999)) :
    Calls Tryd.prog 22 #[.string s, .int .i64 x, .int .i64 kind, .int .i64 cnt] w fun e w' => Kept (fun _ => False) w w' ∧ e = .returned (.tuple #[.int .i64 0, .int .i64 0, .int .i64 1]) := by
  by_cases hy : GoodP s x
  · obtain ⟨hm, h0, h1⟩ := id hy
    obtain ⟨k, rfl⟩ := Int.eq_ofNat_of_zero_le h0
    have cU := runes_yes s k w hT hm (by omega)
    have hw : ((kind != 40) = true ∧ (kind != 91) = true ∧ (kind != 123) = true) ∨ (((kind != 40) = false ∨ ((kind != 40) = true ∧ (kind != 91) = false) ∨ ((kind != 40) = true ∧ (kind != 91) = true ∧ (kind != 123) = false)) ∧ (cnt < 1 ∨ (1 ≤ cnt ∧ 999 < cnt))) := by
      by_cases e1 : kind = 40
      · right
        refine ⟨.inl (by simp [e1]), ?_⟩
        by_cases c1 : cnt < 1
        · exact .inl c1
        · exact .inr ⟨by omega, by by_cases c2 : cnt ≤ 999; exact absurd ⟨hy, .inl e1, by omega, c2⟩ h; omega⟩
      · by_cases e2 : kind = 91
        · right
          refine ⟨.inr (.inl ⟨by simp [e2], by simp [e2]⟩), ?_⟩
          by_cases c1 : cnt < 1
          · exact .inl c1
          · exact .inr ⟨by omega, by by_cases c2 : cnt ≤ 999; exact absurd ⟨hy, .inr (.inl e2), by omega, c2⟩ h; omega⟩
        · by_cases e3 : kind = 123
          · right
            refine ⟨.inr (.inr ⟨by simp [e3], by simp [e3], by simp [e3]⟩), ?_⟩
            by_cases c1 : cnt < 1
            · exact .inl c1
            · exact .inr ⟨by omega, by by_cases c2 : cnt ≤ 999; exact absurd ⟨hy, .inr (.inr e3), by omega, c2⟩ h; omega⟩
          · exact .inl ⟨by simpa using e1, by simpa using e2, by simpa using e3⟩
    clear hT hm h0 h1 hy h
    generalize rs s = t at *
    rcases hw with ⟨q1, q2, q3⟩ | ⟨q1 | ⟨q1, q2⟩ | ⟨q1, q2, q3⟩, c1 | ⟨c1, c2⟩⟩
    case' inr.inl.inl | inr.inr.inl.inl | inr.inr.inr.inl => have d1 : decide (cnt < 1) = true := decide_eq_true c1
    case' inr.inl.inr | inr.inr.inl.inr | inr.inr.inr.inr =>
      have d1 : decide (cnt < 1) = false := decide_eq_false (by omega)
      have d2 : decide (999 < cnt) = true := decide_eq_true c2
    all_goals
      go_enter Tryd.func22, Tryd.ntmps22
      go_wp2_with (go_at_call 32; refine cU.mono ?_; rintro e w1 ⟨hk1, bb, cap, rfl, hbg, hR⟩)
      exact bodyPost_ret (v := .tuple #[.int .i64 0, .int .i64 0, .int .i64 1]) (by simp [results, Tryd.results22, go_sem]) rfl ⟨hk1, rfl⟩
  · have cU := runes_no s x w hs hT hy
    clear hT h hy
    go_enter Tryd.func22, Tryd.ntmps22
    go_wp2_with (go_at_call 32; refine cU.mono ?_; rintro e w1 ⟨hk1, rfl⟩)
    exact bodyPost_ret (v := .tuple #[.int .i64 0, .int .i64 0, .int .i64 1]) (by simp [results, Tryd.results22, go_sem]) rfl ⟨hk1, rfl⟩
/-- A mate, told of whatever arguments. -/
def ToldM (s : ByteArray) (x : Int) (o : Option Nat) (X E : Int) : Prop := (GoodP s x → ansO o = .tuple #[.int .i64 X, .int .i64 E]) ∧ (¬ GoodP s x → X = 0 ∧ E = 1)
theorem pmate_all (s : ByteArray) (x : Int) (w : World) (hs : s.size ≤ 140737488351232) (hT : Tabs w) :
    Calls Tryd.prog 17 #[.string s, .int .i64 x] w fun e w' => (∃ X E : Int, e = .returned (.tuple #[.int .i64 X, .int .i64 E]) ∧ ToldM s x (Rw.mate (rs s) x.toNat) X E) ∧ Kept (fun _ => False) w w' := by
  by_cases hg : GoodP s x
  · obtain ⟨g1, g2, g3⟩ := id hg
    obtain ⟨k, rfl⟩ := Int.eq_ofNat_of_zero_le g2
    refine (pmate_yes s k w hT g1 (by omega)).mono ?_
    rintro e w' ⟨hk, rfl⟩
    obtain ⟨X, E, he⟩ := ansO_form (Rw.mate (rs s) k)
    exact ⟨⟨X, E, by rw [he], fun _ => he, fun h => absurd hg h⟩, hk⟩
  · refine (pmate_no s x w hs hT hg).mono ?_
    rintro e w' ⟨hk, rfl⟩
    exact ⟨⟨0, 1, rfl, fun h => absurd h hg, fun _ => ⟨rfl, rfl⟩⟩, hk⟩
theorem pmove_all (s : ByteArray) (x : Int) (w : World) (hs : s.size ≤ 140737488351232) (hT : Tabs w) :
    Calls Tryd.prog 18 #[.string s, .int .i64 x] w fun e w' => (∃ X E : Int, e = .returned (.tuple #[.int .i64 X, .int .i64 E]) ∧ ToldM s x (Rw.pair (rs s) x.toNat) X E) ∧ Kept (fun _ => False) w w' := by
  by_cases hg : GoodP s x
  · obtain ⟨g1, g2, g3⟩ := id hg
    obtain ⟨k, rfl⟩ := Int.eq_ofNat_of_zero_le g2
    refine (pmove_yes s k w hT g1 (by omega)).mono ?_
    rintro e w' ⟨hk, rfl⟩
    obtain ⟨X, E, he⟩ := ansO_form (Rw.pair (rs s) k)
    exact ⟨⟨X, E, by rw [he], fun _ => he, fun h => absurd hg h⟩, hk⟩
  · refine (pmove_no s x w hs hT hg).mono ?_
    rintro e w' ⟨hk, rfl⟩
    exact ⟨⟨0, 1, rfl, fun h => absurd h hg, fun _ => ⟨rfl, rfl⟩⟩, hk⟩
theorem ansA_form (o : Option (Nat × Int)) : ∃ a b c : Int, ansA o = .tuple #[.int .i64 a, .int .i64 b, .int .i64 c] := by
  cases o with
  | none => exact ⟨_, _, _, rfl⟩
  | some p => exact ⟨_, _, _, rfl⟩
def GoodA (s : ByteArray) (x kind cnt : Int) : Prop := GoodP s x ∧ (kind = 40 ∨ kind = 91 ∨ kind = 123) ∧ 1 ≤ cnt ∧ cnt ≤ 999
instance (s : ByteArray) (x kind cnt : Int) : Decidable (GoodA s x kind cnt) := by unfold GoodA; infer_instance
def ToldA (s : ByteArray) (x kind cnt X Y E : Int) : Prop := (GoodA s x kind cnt → ansA (Rw.around (rs s) x.toNat kind cnt.toNat) = .tuple #[.int .i64 X, .int .i64 Y, .int .i64 E]) ∧ (¬ GoodA s x kind cnt → X = 0 ∧ Y = 0 ∧ E = 1)
theorem paround_all (s : ByteArray) (x kind cnt : Int) (w : World) (hs : s.size ≤ 140737488351232) (hT : Tabs w) :
    Calls Tryd.prog 22 #[.string s, .int .i64 x, .int .i64 kind, .int .i64 cnt] w fun e w' => (∃ X Y E : Int, e = .returned (.tuple #[.int .i64 X, .int .i64 Y, .int .i64 E]) ∧ ToldA s x kind cnt X Y E) ∧ Kept (fun _ => False) w w' := by
  by_cases hg : GoodA s x kind cnt
  · obtain ⟨⟨g1, g2, g3⟩, g4, g5, g6⟩ := id hg
    obtain ⟨k, rfl⟩ := Int.eq_ofNat_of_zero_le g2
    obtain ⟨c, rfl⟩ := Int.eq_ofNat_of_zero_le (show 0 ≤ cnt by omega)
    refine (paround_yes s k c kind w hT g1 (by omega) g4 (by omega) (by omega)).mono ?_
    rintro e w' ⟨hk, rfl⟩
    obtain ⟨X, Y, E, he⟩ := ansA_form (Rw.around (rs s) k kind c)
    exact ⟨⟨X, Y, E, by rw [he], fun _ => he, fun h => absurd hg h⟩, hk⟩
  · refine (paround_no s x kind cnt w hs hT hg).mono ?_
    rintro e w' ⟨hk, rfl⟩
    exact ⟨⟨0, 0, 1, rfl, fun h => absurd h hg, fun _ => ⟨rfl, rfl, rfl⟩⟩, hk⟩
/-- What a law's loops hold of every world. -/
structure Held (w : World) (pb : Nat) (p : AskV) : Prop where
  pb : PB w pb p
  ask : AskOk w p
  tabs : Tabs w
theorem Held.kept {w w' : World} {pb : Nat} {p : AskV} (h : Held w pb p) (hk : Kept (fun _ => False) w w') : Held w' pb p :=
  ⟨h.pb.kept hk id, h.ask.kept hk, h.tabs.kept hk id id⟩
end Go.Proofs.YtohmhjeimeilcaaDoor
