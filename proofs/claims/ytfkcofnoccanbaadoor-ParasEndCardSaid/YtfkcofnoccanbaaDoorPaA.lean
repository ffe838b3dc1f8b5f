/-
  MOTIONS BY PARAGRAPHS: Move of whatever arguments; what the law's loops hold.
-/
import Derived.Test.YtfkcofnoccanbaaDoorPaT
import Derived.Test.YtfkcofnoccanbaaDoorAo3
import Derived.Deep.RegionHeld3
import Derived.Deep.CutRange
set_option linter.unusedVariables false
namespace Go.Proofs.YtfkcofnoccanbaaDoor
open Go Go.RowKit

theorem num_any (x : Int) (w : World) : Calls Tryd.prog 22 #[.int .i64 x] w fun e w' => e = .returned (.int .i64 x) ∧ w' = w := by
  go_enter Tryd.func22, Tryd.ntmps22
  go_wp2
  go_ret
  exact ⟨rfl, rfl⟩
theorem btw_t {x l m : Int} (h : l ≤ x ∧ x ≤ m) (w : World) : Calls Tryd.prog 20 #[.int .i64 x, .int .i64 l, .int .i64 m] w fun e w' => e = .returned (.bool true) ∧ w' = w := by
  have b1 : decide (l ≤ x) = true := by simp; omega
  have b2 : decide (x ≤ m) = true := by simp; omega
  clear h
  go_enter Tryd.func20, Tryd.ntmps20
  go_wp2
  go_ret
  exact ⟨rfl, rfl⟩
theorem btw_f {x l m : Int} (h : ¬ (l ≤ x ∧ x ≤ m)) (w : World) : Calls Tryd.prog 20 #[.int .i64 x, .int .i64 l, .int .i64 m] w fun e w' => e = .returned (.bool false) ∧ w' = w := by
  by_cases h1 : l ≤ x
  · have b1 : decide (l ≤ x) = true := by simp; omega
    have b2 : decide (x ≤ m) = false := by simp; omega
    clear h h1
    go_enter Tryd.func20, Tryd.ntmps20
    go_wp2
    go_ret
    exact ⟨rfl, rfl⟩
  · have b1 : decide (l ≤ x) = false := by simp; omega
    clear h h1
    go_enter Tryd.func20, Tryd.ntmps20
    go_wp2
    go_ret
    exact ⟨rfl, rfl⟩
theorem pmove_no (s : ByteArray) (k key m : Int) (w : World) (hs : s.size ≤ 140737488351232) (hT : Tabs w) (hno : ¬ ((mayB s = true ∧ 0 ≤ k ∧ k ≤ (rs s).length) ∧ (key = 123 ∨ key = 125) ∧ 1 ≤ m ∧ m ≤ 999)) :
    Calls Tryd.prog 19 #[.string s, .int .i64 k, .int .i64 key, .int .i64 m] w fun e w' => Kept (fun _ => False) w w' ∧ e = .returned (.tuple #[.int .i64 0, .int .i64 1]) := by
  by_cases hy : mayB s = true ∧ 0 ≤ k ∧ k ≤ (rs s).length
  · obtain ⟨hm, h0, h1⟩ := hy
    obtain ⟨kk, rfl⟩ := Int.eq_ofNat_of_zero_le h0
    have cU := runes_yes s kk w hT hm (by omega)
    have hmm : (key ≠ 123 ∧ key ≠ 125) ∨ (key = 123 ∧ m < 1) ∨ (key = 125 ∧ m < 1) ∨ (key = 123 ∧ 1 ≤ m ∧ 999 < m) ∨ (key = 125 ∧ 1 ≤ m ∧ 999 < m) := by
      have : ¬ ((key = 123 ∨ key = 125) ∧ 1 ≤ m ∧ m ≤ 999) := fun h => hno ⟨⟨hm, h0, h1⟩, h⟩
      omega
    clear hT hm hno h0 h1
    generalize rs s = t at *
    rcases hmm with ⟨h1, h2⟩ | ⟨rfl, h2⟩ | ⟨rfl, h2⟩ | ⟨rfl, h2, h3⟩ | ⟨rfl, h2, h3⟩
    case' inl =>
      have d1 : (key != 123) = true := by rw [bne_iff_ne]; exact h1
      have d2 : (key != 125) = true := by rw [bne_iff_ne]; exact h2
      clear h1 h2
    case' inr.inl | inr.inr.inl =>
      have d1 : decide (m < 1) = true := by simp; omega
    case' inr.inr.inr.inl | inr.inr.inr.inr =>
      have d1 : decide (m < 1) = false := by simp; omega
      have d2 : decide (999 < m) = true := by simp; omega
    all_goals
      go_enter Tryd.func19, Tryd.ntmps19
      go_wp2_with (go_at_call 25; refine cU.mono ?_; rintro e w2 ⟨hk2, b, cap, rfl, hbg, hR⟩)
      exact bodyPost_ret (v := .tuple #[.int .i64 0, .int .i64 1]) (by simp [results, Tryd.results19, go_sem]) rfl ⟨hk2, rfl⟩
  · have cU := runes_no s k w hs hT hy
    clear hT hno hy
    go_enter Tryd.func19, Tryd.ntmps19
    go_wp2_with (go_at_call 25; refine cU.mono ?_; rintro e w2 ⟨hk2, rfl⟩)
    exact bodyPost_ret (v := .tuple #[.int .i64 0, .int .i64 1]) (by simp [results, Tryd.results19, go_sem]) rfl ⟨hk2, rfl⟩
/-- Whether these arguments may be. -/
def Good (s : ByteArray) (k key m : Int) : Prop := mayB s = true ∧ (0 ≤ k ∧ k ≤ (rs s).length) ∧ (key = 123 ∨ key = 125) ∧ 1 ≤ m ∧ m ≤ 999
def Told (s : ByteArray) (k key m X E : Int) : Prop :=
  (Good s k key m → ansN (Rw.pmv (rs s) (Rw.pst (rs s) key) m.toNat k.toNat) k.toNat = .tuple #[.int .i64 X, .int .i64 E]) ∧ (¬ Good s k key m → X = 0 ∧ E = 1)
theorem ansN_form (x k : Nat) : ∃ X E : Int, ansN x k = .tuple #[.int .i64 X, .int .i64 E] := by
  unfold ansN
  split
  · exact ⟨0, 6, rfl⟩
  · exact ⟨x, 0, rfl⟩
theorem pmove_all (s : ByteArray) (k key m : Int) (w : World) (hs : s.size ≤ 140737488351232) (hT : Tabs w) :
    Calls Tryd.prog 19 #[.string s, .int .i64 k, .int .i64 key, .int .i64 m] w fun e w' => (∃ X E : Int, e = .returned (.tuple #[.int .i64 X, .int .i64 E]) ∧ Told s k key m X E) ∧ Kept (fun _ => False) w w' := by
  by_cases hg : Good s k key m
  · obtain ⟨g1, ⟨g2, g3⟩, g4, g5, g6⟩ := id hg
    obtain ⟨kk, rfl⟩ := Int.eq_ofNat_of_zero_le g2
    obtain ⟨mm, rfl⟩ := Int.eq_ofNat_of_zero_le (show 0 ≤ m by omega)
    refine (pmove_yes s kk mm key w hT g1 (by omega) (by omega) (by omega) g4).mono ?_
    rintro e w' ⟨hk, rfl⟩
    obtain ⟨X, E, he⟩ := ansN_form (Rw.pmv (rs s) (Rw.pst (rs s) key) mm kk) kk
    exact ⟨⟨X, E, by rw [he], fun _ => he, fun h => absurd hg h⟩, hk⟩
  · refine (pmove_no s k key m w hs hT (fun h => hg ⟨h.1.1, h.1.2, h.2.1, h.2.2.1, h.2.2.2⟩)).mono ?_
    rintro e w' ⟨hk, rfl⟩
    exact ⟨⟨0, 1, rfl, fun h => absurd h hg, fun _ => ⟨rfl, rfl⟩⟩, hk⟩
theorem rparas_told {s : ByteArray} {A : Option Addr} {n c : Nat} {t : List Int} {kk mm : Nat} {key X E : Int} (w : World) (hrs : rs s = t) (hA : Rn w A n t) (hn : n ≤ 6000) (hg : Good s kk key mm) (htold : Told s kk key mm X E) :
    Calls Tryd.prog 21 #[.slice A n c, .int .i64 kk, .int .i64 key, .int .i64 mm] w fun e w' => e = .returned (.tuple #[.int .i64 X, .int .i64 E]) ∧ w' = w := by
  obtain ⟨g1, ⟨g2, g3⟩, g4, g5, g6⟩ := id hg
  have ht := htold.1 hg
  have hl := hA.1
  rw [hrs] at ht g3
  have c : Calls Tryd.prog 21 #[.slice A n c, .int .i64 kk, .int .i64 key, .int .i64 mm] w fun e w' => e = .returned (ansN (Rw.pmv t (Rw.pst t key) mm kk) kk) ∧ w' = w := by
    rcases g4 with rfl | rfl
    · exact rp123_any A n c t kk mm w hA (by omega) (by omega) (by omega) (by omega)
    · exact rp125_any A n c t kk mm w hA (by omega) (by omega) (by omega) (by omega)
  have ht' : ansN (Rw.pmv t (Rw.pst t key) mm kk) kk = .tuple #[.int .i64 X, .int .i64 E] := ht
  rwa [ht'] at c
/-- The text that wakes. -/
def anb : ByteArray := ⟨#[97, 10, 10, 98]⟩
theorem anb_rs : rs anb = [97, 10, 10, 98] := by decide
theorem anb_may : mayB anb = true := by decide
theorem anb_to : ansN (Rw.pmv (rs anb) (Rw.pst (rs anb) 125) 1 0) 0 = .tuple #[.int .i64 2, .int .i64 0] := by
  rw [anb_rs]
  rfl
theorem wakes_any (w : World) (hT : Tabs w) : Calls Tryd.prog 23 #[] w fun e w' => e = .returned (.bool true) ∧ Kept (fun _ => False) w w' := by
  have cM := pmove_yes anb 0 1 125 w hT anb_may (by rw [anb_rs]; decide) (by decide) (by decide) (.inr rfl)
  rw [anb_to] at cM
  unfold anb at cM
  clear hT
  go_enter Tryd.func23, Tryd.ntmps23
  go_wp2_with (first | (go_at_call 19; refine cM.mono ?_; rintro e w1 ⟨hk1, rfl⟩) | (go_at_call 22; refine (num_any _ _).mono ?_; rintro e w2 ⟨rfl, rfl⟩))
  go_ret
  exact ⟨rfl, hk1⟩
/-- What a law's loops hold of every world. -/
structure Held (w : World) (pb : Nat) (p : AskV) : Prop where
  pb : PB w pb p
  ask : AskOk w p
  tabs : Tabs w
theorem Held.kept {w w' : World} {pb : Nat} {p : AskV} (h : Held w pb p) (hk : Kept (fun _ => False) w w') : Held w' pb p :=
  ⟨h.pb.kept hk id, h.ask.kept hk, h.tabs.kept hk id id⟩
theorem Held.str {w : World} {pb : Nat} {p : AskV} (h : Held w pb p) {ad : Addr} (hA : p.A = some ad) {i : Nat} {s : ByteArray} (hs : p.ss[i]? = some s) : w.cell? (ad.add i) = some (.string s) := by
  obtain ⟨ad', e, hc, _⟩ := h.ask.ss.2 i s hs
  rw [hA] at e
  injection e with e
  subst e
  exact hc
theorem Rn.at_ {w : World} {rb n : Nat} {t : List Int} (h : Rn w (some ⟨rb, 0, none⟩) n t) {j : Nat} {x : Int} (hx : t[j]? = some x) : w.cell? ⟨rb, j, none⟩ = some (.int .i32 x) := by
  obtain ⟨ad, e, hc⟩ := h.2 j x hx
  injection e with e
  subst e
  rwa [addr_add, Nat.zero_add] at hc

end Go.Proofs.YtfkcofnoccanbaaDoor
