/-
  MOTIONS BY WORDS: Move of whatever arguments; which keys they are; what the laws' loops hold.
-/
import Derived.Test.YtclmcieegoobkaaDoorWdT2
import Derived.Test.YtclmcieegoobkaaDoorWdT3
import Derived.Test.YtclmcieegoobkaaDoorWdT4
import Derived.Test.YtclmcieegoobkaaDoorWdT5
import Derived.Test.YtclmcieegoobkaaDoorWdT6
import Derived.Deep.RegionHeld3
import Derived.Deep.CutRange
set_option linter.unusedVariables false
namespace Go.Proofs.YtclmcieegoobkaaDoor
open Go Go.RowKit

theorem num_any (x : Int) (w : World) : Calls Tryd.prog 29 #[.int .i64 x] w fun e w' => e = .returned (.int .i64 x) ∧ w' = w := by
  go_enter Tryd.func29, Tryd.ntmps29
  go_wp2
  go_ret
  exact ⟨rfl, rfl⟩
theorem btw_t {x l m : Int} (h : l ≤ x ∧ x ≤ m) (w : World) : Calls Tryd.prog 49 #[.int .i64 x, .int .i64 l, .int .i64 m] w fun e w' => e = .returned (.bool true) ∧ w' = w := by
  have b1 : decide (l ≤ x) = true := by simp; omega
  have b2 : decide (x ≤ m) = true := by simp; omega
  clear h
  go_enter Tryd.func49, Tryd.ntmps49
  go_wp2
  go_ret
  exact ⟨rfl, rfl⟩
theorem btw_f {x l m : Int} (h : ¬ (l ≤ x ∧ x ≤ m)) (w : World) : Calls Tryd.prog 49 #[.int .i64 x, .int .i64 l, .int .i64 m] w fun e w' => e = .returned (.bool false) ∧ w' = w := by
  by_cases h1 : l ≤ x
  · have b1 : decide (l ≤ x) = true := by simp; omega
    have b2 : decide (x ≤ m) = false := by simp; omega
    clear h h1
    go_enter Tryd.func49, Tryd.ntmps49
    go_wp2
    go_ret
    exact ⟨rfl, rfl⟩
  · have b1 : decide (l ≤ x) = false := by simp; omega
    clear h h1
    go_enter Tryd.func49, Tryd.ntmps49
    go_wp2
    go_ret
    exact ⟨rfl, rfl⟩
theorem wmove_no (s : ByteArray) (k key m : Int) (w : World) (hs : s.size ≤ 140737488351232) (hT : Tabs w) (hno : ¬ ((mayB s = true ∧ 0 ≤ k ∧ k ≤ (rs s).length) ∧ Rw.Word key ∧ 1 ≤ m ∧ m ≤ 999)) :
    Calls Tryd.prog 33 #[.string s, .int .i64 k, .int .i64 key, .int .i64 m] w fun e w' => Kept (fun _ => False) w w' ∧ e = .returned (.tuple #[.int .i64 0, .int .i64 1]) := by
  by_cases hy : mayB s = true ∧ 0 ≤ k ∧ k ≤ (rs s).length
  · obtain ⟨hm, h0, h1⟩ := hy
    obtain ⟨kk, rfl⟩ := Int.eq_ofNat_of_zero_le h0
    have cU := runes_yes s kk w hT hm (by omega)
    have hmm : m < 1 ∨ (1 ≤ m ∧ 999 < m) ∨ (1 ≤ m ∧ m ≤ 999 ∧ ¬ Rw.Word key) := by
      by_cases h2 : m < 1
      · exact .inl h2
      · by_cases h3 : 999 < m
        · exact .inr (.inl ⟨by omega, h3⟩)
        · exact .inr (.inr ⟨by omega, by omega, fun h => hno ⟨⟨hm, h0, h1⟩, h, by omega, by omega⟩⟩)
    clear hT hm hno h0 h1
    generalize rs s = t at *
    rcases hmm with h1 | ⟨h1, h2⟩ | ⟨h1, h2, h3⟩
    · have d1 : decide (m < 1) = true := decide_eq_true h1
      go_enter Tryd.func33, Tryd.ntmps33
      go_wp2_with (go_at_call 51; refine cU.mono ?_; rintro e w2 ⟨hk2, b, cap, rfl, hbg, hR⟩)
      exact bodyPost_ret (v := .tuple #[.int .i64 0, .int .i64 1]) (by simp [results, Tryd.results33, go_sem]) rfl ⟨hk2, rfl⟩
    · have d1 : decide (m < 1) = false := decide_eq_false (by omega)
      have d2 : decide (999 < m) = true := decide_eq_true h2
      go_enter Tryd.func33, Tryd.ntmps33
      go_wp2_with (go_at_call 51; refine cU.mono ?_; rintro e w2 ⟨hk2, b, cap, rfl, hbg, hR⟩)
      exact bodyPost_ret (v := .tuple #[.int .i64 0, .int .i64 1]) (by simp [results, Tryd.results33, go_sem]) rfl ⟨hk2, rfl⟩
    · have d1 : decide (m < 1) = false := decide_eq_false (by omega)
      have d2 : decide (999 < m) = false := decide_eq_false (by omega)
      have hne : ∀ a, Rw.Word a → (key == a) = false := fun a ha => by
        rw [beq_eq_false_iff_ne]
        rintro rfl
        exact h3 ha
      have e1 := hne 119 (by decide)
      have e2 := hne 98 (by decide)
      have e3 := hne 101 (by decide)
      have e4 := hne 87 (by decide)
      have e5 := hne 66 (by decide)
      have e6 := hne 69 (by decide)
      clear hne h3
      go_enter Tryd.func33, Tryd.ntmps33
      go_wp2_with (go_at_call 51; refine cU.mono ?_; rintro e w2 ⟨hk2, b, cap, rfl, hbg, hR⟩)
      exact bodyPost_ret (v := .tuple #[.int .i64 0, .int .i64 1]) (by simp [results, Tryd.results33, go_sem]) rfl ⟨hk2, rfl⟩
  · have cU := runes_no s k w hs hT hy
    clear hT hno hy
    go_enter Tryd.func33, Tryd.ntmps33
    go_wp2_with (go_at_call 51; refine cU.mono ?_; rintro e w2 ⟨hk2, rfl⟩)
    exact bodyPost_ret (v := .tuple #[.int .i64 0, .int .i64 1]) (by simp [results, Tryd.results33, go_sem]) rfl ⟨hk2, rfl⟩
theorem wmove_yes (s : ByteArray) (k c : Nat) (key : Int) (w : World) (hT : Tabs w) (hm : mayB s = true) (hk : k ≤ (rs s).length) (hc1 : 1 ≤ c) (hc : c ≤ 999) (hkey : Rw.Word key) :
    Calls Tryd.prog 33 #[.string s, .int .i64 k, .int .i64 key, .int .i64 c] w fun e w' => Kept (fun _ => False) w w' ∧ e = .returned (ansW (Rw.wmv (rs s) k key c)) := by
  obtain ⟨d, rfl⟩ : ∃ d, c = d + 1 := ⟨c - 1, by omega⟩
  rcases hkey with rfl | rfl | rfl | rfl | rfl | rfl
  · exact wm119_any s k d w hT hm hk (by omega)
  · exact wm98_any s k d w hT hm hk (by omega)
  · exact wm101_any s k d w hT hm hk (by omega)
  · exact wm87_any s k d w hT hm hk (by omega)
  · exact wm66_any s k d w hT hm hk (by omega)
  · exact wm69_any s k d w hT hm hk (by omega)
theorem rword_yes (A : Option Addr) (cap k c : Nat) (t : List Int) (key : Int) (w : World) (hA : Rn w A t.length t) (hr : Runey t) (hn : t.length ≤ 6000) (hk : k ≤ t.length) (hc : c ≤ 999) (hkey : Rw.Word key) :
    Calls Tryd.prog 50 #[.slice A t.length cap, .int .i64 k, .int .i64 key, .int .i64 c] w fun e w' => Kept (fun _ => False) w w' ∧ e = .returned (ansW (Rw.wmv t k key c)) := by
  rcases hkey with rfl | rfl | rfl | rfl | rfl | rfl
  · exact rw119_any A cap k c t w hA hr hn hk hc
  · exact rw98_any A cap k c t w hA hr hn hk hc
  · exact rw101_any A cap k c t w hA hr hn hk hc
  · exact rw87_any A cap k c t w hA hr hn hk hc
  · exact rw66_any A cap k c t w hA hr hn hk hc
  · exact rw69_any A cap k c t w hA hr hn hk hc
theorem ansW_form (o : Option Int) : ∃ X E : Int, ansW o = .tuple #[.int .i64 X, .int .i64 E] := by
  cases o with
  | none => exact ⟨0, 6, rfl⟩
  | some x => exact ⟨x, 0, rfl⟩
/-- Whether these arguments may be. -/
def GoodW (s : ByteArray) (k key m : Int) : Prop := mayB s = true ∧ (0 ≤ k ∧ k ≤ (rs s).length) ∧ Rw.Word key ∧ 1 ≤ m ∧ m ≤ 999
def ToldW (s : ByteArray) (k key m X E : Int) : Prop :=
  (GoodW s k key m → ansW (Rw.wmv (rs s) k.toNat key m.toNat) = .tuple #[.int .i64 X, .int .i64 E]) ∧ (¬ GoodW s k key m → X = 0 ∧ E = 1)
theorem wmove_all (s : ByteArray) (k key m : Int) (w : World) (hs : s.size ≤ 140737488351232) (hT : Tabs w) :
    Calls Tryd.prog 33 #[.string s, .int .i64 k, .int .i64 key, .int .i64 m] w fun e w' => (∃ X E : Int, e = .returned (.tuple #[.int .i64 X, .int .i64 E]) ∧ ToldW s k key m X E) ∧ Kept (fun _ => False) w w' := by
  by_cases hg : GoodW s k key m
  · obtain ⟨g1, ⟨g2, g3⟩, g4, g5, g6⟩ := id hg
    obtain ⟨kk, rfl⟩ := Int.eq_ofNat_of_zero_le g2
    obtain ⟨mm, rfl⟩ := Int.eq_ofNat_of_zero_le (show 0 ≤ m by omega)
    refine (wmove_yes s kk mm key w hT g1 (by omega) (by omega) (by omega) g4).mono ?_
    rintro e w' ⟨hk, rfl⟩
    obtain ⟨X, E, he⟩ := ansW_form (Rw.wmv (rs s) kk key mm)
    exact ⟨⟨X, E, by rw [he], fun _ => he, fun h => absurd hg h⟩, hk⟩
  · refine (wmove_no s k key m w hs hT (fun h => hg ⟨h.1.1, h.1.2, h.2.1, h.2.2.1, h.2.2.2⟩)).mono ?_
    rintro e w' ⟨hk, rfl⟩
    exact ⟨⟨0, 1, rfl, fun h => absurd h hg, fun _ => ⟨rfl, rfl⟩⟩, hk⟩
theorem rword_told {s : ByteArray} {A : Option Addr} {c : Nat} {t : List Int} {kk mm : Nat} {key X E : Int} (w : World) (hrs : rs s = t) (hA : Rn w A t.length t) (hn : t.length ≤ 6000) (hg : GoodW s kk key mm) (htold : ToldW s kk key mm X E) :
    Calls Tryd.prog 50 #[.slice A t.length c, .int .i64 kk, .int .i64 key, .int .i64 mm] w fun e w' => e = .returned (.tuple #[.int .i64 X, .int .i64 E]) ∧ Kept (fun _ => False) w w' := by
  obtain ⟨g1, ⟨g2, g3⟩, g4, g5, g6⟩ := id hg
  have ht := htold.1 hg
  rw [hrs] at ht g3
  have cR := rword_yes A c kk mm t key w hA (by rw [← hrs]; exact rs_runey (mayB_valid g1)) hn (by omega) (by omega) g4
  have ht' : ansW (Rw.wmv t kk key mm) = .tuple #[.int .i64 X, .int .i64 E] := ht
  rw [ht'] at cR
  exact cR.mono fun e w' h => ⟨h.2, h.1⟩
/-- Is it a key of these? -/
theorem word_any (key : Int) (w : World) : Calls Tryd.prog 48 #[.int .i64 key] w fun e w' => e = .returned (.bool (decide (Rw.Word key))) ∧ Kept (fun _ => False) w w' := by
  have hN := nums_new w [119, 98, 101, 87, 66, 69] 3
  have cI := zin_any (some ⟨w.heap.size, 0, none⟩) 6 6 _ key _ hN (by decide)
  have HL : Hid (key ∈ ([119, 98, 101, 87, 66, 69] : List Int) ↔ Rw.Word key) := by
    show _ ↔ _
    unfold Rw.Word
    simp
  clear hN
  go_enter Tryd.func48, Tryd.ntmps48
  go_wp2_with (go_at_call 62; refine cI.mono ?_; rintro e w' ⟨⟨r, rfl, h1, h2, h3⟩, rfl⟩; have H3 := Lib.hid h3; clear h3)
  have hb : decide (0 ≤ r) = decide (Rw.Word key) := decide_eq_decide.2 (H3.out.trans HL.out)
  have HB := Lib.hid hb
  clear hb H3
  go_ret
  rw [← HB.out]
  exact ⟨rfl, (Kept.refl _ w).alloc _⟩
theorem word_t {key : Int} (h : Rw.Word key) (w : World) : Calls Tryd.prog 48 #[.int .i64 key] w fun e w' => e = .returned (.bool true) ∧ Kept (fun _ => False) w w' := by
  have c := word_any key w
  rwa [decide_eq_true h] at c
theorem word_f {key : Int} (h : ¬ Rw.Word key) (w : World) : Calls Tryd.prog 48 #[.int .i64 key] w fun e w' => e = .returned (.bool false) ∧ Kept (fun _ => False) w w' := by
  have c := word_any key w
  rwa [decide_eq_false h] at c
/-- The text that wakes. -/
def abcd : ByteArray := ⟨#[97, 98, 32, 99, 100]⟩
theorem abcd_rs : rs abcd = [97, 98, 32, 99, 100] := by decide
theorem abcd_may : mayB abcd = true := by decide
theorem abcd_to : ansW (Rw.wmv (rs abcd) 0 119 1) = .tuple #[.int .i64 3, .int .i64 0] := by
  rw [abcd_rs]
  rfl
theorem wakes_any (w : World) (hT : Tabs w) : Calls Tryd.prog 32 #[] w fun e w' => e = .returned (.bool true) ∧ Kept (fun _ => False) w w' := by
  have cM := wmove_yes abcd 0 1 119 w hT abcd_may (by rw [abcd_rs]; decide) (by decide) (by decide) (.inl rfl)
  rw [abcd_to] at cM
  unfold abcd at cM
  clear hT
  go_enter Tryd.func32, Tryd.ntmps32
  go_wp2_with (first | (go_at_call 33; refine cM.mono ?_; rintro e w1 ⟨hk1, rfl⟩) | (go_at_call 29; refine (num_any _ _).mono ?_; rintro e w2 ⟨rfl, rfl⟩))
  go_ret
  exact ⟨rfl, hk1⟩
/-- What a law's loops hold of every world. -/
structure Held (w : World) (pb : Nat) (p : AskV) : Prop where
  pb : PB w pb p
  ask : AskOk w p
  tabs : Tabs w
theorem Held.kept {w w' : World} {pb : Nat} {p : AskV} (h : Held w pb p) (hk : Kept (fun _ => False) w w') : Held w' pb p :=
  ⟨h.pb.kept hk id, h.ask.kept hk, h.tabs.kept hk id id⟩
theorem Held.str {w : World} {pb : Nat} {p : AskV} (h : Held w pb p) {ad : Addr} (hA : p.A = some ad) {i : Nat} {s : ByteArray} (hs : p.ss[i]? = some s) : w.cell? (ad.add i) = some (.string s) := by
  obtain ⟨ad', e, hc, _⟩ := h.ask.ss.2 i s hs
  rw [hA] at e
  injection e with e
  subst e
  exact hc
end Go.Proofs.YtclmcieegoobkaaDoor
