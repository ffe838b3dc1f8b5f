/-
  A RUNE IN THE ROW: Find of whatever arguments; which keys seek.
-/
import Derived.Test.YtfkcofnoccanbaaDoorSkS
set_option linter.unusedVariables false
namespace Go.Proofs.YtfkcofnoccanbaaDoor
open Go Go.RowKit

theorem pf_yes (s : ByteArray) (k cnt : Nat) (key r : Int) (w : World) (hT : Tabs w) (hm : mayB s = true) (hk : k ≤ (rs s).length) (hc1 : 1 ≤ cnt) (hc2 : cnt ≤ 999) (hkey : Rw.Seek key) :
    Calls Tryd.prog 9 #[.string s, .int .i64 k, .int .i64 key, .int .i64 r, .int .i64 cnt] w fun e w' => Kept (fun _ => False) w w' ∧ e = .returned (ansI (Rw.find (rs s) k key r cnt)) := by
  rcases hkey with rfl | rfl | rfl | rfl
  · exact pf102_any s k cnt r w hT hm hk hc1 hc2
  · exact pf70_any s k cnt r w hT hm hk hc1 hc2
  · exact pf116_any s k cnt r w hT hm hk hc1 hc2
  · exact pf84_any s k cnt r w hT hm hk hc1 hc2
theorem rf_yes (A : Option Addr) (n c : Nat) (t : List Int) (k cnt : Nat) (key r : Int) (w : World) (hA : Rn w A n t) (hr : Runey t) (hk : k ≤ n) (hn : n ≤ 100000) (hc1 : 1 ≤ cnt) (hc2 : cnt ≤ 999) (hkey : Rw.Seek key) :
    Calls Tryd.prog 13 #[.slice A n c, .int .i64 k, .int .i64 key, .int .i64 r, .int .i64 cnt] w fun e w' => e = .returned (ansI (Rw.find t k key r cnt)) ∧ w' = w := by
  rcases hkey with rfl | rfl | rfl | rfl
  · exact rf102_any A n c t k cnt r w hA hr hk hn hc1 hc2
  · exact rf70_any A n c t k cnt r w hA hr hk hn hc1 hc2
  · exact rf116_any A n c t k cnt r w hA hr hk hn hc1 hc2
  · exact rf84_any A n c t k cnt r w hA hr hk hn hc1 hc2
/-- Turned, of whatever key: an error, or the other key. -/
theorem turned_any (key : Int) (w : World) : Calls Tryd.prog 15 #[.int .i64 key] w fun e w' => (∃ x y : Int, e = .returned (.tuple #[.int .i64 x, .int .i64 y]) ∧ (¬ Rw.Seek key → x = 0 ∧ y = 1) ∧ (Rw.Seek key → y = 0)) ∧ w' = w := by
  by_cases h : Rw.Seek key
  · rcases id h with rfl | rfl | rfl | rfl
    · exact (turned102 w).mono fun e w' ⟨he, hw⟩ => ⟨⟨70, 0, he, fun hn => absurd h hn, fun _ => rfl⟩, hw⟩
    · exact (turned70 w).mono fun e w' ⟨he, hw⟩ => ⟨⟨102, 0, he, fun hn => absurd h hn, fun _ => rfl⟩, hw⟩
    · exact (turned116 w).mono fun e w' ⟨he, hw⟩ => ⟨⟨84, 0, he, fun hn => absurd h hn, fun _ => rfl⟩, hw⟩
    · exact (turned84 w).mono fun e w' ⟨he, hw⟩ => ⟨⟨116, 0, he, fun hn => absurd h hn, fun _ => rfl⟩, hw⟩
  · exact (turned_no key w h).mono fun e w' ⟨he, hw⟩ => ⟨⟨0, 1, he, fun _ => ⟨rfl, rfl⟩, fun hy => absurd hy h⟩, hw⟩
theorem find_no (s : ByteArray) (k key r m : Int) (w : World) (hs : s.size ≤ 140737488351232) (hT : Tabs w) (hno : ¬ ((mayB s = true ∧ 0 ≤ k ∧ k ≤ (rs s).length) ∧ Rw.Seek key ∧ 1 ≤ m ∧ m ≤ 999)) :
    Calls Tryd.prog 9 #[.string s, .int .i64 k, .int .i64 key, .int .i64 r, .int .i64 m] w fun e w' => Kept (fun _ => False) w w' ∧ e = .returned (.tuple #[.int .i64 0, .int .i64 1]) := by
  have cT := turned_any key
  by_cases hy : mayB s = true ∧ 0 ≤ k ∧ k ≤ (rs s).length
  · obtain ⟨hm, h0, h1⟩ := hy
    obtain ⟨kk, rfl⟩ := Int.eq_ofNat_of_zero_le h0
    have cU := runes_yes s kk w hT hm (by omega)
    have hmm : ¬ Rw.Seek key ∨ (Rw.Seek key ∧ m < 1) ∨ (Rw.Seek key ∧ 1 ≤ m ∧ 999 < m) := by
      by_cases h2 : Rw.Seek key
      · by_cases h3 : m < 1
        · exact .inr (.inl ⟨h2, h3⟩)
        · by_cases h4 : 999 < m
          · exact .inr (.inr ⟨h2, by omega, h4⟩)
          · exact absurd ⟨⟨hm, h0, h1⟩, h2, by omega, by omega⟩ hno
      · exact .inl h2
    clear hT hm hno h0 h1
    generalize rs s = t at *
    rcases hmm with h1 | ⟨h1, h2⟩ | ⟨h1, h2, h3⟩
    · go_enter Tryd.func9, Tryd.ntmps9
      go_wp2_with (first | (go_at_call 25; refine cU.mono ?_; rintro e w2 ⟨hk2, b, cap, rfl, hbg, hR⟩) | (go_at_call 15; refine (cT _).mono ?_; rintro e w3 ⟨⟨x, y, rfl, g1, g2⟩, rfl⟩; obtain ⟨rfl, rfl⟩ := g1 h1; clear g2))
      exact bodyPost_ret (v := .tuple #[.int .i64 0, .int .i64 1]) (by simp [results, Tryd.results9, go_sem]) rfl ⟨hk2, rfl⟩
    · have d1 : decide (m < 1) = true := by simp; omega
      have H1 := Lib.hid h1
      clear h1
      go_enter Tryd.func9, Tryd.ntmps9
      go_wp2_with (first | (go_at_call 25; refine cU.mono ?_; rintro e w2 ⟨hk2, b, cap, rfl, hbg, hR⟩) | (go_at_call 15; refine (cT _).mono ?_; rintro e w3 ⟨⟨x, y, rfl, g1, g2⟩, rfl⟩; obtain rfl := g2 H1.out; clear g1))
      exact bodyPost_ret (v := .tuple #[.int .i64 0, .int .i64 1]) (by simp [results, Tryd.results9, go_sem]) rfl ⟨hk2, rfl⟩
    · have d1 : decide (m < 1) = false := by simp; omega
      have d2 : decide (999 < m) = true := by simp; omega
      have H1 := Lib.hid h1
      clear h1
      go_enter Tryd.func9, Tryd.ntmps9
      go_wp2_with (first | (go_at_call 25; refine cU.mono ?_; rintro e w2 ⟨hk2, b, cap, rfl, hbg, hR⟩) | (go_at_call 15; refine (cT _).mono ?_; rintro e w3 ⟨⟨x, y, rfl, g1, g2⟩, rfl⟩; obtain rfl := g2 H1.out; clear g1))
      exact bodyPost_ret (v := .tuple #[.int .i64 0, .int .i64 1]) (by simp [results, Tryd.results9, go_sem]) rfl ⟨hk2, rfl⟩
  · have cU := runes_no s k w hs hT hy
    clear hT hno hy
    go_enter Tryd.func9, Tryd.ntmps9
    go_wp2_with (first | (go_at_call 25; refine cU.mono ?_; rintro e w2 ⟨hk2, rfl⟩) | (go_at_call 15; refine (cT _).mono ?_; rintro e w3 ⟨⟨x, y, rfl, g1, g2⟩, rfl⟩; clear g1 g2))
    exact bodyPost_ret (v := .tuple #[.int .i64 0, .int .i64 1]) (by simp [results, Tryd.results9, go_sem]) rfl ⟨hk2, rfl⟩
/-- Any rune of a conversion fits an int32. -/
theorem rs_i32 {s : ByteArray} {r : Int} (h : r ∈ rs s) : -2147483648 ≤ r ∧ r ≤ 2147483647 := by
  have hlt : ∀ (n : Nat) (l : List UInt8), r ∈ Utf.runesN n l → 0 ≤ r ∧ r ≤ 1114111 := by
    intro n
    induction n with
    | zero => intro l h; cases h
    | succ n ih =>
      intro l h
      unfold Utf.runesN at h
      split at h
      · cases h
      · rename_i hne
        rcases List.mem_cons.1 h with h | h
        · by_cases hok : (Lib.decodeL l).1 = 65533 ∧ (Lib.decodeL l).2 = 1
          · rw [h, hok.1]; decide
          · have hv := Utf.int_valid (Utf.enc_decodeL l hne hok).1
            omega
        · exact ih _ h
  have := hlt _ _ h
  omega
/-- Whether these arguments may be. -/
def Good (s : ByteArray) (k key : Int) : Prop := mayB s = true ∧ (0 ≤ k ∧ k ≤ (rs s).length) ∧ Rw.Seek key
def Told (s : ByteArray) (k key r : Int) (m : Nat) (X E : Int) : Prop :=
  (Good s k key → ansI (Rw.find (rs s) k.toNat key r m) = .tuple #[.int .i64 X, .int .i64 E]) ∧ (¬ Good s k key → X = 0 ∧ E = 1)
theorem ansI_form (o : Option Int) : ∃ X E : Int, ansI o = .tuple #[.int .i64 X, .int .i64 E] := by
  cases o with
  | none => exact ⟨0, 6, rfl⟩
  | some x => exact ⟨x, 0, rfl⟩
theorem find_all (s : ByteArray) (k key r : Int) (m : Nat) (w : World) (hs : s.size ≤ 140737488351232) (hT : Tabs w) (h1 : 1 ≤ m) (h2 : m ≤ 999) :
    Calls Tryd.prog 9 #[.string s, .int .i64 k, .int .i64 key, .int .i64 r, .int .i64 m] w fun e w' => (∃ X E : Int, e = .returned (.tuple #[.int .i64 X, .int .i64 E]) ∧ Told s k key r m X E) ∧ Kept (fun _ => False) w w' := by
  by_cases hg : Good s k key
  · obtain ⟨g1, ⟨g2, g3⟩, g4⟩ := id hg
    obtain ⟨kk, rfl⟩ := Int.eq_ofNat_of_zero_le g2
    refine (pf_yes s kk m key r w hT g1 (by omega) h1 h2 g4).mono ?_
    rintro e w' ⟨hk, rfl⟩
    obtain ⟨X, E, he⟩ := ansI_form (Rw.find (rs s) kk key r m)
    exact ⟨⟨X, E, by rw [he], fun _ => he, fun h => absurd hg h⟩, hk⟩
  · refine (find_no s k key r m w hs hT (fun h => hg ⟨h.1.1, h.1.2, h.2.1⟩)).mono ?_
    rintro e w' ⟨hk, rfl⟩
    exact ⟨⟨0, 1, rfl, fun h => absurd h hg, fun _ => ⟨rfl, rfl⟩⟩, hk⟩
theorem rfind_told {s : ByteArray} {A : Option Addr} {n c : Nat} {t : List Int} {kk m : Nat} {key r X E : Int} (w : World) (hrs : rs s = t) (hA : Rn w A n t) (hn : n ≤ 6000) (hg : Good s kk key) (h1 : 1 ≤ m) (h2 : m ≤ 999) (htold : Told s kk key r m X E) :
    Calls Tryd.prog 13 #[.slice A n c, .int .i64 kk, .int .i64 key, .int .i64 r, .int .i64 m] w fun e w' => e = .returned (.tuple #[.int .i64 X, .int .i64 E]) ∧ w' = w := by
  obtain ⟨g1, ⟨g2, g3⟩, g4⟩ := id hg
  have ht := htold.1 hg
  have hl := hA.1
  rw [hrs] at ht g3
  have c := rf_yes A n c t kk m key r w hA (by rw [← hrs]; exact rs_runey (mayB_valid g1)) (by omega) (by omega) h1 h2 g4
  have ht' : ansI (Rw.find t kk key r m) = .tuple #[.int .i64 X, .int .i64 E] := ht
  rwa [ht'] at c
/-- Is it a key of these? -/
theorem seek_any (key : Int) (w : World) : Calls Tryd.prog 12 #[.int .i64 key] w fun e w' => e = .returned (.bool (decide (Rw.Seek key))) ∧ Kept (fun _ => False) w w' := by
  have hN := nums_new w [102, 70, 116, 84] 3
  have cI := zin_any (some ⟨w.heap.size, 0, none⟩) 4 4 _ key _ hN (by decide)
  have HL : Hid (key ∈ ([102, 70, 116, 84] : List Int) ↔ Rw.Seek key) := by
    show _ ↔ _
    unfold Rw.Seek
    simp
  clear hN
  go_enter Tryd.func12, Tryd.ntmps12
  go_wp2_with (go_at_call 28; refine cI.mono ?_; rintro e w' ⟨⟨r, rfl, h1, h2, h3⟩, rfl⟩; have H3 := Lib.hid h3; clear h3)
  have hb : decide (0 ≤ r) = decide (Rw.Seek key) := decide_eq_decide.2 (H3.out.trans HL.out)
  have HB := Lib.hid hb
  clear hb H3
  go_ret
  rw [← HB.out]
  exact ⟨rfl, (Kept.refl _ w).alloc _⟩
theorem seek_t {key : Int} (h : Rw.Seek key) (w : World) : Calls Tryd.prog 12 #[.int .i64 key] w fun e w' => e = .returned (.bool true) ∧ Kept (fun _ => False) w w' := by
  have c := seek_any key w
  rwa [decide_eq_true h] at c
theorem seek_f {key : Int} (h : ¬ Rw.Seek key) (w : World) : Calls Tryd.prog 12 #[.int .i64 key] w fun e w' => e = .returned (.bool false) ∧ Kept (fun _ => False) w w' := by
  have c := seek_any key w
  rwa [decide_eq_false h] at c
end Go.Proofs.YtfkcofnoccanbaaDoor
