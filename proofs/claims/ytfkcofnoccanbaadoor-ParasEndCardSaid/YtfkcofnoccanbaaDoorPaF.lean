/-
  MOTIONS BY PARAGRAPHS: below, above and Move of the program; bare of the reference.
-/
import Derived.Test.YtfkcofnoccanbaaDoorSpk
import Derived.Test.YtfkcofnoccanbaaDoorSp3r
import Derived.Test.YtfkcofnoccanbaaDoorPaP
import Derived.Test.YtfkcofnoccanbaaDoorRunesK
set_option linter.unusedVariables false
namespace Go.Proofs.YtfkcofnoccanbaaDoor
open Go Go.RowKit

theorem below_any (A : Option Addr) (n c : Nat) (t : List Int) (k : Nat) (w : World) (hA : Rn w A n t) (hk : k ≤ n) (hn : n ≤ 100000) :
    Calls Tryd.prog 32 #[.slice A n c, .int .i64 k] w fun e w' => e = .returned (.int .i64 (Rw.pdn t (n + 1) k : Nat)) ∧ w' = w := by
  have HA := Lib.hid hA
  have cR := fun (x : Nat) (hx : x ≤ n) => row_any A n c t x w hA hx hn
  have hl := hA.1
  have HL := Lib.hid hl
  clear hA hl
  have cR0 := cR k hk
  generalize hD : Rw.pdn t (n + 1) k = D
  have HD := Lib.hid hD
  clear hD
  go_enter Tryd.func32, Tryd.ntmps32
  go_wp2_with (go_at_call 26; refine cR0.mono ?_; rintro e w' ⟨rfl, rfl⟩; clear cR0)
  go_loop [5, 6] (fun v u => ∃ (x F : Nat), x ≤ n ∧ n + 1 ≤ F + x ∧ v = .int .i64 (Rw.beg t x : Nat) ∧ u = .int .i64 (Rw.en t x : Nat) ∧ Rw.pdn t F x = D) (fun _ u => n - (intOf u).toNat)
  case atStart => exact ⟨k, n + 1, hk, by omega, rfl, rfl, HD.out⟩
  case round =>
    obtain ⟨x, F, hx, hF, rfl, rfl, hd⟩ := hrel
    obtain ⟨f, rfl⟩ : ∃ f, F = f + 1 := ⟨F - 1, by omega⟩
    have HX := Lib.hid hd
    clear hd
    have hle := Rw.en_le t x (by rw [HL.out]; exact hx)
    rw [HL.out] at hle
    have hge := Rw.en_ge t x
    have hbe := Rw.beg_le t x
    by_cases he : Rw.en t x = n
    · have HE : Hid (D = n) := by show _ = _; rw [← HX.out, Rw.pdn_end (by rw [HL.out]; exact he), HL.out]
      have d1 : decide (Rw.en t x < n) = false := by simp; omega
      generalize Rw.en t x = e0 at *
      generalize Rw.beg t x = b0 at *
      clear he cR
      go_wp2
      go_ret
      rw [HE.out]
      exact ⟨rfl, rfl⟩
    · have hlt : Rw.en t x < n := by omega
      have d1 : decide (Rw.en t x < n) = true := by simp; omega
      have hle2 := Rw.en_le t (Rw.en t x + 1) (by rw [HL.out]; omega)
      rw [HL.out] at hle2
      have hge2 := Rw.en_ge t (Rw.en t x + 1)
      have hby : Rw.beg t (Rw.en t x + 1) = Rw.en t x + 1 := Rw.beg_stop (Rw.en_at t x (by rw [HL.out]; exact hlt))
      have cX := cR (Rw.en t x + 1) (by omega)
      have hHit : Hid (Rw.beg t x < Rw.en t x → Rw.en t (Rw.en t x + 1) = Rw.en t x + 1 → D = Rw.en t x + 1) := fun h1 h2 => by rw [← HX.out, Rw.pdn_hit (by rw [HL.out]; exact he) h1 h2]
      have hNext : Hid (¬ (Rw.beg t x < Rw.en t x ∧ Rw.en t (Rw.en t x + 1) = Rw.en t x + 1) → Rw.pdn t f (Rw.en t x + 1) = D) := fun h => by rw [← HX.out, Rw.pdn_next (by rw [HL.out]; exact he) h]
      have hrel2 : Hid (∀ e1, e1 = Rw.en t (Rw.en t x + 1) → (Rw.pdn t f (Rw.en t x + 1) = D) → ∃ (x' F' : Nat), x' ≤ n ∧ n + 1 ≤ F' + x' ∧ Value.int .i64 ((Rw.en t x : Int) + 1) = .int .i64 (Rw.beg t x' : Nat) ∧ Value.int .i64 (e1 : Nat) = .int .i64 (Rw.en t x' : Nat) ∧ Rw.pdn t F' x' = D) := fun e1 h1 h2 => ⟨Rw.en t x + 1, f, by omega, by omega, by rw [hby, show ((Rw.en t x + 1 : Nat) : Int) = (Rw.en t x : Int) + 1 by omega], by rw [h1], h2⟩
      rw [hby] at cX
      clear cR he hby
      generalize hee : Rw.en t (Rw.en t x + 1) = e1 at *
      have HEE := Lib.hid hee.symm
      clear hee
      generalize Rw.beg t x = b0 at *
      by_cases h1 : b0 < Rw.en t x
      · have d2 : decide (b0 < Rw.en t x) = true := by simp; omega
        by_cases h2 : e1 = Rw.en t x + 1
        · have HE : Hid (D = Rw.en t x + 1) := hHit.out h1 h2
          clear hHit hNext hrel2 HX
          subst h2
          clear HEE
          generalize Rw.en t x = e0 at *
          go_wp2_with (go_at_call 26; refine cX.mono ?_; rintro e w' ⟨rfl, rfl⟩)
          go_ret
          rw [HE.out]
          exact ⟨rfl, rfl⟩
        · have HR := Lib.hid (hrel2.out e1 rfl (hNext.out (by omega)))
          have d3 : ((Rw.en t x + 1 : Nat) == e1) = false := by rw [beq_eq_false_iff_ne]; omega
          have d4 : (((Rw.en t x : Int) + 1) == (e1 : Int)) = false := by rw [beq_eq_false_iff_ne]; omega
          clear hHit hNext hrel2 HX HEE
          generalize Rw.en t x = e0 at *
          go_wp2_with (go_at_call 26; refine cX.mono ?_; rintro e w' ⟨rfl, rfl⟩)
          go_round
          case rel => exact HR.out
          case measure => simp [intOf]; omega
      · have d2 : decide (b0 < Rw.en t x) = false := by simp; omega
        have HR := Lib.hid (hrel2.out e1 rfl (hNext.out (by omega)))
        clear hHit hNext hrel2 HX HEE
        generalize Rw.en t x = e0 at *
        go_wp2_with (go_at_call 26; refine cX.mono ?_; rintro e w' ⟨rfl, rfl⟩)
        go_round
        case rel => exact HR.out
        case measure => simp [intOf]; omega
theorem above_any (A : Option Addr) (n c : Nat) (t : List Int) (k : Nat) (w : World) (hA : Rn w A n t) (hk : k ≤ n) (hn : n ≤ 100000) :
    Calls Tryd.prog 33 #[.slice A n c, .int .i64 k] w fun e w' => e = .returned (.int .i64 (Rw.pup t (n + 1) k : Nat)) ∧ w' = w := by
  have HA := Lib.hid hA
  have cR := fun (x : Nat) (hx : x ≤ n) => row_any A n c t x w hA hx hn
  clear hA
  have cR0 := cR k hk
  generalize hD : Rw.pup t (n + 1) k = D
  have HD := Lib.hid hD
  clear hD
  go_enter Tryd.func33, Tryd.ntmps33
  go_wp2_with (go_at_call 26; refine cR0.mono ?_; rintro e w' ⟨rfl, rfl⟩; clear cR0)
  go_loop [5, 6] (fun v u => ∃ (x F : Nat), x ≤ n ∧ x + 1 ≤ F ∧ v = .int .i64 (Rw.beg t x : Nat) ∧ u = .int .i64 (Rw.en t x : Nat) ∧ Rw.pup t F x = D) (fun v _ => (intOf v).toNat)
  case atStart => exact ⟨k, n + 1, hk, by omega, rfl, rfl, HD.out⟩
  case round =>
    obtain ⟨x, F, hx, hF, rfl, rfl, hd⟩ := hrel
    obtain ⟨f, rfl⟩ : ∃ f, F = f + 1 := ⟨F - 1, by omega⟩
    have HX := Lib.hid hd
    clear hd
    have hge := Rw.en_ge t x
    have hbe := Rw.beg_le t x
    by_cases he : Rw.beg t x = 0
    · have HE : Hid (D = 0) := by show _ = _; rw [← HX.out, Rw.pup_end he]
      clear cR
      rw [he]
      clear he
      go_wp2
      go_ret
      rw [HE.out]
      exact ⟨rfl, rfl⟩
    · have cX := cR (Rw.beg t x - 1) (by omega)
      have hen := Rw.en_above he
      have hbl := Rw.beg_le t (Rw.beg t x - 1)
      rw [hen] at cX
      have hHit : Hid (Rw.beg t x < Rw.en t x → Rw.beg t (Rw.beg t x - 1) = Rw.beg t x - 1 → D = Rw.beg t x - 1) := fun h1 h2 => by rw [← HX.out, Rw.pup_hit he h1 h2]
      have hNext : Hid (¬ (Rw.beg t x < Rw.en t x ∧ Rw.beg t (Rw.beg t x - 1) = Rw.beg t x - 1) → Rw.pup t f (Rw.beg t x - 1) = D) := fun h => by rw [← HX.out, Rw.pup_next he h]
      have hrel2 : Hid (∀ b1, b1 = Rw.beg t (Rw.beg t x - 1) → Rw.pup t f (Rw.beg t x - 1) = D → ∃ (x' F' : Nat), x' ≤ n ∧ x' + 1 ≤ F' ∧ Value.int .i64 (b1 : Nat) = .int .i64 (Rw.beg t x' : Nat) ∧ Value.int .i64 (Rw.beg t x - 1 : Nat) = .int .i64 (Rw.en t x' : Nat) ∧ Rw.pup t F' x' = D) := fun b1 h1 h2 => ⟨Rw.beg t x - 1, f, by omega, by omega, by rw [h1], by rw [hen], h2⟩
      clear cR hen
      generalize hbb : Rw.beg t (Rw.beg t x - 1) = b1 at *
      have HBB := Lib.hid hbb.symm
      clear hbb
      generalize Rw.en t x = e0 at *
      generalize Rw.beg t x = bb at *
      obtain ⟨b0, rfl⟩ : ∃ b0, bb = b0 + 1 := ⟨bb - 1, by omega⟩
      simp only [Nat.add_sub_cancel] at *
      clear he
      by_cases h1 : b0 + 1 < e0
      · have d2 : decide (b0 + 1 < e0) = true := by simp; omega
        have d5 : decide ((b0 : Int) + 1 < (e0 : Int)) = true := by simp; omega
        by_cases h2 : b1 = b0
        · have HE : Hid (D = b0) := hHit.out h1 h2
          clear hHit hNext hrel2 HX HBB
          subst h2
          go_wp2_with (go_at_call 26; refine cX.mono ?_; rintro e w' ⟨rfl, rfl⟩)
          go_ret
          rw [HE.out]
          exact ⟨rfl, rfl⟩
        · have HR := Lib.hid (hrel2.out b1 rfl (hNext.out (by omega)))
          have d3 : (b1 == b0) = false := by rw [beq_eq_false_iff_ne]; omega
          have d4 : ((b1 : Int) == (b0 : Int)) = false := by rw [beq_eq_false_iff_ne]; omega
          clear hHit hNext hrel2 HX HBB
          go_wp2_with (go_at_call 26; refine cX.mono ?_; rintro e w' ⟨rfl, rfl⟩)
          go_round
          case rel => exact HR.out
          case measure => simp [intOf]; omega
      · have d2 : decide (b0 + 1 < e0) = false := by simp; omega
        have d5 : decide ((b0 : Int) + 1 < (e0 : Int)) = false := by simp; omega
        have HR := Lib.hid (hrel2.out b1 rfl (hNext.out (by omega)))
        clear hHit hNext hrel2 HX HBB
        go_wp2_with (go_at_call 26; refine cX.mono ?_; rintro e w' ⟨rfl, rfl⟩)
        go_round
        case rel => exact HR.out
        case measure => simp [intOf]; omega
theorem bare_any (A : Option Addr) (n c : Nat) (t : List Int) (k : Nat) (w : World) (hA : Rn w A n t) (hk : k ≤ n) (hn : n ≤ 100000) :
    Calls Tryd.prog 35 #[.slice A n c, .int .i64 k] w fun e w' => e = .returned (.bool (decide (Rw.beg t k = Rw.en t k))) ∧ w' = w := by
  have cB := rbegin_any A n c t k w hA hk hn
  have cE := rend_any A n c t k w hA hk hn
  generalize Rw.beg t k = b at *
  generalize Rw.en t k = h at *
  by_cases hbe : b = h
  · subst hbe
    rw [decide_eq_true rfl]
    go_enter Tryd.func35, Tryd.ntmps35
    go_wp2_with (go_at_call 29; refine cB.mono ?_; rintro e w' ⟨rfl, rfl⟩)
    refine cE.mono ?_
    rintro e w' ⟨rfl, rfl⟩
    go_wp2_with fail
    go_ret
    exact ⟨rfl, rfl⟩
  · rw [decide_eq_false hbe]
    have d1 : (b == h) = false := by rw [beq_eq_false_iff_ne]; exact hbe
    have d2 : ((b : Int) == (h : Int)) = false := by rw [beq_eq_false_iff_ne]; omega
    clear hbe
    go_enter Tryd.func35, Tryd.ntmps35
    go_wp2_with (go_at_call 29; refine cB.mono ?_; rintro e w' ⟨rfl, rfl⟩)
    refine cE.mono ?_
    rintro e w' ⟨rfl, rfl⟩
    go_wp2_with fail
    go_ret
    exact ⟨rfl, rfl⟩
end Go.Proofs.YtfkcofnoccanbaaDoor
