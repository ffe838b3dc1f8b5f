/-
  PARAGRAPHS: rows that have runes, or have none, together: of the program and of the reference.
-/
import Derived.Test.YtbofjefblhnkoaaGreatDoorObR
set_option linter.unusedVariables false
namespace Go.Proofs.YtbofjefblhnkoaaGreatDoor
open Go Go.RowKit

theorem bup_final {t : List Int} {e : Bool} : ∀ f l, l < f → 0 < Rw.bup t e f l → decide (Rw.beg t (Rw.bup t e f l - 1) = Rw.bup t e f l - 1) = !e
  | 0, l, h, _ => by omega
  | f + 1, l, h, h0 => by
    by_cases hc : 0 < l ∧ decide (Rw.beg t (l - 1) = l - 1) = e
    · rw [Rw.bup_step hc.1 hc.2] at h0 ⊢
      exact bup_final f _ (by have := Rw.beg_le t (l - 1); omega) h0
    · rw [Rw.bup_stop hc] at h0 ⊢
      cases hd : decide (Rw.beg t (l - 1) = l - 1) <;> cases e <;> simp_all
theorem bdn_final {t : List Int} {e : Bool} : ∀ f l, t.length < l + f → l ≤ t.length → Rw.bdn t e f l < t.length → decide (Rw.en t (Rw.bdn t e f l + 1) = Rw.bdn t e f l + 1) = !e
  | 0, l, h, h1, h2 => by omega
  | f + 1, l, h, h1, h0 => by
    by_cases hc : l < t.length ∧ decide (Rw.en t (l + 1) = l + 1) = e
    · rw [Rw.bdn_step hc.1 hc.2] at h0 ⊢
      exact bdn_final f _ (by have := Rw.en_ge t (l + 1); omega) (Rw.en_le t (l + 1) (by omega)) h0
    · rw [Rw.bdn_stop hc] at h0 ⊢
      cases hd : decide (Rw.en t (l + 1) = l + 1) <;> cases e <;> simp_all
set_option maxRecDepth 100000 in
set_option maxHeartbeats 1000000 in
theorem block_any (A : Option Addr) (n c k : Nat) (t : List Int) (w : World) (hA : Rn w A n t) (hn : n ≤ 6000) (hk : k ≤ n) :
    Calls Tryz.prog 83 #[.slice A n c, .int .i64 k] w fun e w' => e = .returned (.tuple #[.int .i64 (Rw.bup t (Rw.bare t k) (t.length + 1) (Rw.beg t k) : Nat), .int .i64 (Rw.bdn t (Rw.bare t k) (t.length + 1) (Rw.en t k) : Nat)]) ∧ w' = w := by
  have hlen := hA.1
  have hle := Rw.en_le t k (by omega)
  have hbl := Rw.beg_le t k
  have hge := Rw.en_ge t k
  have cB := row_any A n c t k w hA hk (by omega)
  obtain ⟨E, hE⟩ : ∃ E, Rw.bare t k = E := ⟨_, rfl⟩
  obtain ⟨LO, hLO⟩ : ∃ LO, Rw.bup t E (t.length + 1) (Rw.beg t k) = LO := ⟨_, rfl⟩
  obtain ⟨HI, hHI⟩ : ∃ HI, Rw.bdn t E (t.length + 1) (Rw.en t k) = HI := ⟨_, rfl⟩
  rw [hE, hLO, hHI]
  have hbb := Rw.beg_beg t k
  have hee := Rw.en_en t k (by omega)
  have HLO := Lib.hid hLO
  have HHI := Lib.hid hHI
  have hEI : (((Rw.beg t k : Nat) : Int) == ((Rw.en t k : Nat) : Int)) = E := by
    rw [← hE]
    unfold Rw.bare
    by_cases h : Rw.beg t k = Rw.en t k
    · rw [decide_eq_true h, h]; simp
    · rw [decide_eq_false h]; rw [beq_eq_false_iff_ne]; omega
  have HL := Lib.hid hlen
  have HA := Lib.hid hA
  rw [hlen] at hle
  generalize hl0 : Rw.beg t k = lo at *
  generalize hh0 : Rw.en t k = hi at *
  have HBB := Lib.hid hbb
  have HEE := Lib.hid hee
  clear hLO hHI hE hlen hA hbb hee hl0 hh0
  go_enter Tryz.func83, Tryz.ntmps83
  go_wp2_with (go_at_call 35; refine cB.mono ?_; rintro e w2 ⟨rfl, hw⟩; have hw2 := hw.symm; clear hw; subst hw2; clear cB)
  clear hEI
  go_loop [4] (fun v => ∃ (f l : Nat), v = .int .i64 l ∧ l ≤ n ∧ l < f ∧ Rw.beg t l = l ∧ Rw.bup t E f l = LO) (fun v => (intOf v).toNat)
  case atStart => exact ⟨t.length + 1, lo, rfl, by omega, by have := HL.out; omega, HBB.out, HLO.out⟩
  case round =>
    obtain ⟨f, l, rfl, hln, hlf, hbl', hbup⟩ := hrel
    have HB := Lib.hid hbup
    have HBL := Lib.hid hbl'
    clear hbup hbl'
    by_cases hc : 0 < l ∧ decide (Rw.beg t (l - 1) = l - 1) = E
    · obtain ⟨f', rfl⟩ : ∃ f', f = f' + 1 := ⟨f - 1, by omega⟩
      obtain ⟨i, rfl⟩ : ∃ i, l = i + 1 := ⟨l - 1, by omega⟩
      have hbare := Rw.bare_up HBL.out hc.1
      have hst := Rw.bup_step (t := t) (e := E) (f := f') hc.1 hc.2
      rw [hc.2] at hbare
      rw [Nat.add_sub_cancel] at hbare hst
      have cR := row_any A n c t i w HA.out (by omega) (by omega)
      have hEI : (((Rw.beg t i : Nat) : Int) == ((Rw.en t i : Nat) : Int)) = E := by
        rw [← hbare]
        unfold Rw.bare
        by_cases h : Rw.beg t i = Rw.en t i
        · rw [decide_eq_true h, h]; simp
        · rw [decide_eq_false h]; rw [beq_eq_false_iff_ne]; omega
      have HB2 := Lib.hid (show Rw.bup t E f' (Rw.beg t i) = LO by rw [← HB.out, hst])
      have hle2 := Rw.beg_le t i
      have HBB2 := Lib.hid (Rw.beg_beg t i)
      have b1 : decide ((0 : Int) < (i : Int) + 1) = true := decide_eq_true (by omega)
      clear hc hbare hst
      generalize Rw.en t i = h2 at *
      generalize Rw.beg t i = l2 at *
      go_wp2_with (go_at_call 35; refine cR.mono ?_; rintro e w2 ⟨rfl, hw⟩; have hw2 := hw.symm; clear hw; subst hw2; clear cR)
      go_round
      case rel => exact ⟨f', l2, rfl, by omega, by omega, HBB2.out, HB2.out⟩
      case measure => simp [intOf] <;> omega
    · have HLL := Lib.hid (show l = LO by rw [← HB.out, Rw.bup_stop hc])
      have hways : l = 0 ∨ (0 < l ∧ decide (Rw.beg t (l - 1) = l - 1) ≠ E) := by
        by_cases h0 : 0 < l
        · exact .inr ⟨h0, fun e => hc ⟨h0, e⟩⟩
        · exact .inl (by omega)
      clear hc
      rcases hways with rfl | ⟨h0, hne⟩
      case' inr =>
        obtain ⟨i, rfl⟩ : ∃ i, l = i + 1 := ⟨l - 1, by omega⟩
        have hbare := Rw.bare_up HBL.out h0
        rw [Nat.add_sub_cancel] at hbare hne
        have cR := row_any A n c t i w HA.out (by omega) (by omega)
        obtain ⟨F, hF⟩ : ∃ F, Rw.bare t i = F := ⟨_, rfl⟩
        have hEI : (((Rw.beg t i : Nat) : Int) == ((Rw.en t i : Nat) : Int)) = F := by
          rw [← hF]
          unfold Rw.bare
          by_cases h : Rw.beg t i = Rw.en t i
          · rw [decide_eq_true h, h]; simp
          · rw [decide_eq_false h]; rw [beq_eq_false_iff_ne]; omega
        have hFE : F = !E := by
          have : F ≠ E := by rw [← hF, hbare]; exact hne
          cases F <;> cases E <;> simp_all
        have b1 : decide ((0 : Int) < (i : Int) + 1) = true := decide_eq_true (by omega)
        clear hne hbare hF
        subst hFE
        generalize Rw.en t i = h2 at *
        generalize Rw.beg t i = l2 at *
        go_wp2_with (go_at_call 35; refine cR.mono ?_; rintro e w2 ⟨rfl, hw⟩; have hw2 := hw.symm; clear hw; subst hw2; clear cR)
        clear hEI b1
      case' inl => go_wp2_with fail
      all_goals
        go_loop [5] (fun v => ∃ (f l : Nat), v = .int .i64 l ∧ l ≤ n ∧ n < l + f ∧ Rw.en t l = l ∧ Rw.bdn t E f l = HI) (fun v => n - (intOf v).toNat)
        case atStart => exact ⟨t.length + 1, hi, rfl, by omega, by have := HL.out; omega, HEE.out, HHI.out⟩
        case round =>
          obtain ⟨f, h, rfl, hhn, hhf, hen, hbdn⟩ := hrel
          have HB := Lib.hid hbdn
          have HEN := Lib.hid hen
          clear hbdn hen
          by_cases hlt : h < n
          · have cR := row_any A n c t (h + 1) w HA.out (by omega) (by omega)
            have hbare := Rw.bare_dn (t := t) (l := h) (by rw [HL.out]; exact hlt) HEN.out
            obtain ⟨F, hF⟩ : ∃ F, Rw.bare t (h + 1) = F := ⟨_, rfl⟩
            have hEI : (((Rw.beg t (h + 1) : Nat) : Int) == ((Rw.en t (h + 1) : Nat) : Int)) = F := by
              rw [← hF]
              unfold Rw.bare
              by_cases h : Rw.beg t (h + 1) = Rw.en t (h + 1)
              · rw [decide_eq_true h, h]; simp
              · rw [decide_eq_false h]; rw [beq_eq_false_iff_ne]; omega
            rw [hF] at hbare
            have b1 : decide (h < n) = true := decide_eq_true hlt
            have b2 : decide ((h : Int) < (n : Int)) = true := decide_eq_true (by omega)
            have e1 : IntKind.i64.wrap ((h : Int) + 1) = (h : Int) + 1 := wrapI rfl (by omega) (by omega)
            have e2 : ((h + 1 : Nat) : Int) = (h : Int) + 1 := by omega
            rw [e2] at cR
            have hge2 := Rw.en_ge t (h + 1)
            have hle2 := Rw.en_le t (h + 1) (by have := HL.out; omega)
            rw [HL.out] at hle2
            have HEE2 := Lib.hid (Rw.en_en t (h + 1) (by have := HL.out; omega))
            by_cases hFE : F = E
            · subst hFE
              obtain ⟨f', rfl⟩ : ∃ f', f = f' + 1 := ⟨f - 1, by omega⟩
              have HB2 := Lib.hid (show Rw.bdn t F f' (Rw.en t (h + 1)) = HI by rw [← HB.out, Rw.bdn_step (by rw [HL.out]; exact hlt) hbare.symm])
              clear hbare hF
              generalize Rw.en t (h + 1) = h2 at *
              generalize Rw.beg t (h + 1) = l2 at *
              cases F
              all_goals
                go_wp2_with (go_at_call 35; refine cR.mono ?_; rintro e w2 ⟨rfl, hw⟩; have hw2 := hw.symm; clear hw; subst hw2; clear cR)
                go_round
                case rel => first | exact ⟨f', h2, rfl, by omega, by omega, HEE2.out, HB2.out⟩ | exact ⟨trivial, _, _, _, _, _, _, _, _, _, _, _, _, _, _, _, _, _, _, _, _, ⟨f', h2, rfl, by omega, by omega, HEE2.out, HB2.out⟩, rfl⟩
                case measure => simp [intOf] <;> omega
            · have HHH := Lib.hid (show h = HI by rw [← HB.out, Rw.bdn_stop (fun hc => hFE (by rw [hbare]; exact hc.2))])
              have hFE2 : F = !E := by cases F <;> cases E <;> simp_all
              clear hbare hF hFE
              subst hFE2
              generalize Rw.en t (h + 1) = h2 at *
              generalize Rw.beg t (h + 1) = l2 at *
              cases E
              all_goals
                go_wp2_with (go_at_call 35; refine cR.mono ?_; rintro e w2 ⟨rfl, hw⟩; have hw2 := hw.symm; clear hw; subst hw2; clear cR)
                rw [← HLL.out, ← HHH.out]
                refine bodyPost_ret (v := .tuple #[_, _]) (by simp [results, Tryz.results83, go_sem]) rfl ⟨rfl, rfl⟩
          · obtain rfl : h = n := by omega
            have b1 : decide (h < h) = false := decide_eq_false (by omega)
            have b2 : decide ((h : Int) < (h : Int)) = false := decide_eq_false (by omega)
            have HHH := Lib.hid (show h = HI by rw [← HB.out, Rw.bdn_stop (fun hc => by have := hc.1; have := HL.out; omega)])
            go_wp2_with fail
            rw [← HLL.out, ← HHH.out]
            refine bodyPost_ret (v := .tuple #[_, _]) (by simp [results, Tryz.results83, go_sem]) rfl ⟨rfl, rfl⟩
end Go.Proofs.YtbofjefblhnkoaaGreatDoor
