/-
  CAUSAL ORDER: the reference's Ops.
-/
import Derived.Test.YtpgicfbaefcbmaaDoorCaI
import Derived.Test.YtpgicfbaefcbmaaDoorCfO
set_option linter.unusedVariables false
namespace Go.Proofs.YtpgicfbaefcbmaaDoor
open Go Go.RowKit

set_option maxRecDepth 100000 in
set_option maxHeartbeats 4000000 in
theorem rops_any (A : Option Addr) (n c mo : Nat) (al : List OpS) (w : World) (hA : OpsM w A n al) (hn : n ≤ 100000) (hmo : mo ≤ 100000) :
    Calls Tryd.prog 28 #[.slice A n c, .int .i64 mo] w fun e w' => (∃ E, e = .returned (.bool E) ∧ (E = true ↔ n ≤ mo ∧ ∀ (j : Nat) (b : OpS), al[j]? = some b → Cd.opOk b.o)) ∧ Kept (fun _ => False) w w' := by
  have HA := Lib.hid hA
  have HLN : Hid (al.length = n) := hA.1
  clear hA
  go_enter Tryd.func28, Tryd.ntmps28
  go_wp2_with fail
  go_loopw [5] (fun v wr => ∃ k : Nat, k ≤ n ∧ k ≤ mo + 1 ∧ v = .int .i64 k ∧ (∀ (j : Nat) (b : OpS), j < k → al[j]? = some b → Cd.opOk b.o) ∧ Kept (fun _ => False) w wr) (fun v _ => n - (intOf v).toNat)
  case atStart => exact ⟨0, Nat.zero_le _, Nat.zero_le _, rfl, (fun j b hj => absurd hj (Nat.not_lt_zero _)), Kept.refl _ _⟩
  case round =>
    obtain ⟨k, hk, hkm, rfl, hat, hkept⟩ := hrel
    have HK := Lib.hid hkept
    have HAT := Lib.hid hat
    clear hkept hat
    by_cases hlt : k < n
    · by_cases hle : k ≤ mo
      · obtain ⟨ad, b, rfl, hb, h9, hok⟩ := (HA.out.kept HK.out (fun _ _ => id) (fun _ _ _ _ => id)).at_ hlt
        have cR := rop_any b wr hok
        have HB := Lib.hid hb
        obtain ⟨c0, c1, c2, c3, c4, c5, c6, c7, c8⟩ := h9
        obtain ⟨⟨kd, t, si, t0, s0, rn, st, nn, seen⟩, B, m, mc⟩ := b
        simp only at c0 c1 c2 c3 c4 c5 c6 c7 c8
        unfold opV at cR
        simp only at cR
        have b1 : decide (k < n) = true := decide_eq_true hlt
        have b2 : decide ((k : Int) < (n : Int)) = true := decide_eq_true (by omega)
        have b3 : decide ((k : Int) ≤ (mo : Int)) = true := decide_eq_true (by omega)
        have b4 : decide (k ≤ mo) = true := decide_eq_true hle
        have t1 : (0 : Int) ≤ (k : Int) := by omega
        have t2 : (k : Int) < (n : Int) := by omega
        clear hb hok
        by_cases hr : Cd.opOk ⟨kd, t, si, t0, s0, rn, st, nn, seen⟩
        · rw [decide_eq_true hr] at cR
          have HR : Hid (∀ (j : Nat) (q : OpS), j < k + 1 → al[j]? = some q → Cd.opOk q.o) := fun j q hj hq => by
            by_cases e : j = k
            · subst e
              rw [HB.out] at hq
              injection hq with hq
              subst hq
              exact hr
            · exact HAT.out j q (by omega) hq
          clear hr
          go_wp2_with (go_at_call 11; refine cR.mono ?_; rintro e w2 ⟨rfl, hk2⟩; have HK2 := Lib.hid (HK.out.trans hk2); clear hk2 cR)
          go_roundw
          case rel => exact ⟨k + 1, by omega, by omega, by go_num, HR.out, HK2.out⟩
          case measure => simp [intOf] <;> omega
        · rw [decide_eq_false hr] at cR
          have HR := Lib.hid hr
          clear hr
          go_wp2_with (go_at_call 11; refine cR.mono ?_; rintro e w2 ⟨rfl, hk2⟩; have HK2 := Lib.hid (HK.out.trans hk2); clear hk2 cR)
          go_ret
          exact ⟨⟨false, rfl, (fun h => by cases h), fun h => absurd (h.2 k _ HB.out) HR.out⟩, HK2.out⟩
      · have b1 : decide (k < n) = true := decide_eq_true hlt
        have b2 : decide ((k : Int) < (n : Int)) = true := decide_eq_true (by omega)
        have b3 : decide ((k : Int) ≤ (mo : Int)) = false := decide_eq_false (by omega)
        have b4 : decide (k ≤ mo) = false := decide_eq_false hle
        have b5 : decide ((n : Int) ≤ (mo : Int)) = false := decide_eq_false (by omega)
        have b6 : decide (n ≤ mo) = false := decide_eq_false (by omega)
        have HNM : Hid (¬ n ≤ mo) := by show ¬ _; omega
        go_wp2_with fail
        go_ret
        exact ⟨⟨false, rfl, (fun h => by cases h), fun h => absurd h.1 HNM.out⟩, HK.out⟩
    · obtain rfl : k = n := by omega
      have b1 : decide (k < k) = false := decide_eq_false (by omega)
      have b2 : decide ((k : Int) < (k : Int)) = false := decide_eq_false (by omega)
      by_cases hle : k ≤ mo
      · have b3 : decide ((k : Int) ≤ (mo : Int)) = true := decide_eq_true (by omega)
        have b4 : decide (k ≤ mo) = true := decide_eq_true hle
        have HE := Lib.hid hle
        clear hle
        go_wp2_with fail
        go_ret
        exact ⟨⟨true, rfl, fun _ => ⟨HE.out, fun j b hb => HAT.out j b (by
          have : j < al.length := (List.getElem?_eq_some_iff.1 hb).1
          rw [HLN.out] at this
          exact this) hb⟩, fun _ => rfl⟩, HK.out⟩
      · have b3 : decide ((k : Int) ≤ (mo : Int)) = false := decide_eq_false (by omega)
        have b4 : decide (k ≤ mo) = false := decide_eq_false hle
        have HE := Lib.hid hle
        clear hle
        go_wp2_with fail
        go_ret
        exact ⟨⟨false, rfl, (fun h => by cases h), fun h => absurd h.1 HE.out⟩, HK.out⟩
end Go.Proofs.YtpgicfbaefcbmaaDoor
