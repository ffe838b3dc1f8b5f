/-
  CAUSAL ORDER: slices.IndexFunc: the first operation that is ready.
-/
import Derived.Test.YtpgicfbaefcbmaaDoorCaD
set_option linter.unusedVariables false
namespace Go.Proofs.YtpgicfbaefcbmaaDoor
open Go Go.RowKit

/-- The first that is ready. -/
def Cd.Fst (vs : List Int) (al : List OpS) (i : Int) : Prop :=
  (i = -1 ∧ ∀ (j : Nat) (b : OpS), al[j]? = some b → ¬ Cd.rd vs b.o) ∨ ∃ (k : Nat) (b : OpS), i = (k : Int) ∧ al[k]? = some b ∧ Cd.rd vs b.o ∧ ∀ (j : Nat) (q : OpS), j < k → al[j]? = some q → ¬ Cd.rd vs q.o
set_option maxRecDepth 100000 in
set_option maxHeartbeats 4000000 in
theorem first_any (A : Option Addr) (n c : Nat) (al : List OpS) (xb g xc : Nat) (T : TypeId) (vs : List Int) (w : World) (hA : OpsM w A n al) (hn : n ≤ 100000) (hX : w.heap[xb]? = some (.cells #[.slice (some ⟨g, 0, none⟩) 4 xc] T (0, 0))) (hv : Vm w g xc vs) (hvl : vs.length = 4) (hvo : ∀ (j : Nat) (y : Int), vs[j]? = some y → inV y)
    (ho : ∀ (j : Nat) (b : OpS), al[j]? = some b → b.n ≤ 4 ∧ 1 ≤ b.o.st ∧ b.o.st ≤ 4) :
    Calls Tryd.prog 61 #[.slice A n c, .func (.func 60) #[] #[.pointer (some ⟨xb, 0, none⟩)]] w fun e w' => (∃ i, e = .returned (.int .i64 i) ∧ Cd.Fst vs al i) ∧ Kept (fun _ => False) w w' := by
  have HA := Lib.hid hA
  have HX := Lib.hid hX
  have HV := Lib.hid hv
  have HVL := Lib.hid hvl
  have HVO := Lib.hid hvo
  have HO := Lib.hid ho
  have HLN : Hid (al.length = n) := hA.1
  clear hA hX hv hvl hvo ho
  go_enter Tryd.func61, Tryd.ntmps61
  go_wp2_with fail
  go_loopw [8] (fun v wr => ∃ k : Nat, k ≤ n ∧ v = .int .i64 k ∧ (∀ (j : Nat) (b : OpS), j < k → al[j]? = some b → ¬ Cd.rd vs b.o) ∧ Kept (fun _ => False) w wr) (fun v _ => n - (intOf v).toNat)
  case atStart => exact ⟨0, Nat.zero_le _, rfl, (fun j b hj => absurd hj (Nat.not_lt_zero _)), Kept.refl _ _⟩
  case round =>
    obtain ⟨k, hk, rfl, hat, hkept⟩ := hrel
    have HK := Lib.hid hkept
    have HAT := Lib.hid hat
    clear hkept hat
    by_cases hlt : k < n
    · obtain ⟨ad, b, rfl, hb, h9, hok⟩ := (HA.out.kept HK.out (fun _ _ => id) (fun _ _ _ _ => id)).at_ hlt
      obtain ⟨hbn, hbs⟩ := HO.out k b hb
      have cR := rdyf_any xb g xc T vs b wr ((HK.out.block xb (heap_lt HX.out) id).trans HX.out) (HV.out.kept HK.out id) HVL.out HVO.out hok hbn hbs
      have HB := Lib.hid hb
      obtain ⟨c0, c1, c2, c3, c4, c5, c6, c7, c8⟩ := h9
      obtain ⟨⟨kd, t, si, t0, s0, rn, st, nn, seen⟩, B, m, mc⟩ := b
      simp only at c0 c1 c2 c3 c4 c5 c6 c7 c8
      unfold opV at cR
      simp only at cR
      have b1 : decide (k < n) = true := decide_eq_true hlt
      have b2 : decide ((k : Int) < (n : Int)) = true := decide_eq_true (by omega)
      have t1 : (0 : Int) ≤ (k : Int) := by omega
      have t2 : (k : Int) < (n : Int) := by omega
      clear hb hok hbn hbs
      by_cases hr : Cd.rd vs ⟨kd, t, si, t0, s0, rn, st, nn, seen⟩
      · have cT := cR.mono (R' := fun e w' => e = .returned (.bool true) ∧ Kept (fun _ => False) wr w') (by
          rintro e w' ⟨⟨E, rfl, hE⟩, hk⟩
          exact ⟨by rw [hE.2 hr], hk⟩)
        have HR := Lib.hid hr
        clear hr cR
        go_wp2_with (go_at_call 60; refine cT.mono ?_; rintro e w2 ⟨rfl, hk2⟩; have HK2 := Lib.hid (HK.out.trans hk2); clear hk2 cT)
        go_ret
        exact ⟨⟨(k : Int), rfl, .inr ⟨k, _, rfl, HB.out, HR.out, HAT.out⟩⟩, HK2.out⟩
      · have cT := cR.mono (R' := fun e w' => e = .returned (.bool false) ∧ Kept (fun _ => False) wr w') (by
          rintro e w' ⟨⟨E, rfl, hE⟩, hk⟩
          refine ⟨?_, hk⟩
          cases E
          · rfl
          · exact absurd (hE.1 rfl) hr)
        have HR : Hid (∀ (j : Nat) (q : OpS), j < k + 1 → al[j]? = some q → ¬ Cd.rd vs q.o) := fun j q hj hq => by
          by_cases e : j = k
          · subst e
            rw [HB.out] at hq
            injection hq with hq
            subst hq
            exact hr
          · exact HAT.out j q (by omega) hq
        clear hr cR
        go_wp2_with (go_at_call 60; refine cT.mono ?_; rintro e w2 ⟨rfl, hk2⟩; have HK2 := Lib.hid (HK.out.trans hk2); clear hk2 cT)
        go_roundw
        case rel => exact ⟨k + 1, by omega, by go_num, HR.out, HK2.out⟩
        case measure => simp [intOf] <;> omega
    · obtain rfl : k = n := by omega
      have b1 : decide (k < k) = false := decide_eq_false (by omega)
      have b2 : decide ((k : Int) < (k : Int)) = false := decide_eq_false (by omega)
      go_wp2_with fail
      go_ret
      exact ⟨⟨-1, rfl, .inl ⟨rfl, fun j b hb => HAT.out j b (by
        have : j < al.length := (List.getElem?_eq_some_iff.1 hb).1
        rw [HLN.out] at this
        exact this) hb⟩⟩, HK.out⟩
end Go.Proofs.YtpgicfbaefcbmaaDoor
