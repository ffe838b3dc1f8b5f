/-
  CAUSAL ORDER: which vectors may be; whether an operation is old.
-/
import Derived.Test.YtpgicfbaefcbmaaDoorCdM
import Derived.BigQuiet
set_option linter.unusedVariables false
namespace Go.Proofs.YtpgicfbaefcbmaaDoor
open Go Go.RowKit

theorem Nums.one {w : World} {A : Option Addr} {n : Nat} {l : List Int} (h : Nums w A n l) {k : Nat} (hk : k < n) : ∃ ad x, A = some ad ∧ l[k]? = some x ∧ w.cell? (ad.add k) = some (.int .i64 x) := by
  have hl : k < l.length := by rw [h.1]; exact hk
  obtain ⟨ad, e, hc⟩ := h.2 k l[k] (List.getElem?_eq_getElem hl)
  exact ⟨ad, l[k], e, List.getElem?_eq_getElem hl, hc⟩
set_option maxRecDepth 100000 in
set_option maxHeartbeats 4000000 in
theorem cmay_any (A : Option Addr) (n c : Nat) (l : List Int) (w : World) (h : Nums w A n l) (hn : n ≤ 17592186044416) :
    Calls Tryd.prog 48 #[.slice A n c] w fun e w' => e = .returned (.bool (decide (Cd.vecOk l))) ∧ Kept (fun _ => False) w w' := by
  have HA := Lib.hid h
  have HLN : Hid (l.length = n) := h.1
  obtain ⟨E, hE⟩ : ∃ E, decide (Cd.vecOk l) = E := ⟨_, rfl⟩
  rw [hE]
  have HE := Lib.hid hE
  clear h hE
  go_enter Tryd.func48, Tryd.ntmps48
  go_wp2_with fail
  go_loopw [7] (fun v wr => ∃ k : Nat, k ≤ n ∧ v = .int .i64 k ∧ (∀ (j : Nat) (x : Int), j < k → l[j]? = some x → inV x) ∧ Kept (fun _ => False) w wr) (fun v _ => n - (intOf v).toNat)
  case atStart => exact ⟨0, Nat.zero_le _, rfl, (fun j x hj => absurd hj (Nat.not_lt_zero _)), Kept.refl _ _⟩
  case round =>
    obtain ⟨k, hk, rfl, hat, hkept⟩ := hrel
    have HK := Lib.hid hkept
    have HAT := Lib.hid hat
    clear hkept hat
    by_cases hlt : k < n
    · obtain ⟨ad, x, rfl, hx, c0⟩ := (HA.out.kept HK.out (fun _ _ => id)).one hlt
      have b1 : decide (k < n) = true := decide_eq_true hlt
      have b2 : decide ((k : Int) < (n : Int)) = true := decide_eq_true (by omega)
      have t1 : (0 : Int) ≤ (k : Int) := by omega
      have t2 : (k : Int) < (n : Int) := by omega
      have HX := Lib.hid hx
      clear hx
      by_cases h0 : x < 0
      · have b3 : decide (x < 0) = true := decide_eq_true h0
        have he : E = false := by
          rw [← HE.out]
          exact decide_eq_false (fun hv => by have := (hv.2 x (List.mem_of_getElem? HX.out)).1; omega)
        subst he
        clear h0
        go_wp2_with fail
        go_ret
        exact ⟨rfl, HK.out⟩
      · have b3 : decide (x < 0) = false := decide_eq_false h0
        by_cases h2 : 2000 < x
        · have b4 : decide (2000 < x) = true := decide_eq_true h2
          have he : E = false := by
            rw [← HE.out]
            exact decide_eq_false (fun hv => by have := (hv.2 x (List.mem_of_getElem? HX.out)).2; omega)
          subst he
          clear h0 h2
          go_wp2_with fail
          go_ret
          exact ⟨rfl, HK.out⟩
        · have b4 : decide (2000 < x) = false := decide_eq_false h2
          have HN : Hid (∀ (j : Nat) (y : Int), j < k + 1 → l[j]? = some y → inV y) := fun j y hj hy => by
            by_cases e : j = k
            · subst e
              rw [HX.out] at hy
              injection hy with hy
              subst hy
              exact ⟨by omega, by omega⟩
            · exact HAT.out j y (by omega) hy
          clear h0 h2
          go_wp2_with fail
          go_roundw
          case rel => exact ⟨k + 1, by omega, by go_num, HN.out, HK.out⟩
          case measure => simp [intOf] <;> omega
    · obtain rfl : k = n := by omega
      have b1 : decide (k < k) = false := decide_eq_false (by omega)
      have b2 : decide ((k : Int) < (k : Int)) = false := decide_eq_false (by omega)
      by_cases h4 : k = 4
      · have b4 : ((k : Int) == 4) = true := by rw [h4]; rfl
        have he : E = true := by
          rw [← HE.out]
          exact decide_eq_true (vec_of (by rw [HLN.out]; exact h4) (fun j x hx => HAT.out j x (by
            have : j < l.length := (List.getElem?_eq_some_iff.1 hx).1
            rw [HLN.out] at this
            exact this) hx))
        subst he
        clear h4
        go_wp2_with fail
        go_ret
        exact ⟨rfl, HK.out⟩
      · have b4 : ((k : Int) == 4) = false := beq_eq_false_iff_ne.2 (by omega)
        have he : E = false := by
          rw [← HE.out]
          exact decide_eq_false (fun hv => h4 (by rw [← HLN.out]; exact hv.1))
        subst he
        clear h4
        go_wp2_with fail
        go_ret
        exact ⟨rfl, HK.out⟩
end Go.Proofs.YtpgicfbaefcbmaaDoor
