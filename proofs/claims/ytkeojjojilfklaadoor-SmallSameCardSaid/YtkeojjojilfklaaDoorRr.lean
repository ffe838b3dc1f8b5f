/-
  THE REFERENCE's Rest (for seats where Tr does not fill).
-/
import Derived.Test.YtkeojjojilfklaaDoorRe
import Derived.Test.YtkeojjojilfklaaDoorSp
set_option linter.unusedVariables false
namespace Go.Proofs.YtkeojjojilfklaaDoor
open Go Go.RowKit

/-- The reference's. -/
theorem rrest_any (A : Option Addr) (n c : Nat) (t : List Int) (k : Nat) (w : World) (hA : Rn w A n t) (hk : k ≤ n) (hn : n ≤ 100000) :
    Calls Tryd.prog 59 #[.slice A n c, .int .i64 k] w fun e w' => e = .returned (.int .i64 (Rw.rst t k : Nat)) ∧ w' = w := by
  have cE := rend_any A n c t k w hA hk hn
  have cB := rbegin_any A n c t k w hA hk hn
  have hb := Rw.beg_le t k
  have he := Rw.en_ge t k
  obtain ⟨V, hV⟩ : ∃ V, Rw.rst t k = V := ⟨_, rfl⟩
  rw [hV]
  unfold Rw.rst at hV
  generalize Rw.beg t k = b at *
  generalize Rw.en t k = e at *
  clear hA
  by_cases h1 : e = k
  · subst h1
    by_cases h2 : b < e
    · rw [if_pos ⟨rfl, h2⟩] at hV
      obtain ⟨e', rfl⟩ : ∃ e', e = e' + 1 := ⟨e - 1, by omega⟩
      have b1 : decide (b < e' + 1) = true := decide_eq_true h2
      have b2 : decide ((b : Int) < (e' : Int) + 1) = true := decide_eq_true (by omega)
      have HV := Lib.hid hV
      clear hV
      go_enter Tryd.func59, Tryd.ntmps59
      go_wp2_with (first | (go_at_call 25; refine cE.mono ?_; rintro e w' ⟨rfl, rfl⟩) | (go_at_call 40; refine cB.mono ?_; rintro e w' ⟨rfl, rfl⟩))
      go_ret
      rw [← HV.out]
      exact ⟨rfl, rfl⟩
    · rw [if_neg (fun h => h2 h.2)] at hV
      have b1 : decide (b < e) = false := decide_eq_false h2
      have b2 : decide ((b : Int) < (e : Int)) = false := decide_eq_false (by omega)
      have HV := Lib.hid hV
      clear hV
      go_enter Tryd.func59, Tryd.ntmps59
      go_wp2_with (first | (go_at_call 25; refine cE.mono ?_; rintro e w' ⟨rfl, rfl⟩) | (go_at_call 40; refine cB.mono ?_; rintro e w' ⟨rfl, rfl⟩))
      go_ret
      rw [← HV.out]
      exact ⟨rfl, rfl⟩
  · rw [if_neg (fun h => h1 h.1)] at hV
    have e1 : ((k : Int) == (e : Int)) = false := by rw [beq_eq_false_iff_ne]; omega
    have e2 : (k == e) = false := by rw [beq_eq_false_iff_ne]; omega
    have HV := Lib.hid hV
    clear hV h1
    go_enter Tryd.func59, Tryd.ntmps59
    go_wp2_with (first | (go_at_call 25; refine cE.mono ?_; rintro e w' ⟨rfl, rfl⟩) | (go_at_call 40; refine cB.mono ?_; rintro e w' ⟨rfl, rfl⟩))
    go_ret
    rw [← HV.out]
    exact ⟨rfl, rfl⟩
end Go.Proofs.YtkeojjojilfklaaDoor
