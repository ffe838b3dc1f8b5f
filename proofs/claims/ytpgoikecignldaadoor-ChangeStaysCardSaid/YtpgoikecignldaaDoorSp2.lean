/-
  ROWS OF RUNES: the first rune that is no blank; rows below and above.
-/
import Derived.Test.YtpgoikecignldaaDoorSp
set_option linter.unusedVariables false
namespace Go.Proofs.YtpgoikecignldaaDoor
open Go Go.RowKit

theorem blank_any (r : Int) (h : 0 ≤ r ∧ r ≤ 1114111) (w : World) : Calls Tryd.prog 46 #[.int .i32 r] w fun e w' => e = .returned (.bool (Rw.cls r == 0)) ∧ w' = w := by
  obtain ⟨h1, h2⟩ := h
  have cC := class_any r h1 h2 w
  generalize Rw.cls r = C at cC ⊢
  go_enter Tryd.func46, Tryd.ntmps46
  go_wp2_with (go_at_call 54; refine cC.mono ?_; rintro e w' ⟨rfl, rfl⟩)
  go_ret
  exact ⟨rfl, rfl⟩
theorem first_any (A : Option Addr) (n c : Nat) (t : List Int) (k : Nat) (w : World) (hA : Rn w A n t) (hr : Runey t) (hk : k ≤ n) (hn : n ≤ 100000) :
    Calls Tryd.prog 44 #[.slice A n c, .int .i64 k] w fun e w' => e = .returned (.int .i64 (Rw.fst t k : Nat)) ∧ w' = w := by
  have cB := row_any A n c t k w hA hk hn
  have hb := Rw.beg_le t k
  have he := Rw.en_le t k (by rw [hA.1]; exact hk)
  rw [hA.1] at he
  have hbe := Nat.le_trans (Rw.beg_le t k) (Rw.en_ge t k)
  have HE : Hid (Rw.en t (Rw.beg t k) = Rw.en t k) := Rw.en_beg t k (by rw [hA.1]; exact hk)
  have HA := Lib.hid hA
  have HR := Lib.hid hr
  have HF : Hid (Rw.fst t k = Rw.skp t (Rw.beg t k)) := rfl
  clear hA hr
  have HN : Hid (∀ j, Rw.beg t k ≤ j → j < Rw.en t k → t[j]? ≠ some 10) := fun j h1 h2 => by
    by_cases hj : j < k
    · exact Rw.beg_none t k j h1 hj
    · exact Rw.en_none t k j (by omega) h2
  have HS : Hid (Rw.en t k = n ∨ t[Rw.en t k]? = some 10) := by
    by_cases h : Rw.en t k = n
    · exact .inl h
    · exact .inr (Rw.en_at t k (by rw [HA.out.1]; omega))
  generalize Rw.beg t k = b at cB hb hbe HF HE HN
  generalize Rw.en t k = h at cB he hbe HE HN HS
  generalize Rw.fst t k = F at HF ⊢
  go_enter Tryd.func44, Tryd.ntmps44
  go_wp2_with (go_at_call 34; refine cB.mono ?_; rintro e w' ⟨rfl, rfl⟩)
  go_loop [5] (fun v => ∃ j : Nat, b ≤ j ∧ j ≤ h ∧ v = .int .i64 j ∧ Rw.skp t j = F) (fun v => n - (intOf v).toNat)
  case atStart => exact ⟨b, Nat.le_refl _, hbe, rfl, HF.out.symm⟩
  case round =>
    obtain ⟨j, hbj, hj, rfl, hb⟩ := hrel
    have HB := Lib.hid hb
    clear hb
    by_cases h0 : j < h
    · obtain ⟨ad, x, rfl, hx, hc⟩ := HA.out.cell (j := j) (by omega)
      have h10 : Hid (x ≠ 10) := fun e => HN.out j hbj h0 (by rw [hx, e])
      obtain ⟨hx1, hx2⟩ := HR.out.at_ hx
      have HX := Lib.hid hx
      clear hx
      have cC := blank_any x ⟨hx1, hx2⟩ w'
      by_cases hz : Rw.cls x = 0
      · have b4 : (Rw.cls x == 0) = true := by rw [hz]; rfl
        rw [b4] at cC
        have HZ := Lib.hid hz
        clear hz b4
        go_wp2_with (go_at_call 46; refine cC.mono ?_; rintro e w' ⟨rfl, rfl⟩)
        go_round
        case rel => exact ⟨j + 1, by omega, by omega, by go_num, by rw [← HB.out, Rw.skp_step HX.out h10.out HZ.out]⟩
        case measure => simp [intOf]; omega
      · have b4 : (Rw.cls x == 0) = false := by rw [beq_eq_false_iff_ne]; exact hz
        rw [b4] at cC
        have HZ := Lib.hid hz
        clear hz b4
        go_wp2_with (go_at_call 46; refine cC.mono ?_; rintro e w' ⟨rfl, rfl⟩)
        go_ret
        rw [← HB.out, Rw.skp_stop HX.out (.inr HZ.out)]
        exact ⟨rfl, rfl⟩
    · obtain rfl : j = h := by omega
      go_wp2
      go_ret
      rw [← HB.out]
      rcases HS.out with hs | hs
      · rw [Rw.skp_end (by rw [HA.out.1]; omega)]
        exact ⟨rfl, rfl⟩
      · rw [Rw.skp_stop hs (.inl rfl)]
        exact ⟨rfl, rfl⟩
end Go.Proofs.YtpgoikecignldaaDoor
