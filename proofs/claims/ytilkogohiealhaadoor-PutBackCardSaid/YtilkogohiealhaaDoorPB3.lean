/-
  ROWS OF RUNES: begin, end, the first rune that is no blank, rows below and above: of the program and of the reference.
  ROWS OF RUNES: the first rune that is no blank; rows below and above.
-/
import Derived.Test.YtilkogohiealhaaDoorPB1
import Derived.Test.YtilkogohiealhaaDoorPA1
set_option linter.unusedVariables false
namespace Go.Proofs.YtilkogohiealhaaDoor
open Go Go.RowKit

theorem rbegin_any (A : Option Addr) (n c : Nat) (t : List Int) (k : Nat) (w : World) (hA : Rn w A n t) (hk : k ≤ n) (hn : n ≤ 100000) :
    Calls Tryd.prog 16 #[.slice A n c, .int .i64 k] w fun e w' => e = .returned (.int .i64 (Rw.beg t k : Nat)) ∧ w' = w := by
  have HA := Lib.hid hA
  clear hA
  go_enter Tryd.func16, Tryd.ntmps16
  go_wp2
  go_loop [1] (fun v => ∃ j : Nat, j ≤ k ∧ v = .int .i64 j ∧ Rw.beg t j = Rw.beg t k) (fun v => (intOf v).toNat)
  case atStart => exact ⟨k, Nat.le_refl _, rfl, rfl⟩
  case round =>
    obtain ⟨j, hj, rfl, hb⟩ := hrel
    have HB := Lib.hid hb
    clear hb
    by_cases h0 : j = 0
    · subst h0
      go_wp2
      go_ret
      rw [← HB.out]
      exact ⟨rfl, rfl⟩
    · obtain ⟨i, rfl⟩ : ∃ i, j = i + 1 := ⟨j - 1, by omega⟩
      clear h0
      obtain ⟨ad, x, rfl, hx, hc⟩ := HA.out.cell (j := i) (by omega)
      have HX := Lib.hid hx
      clear hx
      by_cases h10 : x = 10
      · subst h10
        go_wp2
        go_ret
        rw [← HB.out, Rw.beg_stop HX.out]
        exact ⟨rfl, rfl⟩
      · have b3 : (x != 10) = true := by rw [bne_iff_ne]; exact h10
        have H10 := Lib.hid h10
        clear h10
        go_wp2
        go_round
        case rel =>
          refine ⟨i, by omega, by go_num, ?_⟩
          rw [← HB.out, Rw.beg_step]
          rw [HX.out]
          intro e
          injection e with e
          exact H10.out e
        case measure => simp [intOf]
theorem rend_any (A : Option Addr) (n c : Nat) (t : List Int) (k : Nat) (w : World) (hA : Rn w A n t) (hk : k ≤ n) (hn : n ≤ 100000) :
    Calls Tryd.prog 17 #[.slice A n c, .int .i64 k] w fun e w' => e = .returned (.int .i64 (Rw.en t k : Nat)) ∧ w' = w := by
  have HA := Lib.hid hA
  clear hA
  go_enter Tryd.func17, Tryd.ntmps17
  go_wp2
  go_loop [1] (fun v => ∃ j : Nat, j ≤ n ∧ v = .int .i64 j ∧ Rw.en t j = Rw.en t k) (fun v => n - (intOf v).toNat)
  case atStart => exact ⟨k, hk, rfl, rfl⟩
  case round =>
    obtain ⟨j, hj, rfl, hb⟩ := hrel
    have HB := Lib.hid hb
    clear hb
    by_cases h0 : j < n
    · obtain ⟨ad, x, rfl, hx, hc⟩ := HA.out.cell h0
      have HX := Lib.hid hx
      clear hx
      by_cases h10 : x = 10
      · subst h10
        go_wp2
        go_ret
        rw [← HB.out, Rw.en_stop HX.out]
        exact ⟨rfl, rfl⟩
      · have b3 : (x != 10) = true := by rw [bne_iff_ne]; exact h10
        have H10 := Lib.hid h10
        clear h10
        go_wp2
        go_round
        case rel => exact ⟨j + 1, by omega, by go_num, by rw [← HB.out, Rw.en_step HX.out H10.out]⟩
        case measure => simp [intOf]; omega
    · obtain rfl : j = n := by omega
      go_wp2
      go_ret
      rw [← HB.out, Rw.en_end (by rw [HA.out.1]; exact Nat.le_refl _)]
      exact ⟨rfl, rfl⟩
theorem row_any (A : Option Addr) (n c : Nat) (t : List Int) (k : Nat) (w : World) (hA : Rn w A n t) (hk : k ≤ n) (hn : n ≤ 100000) :
    Calls Tryd.prog 24 #[.slice A n c, .int .i64 k] w fun e w' => e = .returned (.tuple #[.int .i64 (Rw.beg t k : Nat), .int .i64 (Rw.en t k : Nat)]) ∧ w' = w := by
  have HA := Lib.hid hA
  clear hA
  go_enter Tryd.func24, Tryd.ntmps24
  go_wp2
  go_loop [4] (fun v => ∃ j : Nat, j ≤ k ∧ v = .int .i64 j ∧ Rw.beg t j = Rw.beg t k) (fun v => (intOf v).toNat)
  case atStart => exact ⟨k, Nat.le_refl _, rfl, rfl⟩
  case round =>
    obtain ⟨j, hj, rfl, hb⟩ := hrel
    have HB := Lib.hid hb
    clear hb
    by_cases h0 : j = 0
    · subst h0
      have HB2 : Hid (Rw.beg t k = 0) := by show _ = _; rw [← HB.out]; rfl
      clear HB
      go_wp2
      go_loop [5] (fun v => ∃ j : Nat, j ≤ n ∧ v = .int .i64 j ∧ Rw.en t j = Rw.en t k) (fun v => n - (intOf v).toNat)
      case atStart => exact ⟨k, hk, rfl, rfl⟩
      case round =>
        obtain ⟨j, hj, rfl, hb⟩ := hrel
        have HB := Lib.hid hb
        clear hb
        by_cases h0 : j < n
        · obtain ⟨ad, x, rfl, hx, hc⟩ := HA.out.cell h0
          have HX := Lib.hid hx
          clear hx
          by_cases h10 : x = 10
          · subst h10
            go_wp2
            refine bodyPost_ret (v := .tuple #[.int .i64 ((0 : Nat) : Int), .int .i64 (j : Nat)]) (by simp [results, Tryd.results24, go_sem]) rfl ⟨?_, rfl⟩
            rw [HB2.out, ← HB.out, Rw.en_stop HX.out]
          · have b3 : (x != 10) = true := by rw [bne_iff_ne]; exact h10
            have H10 := Lib.hid h10
            clear h10
            go_wp2
            go_round
            case rel => exact ⟨j + 1, by omega, by go_num, by rw [← HB.out, Rw.en_step HX.out H10.out]⟩
            case measure => simp [intOf]; omega
        · obtain rfl : j = n := by omega
          go_wp2
          refine bodyPost_ret (v := .tuple #[.int .i64 ((0 : Nat) : Int), .int .i64 (j : Nat)]) (by simp [results, Tryd.results24, go_sem]) rfl ⟨?_, rfl⟩
          rw [HB2.out, ← HB.out, Rw.en_end (by rw [HA.out.1]; exact Nat.le_refl _)]
    · obtain ⟨i, rfl⟩ : ∃ i, j = i + 1 := ⟨j - 1, by omega⟩
      clear h0
      obtain ⟨ad, x, rfl, hx, hc⟩ := HA.out.cell (j := i) (by omega)
      have HX := Lib.hid hx
      clear hx
      by_cases h10 : x = 10
      · subst h10
        have HB2 : Hid (Rw.beg t k = i + 1) := by show _ = _; rw [← HB.out, Rw.beg_stop HX.out]
        clear HB HX
        go_wp2
        clear hc
        go_loop [5] (fun v => ∃ j : Nat, j ≤ n ∧ v = .int .i64 j ∧ Rw.en t j = Rw.en t k) (fun v => n - (intOf v).toNat)
        case atStart => exact ⟨k, hk, rfl, rfl⟩
        case round =>
          obtain ⟨j, hj, rfl, hb⟩ := hrel
          have HB := Lib.hid hb
          clear hb
          by_cases h0 : j < n
          · obtain ⟨ad, x, he, hx, hc⟩ := HA.out.cell h0
            cases he
            have HX := Lib.hid hx
            clear hx
            by_cases h10 : x = 10
            · subst h10
              go_wp2
              refine bodyPost_ret (v := .tuple #[.int .i64 ((i + 1 : Nat) : Int), .int .i64 (j : Nat)]) (by simp [results, Tryd.results24, go_sem]) rfl ⟨?_, rfl⟩
              rw [HB2.out, ← HB.out, Rw.en_stop HX.out]
            · have b3 : (x != 10) = true := by rw [bne_iff_ne]; exact h10
              have H10 := Lib.hid h10
              clear h10
              go_wp2
              go_round
              case rel => exact ⟨j + 1, by omega, by go_num, by rw [← HB.out, Rw.en_step HX.out H10.out]⟩
              case measure => simp [intOf]; omega
          · obtain rfl : j = n := by omega
            go_wp2
            refine bodyPost_ret (v := .tuple #[.int .i64 ((i + 1 : Nat) : Int), .int .i64 (j : Nat)]) (by simp [results, Tryd.results24, go_sem]) rfl ⟨?_, rfl⟩
            rw [HB2.out, ← HB.out, Rw.en_end (by rw [HA.out.1]; exact Nat.le_refl _)]
      · have b3 : (x != 10) = true := by rw [bne_iff_ne]; exact h10
        have H10 := Lib.hid h10
        clear h10
        go_wp2
        go_round
        case rel =>
          refine ⟨i, by omega, by go_num, ?_⟩
          rw [← HB.out, Rw.beg_step]
          rw [HX.out]
          intro e
          injection e with e
          exact H10.out e
        case measure => simp [intOf]
end Go.Proofs.YtilkogohiealhaaDoor
namespace Go.Proofs.YtilkogohiealhaaDoor
open Go Go.RowKit

theorem blank_any (r : Int) (h : 0 ≤ r ∧ r ≤ 1114111) (w : World) : Calls Tryd.prog 53 #[.int .i32 r] w fun e w' => e = .returned (.bool (Rw.cls r == 0)) ∧ w' = w := by
  obtain ⟨h1, h2⟩ := h
  have cC := class_any r h1 h2 w
  generalize Rw.cls r = C at cC ⊢
  go_enter Tryd.func53, Tryd.ntmps53
  go_wp2_with (go_at_call 58; refine cC.mono ?_; rintro e w' ⟨rfl, rfl⟩)
  go_ret
  exact ⟨rfl, rfl⟩
theorem first_any (A : Option Addr) (n c : Nat) (t : List Int) (k : Nat) (w : World) (hA : Rn w A n t) (hr : Runey t) (hk : k ≤ n) (hn : n ≤ 100000) :
    Calls Tryd.prog 43 #[.slice A n c, .int .i64 k] w fun e w' => e = .returned (.int .i64 (Rw.fst t k : Nat)) ∧ w' = w := by
  have cB := row_any A n c t k w hA hk hn
  have hb := Rw.beg_le t k
  have he := Rw.en_le t k (by rw [hA.1]; exact hk)
  rw [hA.1] at he
  have hbe := Nat.le_trans (Rw.beg_le t k) (Rw.en_ge t k)
  have HE : Hid (Rw.en t (Rw.beg t k) = Rw.en t k) := Rw.en_beg t k (by rw [hA.1]; exact hk)
  have HA := Lib.hid hA
  have HR := Lib.hid hr
  have HF : Hid (Rw.fst t k = Rw.skp t (Rw.beg t k)) := rfl
  clear hA hr
  have HN : Hid (∀ j, Rw.beg t k ≤ j → j < Rw.en t k → t[j]? ≠ some 10) := fun j h1 h2 => by
    by_cases hj : j < k
    · exact Rw.beg_none t k j h1 hj
    · exact Rw.en_none t k j (by omega) h2
  have HS : Hid (Rw.en t k = n ∨ t[Rw.en t k]? = some 10) := by
    by_cases h : Rw.en t k = n
    · exact .inl h
    · exact .inr (Rw.en_at t k (by rw [HA.out.1]; omega))
  generalize Rw.beg t k = b at cB hb hbe HF HE HN
  generalize Rw.en t k = h at cB he hbe HE HN HS
  generalize Rw.fst t k = F at HF ⊢
  go_enter Tryd.func43, Tryd.ntmps43
  go_wp2_with (go_at_call 24; refine cB.mono ?_; rintro e w' ⟨rfl, rfl⟩)
  go_loop [5] (fun v => ∃ j : Nat, b ≤ j ∧ j ≤ h ∧ v = .int .i64 j ∧ Rw.skp t j = F) (fun v => n - (intOf v).toNat)
  case atStart => exact ⟨b, Nat.le_refl _, hbe, rfl, HF.out.symm⟩
  case round =>
    obtain ⟨j, hbj, hj, rfl, hb⟩ := hrel
    have HB := Lib.hid hb
    clear hb
    by_cases h0 : j < h
    · obtain ⟨ad, x, rfl, hx, hc⟩ := HA.out.cell (j := j) (by omega)
      have h10 : Hid (x ≠ 10) := fun e => HN.out j hbj h0 (by rw [hx, e])
      obtain ⟨hx1, hx2⟩ := HR.out.at_ hx
      have HX := Lib.hid hx
      clear hx
      have cC := blank_any x ⟨hx1, hx2⟩ w'
      by_cases hz : Rw.cls x = 0
      · have b4 : (Rw.cls x == 0) = true := by rw [hz]; rfl
        rw [b4] at cC
        have HZ := Lib.hid hz
        clear hz b4
        go_wp2_with (go_at_call 53; refine cC.mono ?_; rintro e w' ⟨rfl, rfl⟩)
        go_round
        case rel => exact ⟨j + 1, by omega, by omega, by go_num, by rw [← HB.out, Rw.skp_step HX.out h10.out HZ.out]⟩
        case measure => simp [intOf]; omega
      · have b4 : (Rw.cls x == 0) = false := by rw [beq_eq_false_iff_ne]; exact hz
        rw [b4] at cC
        have HZ := Lib.hid hz
        clear hz b4
        go_wp2_with (go_at_call 53; refine cC.mono ?_; rintro e w' ⟨rfl, rfl⟩)
        go_ret
        rw [← HB.out, Rw.skp_stop HX.out (.inr HZ.out)]
        exact ⟨rfl, rfl⟩
    · obtain rfl : j = h := by omega
      go_wp2
      go_ret
      rw [← HB.out]
      rcases HS.out with hs | hs
      · rw [Rw.skp_end (by rw [HA.out.1]; omega)]
        exact ⟨rfl, rfl⟩
      · rw [Rw.skp_stop hs (.inl rfl)]
        exact ⟨rfl, rfl⟩
end Go.Proofs.YtilkogohiealhaaDoor
