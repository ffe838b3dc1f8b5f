/-
  MOTIONS BY PARAGRAPHS: the reference's, upwards.
-/
import Derived.Test.YtfkcofnoccanbaaDoorPaS
set_option linter.unusedVariables false
namespace Go.Proofs.YtfkcofnoccanbaaDoor
open Go Go.RowKit

set_option maxHeartbeats 1000000 in
theorem rp123_any (A : Option Addr) (n c : Nat) (t : List Int) (k cnt : Nat) (w : World) (hA : Rn w A n t) (hk : k ≤ n) (hn : n ≤ 100000) (hc1 : 1 ≤ cnt) (hc2 : cnt ≤ 999) :
    Calls Tryd.prog 21 #[.slice A n c, .int .i64 k, .int .i64 123, .int .i64 cnt] w fun e w' => e = .returned (ansN (Rw.pmv t (Rw.pst t 123) cnt k) k) ∧ w' = w := by
  have HA := Lib.hid hA
  have hl := hA.1
  have HL := Lib.hid hl
  have HP := Lib.hid (fun x (hx : x ≤ n) => Rw.pst_le t 123 x (by rw [hl]; exact hx))
  have HFX : Hid (Rw.pst t 123 0 = 0) := by show _ = _; exact pst_fix123 t
  clear hA hl
  obtain ⟨D, hD⟩ : ∃ D, Rw.pmv t (Rw.pst t 123) cnt k = D := ⟨_, rfl⟩
  rw [hD]
  have HD := Lib.hid hD
  clear hD
  go_enter Tryd.func21, Tryd.ntmps21
  go_wp2
  go_loop [10, 11] (fun v u => ∃ x N : Nat, x ≤ n ∧ N ≤ cnt ∧ v = .int .i64 x ∧ u = .int .i64 N ∧ Rw.pmv t (Rw.pst t 123) (cnt - N) x = D) (fun _ u => cnt - (intOf u).toNat)
  case atStart => exact ⟨k, 0, hk, Nat.zero_le _, rfl, rfl, HD.out⟩
  case round =>
    obtain ⟨x, N, hx, hN, rfl, rfl, hd⟩ := hrel
    have HX := Lib.hid hd
    clear hd
    by_cases h0 : N < cnt
    · have d0 : decide (N < cnt) = true := by simp; omega
      have hstep : Hid (Rw.pmv t (Rw.pst t 123) (cnt - (N + 1)) (Rw.pst t 123 x) = D) := by
        show _ = _
        rw [← HX.out, show cnt - N = (cnt - (N + 1)) + 1 by omega]
        rfl
      have hpx := HP.out x hx
      rw [HL.out] at hpx
      have hG : Hid (Rw.pst t 123 x = Rw.pup t (n + 1) x) := by show _ = _; rw [← HL.out]; rfl
      have cB := rbegin_any A n c t x w HA.out hx hn
      generalize hg : Rw.pst t 123 x = G at *
      clear hg
      go_wp2_with (go_at_call 29; refine cB.mono ?_; rintro e w' ⟨rfl, rfl⟩; clear cB)
      go_loop [14, 15, 16] (fun a b _ => ∃ (y F : Nat), y ≤ n ∧ y + 1 ≤ F ∧ a = .int .i64 (0 : Nat) ∧ b = .int .i64 (Rw.beg t y : Nat) ∧ Rw.pup t F y = G) (fun _ b _ => (intOf b).toNat)
      case atStart => exact ⟨x, n + 1, hx, by omega, rfl, rfl, hG.out.symm⟩
      case round =>
        obtain ⟨y, F, hy, hF, rfl, rfl, hd⟩ := hrel
        obtain ⟨f, rfl⟩ : ∃ f, F = f + 1 := ⟨F - 1, by omega⟩
        have HY := Lib.hid hd
        clear hd
        have hbe := Rw.beg_le t y
        have hge := Rw.en_ge t y
        have cD := rup_any A n c t (Rw.beg t y) 1 w' HA.out (by omega) hn (by decide) (by decide)
        rw [show Rw.up t (Rw.beg t y) 1 = if Rw.beg t y = 0 then none else some (Rw.beg t (Rw.beg t y - 1)) by show (if Rw.beg t (Rw.beg t y) = 0 then none else some (Rw.beg t (Rw.beg t (Rw.beg t y) - 1))) = _; rw [Rw.beg_beg], show (-((1 : Nat) : Int)) = -1 from rfl] at cD
        by_cases he : Rw.beg t y = 0
        · rw [if_pos he] at cD
          unfold rowOf at cD
          simp only at cD
          have hgn : G = 0 := by rw [← HY.out, Rw.pup_end he]
          have HE : Hid (D = 0) := by show _ = _; rw [← hstep.out, hgn]; exact Rw.pmv_fix t _ 0 HFX.out _
          clear he hgn hstep HY HX hpx
          generalize Rw.beg t y = b0 at *
          generalize Rw.en t y = e0 at *
          rcases Nat.eq_zero_or_pos k with hzk | hzk
          · subst hzk
            go_wp2_with (go_at_call 34; refine cD.mono ?_; rintro e w' ⟨rfl, rfl⟩)
            refine bodyPost_ret (v := .tuple #[.int .i64 0, .int .i64 6]) (by simp [results, Tryd.results21, go_sem]) rfl ⟨?_, rfl⟩
            rw [HE.out]
            unfold ansN
            rw [if_pos rfl]
          · have z1 : ((0 : Int) == (k : Int)) = false := by rw [beq_eq_false_iff_ne]; omega
            have z2 : ((0 : Nat) == k) = false := by rw [beq_eq_false_iff_ne]; omega
            have z3 : ¬ ((0 : Int) = (k : Int)) := by omega
            have HZK : Hid (0 ≠ k) := by show _ ≠ _; omega
            clear hzk
            go_wp2_with (go_at_call 34; refine cD.mono ?_; rintro e w' ⟨rfl, rfl⟩)
            refine bodyPost_ret (v := .tuple #[.int .i64 ((0 : Nat) : Int), .int .i64 0]) (by simp [results, Tryd.results21, go_sem]) rfl ⟨?_, rfl⟩
            rw [HE.out]
            unfold ansN
            rw [if_neg HZK.out]
        · rw [if_neg he] at cD
          unfold rowOf at cD
          simp only at cD
          have hen := Rw.en_above he
          have hbl := Rw.beg_le t (Rw.beg t y - 1)
          have cN := bare_any A n c t (Rw.beg t (Rw.beg t y - 1)) w' HA.out (by omega) hn
          have cL := bare_any A n c t (Rw.beg t y) w' HA.out (by omega) hn
          rw [Rw.beg_beg, Rw.en_beg t (Rw.beg t y - 1) (by rw [HL.out]; omega), hen] at cN
          rw [Rw.beg_beg, Rw.en_beg t y (by rw [HL.out]; exact hy)] at cL
          by_cases hit : Rw.beg t y < Rw.en t y ∧ Rw.beg t (Rw.beg t y - 1) = Rw.beg t y - 1
          · obtain ⟨hi1, hi2⟩ := hit
            have hgn : G = Rw.beg t y - 1 := by rw [← HY.out, Rw.pup_hit he hi1 hi2]
            rw [decide_eq_true hi2] at cN
            rw [decide_eq_false (by omega)] at cL
            rw [hi2] at cN cD
            have hstep' : Hid (Rw.pmv t (Rw.pst t 123) (cnt - (N + 1)) (Rw.beg t y - 1) = D) := by show _ = _; rw [← hgn]; exact hstep.out
            clear hgn hstep HY HX hpx hi2 hen hi1
            generalize Rw.en t y = e0 at *
            generalize hb0 : Rw.beg t y = b0 at *
            obtain ⟨b1, rfl⟩ : ∃ b1, b0 = b1 + 1 := ⟨b0 - 1, by omega⟩
            rw [Nat.add_sub_cancel] at *
            rw [show (((b1 + 1 : Nat) : Int)) = (b1 : Int) + 1 by omega] at cL cD
            have HB0 := Lib.hid hb0
            clear hb0 he hbl
            rcases Nat.eq_zero_or_pos b1 with hedge | hedge
            · have HE : Hid (D = 0) := by show _ = _; rw [← hstep'.out, hedge]; exact Rw.pmv_fix t _ 0 HFX.out _
              clear hstep'
              subst hedge
              rcases Nat.eq_zero_or_pos k with hzk | hzk
              · subst hzk
                go_wp2_with (go_at_call 34; refine cD.mono ?_; rintro e w' ⟨rfl, rfl⟩)
                refine cN.mono ?_
                rintro e w' ⟨rfl, rfl⟩
                go_wp2_with fail
                refine cL.mono ?_
                rintro e w' ⟨rfl, rfl⟩
                go_wp2_with fail
                refine bodyPost_ret (v := .tuple #[.int .i64 0, .int .i64 6]) (by simp [results, Tryd.results21, go_sem]) rfl ⟨?_, rfl⟩
                rw [HE.out]
                unfold ansN
                rw [if_pos rfl]
              · have z1 : ((0 : Int) == (k : Int)) = false := by rw [beq_eq_false_iff_ne]; omega
                have z2 : ((0 : Nat) == k) = false := by rw [beq_eq_false_iff_ne]; omega
                have z3 : ¬ ((0 : Int) = (k : Int)) := by omega
                have HZK : Hid (0 ≠ k) := by show _ ≠ _; omega
                clear hzk
                go_wp2_with (go_at_call 34; refine cD.mono ?_; rintro e w' ⟨rfl, rfl⟩)
                refine cN.mono ?_
                rintro e w' ⟨rfl, rfl⟩
                go_wp2_with fail
                refine cL.mono ?_
                rintro e w' ⟨rfl, rfl⟩
                go_wp2_with fail
                refine bodyPost_ret (v := .tuple #[.int .i64 ((0 : Nat) : Int), .int .i64 0]) (by simp [results, Tryd.results21, go_sem]) rfl ⟨?_, rfl⟩
                rw [HE.out]
                unfold ansN
                rw [if_neg HZK.out]
            · have g1 : ((b1 : Int) == 0) = false := by rw [beq_eq_false_iff_ne]; omega
              have g2 : (b1 == 0) = false := by rw [beq_eq_false_iff_ne]; omega
              clear hedge
              go_wp2_with (go_at_call 34; refine cD.mono ?_; rintro e w' ⟨rfl, rfl⟩)
              refine cN.mono ?_
              rintro e w' ⟨rfl, rfl⟩
              go_wp2_with fail
              refine cL.mono ?_
              rintro e w' ⟨rfl, rfl⟩
              go_wp2_with fail
              go_round
              case rel => exact ⟨b1, N + 1, by omega, by omega, by go_num, by go_num, hstep'.out⟩
              case measure => simp [intOf]; omega
          · have hgn : Hid (Rw.pup t f (Rw.beg t y - 1) = G) := by show _ = _; rw [← HY.out, Rw.pup_next he hit]
            have hrel2 : Hid (∃ (y' F' : Nat), y' ≤ n ∧ y' + 1 ≤ F' ∧ Value.int .i64 (0 : Int) = .int .i64 ((0 : Nat) : Int) ∧ Value.int .i64 (Rw.beg t (Rw.beg t y - 1) : Nat) = .int .i64 (Rw.beg t y' : Nat) ∧ Rw.pup t F' y' = G) := ⟨Rw.beg t y - 1, f, by omega, by omega, rfl, rfl, hgn.out⟩
            by_cases hi2 : Rw.beg t (Rw.beg t y - 1) = Rw.beg t y - 1
            · rw [decide_eq_true hi2] at cN
              rw [decide_eq_true (show Rw.beg t y = Rw.en t y by omega)] at cL
              clear HY HX hpx hit hi2 hgn hen
              generalize Rw.beg t (Rw.beg t y - 1) = nx at *
              generalize Rw.beg t y = b0 at *
              generalize Rw.en t y = e0 at *
              go_wp2_with (go_at_call 34; refine cD.mono ?_; rintro e w' ⟨rfl, rfl⟩)
              refine cN.mono ?_
              rintro e w' ⟨rfl, rfl⟩
              go_wp2_with fail
              refine cL.mono ?_
              rintro e w' ⟨rfl, rfl⟩
              go_wp2_with fail
              go_round
              case rel => exact hrel2.out
              case measure => simp [intOf]; omega
            · rw [decide_eq_false hi2] at cN
              clear HY HX hpx hit hi2 hgn hen cL
              generalize Rw.beg t (Rw.beg t y - 1) = nx at *
              generalize Rw.beg t y = b0 at *
              generalize Rw.en t y = e0 at *
              go_wp2_with (go_at_call 34; refine cD.mono ?_; rintro e w' ⟨rfl, rfl⟩)
              refine cN.mono ?_
              rintro e w' ⟨rfl, rfl⟩
              go_wp2_with fail
              go_round
              case rel => exact hrel2.out
              case measure => simp [intOf]; omega
    · obtain rfl : N = cnt := by omega
      have HE : Hid (D = x) := by show _ = _; rw [← HX.out, Nat.sub_self]; rfl
      clear HX
      by_cases hzk : x = k
      · subst hzk
        go_wp2
        refine bodyPost_ret (v := .tuple #[.int .i64 0, .int .i64 6]) (by simp [results, Tryd.results21, go_sem]) rfl ⟨?_, rfl⟩
        rw [HE.out]
        unfold ansN
        rw [if_pos rfl]
      · have z1 : (x == k) = false := by rw [beq_eq_false_iff_ne]; exact hzk
        have z2 : ((x : Int) == (k : Int)) = false := by rw [beq_eq_false_iff_ne]; omega
        have HZK := Lib.hid hzk
        clear hzk
        go_wp2
        refine bodyPost_ret (v := .tuple #[.int .i64 (x : Nat), .int .i64 0]) (by simp [results, Tryd.results21, go_sem]) rfl ⟨?_, rfl⟩
        rw [HE.out]
        unfold ansN
        rw [if_neg HZK.out]
end Go.Proofs.YtfkcofnoccanbaaDoor
