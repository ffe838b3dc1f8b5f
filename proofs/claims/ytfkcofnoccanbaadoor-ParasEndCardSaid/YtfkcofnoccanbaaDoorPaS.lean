/-
  MOTIONS BY PARAGRAPHS: the reference's.
-/
import Derived.Test.YtfkcofnoccanbaaDoorPaR
set_option linter.unusedVariables false
namespace Go.Proofs.YtfkcofnoccanbaaDoor
open Go Go.RowKit

theorem pst_fix125 (t : List Int) : Rw.pst t 125 t.length = t.length := by
  rw [pst_125, Rw.pdn_end (Rw.en_end (Nat.le_refl _))]
theorem pst_fix123 (t : List Int) : Rw.pst t 123 0 = 0 := by
  rw [pst_123, Rw.pup_end rfl]
set_option maxHeartbeats 1000000 in
theorem rp125_any (A : Option Addr) (n c : Nat) (t : List Int) (k cnt : Nat) (w : World) (hA : Rn w A n t) (hk : k ≤ n) (hn : n ≤ 100000) (hc1 : 1 ≤ cnt) (hc2 : cnt ≤ 999) :
    Calls Tryd.prog 21 #[.slice A n c, .int .i64 k, .int .i64 125, .int .i64 cnt] w fun e w' => e = .returned (ansN (Rw.pmv t (Rw.pst t 125) cnt k) k) ∧ w' = w := by
  have HA := Lib.hid hA
  have hl := hA.1
  have HL := Lib.hid hl
  have HP := Lib.hid (fun x (hx : x ≤ n) => Rw.pst_le t 125 x (by rw [hl]; exact hx))
  have HFX : Hid (Rw.pst t 125 n = n) := by show _ = _; rw [← HL.out]; exact pst_fix125 t
  clear hA hl
  obtain ⟨D, hD⟩ : ∃ D, Rw.pmv t (Rw.pst t 125) cnt k = D := ⟨_, rfl⟩
  rw [hD]
  have HD := Lib.hid hD
  clear hD
  go_enter Tryd.func21, Tryd.ntmps21
  go_wp2
  go_loop [10, 11] (fun v u => ∃ x N : Nat, x ≤ n ∧ N ≤ cnt ∧ v = .int .i64 x ∧ u = .int .i64 N ∧ Rw.pmv t (Rw.pst t 125) (cnt - N) x = D) (fun _ u => cnt - (intOf u).toNat)
  case atStart => exact ⟨k, 0, hk, Nat.zero_le _, rfl, rfl, HD.out⟩
  case round =>
    obtain ⟨x, N, hx, hN, rfl, rfl, hd⟩ := hrel
    have HX := Lib.hid hd
    clear hd
    by_cases h0 : N < cnt
    · have d0 : decide (N < cnt) = true := by simp; omega
      have hstep : Hid (Rw.pmv t (Rw.pst t 125) (cnt - (N + 1)) (Rw.pst t 125 x) = D) := by
        show _ = _
        rw [← HX.out, show cnt - N = (cnt - (N + 1)) + 1 by omega]
        rfl
      have hpx := HP.out x hx
      rw [HL.out] at hpx
      have hG : Hid (Rw.pst t 125 x = Rw.pdn t (n + 1) x) := by show _ = _; rw [← HL.out]; rfl
      have cB := rbegin_any A n c t x w HA.out hx hn
      generalize hg : Rw.pst t 125 x = G at *
      clear hg
      go_wp2_with (go_at_call 29; refine cB.mono ?_; rintro e w' ⟨rfl, rfl⟩; clear cB)
      go_loop [14, 15, 16] (fun a b _ => ∃ (y F : Nat), y ≤ n ∧ n + 1 ≤ F + y ∧ a = .int .i64 (n : Nat) ∧ b = .int .i64 (Rw.beg t y : Nat) ∧ Rw.pdn t F y = G) (fun _ b _ => n - (intOf b).toNat)
      case atStart => exact ⟨x, n + 1, hx, by omega, rfl, rfl, hG.out.symm⟩
      case round =>
        obtain ⟨y, F, hy, hF, rfl, rfl, hd⟩ := hrel
        obtain ⟨f, rfl⟩ : ∃ f, F = f + 1 := ⟨F - 1, by omega⟩
        have HY := Lib.hid hd
        clear hd
        have hle := Rw.en_le t y (by rw [HL.out]; exact hy)
        rw [HL.out] at hle
        have hbe := Rw.beg_le t y
        have hge := Rw.en_ge t y
        have cD := rdown_any A n c t (Rw.beg t y) 1 w' HA.out (by omega) hn (by decide)
        rw [Rw.dn_beg t y (by rw [HL.out]; exact hy), Rw.dn_one t y (by rw [HL.out]; exact hy), HL.out, show ((1 : Nat) : Int) = 1 from rfl] at cD
        by_cases he : Rw.en t y = n
        · rw [if_pos he] at cD
          unfold rowOf at cD
          simp only at cD
          have hgn : G = n := by rw [← HY.out, Rw.pdn_end (by rw [HL.out]; exact he), HL.out]
          have HE : Hid (D = n) := by show _ = _; rw [← hstep.out, hgn]; exact Rw.pmv_fix t _ n HFX.out _
          clear he hgn hstep HY HX hpx
          generalize Rw.beg t y = b0 at *
          generalize Rw.en t y = e0 at *
          by_cases hzk : n = k
          · subst hzk
            go_wp2_with (go_at_call 34; refine cD.mono ?_; rintro e w' ⟨rfl, rfl⟩)
            refine bodyPost_ret (v := .tuple #[.int .i64 0, .int .i64 6]) (by simp [results, Tryd.results21, go_sem]) rfl ⟨?_, rfl⟩
            rw [HE.out]
            unfold ansN
            rw [if_pos rfl]
          · have z1 : (n == k) = false := by rw [beq_eq_false_iff_ne]; exact hzk
            have z2 : ((n : Int) == (k : Int)) = false := by rw [beq_eq_false_iff_ne]; omega
            have HZK := Lib.hid hzk
            clear hzk
            go_wp2_with (go_at_call 34; refine cD.mono ?_; rintro e w' ⟨rfl, rfl⟩)
            refine bodyPost_ret (v := .tuple #[.int .i64 (n : Nat), .int .i64 0]) (by simp [results, Tryd.results21, go_sem]) rfl ⟨?_, rfl⟩
            rw [HE.out]
            unfold ansN
            rw [if_neg HZK.out]
        · rw [if_neg he] at cD
          unfold rowOf at cD
          simp only at cD
          have hlt : Rw.en t y < n := by omega
          have hby : Rw.beg t (Rw.en t y + 1) = Rw.en t y + 1 := Rw.beg_stop (Rw.en_at t y (by rw [HL.out]; exact hlt))
          have cN := bare_any A n c t (Rw.en t y + 1) w' HA.out (by omega) hn
          have cL := bare_any A n c t (Rw.beg t y) w' HA.out (by omega) hn
          rw [hby] at cN
          rw [Rw.beg_beg, Rw.en_beg t y (by rw [HL.out]; exact hy)] at cL
          by_cases hit : Rw.beg t y < Rw.en t y ∧ Rw.en t (Rw.en t y + 1) = Rw.en t y + 1
          · obtain ⟨hi1, hi2⟩ := hit
            have hgn : G = Rw.en t y + 1 := by rw [← HY.out, Rw.pdn_hit (by rw [HL.out]; exact he) hi1 hi2]
            rw [decide_eq_true hi2.symm, show ((Rw.en t y + 1 : Nat) : Int) = (Rw.en t y : Int) + 1 by omega] at cN
            rw [decide_eq_false (by omega)] at cL
            have hstep' : Hid (Rw.pmv t (Rw.pst t 125) (cnt - (N + 1)) (Rw.en t y + 1) = D) := by show _ = _; rw [← hgn]; exact hstep.out
            clear hgn hstep HY HX hpx he hi1 hi2 hby
            generalize Rw.beg t y = b0 at *
            generalize Rw.en t y = e0 at *
            by_cases hedge : e0 + 1 = n
            · have HE : Hid (D = n) := by show _ = _; rw [← hstep'.out, hedge]; exact Rw.pmv_fix t _ n HFX.out _
              clear hstep'
              subst hedge
              by_cases hzk : (e0 + 1) = k
              · subst hzk
                go_wp2_with (go_at_call 34; refine cD.mono ?_; rintro e w' ⟨rfl, rfl⟩)
                refine cN.mono ?_
                rintro e w' ⟨rfl, rfl⟩
                go_wp2_with fail
                refine cL.mono ?_
                rintro e w' ⟨rfl, rfl⟩
                go_wp2_with fail
                refine bodyPost_ret (v := .tuple #[.int .i64 0, .int .i64 6]) (by simp [results, Tryd.results21, go_sem]) rfl ⟨?_, rfl⟩
                rw [HE.out]
                unfold ansN
                rw [if_pos rfl]
              · have z1 : ((e0 + 1) == k) = false := by rw [beq_eq_false_iff_ne]; exact hzk
                have z2 : (((e0 + 1) : Int) == (k : Int)) = false := by rw [beq_eq_false_iff_ne]; omega
                have HZK := Lib.hid hzk
                clear hzk
                go_wp2_with (go_at_call 34; refine cD.mono ?_; rintro e w' ⟨rfl, rfl⟩)
                refine cN.mono ?_
                rintro e w' ⟨rfl, rfl⟩
                go_wp2_with fail
                refine cL.mono ?_
                rintro e w' ⟨rfl, rfl⟩
                go_wp2_with fail
                refine bodyPost_ret (v := .tuple #[.int .i64 ((e0 + 1) : Nat), .int .i64 0]) (by simp [results, Tryd.results21, go_sem]) rfl ⟨?_, rfl⟩
                rw [HE.out]
                unfold ansN
                rw [if_neg HZK.out]
            · have g1 : ((e0 : Int) + 1 == (n : Int)) = false := by rw [beq_eq_false_iff_ne]; omega
              have g2 : ((e0 + 1 : Nat) == n) = false := by rw [beq_eq_false_iff_ne]; exact hedge
              clear hedge
              go_wp2_with (go_at_call 34; refine cD.mono ?_; rintro e w' ⟨rfl, rfl⟩)
              refine cN.mono ?_
              rintro e w' ⟨rfl, rfl⟩
              go_wp2_with fail
              refine cL.mono ?_
              rintro e w' ⟨rfl, rfl⟩
              go_wp2_with fail
              go_round
              case rel => exact ⟨e0 + 1, N + 1, by omega, by omega, by go_num, by go_num, hstep'.out⟩
              case measure => simp [intOf]; omega
          · have hgn : Hid (Rw.pdn t f (Rw.en t y + 1) = G) := by show _ = _; rw [← HY.out, Rw.pdn_next (by rw [HL.out]; exact he) hit]
            have hby' : Hid (((Rw.beg t (Rw.en t y + 1) : Nat) : Int) = (Rw.en t y : Int) + 1) := by show _ = _; rw [hby]; omega
            have hmeas : Rw.en t y + 1 ≤ n := by omega
            rw [show ((Rw.en t y + 1 : Nat) : Int) = (Rw.en t y : Int) + 1 by omega] at cN
            by_cases hi2 : Rw.en t y + 1 = Rw.en t (Rw.en t y + 1)
            · rw [decide_eq_true hi2] at cN
              rw [decide_eq_true (show Rw.beg t y = Rw.en t y by omega)] at cL
              clear HY HX hpx he hit hi2 hby
              generalize Rw.beg t y = b0 at *
              generalize Rw.en t y = e0 at *
              go_wp2_with (go_at_call 34; refine cD.mono ?_; rintro e w' ⟨rfl, rfl⟩)
              refine cN.mono ?_
              rintro e w' ⟨rfl, rfl⟩
              go_wp2_with fail
              refine cL.mono ?_
              rintro e w' ⟨rfl, rfl⟩
              go_wp2_with fail
              go_round
              case rel => exact ⟨e0 + 1, f, by omega, by omega, rfl, by rw [hby'.out], hgn.out⟩
              case measure => simp [intOf]; omega
            · rw [decide_eq_false hi2] at cN
              clear HY HX hpx he hit hi2 hby cL
              generalize Rw.beg t y = b0 at *
              generalize Rw.en t y = e0 at *
              go_wp2_with (go_at_call 34; refine cD.mono ?_; rintro e w' ⟨rfl, rfl⟩)
              refine cN.mono ?_
              rintro e w' ⟨rfl, rfl⟩
              go_wp2_with fail
              go_round
              case rel => exact ⟨e0 + 1, f, by omega, by omega, rfl, by rw [hby'.out], hgn.out⟩
              case measure => simp [intOf]; omega
    · obtain rfl : N = cnt := by omega
      have HE : Hid (D = x) := by show _ = _; rw [← HX.out, Nat.sub_self]; rfl
      clear HX
      by_cases hzk : x = k
      · subst hzk
        go_wp2
        refine bodyPost_ret (v := .tuple #[.int .i64 0, .int .i64 6]) (by simp [results, Tryd.results21, go_sem]) rfl ⟨?_, rfl⟩
        rw [HE.out]
        unfold ansN
        rw [if_pos rfl]
      · have z1 : (x == k) = false := by rw [beq_eq_false_iff_ne]; exact hzk
        have z2 : ((x : Int) == (k : Int)) = false := by rw [beq_eq_false_iff_ne]; omega
        have HZK := Lib.hid hzk
        clear hzk
        go_wp2
        refine bodyPost_ret (v := .tuple #[.int .i64 (x : Nat), .int .i64 0]) (by simp [results, Tryd.results21, go_sem]) rfl ⟨?_, rfl⟩
        rw [HE.out]
        unfold ansN
        rw [if_neg HZK.out]
end Go.Proofs.YtfkcofnoccanbaaDoor
