/-
  MOTIONS BY PARAGRAPHS: Move of the program.
-/
import Derived.Test.YtfkcofnoccanbaaDoorPaF
set_option linter.unusedVariables false
namespace Go.Proofs.YtfkcofnoccanbaaDoor
open Go Go.RowKit

/-- What is told of where a motion leads. -/
def ansN (x k : Nat) : Value := if x = k then .tuple #[.int .i64 0, .int .i64 6] else .tuple #[.int .i64 x, .int .i64 0]
theorem pst_125 (t : List Int) (k : Nat) : Rw.pst t 125 k = Rw.pdn t (t.length + 1) k := rfl
theorem pst_123 (t : List Int) (k : Nat) : Rw.pst t 123 k = Rw.pup t (t.length + 1) k := rfl
theorem pmove_yes (s : ByteArray) (k cnt : Nat) (key : Int) (w : World) (hT : Tabs w) (hm : mayB s = true) (hk : k ≤ (rs s).length) (hc1 : 1 ≤ cnt) (hc2 : cnt ≤ 999) (hkey : key = 123 ∨ key = 125) :
    Calls Tryd.prog 19 #[.string s, .int .i64 k, .int .i64 key, .int .i64 cnt] w fun e w' => Kept (fun _ => False) w w' ∧ e = .returned (ansN (Rw.pmv (rs s) (Rw.pst (rs s) key) cnt k) k) := by
  have cU := runes_yes s k w hT hm hk
  have hl := rs_len s
  have hsz := mayB_size hm
  generalize rs s = t at *
  clear hT hm
  generalize hn : t.length = n at *
  have HN := Lib.hid hn
  have HP := Lib.hid (fun x (hx : x ≤ n) => Rw.pst_le t key x (by rw [hn]; exact hx))
  obtain ⟨D, hD⟩ : ∃ D, Rw.pmv t (Rw.pst t key) cnt k = D := ⟨_, rfl⟩
  rw [hD]
  have HD := Lib.hid hD
  have b1 : decide ((cnt : Int) < 1) = false := by simp; omega
  have b2 : decide (999 < (cnt : Int)) = false := by simp; omega
  have b3 : decide (cnt < 1) = false := by simp; omega
  have b4 : decide (999 < cnt) = false := by simp; omega
  have b5 : decide (cnt = 0) = false := by simp; omega
  clear hD hn
  rcases hkey with rfl | rfl
  all_goals
    go_enter Tryd.func19, Tryd.ntmps19
    go_wp2_with (go_at_call 25; refine cU.mono ?_; rintro e w1 ⟨hk1, bb, cap, rfl, hbg, hR⟩)
    have HKW := Lib.hid hk1
    have HA := Lib.hid hR
    clear cU hk1 hR
    go_loop [12, 3] (fun v u => ∃ x C : Nat, x ≤ n ∧ C ≤ 999 ∧ v = .int .i64 x ∧ u = .int .i64 C ∧ Rw.pmv t (Rw.pst t _) C x = D) (fun _ u => (intOf u).toNat)
    case atStart => exact ⟨k, cnt, hk, hc2, rfl, rfl, HD.out⟩
    case round =>
      obtain ⟨x, C, hx, hC, rfl, rfl, hd⟩ := hrel
      have HX := Lib.hid hd
      clear hd
      by_cases h0 : C = 0
      · subst h0
        have HE : Hid (D = x) := HX.out.symm
        by_cases hxk : x = k
        · subst hxk
          go_wp2
          refine bodyPost_ret (v := .tuple #[.int .i64 0, .int .i64 6]) (by simp [results, Tryd.results19, go_sem]) rfl ⟨HKW.out, ?_⟩
          rw [HE.out]
          unfold ansN
          rw [if_pos rfl]
        · have d1 : (x == k) = false := by rw [beq_eq_false_iff_ne]; exact hxk
          have d2 : ((x : Int) == (k : Int)) = false := by rw [beq_eq_false_iff_ne]; omega
          have HXK := Lib.hid hxk
          clear hxk
          go_wp2
          refine bodyPost_ret (v := .tuple #[.int .i64 (x : Nat), .int .i64 0]) (by simp [results, Tryd.results19, go_sem]) rfl ⟨HKW.out, ?_⟩
          rw [HE.out]
          unfold ansN
          rw [if_neg HXK.out]
      · obtain ⟨c', rfl⟩ : ∃ c', C = c' + 1 := ⟨C - 1, by omega⟩
        clear h0
        have cB := below_any (some ⟨bb, 0, none⟩) n cap t x _ HA.out hx (by omega)
        have cA := above_any (some ⟨bb, 0, none⟩) n cap t x _ HA.out hx (by omega)
        rw [← HN.out] at cB cA
        first
          | (rw [← pst_125] at cB
             have HE : Hid (Rw.pmv t (Rw.pst t 125) c' (Rw.pst t 125 x) = D) := HX.out
             have hp := HP.out x hx
             rw [HN.out] at *
             generalize Rw.pst t 125 x = x' at *
             go_wp2_with (go_at_call 32; refine cB.mono ?_; rintro e w' ⟨rfl, rfl⟩)
             go_round
             case rel => exact ⟨x', c', by omega, by omega, rfl, by go_num, HE.out⟩
             case measure => simp [intOf])
          | (rw [← pst_123] at cA
             have HE : Hid (Rw.pmv t (Rw.pst t 123) c' (Rw.pst t 123 x) = D) := HX.out
             have hp := HP.out x hx
             rw [HN.out] at *
             generalize Rw.pst t 123 x = x' at *
             go_wp2_with (go_at_call 33; refine cA.mono ?_; rintro e w' ⟨rfl, rfl⟩)
             go_round
             case rel => exact ⟨x', c', by omega, by omega, rfl, by go_num, HE.out⟩
             case measure => simp [intOf])
end Go.Proofs.YtfkcofnoccanbaaDoor
