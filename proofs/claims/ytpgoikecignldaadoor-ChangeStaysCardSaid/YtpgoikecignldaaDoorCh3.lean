/-
  THE REFERENCE's Range (chapter 18): may a range be of a text?
-/
import Derived.Test.YtpgoikecignldaaDoorCh2
import Derived.Test.YtpgoikecignldaaDoorAoH
set_option linter.unusedVariables false
namespace Go.Proofs.YtpgoikecignldaaDoor
open Go Go.RowKit

theorem zbetween_any (x l m : Int) (w : World) : Calls Tryd.prog 19 #[.int .i64 x, .int .i64 l, .int .i64 m] w fun e w' => e = .returned (.bool (decide (l ≤ x ∧ x ≤ m))) ∧ w' = w := by
  by_cases h1 : l ≤ x
  · have b1 : decide (l ≤ x) = true := by simp; omega
    by_cases h2 : x ≤ m
    · have b2 : decide (x ≤ m) = true := by simp; omega
      rw [decide_eq_true (show l ≤ x ∧ x ≤ m from ⟨h1, h2⟩)]
      clear h1 h2
      go_enter Tryd.func19, Tryd.ntmps19
      go_wp2
      go_ret
      exact ⟨rfl, rfl⟩
    · have b2 : decide (x ≤ m) = false := by simp; omega
      rw [decide_eq_false (show ¬ (l ≤ x ∧ x ≤ m) by omega)]
      clear h1 h2
      go_enter Tryd.func19, Tryd.ntmps19
      go_wp2
      go_ret
      exact ⟨rfl, rfl⟩
  · have b1 : decide (l ≤ x) = false := by simp; omega
    rw [decide_eq_false (show ¬ (l ≤ x ∧ x ≤ m) by omega)]
    clear h1
    go_enter Tryd.func19, Tryd.ntmps19
    go_wp2
    go_ret
    exact ⟨rfl, rfl⟩
set_option maxRecDepth 100000 in
set_option maxHeartbeats 1000000 in
theorem rrange_any (A : Option Addr) (n c : Nat) (t : List Int) (lo hi : Int) (line : Bool) (B : Bool) (w : World) (hA : Rn w A n t) (hn : n ≤ 100000) (hB : B = true ↔ RngI t lo hi line) :
    Calls Tryd.prog 7 #[.slice A n c, rngV lo hi line] w fun e w' => e = .returned (.bool B) ∧ Kept (fun _ => False) w w' := by
  have hka : Kept (fun _ => False) w (w.alloc (rngO lo hi line)) := (Kept.refl _ w).alloc _
  have HG0 : Hid ((w.alloc (rngO lo hi line)).heap[w.heap.size]? = some (rngO lo hi line)) := heap_alloc_new w _
  have HA : Hid (Rn (w.alloc (rngO lo hi line)) A n t) := hA.kept hka (fun _ _ => id)
  have HKA := Lib.hid hka
  have HB := Lib.hid hB
  clear hka hA hB
  go_enter Tryd.func7, Tryd.ntmps7
  go_upto_region 1 with fail
  obtain ⟨g, hg⟩ : ∃ g, w.heap.size = g := ⟨_, rfl⟩
  simp only [hg] at HG0 HA HKA ⊢
  clear hg
  generalize w.alloc (rngO lo hi line) = wa at *
  have f0 : wa.cell? ⟨g, 0, none⟩ = some (.int .i64 lo) := by rw [cell_of_row _ _ _ _ _ _ HG0.out]; rfl
  have f1 : wa.cell? ⟨g, 1, none⟩ = some (.int .i64 hi) := by rw [cell_of_row _ _ _ _ _ _ HG0.out]; rfl
  have f2 : wa.cell? ⟨g, 2, none⟩ = some (.bool line) := by rw [cell_of_row _ _ _ _ _ _ HG0.out]; rfl
  by_cases h1 : 0 ≤ lo ∧ lo ≤ (n : Int)
  · have c1 := znum_t h1
    by_cases h2 : lo ≤ hi ∧ hi ≤ (n : Int)
    · have c2 := zbetween_any hi lo n
      rw [decide_eq_true h2] at c2
      obtain ⟨a, rfl⟩ : ∃ a : Nat, lo = a := ⟨lo.toNat, by omega⟩
      obtain ⟨b, rfl⟩ : ∃ b : Nat, hi = b := ⟨hi.toNat, by omega⟩
      have hab : a ≤ b := by omega
      have hbn : b ≤ n := by omega
      have hr := HB.out.trans rngI_nat
      have HR := Lib.hid hr
      clear hr h1 h2
      go_upto_region 3 with (first | (go_at_call 18; refine (c1 _).mono ?_; rintro e w1 ⟨rfl, rfl⟩) | (go_at_call 19; refine (c2 _).mono ?_; rintro e w1 ⟨rfl, rfl⟩))
      have cB := fun q => rbegin_any A n c t a (w1.drewN q) (HA.out.drewN q) (by omega) hn
      have cE := fun q => rend_any A n c t b (w1.drewN q) (HA.out.drewN q) hbn hn
      cases line with
      | false =>
        have e : B = true := HR.out.2 ⟨hab, by rw [HA.out.1]; exact hbn, fun h => by cases h⟩
        go_quiet (fail)
        go_wp2
        go_ret
        exact ⟨by first | rfl | (rw [e]; rfl), HKA.out.drewN _⟩
      | true =>
        have hp : B = true ↔ (Rw.beg t a = a) ∧ (Rw.en t b = b) := by
          rw [HR.out]
          exact ⟨fun h => h.2.2 rfl, fun h => ⟨hab, by rw [HA.out.1]; exact hbn, fun _ => h⟩⟩
        have HP := Lib.hid hp
        clear hp
        generalize Rw.beg t a = X at *
        generalize Rw.en t b = Y at *
        by_cases hX : X = a
        · have d1 : ((X : Int) == (a : Int)) = true := by rw [beq_iff_eq]; omega
          have d1' : (X == a) = true := by rw [beq_iff_eq]; omega
          by_cases hY : Y = b
          · have d2 : ((Y : Int) == (b : Int)) = true := by rw [beq_iff_eq]; omega
            have d2' : (Y == b) = true := by rw [beq_iff_eq]; omega
            have e : B = true := HP.out.2 ⟨hX, hY⟩
            clear hX hY
            go_quiet (first | (go_at_call 20; exact Calls.quiet_of_same (cB _)) | (go_at_call 13; exact Calls.quiet_of_same (cE _)))
            go_wp2
            go_ret
            exact ⟨by first | rfl | (rw [e]; rfl), HKA.out.drewN _⟩
          · have d2 : ((Y : Int) == (b : Int)) = false := by rw [beq_eq_false_iff_ne]; omega
            have d2' : (Y == b) = false := by rw [beq_eq_false_iff_ne]; omega
            have e : B = false := bool_no HP.out (fun h => hY h.2)
            clear hX hY
            go_quiet (first | (go_at_call 20; exact Calls.quiet_of_same (cB _)) | (go_at_call 13; exact Calls.quiet_of_same (cE _)))
            go_wp2
            go_ret
            exact ⟨by first | rfl | (rw [e]; rfl), HKA.out.drewN _⟩
        · have d1 : ((X : Int) == (a : Int)) = false := by rw [beq_eq_false_iff_ne]; omega
          have d1' : (X == a) = false := by rw [beq_eq_false_iff_ne]; omega
          have e : B = false := bool_no HP.out (fun h => hX h.1)
          clear hX
          go_quiet (first | (go_at_call 20; exact Calls.quiet_of_same (cB _)) | (go_at_call 13; exact Calls.quiet_of_same (cE _)))
          go_wp2
          go_ret
          exact ⟨by first | rfl | (rw [e]; rfl), HKA.out.drewN _⟩
    · have c2 := zbetween_any hi lo n
      rw [decide_eq_false h2] at c2
      have e : B = false := bool_no HB.out (by rintro ⟨x, y, e1, e2, h⟩; have k1 := h.1; have k2 := h.2.1; rw [HA.out.1] at k2; omega)
      clear h1 h2
      go_wp2_with (first | (go_at_call 18; refine (c1 _).mono ?_; rintro e w1 ⟨rfl, rfl⟩) | (go_at_call 19; refine (c2 _).mono ?_; rintro e w1 ⟨rfl, rfl⟩))
      go_ret
      exact ⟨by first | rfl | (rw [e]; rfl), HKA.out⟩
  · have c1 := znum_f h1
    have e : B = false := bool_no HB.out (by rintro ⟨x, y, e1, e2, h⟩; have k1 := h.1; have k2 := h.2.1; rw [HA.out.1] at k2; omega)
    clear h1
    go_wp2_with (go_at_call 18; refine (c1 _).mono ?_; rintro e w1 ⟨rfl, rfl⟩)
    go_ret
    exact ⟨by first | rfl | (rw [e]; rfl), HKA.out⟩
end Go.Proofs.YtpgoikecignldaaDoor
