/-
  A LETTER TURNED: the reference's Turned.
-/
import Derived.Test.YtkeojjojilfklaaDoorCh4
set_option linter.unusedVariables false
namespace Go.Proofs.YtkeojjojilfklaaDoor
open Go Go.RowKit

set_option maxRecDepth 100000 in
set_option maxHeartbeats 1000000 in
theorem turned_any (r key : Int) (w : World) (h : 0 ≤ r ∧ r ≤ 1114111) :
    Calls Tryd.prog 64 #[.int .i32 r, .int .i64 key] w fun e w' => e = .returned (.int .i32 (Rw.trn key r)) ∧ w' = w := by
  obtain ⟨V, hV⟩ : ∃ V, Rw.trn key r = V := ⟨_, rfl⟩
  rw [hV]
  unfold Rw.trn at hV
  have hz : r < 65 ∨ (65 ≤ r ∧ r ≤ 90) ∨ (91 ≤ r ∧ r ≤ 96) ∨ (97 ≤ r ∧ r ≤ 122) ∨ 123 ≤ r := by omega
  rcases hz with z | z | z | z | z
  · have d1 : decide (97 ≤ r) = false := by simp; omega
    have d2 : decide (r ≤ 122) = true := by simp; omega
    have d3 : decide (65 ≤ r) = false := by simp; omega
    have d4 : decide (r ≤ 90) = true := by simp; omega
    have e : V = r := by rw [← hV]; rw [if_neg (by omega), if_neg (by omega)]
    clear hV z
    go_enter Tryd.func64, Tryd.ntmps64
    go_wp2
    go_ret
    exact ⟨by rw [e]; first | rfl | (congr 2; omega), rfl⟩
  · have d1 : decide (97 ≤ r) = false := by simp; omega
    have d2 : decide (r ≤ 122) = true := by simp; omega
    have d3 : decide (65 ≤ r) = true := by simp; omega
    have d4 : decide (r ≤ 90) = true := by simp; omega
    by_cases k : key = 85
    · subst k
      have e : V = r := by rw [← hV]; rw [if_neg (by omega), if_neg (by omega)]
      clear hV z
      go_enter Tryd.func64, Tryd.ntmps64
      go_wp2
      go_ret
      exact ⟨by rw [e]; first | rfl | (congr 2; omega), rfl⟩
    · have q1 : (key == 85) = false := by rw [beq_eq_false_iff_ne]; exact k
      have q2 : (key != 85) = true := by simp [k]
      have e : V = r + 32 := by rw [← hV]; rw [if_pos ⟨z.1, z.2, k⟩]
      clear hV z k
      go_enter Tryd.func64, Tryd.ntmps64
      go_wp2
      go_ret
      exact ⟨by rw [e, show r + 32 = r + 97 - 65 by omega]; rfl, rfl⟩
  · have d1 : decide (97 ≤ r) = false := by simp; omega
    have d2 : decide (r ≤ 122) = true := by simp; omega
    have d3 : decide (65 ≤ r) = true := by simp; omega
    have d4 : decide (r ≤ 90) = false := by simp; omega
    have e : V = r := by rw [← hV]; rw [if_neg (by omega), if_neg (by omega)]
    clear hV z
    go_enter Tryd.func64, Tryd.ntmps64
    go_wp2
    go_ret
    exact ⟨by rw [e]; first | rfl | (congr 2; omega), rfl⟩
  · have d1 : decide (97 ≤ r) = true := by simp; omega
    have d2 : decide (r ≤ 122) = true := by simp; omega
    have d3 : decide (65 ≤ r) = true := by simp; omega
    have d4 : decide (r ≤ 90) = false := by simp; omega
    by_cases k : key = 117
    · subst k
      have e : V = r := by rw [← hV]; rw [if_neg (by omega), if_neg (by omega)]
      clear hV z
      go_enter Tryd.func64, Tryd.ntmps64
      go_wp2
      go_ret
      exact ⟨by rw [e]; first | rfl | (congr 2; omega), rfl⟩
    · have q1 : (key == 117) = false := by rw [beq_eq_false_iff_ne]; exact k
      have q2 : (key != 117) = true := by simp [k]
      have e : V = r - 32 := by rw [← hV]; rw [if_neg (by omega), if_pos ⟨z.1, z.2, k⟩]
      clear hV z k
      go_enter Tryd.func64, Tryd.ntmps64
      go_wp2
      go_ret
      exact ⟨by rw [e, show r - 32 = r - 97 + 65 by omega]; rfl, rfl⟩
  · have d1 : decide (97 ≤ r) = true := by simp; omega
    have d2 : decide (r ≤ 122) = false := by simp; omega
    have d3 : decide (65 ≤ r) = true := by simp; omega
    have d4 : decide (r ≤ 90) = false := by simp; omega
    have e : V = r := by rw [← hV]; rw [if_neg (by omega), if_neg (by omega)]
    clear hV z
    go_enter Tryd.func64, Tryd.ntmps64
    go_wp2
    go_ret
    exact ⟨by rw [e]; first | rfl | (congr 2; omega), rfl⟩
end Go.Proofs.YtkeojjojilfklaaDoor
