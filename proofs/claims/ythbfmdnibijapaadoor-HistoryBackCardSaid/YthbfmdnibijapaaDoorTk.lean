/-
  TEXTS: the kind of a byte, of the program.
-/
import Derived.Test.YthbfmdnibijapaaDoorRunes
import Derived.Test.YthbfmdnibijapaaDoorRowP
set_option linter.unusedVariables false
namespace Go.Proofs.YthbfmdnibijapaaDoor
open Go Go.RowKit

/-- The kind of a byte. -/
def kn (b : Int) : Int :=
  if b = 32 ∨ b = 9 then 0 else if (97 ≤ b ∧ b ≤ 122) ∨ (65 ≤ b ∧ b ≤ 90) ∨ (48 ≤ b ∧ b ≤ 57) ∨ b = 95 then 1
  else if b = 10 then 10 else if b = 0 then 6 else if b = 192 ∨ b = 193 ∨ 245 ≤ b then 5 else if 128 ≤ b then 1 else 2
/-- What lies between two neighbours of these. -/
theorem kn_1 {b : Int} (h : (97 ≤ b ∧ b ≤ 122) ∨ (65 ≤ b ∧ b ≤ 90) ∨ (48 ≤ b ∧ b ≤ 57) ∨ (128 ≤ b ∧ b ≤ 191) ∨ (194 ≤ b ∧ b ≤ 244)) : kn b = 1 := by
  unfold kn
  rw [if_neg (by omega)]
  by_cases c : (97 ≤ b ∧ b ≤ 122) ∨ (65 ≤ b ∧ b ≤ 90) ∨ (48 ≤ b ∧ b ≤ 57) ∨ b = 95
  · rw [if_pos c]
  · rw [if_neg c, if_neg (by omega), if_neg (by omega), if_neg (by omega), if_pos (by omega)]
theorem kn_2 {b : Int} (h : 1 ≤ b ∧ b ≤ 127) (h1 : b ≠ 32 ∧ b ≠ 9 ∧ b ≠ 95 ∧ b ≠ 10) (h2 : b < 97 ∨ 122 < b) (h3 : b < 65 ∨ 90 < b) (h4 : b < 48 ∨ 57 < b) : kn b = 2 := by
  unfold kn
  rw [if_neg (by omega), if_neg (by omega), if_neg (by omega), if_neg (by omega), if_neg (by omega), if_neg (by omega)]
theorem kn_5 {b : Int} (h : 245 ≤ b) : kn b = 5 := by
  unfold kn
  rw [if_neg (by omega), if_neg (by omega), if_neg (by omega), if_neg (by omega), if_pos (by omega)]
theorem kn_cases (b : Int) (h : 0 ≤ b ∧ b ≤ 255) : (b = 0 ∨ b = 9 ∨ b = 10 ∨ b = 32 ∨ b = 95 ∨ b = 192 ∨ b = 193) ∨ (1 ≤ b ∧ b ≤ 8 ∧ kn b = 2) ∨ (11 ≤ b ∧ b ≤ 31 ∧ kn b = 2) ∨ (33 ≤ b ∧ b ≤ 47 ∧ kn b = 2) ∨ (48 ≤ b ∧ b ≤ 57 ∧ kn b = 1) ∨ (58 ≤ b ∧ b ≤ 64 ∧ kn b = 2) ∨ (65 ≤ b ∧ b ≤ 90 ∧ kn b = 1) ∨ (91 ≤ b ∧ b ≤ 94 ∧ kn b = 2) ∨ (96 ≤ b ∧ b ≤ 96 ∧ kn b = 2) ∨ (97 ≤ b ∧ b ≤ 122 ∧ kn b = 1) ∨ (123 ≤ b ∧ b ≤ 127 ∧ kn b = 2) ∨ (128 ≤ b ∧ b ≤ 191 ∧ kn b = 1) ∨ (194 ≤ b ∧ b ≤ 244 ∧ kn b = 1) ∨ (245 ≤ b ∧ b ≤ 255 ∧ kn b = 5) := by
  have hr : (b = 0 ∨ b = 9 ∨ b = 10 ∨ b = 32 ∨ b = 95 ∨ b = 192 ∨ b = 193) ∨ (1 ≤ b ∧ b ≤ 8) ∨ (11 ≤ b ∧ b ≤ 31) ∨ (33 ≤ b ∧ b ≤ 47) ∨ (48 ≤ b ∧ b ≤ 57) ∨ (58 ≤ b ∧ b ≤ 64) ∨ (65 ≤ b ∧ b ≤ 90) ∨ (91 ≤ b ∧ b ≤ 94) ∨ (96 ≤ b ∧ b ≤ 96) ∨ (97 ≤ b ∧ b ≤ 122) ∨ (123 ≤ b ∧ b ≤ 127) ∨ (128 ≤ b ∧ b ≤ 191) ∨ (194 ≤ b ∧ b ≤ 244) ∨ (245 ≤ b ∧ b ≤ 255) := by omega
  rcases hr with h1 | h1 | h1 | h1 | h1 | h1 | h1 | h1 | h1 | h1 | h1 | h1 | h1 | h1
  · exact .inl h1
  · exact .inr (.inl ⟨h1.1, h1.2, kn_2 (by omega) (by omega) (by omega) (by omega) (by omega)⟩)
  · exact .inr (.inr (.inl ⟨h1.1, h1.2, kn_2 (by omega) (by omega) (by omega) (by omega) (by omega)⟩))
  · exact .inr (.inr (.inr (.inl ⟨h1.1, h1.2, kn_2 (by omega) (by omega) (by omega) (by omega) (by omega)⟩)))
  · exact .inr (.inr (.inr (.inr (.inl ⟨h1.1, h1.2, kn_1 (by omega)⟩))))
  · exact .inr (.inr (.inr (.inr (.inr (.inl ⟨h1.1, h1.2, kn_2 (by omega) (by omega) (by omega) (by omega) (by omega)⟩)))))
  · exact .inr (.inr (.inr (.inr (.inr (.inr (.inl ⟨h1.1, h1.2, kn_1 (by omega)⟩))))))
  · exact .inr (.inr (.inr (.inr (.inr (.inr (.inr (.inl ⟨h1.1, h1.2, kn_2 (by omega) (by omega) (by omega) (by omega) (by omega)⟩)))))))
  · exact .inr (.inr (.inr (.inr (.inr (.inr (.inr (.inr (.inl ⟨h1.1, h1.2, kn_2 (by omega) (by omega) (by omega) (by omega) (by omega)⟩))))))))
  · exact .inr (.inr (.inr (.inr (.inr (.inr (.inr (.inr (.inr (.inl ⟨h1.1, h1.2, kn_1 (by omega)⟩)))))))))
  · exact .inr (.inr (.inr (.inr (.inr (.inr (.inr (.inr (.inr (.inr (.inl ⟨h1.1, h1.2, kn_2 (by omega) (by omega) (by omega) (by omega) (by omega)⟩))))))))))
  · exact .inr (.inr (.inr (.inr (.inr (.inr (.inr (.inr (.inr (.inr (.inr (.inl ⟨h1.1, h1.2, kn_1 (by omega)⟩)))))))))))
  · exact .inr (.inr (.inr (.inr (.inr (.inr (.inr (.inr (.inr (.inr (.inr (.inr (.inl ⟨h1.1, h1.2, kn_1 (by omega)⟩))))))))))))
  · exact .inr (.inr (.inr (.inr (.inr (.inr (.inr (.inr (.inr (.inr (.inr (.inr (.inr (⟨h1.1, h1.2, kn_5 (by omega)⟩)))))))))))))
theorem neqI (b k : Int) (h : b < k ∨ k < b) : (b == k) = false := by rw [beq_eq_false_iff_ne]; omega

theorem decI (p : Prop) [Decidable p] : (p ∧ decide p = true) ∨ (¬ p ∧ decide p = false) := by
  by_cases h : p
  · exact .inl ⟨h, by simpa using h⟩
  · exact .inr ⟨h, by simpa using h⟩
theorem kind_any (b : Int) (h : 0 ≤ b ∧ b ≤ 255) (w : World) : Calls Tryd.prog 76 #[.int .i64 b] w fun e w' => e = .returned (.int .u8 (kn b)) ∧ w' = w := by
  rcases kn_cases b h with (rfl | rfl | rfl | rfl | rfl | rfl | rfl) | h1 | h1 | h1 | h1 | h1 | h1 | h1 | h1 | h1 | h1 | h1 | h1 | h1
  case inl.inl | inl.inr.inl | inl.inr.inr.inl | inl.inr.inr.inr.inl | inl.inr.inr.inr.inr.inl | inl.inr.inr.inr.inr.inr.inl | inl.inr.inr.inr.inr.inr.inr =>
    clear h
    go_enter Tryd.func76, Tryd.ntmps76
    go_wp2
    go_ret
    exact ⟨rfl, rfl⟩
  all_goals
    obtain ⟨h1, h2, hk⟩ := h1
    have e1 := neqI b 32 (by omega)
    have e2 := neqI b 9 (by omega)
    have e3 := neqI b 95 (by omega)
    have e4 := neqI b 10 (by omega)
    have e5 := neqI b 0 (by omega)
    have e6 := neqI b 192 (by omega)
    have e7 := neqI b 193 (by omega)
    rw [hk]
    clear hk h
    rcases decI (97 ≤ b) with ⟨q0, f0⟩ | ⟨q0, f0⟩ <;> first | (exfalso; omega) | skip
    rcases decI (b ≤ 122) with ⟨q1, f1⟩ | ⟨q1, f1⟩ <;> first | (exfalso; omega) | skip
    rcases decI (65 ≤ b) with ⟨q2, f2⟩ | ⟨q2, f2⟩ <;> first | (exfalso; omega) | skip
    rcases decI (b ≤ 90) with ⟨q3, f3⟩ | ⟨q3, f3⟩ <;> first | (exfalso; omega) | skip
    rcases decI (48 ≤ b) with ⟨q4, f4⟩ | ⟨q4, f4⟩ <;> first | (exfalso; omega) | skip
    rcases decI (b ≤ 57) with ⟨q5, f5⟩ | ⟨q5, f5⟩ <;> first | (exfalso; omega) | skip
    rcases decI (245 ≤ b) with ⟨q6, f6⟩ | ⟨q6, f6⟩ <;> first | (exfalso; omega) | skip
    rcases decI (128 ≤ b) with ⟨q7, f7⟩ | ⟨q7, f7⟩ <;> first | (exfalso; omega) | skip
    clear q0 q1 q2 q3 q4 q5 q6 q7
    clear h1 h2
    go_enter Tryd.func76, Tryd.ntmps76
    go_wp2
    go_ret
    exact ⟨rfl, rfl⟩
theorem kn_range (b : Int) : 0 ≤ kn b ∧ kn b ≤ 10 := by unfold kn; (repeat' split) <;> omega
end Go.Proofs.YthbfmdnibijapaaDoor
