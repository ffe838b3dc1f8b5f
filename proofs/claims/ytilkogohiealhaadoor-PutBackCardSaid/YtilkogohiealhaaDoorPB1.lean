/-
  TEXTS: the kind of a byte, the class of a rune, and whether a text may be, of the program and of the reference.
-/
import Derived.Test.YtilkogohiealhaaDoorPA2
import Derived.Test.YtilkogohiealhaaDoorPA1
set_option linter.unusedVariables false
namespace Go.Proofs.YtilkogohiealhaaDoor
open Go Go.RowKit

/-- The kind of a byte. -/
def kn (b : Int) : Int :=
  if b = 32 ∨ b = 9 then 0 else if (97 ≤ b ∧ b ≤ 122) ∨ (65 ≤ b ∧ b ≤ 90) ∨ (48 ≤ b ∧ b ≤ 57) ∨ b = 95 then 1
  else if b = 10 then 10 else if b = 0 then 6 else if b = 192 ∨ b = 193 ∨ 245 ≤ b then 5 else if 128 ≤ b then 1 else 2
/-- What lies between two neighbours of these. -/
theorem kn_1 {b : Int} (h : (97 ≤ b ∧ b ≤ 122) ∨ (65 ≤ b ∧ b ≤ 90) ∨ (48 ≤ b ∧ b ≤ 57) ∨ (128 ≤ b ∧ b ≤ 191) ∨ (194 ≤ b ∧ b ≤ 244)) : kn b = 1 := by
  unfold kn
  rw [if_neg (by omega)]
  by_cases c : (97 ≤ b ∧ b ≤ 122) ∨ (65 ≤ b ∧ b ≤ 90) ∨ (48 ≤ b ∧ b ≤ 57) ∨ b = 95
  · rw [if_pos c]
  · rw [if_neg c, if_neg (by omega), if_neg (by omega), if_neg (by omega), if_pos (by omega)]
theorem kn_2 {b : Int} (h : 1 ≤ b ∧ b ≤ 127) (h1 : b ≠ 32 ∧ b ≠ 9 ∧ b ≠ 95 ∧ b ≠ 10) (h2 : b < 97 ∨ 122 < b) (h3 : b < 65 ∨ 90 < b) (h4 : b < 48 ∨ 57 < b) : kn b = 2 := by
  unfold kn
  rw [if_neg (by omega), if_neg (by omega), if_neg (by omega), if_neg (by omega), if_neg (by omega), if_neg (by omega)]
theorem kn_5 {b : Int} (h : 245 ≤ b) : kn b = 5 := by
  unfold kn
  rw [if_neg (by omega), if_neg (by omega), if_neg (by omega), if_neg (by omega), if_pos (by omega)]
theorem kn_cases (b : Int) (h : 0 ≤ b ∧ b ≤ 255) : (b = 0 ∨ b = 9 ∨ b = 10 ∨ b = 32 ∨ b = 95 ∨ b = 192 ∨ b = 193) ∨ (1 ≤ b ∧ b ≤ 8 ∧ kn b = 2) ∨ (11 ≤ b ∧ b ≤ 31 ∧ kn b = 2) ∨ (33 ≤ b ∧ b ≤ 47 ∧ kn b = 2) ∨ (48 ≤ b ∧ b ≤ 57 ∧ kn b = 1) ∨ (58 ≤ b ∧ b ≤ 64 ∧ kn b = 2) ∨ (65 ≤ b ∧ b ≤ 90 ∧ kn b = 1) ∨ (91 ≤ b ∧ b ≤ 94 ∧ kn b = 2) ∨ (96 ≤ b ∧ b ≤ 96 ∧ kn b = 2) ∨ (97 ≤ b ∧ b ≤ 122 ∧ kn b = 1) ∨ (123 ≤ b ∧ b ≤ 127 ∧ kn b = 2) ∨ (128 ≤ b ∧ b ≤ 191 ∧ kn b = 1) ∨ (194 ≤ b ∧ b ≤ 244 ∧ kn b = 1) ∨ (245 ≤ b ∧ b ≤ 255 ∧ kn b = 5) := by
  have hr : (b = 0 ∨ b = 9 ∨ b = 10 ∨ b = 32 ∨ b = 95 ∨ b = 192 ∨ b = 193) ∨ (1 ≤ b ∧ b ≤ 8) ∨ (11 ≤ b ∧ b ≤ 31) ∨ (33 ≤ b ∧ b ≤ 47) ∨ (48 ≤ b ∧ b ≤ 57) ∨ (58 ≤ b ∧ b ≤ 64) ∨ (65 ≤ b ∧ b ≤ 90) ∨ (91 ≤ b ∧ b ≤ 94) ∨ (96 ≤ b ∧ b ≤ 96) ∨ (97 ≤ b ∧ b ≤ 122) ∨ (123 ≤ b ∧ b ≤ 127) ∨ (128 ≤ b ∧ b ≤ 191) ∨ (194 ≤ b ∧ b ≤ 244) ∨ (245 ≤ b ∧ b ≤ 255) := by omega
  rcases hr with h1 | h1 | h1 | h1 | h1 | h1 | h1 | h1 | h1 | h1 | h1 | h1 | h1 | h1
  · exact .inl h1
  · exact .inr (.inl ⟨h1.1, h1.2, kn_2 (by omega) (by omega) (by omega) (by omega) (by omega)⟩)
  · exact .inr (.inr (.inl ⟨h1.1, h1.2, kn_2 (by omega) (by omega) (by omega) (by omega) (by omega)⟩))
  · exact .inr (.inr (.inr (.inl ⟨h1.1, h1.2, kn_2 (by omega) (by omega) (by omega) (by omega) (by omega)⟩)))
  · exact .inr (.inr (.inr (.inr (.inl ⟨h1.1, h1.2, kn_1 (by omega)⟩))))
  · exact .inr (.inr (.inr (.inr (.inr (.inl ⟨h1.1, h1.2, kn_2 (by omega) (by omega) (by omega) (by omega) (by omega)⟩)))))
  · exact .inr (.inr (.inr (.inr (.inr (.inr (.inl ⟨h1.1, h1.2, kn_1 (by omega)⟩))))))
  · exact .inr (.inr (.inr (.inr (.inr (.inr (.inr (.inl ⟨h1.1, h1.2, kn_2 (by omega) (by omega) (by omega) (by omega) (by omega)⟩)))))))
  · exact .inr (.inr (.inr (.inr (.inr (.inr (.inr (.inr (.inl ⟨h1.1, h1.2, kn_2 (by omega) (by omega) (by omega) (by omega) (by omega)⟩))))))))
  · exact .inr (.inr (.inr (.inr (.inr (.inr (.inr (.inr (.inr (.inl ⟨h1.1, h1.2, kn_1 (by omega)⟩)))))))))
  · exact .inr (.inr (.inr (.inr (.inr (.inr (.inr (.inr (.inr (.inr (.inl ⟨h1.1, h1.2, kn_2 (by omega) (by omega) (by omega) (by omega) (by omega)⟩))))))))))
  · exact .inr (.inr (.inr (.inr (.inr (.inr (.inr (.inr (.inr (.inr (.inr (.inl ⟨h1.1, h1.2, kn_1 (by omega)⟩)))))))))))
  · exact .inr (.inr (.inr (.inr (.inr (.inr (.inr (.inr (.inr (.inr (.inr (.inr (.inl ⟨h1.1, h1.2, kn_1 (by omega)⟩))))))))))))
  · exact .inr (.inr (.inr (.inr (.inr (.inr (.inr (.inr (.inr (.inr (.inr (.inr (.inr (⟨h1.1, h1.2, kn_5 (by omega)⟩)))))))))))))
theorem neqI (b k : Int) (h : b < k ∨ k < b) : (b == k) = false := by rw [beq_eq_false_iff_ne]; omega

theorem decI (p : Prop) [Decidable p] : (p ∧ decide p = true) ∨ (¬ p ∧ decide p = false) := by
  by_cases h : p
  · exact .inl ⟨h, by simpa using h⟩
  · exact .inr ⟨h, by simpa using h⟩
theorem kind_any (b : Int) (h : 0 ≤ b ∧ b ≤ 255) (w : World) : Calls Tryd.prog 55 #[.int .i64 b] w fun e w' => e = .returned (.int .u8 (kn b)) ∧ w' = w := by
  rcases kn_cases b h with (rfl | rfl | rfl | rfl | rfl | rfl | rfl) | h1 | h1 | h1 | h1 | h1 | h1 | h1 | h1 | h1 | h1 | h1 | h1 | h1
  case inl.inl | inl.inr.inl | inl.inr.inr.inl | inl.inr.inr.inr.inl | inl.inr.inr.inr.inr.inl | inl.inr.inr.inr.inr.inr.inl | inl.inr.inr.inr.inr.inr.inr =>
    clear h
    go_enter Tryd.func55, Tryd.ntmps55
    go_wp2
    go_ret
    exact ⟨rfl, rfl⟩
  all_goals
    obtain ⟨h1, h2, hk⟩ := h1
    have e1 := neqI b 32 (by omega)
    have e2 := neqI b 9 (by omega)
    have e3 := neqI b 95 (by omega)
    have e4 := neqI b 10 (by omega)
    have e5 := neqI b 0 (by omega)
    have e6 := neqI b 192 (by omega)
    have e7 := neqI b 193 (by omega)
    rw [hk]
    clear hk h
    rcases decI (97 ≤ b) with ⟨q0, f0⟩ | ⟨q0, f0⟩ <;> first | (exfalso; omega) | skip
    rcases decI (b ≤ 122) with ⟨q1, f1⟩ | ⟨q1, f1⟩ <;> first | (exfalso; omega) | skip
    rcases decI (65 ≤ b) with ⟨q2, f2⟩ | ⟨q2, f2⟩ <;> first | (exfalso; omega) | skip
    rcases decI (b ≤ 90) with ⟨q3, f3⟩ | ⟨q3, f3⟩ <;> first | (exfalso; omega) | skip
    rcases decI (48 ≤ b) with ⟨q4, f4⟩ | ⟨q4, f4⟩ <;> first | (exfalso; omega) | skip
    rcases decI (b ≤ 57) with ⟨q5, f5⟩ | ⟨q5, f5⟩ <;> first | (exfalso; omega) | skip
    rcases decI (245 ≤ b) with ⟨q6, f6⟩ | ⟨q6, f6⟩ <;> first | (exfalso; omega) | skip
    rcases decI (128 ≤ b) with ⟨q7, f7⟩ | ⟨q7, f7⟩ <;> first | (exfalso; omega) | skip
    clear q0 q1 q2 q3 q4 q5 q6 q7
    clear h1 h2
    go_enter Tryd.func55, Tryd.ntmps55
    go_wp2
    go_ret
    exact ⟨rfl, rfl⟩
theorem kn_range (b : Int) : 0 ≤ kn b ∧ kn b ≤ 10 := by unfold kn; (repeat' split) <;> omega
/-- The class of a rune. -/
theorem class_any (r : Int) (h : 0 ≤ r) (h2 : r ≤ 1114111) (w : World) : Calls Tryd.prog 58 #[.int .i64 r] w fun e w' => e = .returned (.int .i64 (Rw.cls r)) ∧ w' = w := by
  by_cases h1 : 128 ≤ r
  · have hc : Rw.cls r = 1 := by unfold Rw.cls; (repeat' split) <;> omega
    rw [hc]
    clear hc
    go_enter Tryd.func58, Tryd.ntmps58
    go_wp2
    go_ret
    exact ⟨rfl, rfl⟩
  · have cK := kind_any r ⟨h, by omega⟩ w
    have hK : kn r = 0 ∧ Rw.cls r = 0 ∨ kn r = 1 ∧ Rw.cls r = 1 ∨ kn r = 10 ∧ Rw.cls r = 2 ∨ kn r = 6 ∧ Rw.cls r = 2 ∨ kn r = 2 ∧ Rw.cls r = 2 := by
      unfold kn Rw.cls
      (repeat' split) <;> omega
    rcases hK with ⟨e1, e2⟩ | ⟨e1, e2⟩ | ⟨e1, e2⟩ | ⟨e1, e2⟩ | ⟨e1, e2⟩
    all_goals
      rw [e1] at cK
      rw [e2]
      clear e1 e2
      have x0 : bits BinOp.andNot IntKind.u8 0 12 = 0 := by decide
      have x1 : bits BinOp.andNot IntKind.u8 1 12 = 1 := by decide
      have x2 : bits BinOp.andNot IntKind.u8 2 12 = 2 := by decide
      have x3 : bits BinOp.andNot IntKind.u8 10 12 = 2 := by decide
      have x4 : bits BinOp.andNot IntKind.u8 6 12 = 2 := by decide
      go_enter Tryd.func58, Tryd.ntmps58
      go_wp2_with (go_at_call 55; refine cK.mono ?_; rintro e w' ⟨rfl, rfl⟩)
      go_ret
      exact ⟨rfl, rfl⟩
theorem cls_1 {b : Int} (h : (97 ≤ b ∧ b ≤ 122) ∨ (65 ≤ b ∧ b ≤ 90) ∨ (48 ≤ b ∧ b ≤ 57) ∨ 128 ≤ b) : Rw.cls b = 1 := by
  unfold Rw.cls
  rw [if_neg (by omega), if_pos (by omega)]
theorem cls_2 {b : Int} (h : 0 ≤ b ∧ b ≤ 127) (h1 : b ≠ 32 ∧ b ≠ 9 ∧ b ≠ 95) (h2 : b < 97 ∨ 122 < b) (h3 : b < 65 ∨ 90 < b) (h4 : b < 48 ∨ 57 < b) : Rw.cls b = 2 := by
  unfold Rw.cls
  rw [if_neg (by omega), if_neg (by omega)]
theorem cls_cases (r : Int) (h : 0 ≤ r) : (r = 0 ∨ r = 9 ∨ r = 32 ∨ r = 95) ∨ (1 ≤ r ∧ r ≤ 8 ∧ Rw.cls r = 2) ∨ (10 ≤ r ∧ r ≤ 31 ∧ Rw.cls r = 2) ∨ (33 ≤ r ∧ r ≤ 47 ∧ Rw.cls r = 2) ∨ (48 ≤ r ∧ r ≤ 57 ∧ Rw.cls r = 1) ∨ (58 ≤ r ∧ r ≤ 64 ∧ Rw.cls r = 2) ∨ (65 ≤ r ∧ r ≤ 90 ∧ Rw.cls r = 1) ∨ (91 ≤ r ∧ r ≤ 94 ∧ Rw.cls r = 2) ∨ (96 ≤ r ∧ r ≤ 96 ∧ Rw.cls r = 2) ∨ (97 ≤ r ∧ r ≤ 122 ∧ Rw.cls r = 1) ∨ (123 ≤ r ∧ r ≤ 127 ∧ Rw.cls r = 2) ∨ (128 ≤ r ∧ 128 ≤ r ∧ Rw.cls r = 1) := by
  have hr : (r = 0 ∨ r = 9 ∨ r = 32 ∨ r = 95) ∨ (1 ≤ r ∧ r ≤ 8) ∨ (10 ≤ r ∧ r ≤ 31) ∨ (33 ≤ r ∧ r ≤ 47) ∨ (48 ≤ r ∧ r ≤ 57) ∨ (58 ≤ r ∧ r ≤ 64) ∨ (65 ≤ r ∧ r ≤ 90) ∨ (91 ≤ r ∧ r ≤ 94) ∨ (96 ≤ r ∧ r ≤ 96) ∨ (97 ≤ r ∧ r ≤ 122) ∨ (123 ≤ r ∧ r ≤ 127) ∨ 128 ≤ r := by omega
  rcases hr with h1 | h1 | h1 | h1 | h1 | h1 | h1 | h1 | h1 | h1 | h1 | h1
  · exact .inl h1
  · exact .inr (.inl ⟨h1.1, h1.2, cls_2 (by omega) (by omega) (by omega) (by omega) (by omega)⟩)
  · exact .inr (.inr (.inl ⟨h1.1, h1.2, cls_2 (by omega) (by omega) (by omega) (by omega) (by omega)⟩))
  · exact .inr (.inr (.inr (.inl ⟨h1.1, h1.2, cls_2 (by omega) (by omega) (by omega) (by omega) (by omega)⟩)))
  · exact .inr (.inr (.inr (.inr (.inl ⟨h1.1, h1.2, cls_1 (by omega)⟩))))
  · exact .inr (.inr (.inr (.inr (.inr (.inl ⟨h1.1, h1.2, cls_2 (by omega) (by omega) (by omega) (by omega) (by omega)⟩)))))
  · exact .inr (.inr (.inr (.inr (.inr (.inr (.inl ⟨h1.1, h1.2, cls_1 (by omega)⟩))))))
  · exact .inr (.inr (.inr (.inr (.inr (.inr (.inr (.inl ⟨h1.1, h1.2, cls_2 (by omega) (by omega) (by omega) (by omega) (by omega)⟩)))))))
  · exact .inr (.inr (.inr (.inr (.inr (.inr (.inr (.inr (.inl ⟨h1.1, h1.2, cls_2 (by omega) (by omega) (by omega) (by omega) (by omega)⟩))))))))
  · exact .inr (.inr (.inr (.inr (.inr (.inr (.inr (.inr (.inr (.inl ⟨h1.1, h1.2, cls_1 (by omega)⟩)))))))))
  · exact .inr (.inr (.inr (.inr (.inr (.inr (.inr (.inr (.inr (.inr (.inl ⟨h1.1, h1.2, cls_2 (by omega) (by omega) (by omega) (by omega) (by omega)⟩))))))))))
  · exact .inr (.inr (.inr (.inr (.inr (.inr (.inr (.inr (.inr (.inr (.inr (⟨h1, h1, cls_1 (by omega)⟩)))))))))))
theorem rclass_any (r : Int) (h : 0 ≤ r) (w : World) : Calls Tryd.prog 21 #[.int .i64 r] w fun e w' => e = .returned (.int .i64 (Rw.cls r)) ∧ w' = w := by
  rcases cls_cases r h with (rfl | rfl | rfl | rfl) | h1 | h1 | h1 | h1 | h1 | h1 | h1 | h1 | h1 | h1 | h1
  case inl.inl | inl.inr.inl | inl.inr.inr.inl | inl.inr.inr.inr =>
    clear h
    go_enter Tryd.func21, Tryd.ntmps21
    go_wp2
    go_ret
    exact ⟨rfl, rfl⟩
  all_goals
    obtain ⟨h1, h2, hk⟩ := h1
    have e1 := neqI r 32 (by omega)
    have e2 := neqI r 9 (by omega)
    have e3 := neqI r 95 (by omega)
    rw [hk]
    clear hk h
    rcases decI (97 ≤ r) with ⟨q0, f0⟩ | ⟨q0, f0⟩ <;> first | (exfalso; omega) | skip
    rcases decI (r ≤ 122) with ⟨q1, f1⟩ | ⟨q1, f1⟩ <;> first | (exfalso; omega) | skip
    rcases decI (65 ≤ r) with ⟨q2, f2⟩ | ⟨q2, f2⟩ <;> first | (exfalso; omega) | skip
    rcases decI (r ≤ 90) with ⟨q3, f3⟩ | ⟨q3, f3⟩ <;> first | (exfalso; omega) | skip
    rcases decI (48 ≤ r) with ⟨q4, f4⟩ | ⟨q4, f4⟩ <;> first | (exfalso; omega) | skip
    rcases decI (r ≤ 57) with ⟨q5, f5⟩ | ⟨q5, f5⟩ <;> first | (exfalso; omega) | skip
    rcases decI (128 ≤ r) with ⟨q6, f6⟩ | ⟨q6, f6⟩ <;> first | (exfalso; omega) | skip
    clear q0 q1 q2 q3 q4 q5 q6
    clear h1 h2
    go_enter Tryd.func21, Tryd.ntmps21
    go_wp2
    go_ret
    exact ⟨rfl, rfl⟩
end Go.Proofs.YtilkogohiealhaaDoor
