/-
  TEXTS: the kind of a byte, the class of a rune, and whether a text may be, of the program and of the reference.
  utf8.ValidString, by the library's contract; Go's two tables, as the row lays them.
  TEXTS: no byte stands in a valid text that the program calls a stray one but byte 0; whether a text may be.
-/
import Derived.Test.YtbofjefblhnkoaaGreatDoorZMa
import Derived.Test.YtbofjefblhnkoaaGreatDoorZM0
import Derived.Test.YtbofjefblhnkoaaGreatDoorRows
import Derived.Test.YtbofjefblhnkoaaGreatDoorShelf
import Derived.Lib.LaidU8T
import Derived.PinnedBridge
set_option linter.unusedVariables false
namespace Go.Proofs.YtbofjefblhnkoaaGreatDoor
open Go Go.RowKit

/-- The kind of a byte. -/
def kn (b : Int) : Int :=
  if b = 32 ∨ b = 9 then 0 else if (97 ≤ b ∧ b ≤ 122) ∨ (65 ≤ b ∧ b ≤ 90) ∨ (48 ≤ b ∧ b ≤ 57) ∨ b = 95 then 1
  else if b = 10 then 10 else if b = 0 then 6 else if b = 192 ∨ b = 193 ∨ 245 ≤ b then 5 else if 128 ≤ b then 1 else 2
/-- What lies between two neighbours of these. -/
theorem kn_1 {b : Int} (h : (97 ≤ b ∧ b ≤ 122) ∨ (65 ≤ b ∧ b ≤ 90) ∨ (48 ≤ b ∧ b ≤ 57) ∨ (128 ≤ b ∧ b ≤ 191) ∨ (194 ≤ b ∧ b ≤ 244)) : kn b = 1 := by
  unfold kn
  rw [if_neg (by omega)]
  by_cases c : (97 ≤ b ∧ b ≤ 122) ∨ (65 ≤ b ∧ b ≤ 90) ∨ (48 ≤ b ∧ b ≤ 57) ∨ b = 95
  · rw [if_pos c]
  · rw [if_neg c, if_neg (by omega), if_neg (by omega), if_neg (by omega), if_pos (by omega)]
theorem kn_2 {b : Int} (h : 1 ≤ b ∧ b ≤ 127) (h1 : b ≠ 32 ∧ b ≠ 9 ∧ b ≠ 95 ∧ b ≠ 10) (h2 : b < 97 ∨ 122 < b) (h3 : b < 65 ∨ 90 < b) (h4 : b < 48 ∨ 57 < b) : kn b = 2 := by
  unfold kn
  rw [if_neg (by omega), if_neg (by omega), if_neg (by omega), if_neg (by omega), if_neg (by omega), if_neg (by omega)]
theorem kn_5 {b : Int} (h : 245 ≤ b) : kn b = 5 := by
  unfold kn
  rw [if_neg (by omega), if_neg (by omega), if_neg (by omega), if_neg (by omega), if_pos (by omega)]
theorem kn_cases (b : Int) (h : 0 ≤ b ∧ b ≤ 255) : (b = 0 ∨ b = 9 ∨ b = 10 ∨ b = 32 ∨ b = 95 ∨ b = 192 ∨ b = 193) ∨ (1 ≤ b ∧ b ≤ 8 ∧ kn b = 2) ∨ (11 ≤ b ∧ b ≤ 31 ∧ kn b = 2) ∨ (33 ≤ b ∧ b ≤ 47 ∧ kn b = 2) ∨ (48 ≤ b ∧ b ≤ 57 ∧ kn b = 1) ∨ (58 ≤ b ∧ b ≤ 64 ∧ kn b = 2) ∨ (65 ≤ b ∧ b ≤ 90 ∧ kn b = 1) ∨ (91 ≤ b ∧ b ≤ 94 ∧ kn b = 2) ∨ (96 ≤ b ∧ b ≤ 96 ∧ kn b = 2) ∨ (97 ≤ b ∧ b ≤ 122 ∧ kn b = 1) ∨ (123 ≤ b ∧ b ≤ 127 ∧ kn b = 2) ∨ (128 ≤ b ∧ b ≤ 191 ∧ kn b = 1) ∨ (194 ≤ b ∧ b ≤ 244 ∧ kn b = 1) ∨ (245 ≤ b ∧ b ≤ 255 ∧ kn b = 5) := by
  have hr : (b = 0 ∨ b = 9 ∨ b = 10 ∨ b = 32 ∨ b = 95 ∨ b = 192 ∨ b = 193) ∨ (1 ≤ b ∧ b ≤ 8) ∨ (11 ≤ b ∧ b ≤ 31) ∨ (33 ≤ b ∧ b ≤ 47) ∨ (48 ≤ b ∧ b ≤ 57) ∨ (58 ≤ b ∧ b ≤ 64) ∨ (65 ≤ b ∧ b ≤ 90) ∨ (91 ≤ b ∧ b ≤ 94) ∨ (96 ≤ b ∧ b ≤ 96) ∨ (97 ≤ b ∧ b ≤ 122) ∨ (123 ≤ b ∧ b ≤ 127) ∨ (128 ≤ b ∧ b ≤ 191) ∨ (194 ≤ b ∧ b ≤ 244) ∨ (245 ≤ b ∧ b ≤ 255) := by omega
  rcases hr with h1 | h1 | h1 | h1 | h1 | h1 | h1 | h1 | h1 | h1 | h1 | h1 | h1 | h1
  · exact .inl h1
  · exact .inr (.inl ⟨h1.1, h1.2, kn_2 (by omega) (by omega) (by omega) (by omega) (by omega)⟩)
  · exact .inr (.inr (.inl ⟨h1.1, h1.2, kn_2 (by omega) (by omega) (by omega) (by omega) (by omega)⟩))
  · exact .inr (.inr (.inr (.inl ⟨h1.1, h1.2, kn_2 (by omega) (by omega) (by omega) (by omega) (by omega)⟩)))
  · exact .inr (.inr (.inr (.inr (.inl ⟨h1.1, h1.2, kn_1 (by omega)⟩))))
  · exact .inr (.inr (.inr (.inr (.inr (.inl ⟨h1.1, h1.2, kn_2 (by omega) (by omega) (by omega) (by omega) (by omega)⟩)))))
  · exact .inr (.inr (.inr (.inr (.inr (.inr (.inl ⟨h1.1, h1.2, kn_1 (by omega)⟩))))))
  · exact .inr (.inr (.inr (.inr (.inr (.inr (.inr (.inl ⟨h1.1, h1.2, kn_2 (by omega) (by omega) (by omega) (by omega) (by omega)⟩)))))))
  · exact .inr (.inr (.inr (.inr (.inr (.inr (.inr (.inr (.inl ⟨h1.1, h1.2, kn_2 (by omega) (by omega) (by omega) (by omega) (by omega)⟩))))))))
  · exact .inr (.inr (.inr (.inr (.inr (.inr (.inr (.inr (.inr (.inl ⟨h1.1, h1.2, kn_1 (by omega)⟩)))))))))
  · exact .inr (.inr (.inr (.inr (.inr (.inr (.inr (.inr (.inr (.inr (.inl ⟨h1.1, h1.2, kn_2 (by omega) (by omega) (by omega) (by omega) (by omega)⟩))))))))))
  · exact .inr (.inr (.inr (.inr (.inr (.inr (.inr (.inr (.inr (.inr (.inr (.inl ⟨h1.1, h1.2, kn_1 (by omega)⟩)))))))))))
  · exact .inr (.inr (.inr (.inr (.inr (.inr (.inr (.inr (.inr (.inr (.inr (.inr (.inl ⟨h1.1, h1.2, kn_1 (by omega)⟩))))))))))))
  · exact .inr (.inr (.inr (.inr (.inr (.inr (.inr (.inr (.inr (.inr (.inr (.inr (.inr (⟨h1.1, h1.2, kn_5 (by omega)⟩)))))))))))))
theorem neqI (b k : Int) (h : b < k ∨ k < b) : (b == k) = false := by rw [beq_eq_false_iff_ne]; omega

theorem decI (p : Prop) [Decidable p] : (p ∧ decide p = true) ∨ (¬ p ∧ decide p = false) := by
  by_cases h : p
  · exact .inl ⟨h, by simpa using h⟩
  · exact .inr ⟨h, by simpa using h⟩
theorem kind_any (b : Int) (h : 0 ≤ b ∧ b ≤ 255) (w : World) : Calls Tryz.prog 121 #[.int .i64 b] w fun e w' => e = .returned (.int .u8 (kn b)) ∧ w' = w := by
  rcases kn_cases b h with (rfl | rfl | rfl | rfl | rfl | rfl | rfl) | h1 | h1 | h1 | h1 | h1 | h1 | h1 | h1 | h1 | h1 | h1 | h1 | h1
  case inl.inl | inl.inr.inl | inl.inr.inr.inl | inl.inr.inr.inr.inl | inl.inr.inr.inr.inr.inl | inl.inr.inr.inr.inr.inr.inl | inl.inr.inr.inr.inr.inr.inr =>
    clear h
    go_enter Tryz.func121, Tryz.ntmps121
    go_wp2
    go_ret
    exact ⟨rfl, rfl⟩
  all_goals
    obtain ⟨h1, h2, hk⟩ := h1
    have e1 := neqI b 32 (by omega)
    have e2 := neqI b 9 (by omega)
    have e3 := neqI b 95 (by omega)
    have e4 := neqI b 10 (by omega)
    have e5 := neqI b 0 (by omega)
    have e6 := neqI b 192 (by omega)
    have e7 := neqI b 193 (by omega)
    rw [hk]
    clear hk h
    rcases decI (97 ≤ b) with ⟨q0, f0⟩ | ⟨q0, f0⟩ <;> first | (exfalso; omega) | skip
    rcases decI (b ≤ 122) with ⟨q1, f1⟩ | ⟨q1, f1⟩ <;> first | (exfalso; omega) | skip
    rcases decI (65 ≤ b) with ⟨q2, f2⟩ | ⟨q2, f2⟩ <;> first | (exfalso; omega) | skip
    rcases decI (b ≤ 90) with ⟨q3, f3⟩ | ⟨q3, f3⟩ <;> first | (exfalso; omega) | skip
    rcases decI (48 ≤ b) with ⟨q4, f4⟩ | ⟨q4, f4⟩ <;> first | (exfalso; omega) | skip
    rcases decI (b ≤ 57) with ⟨q5, f5⟩ | ⟨q5, f5⟩ <;> first | (exfalso; omega) | skip
    rcases decI (245 ≤ b) with ⟨q6, f6⟩ | ⟨q6, f6⟩ <;> first | (exfalso; omega) | skip
    rcases decI (128 ≤ b) with ⟨q7, f7⟩ | ⟨q7, f7⟩ <;> first | (exfalso; omega) | skip
    clear q0 q1 q2 q3 q4 q5 q6 q7
    clear h1 h2
    go_enter Tryz.func121, Tryz.ntmps121
    go_wp2
    go_ret
    exact ⟨rfl, rfl⟩
theorem kn_range (b : Int) : 0 ≤ kn b ∧ kn b ≤ 10 := by unfold kn; (repeat' split) <;> omega
/-- The class of a rune. -/
theorem class_any (r : Int) (h : 0 ≤ r) (h2 : r ≤ 1114111) (w : World) : Calls Tryz.prog 127 #[.int .i64 r] w fun e w' => e = .returned (.int .i64 (Rw.cls r)) ∧ w' = w := by
  by_cases h1 : 128 ≤ r
  · have hc : Rw.cls r = 1 := by unfold Rw.cls; (repeat' split) <;> omega
    rw [hc]
    clear hc
    go_enter Tryz.func127, Tryz.ntmps127
    go_wp2
    go_ret
    exact ⟨rfl, rfl⟩
  · have cK := kind_any r ⟨h, by omega⟩ w
    have hK : kn r = 0 ∧ Rw.cls r = 0 ∨ kn r = 1 ∧ Rw.cls r = 1 ∨ kn r = 10 ∧ Rw.cls r = 2 ∨ kn r = 6 ∧ Rw.cls r = 2 ∨ kn r = 2 ∧ Rw.cls r = 2 := by
      unfold kn Rw.cls
      (repeat' split) <;> omega
    rcases hK with ⟨e1, e2⟩ | ⟨e1, e2⟩ | ⟨e1, e2⟩ | ⟨e1, e2⟩ | ⟨e1, e2⟩
    all_goals
      rw [e1] at cK
      rw [e2]
      clear e1 e2
      have x0 : bits BinOp.andNot IntKind.u8 0 12 = 0 := by decide
      have x1 : bits BinOp.andNot IntKind.u8 1 12 = 1 := by decide
      have x2 : bits BinOp.andNot IntKind.u8 2 12 = 2 := by decide
      have x3 : bits BinOp.andNot IntKind.u8 10 12 = 2 := by decide
      have x4 : bits BinOp.andNot IntKind.u8 6 12 = 2 := by decide
      go_enter Tryz.func127, Tryz.ntmps127
      go_wp2_with (go_at_call 121; refine cK.mono ?_; rintro e w' ⟨rfl, rfl⟩)
      go_ret
      exact ⟨rfl, rfl⟩
theorem cls_1 {b : Int} (h : (97 ≤ b ∧ b ≤ 122) ∨ (65 ≤ b ∧ b ≤ 90) ∨ (48 ≤ b ∧ b ≤ 57) ∨ 128 ≤ b) : Rw.cls b = 1 := by
  unfold Rw.cls
  rw [if_neg (by omega), if_pos (by omega)]
theorem cls_2 {b : Int} (h : 0 ≤ b ∧ b ≤ 127) (h1 : b ≠ 32 ∧ b ≠ 9 ∧ b ≠ 95) (h2 : b < 97 ∨ 122 < b) (h3 : b < 65 ∨ 90 < b) (h4 : b < 48 ∨ 57 < b) : Rw.cls b = 2 := by
  unfold Rw.cls
  rw [if_neg (by omega), if_neg (by omega)]
theorem cls_cases (r : Int) (h : 0 ≤ r) : (r = 0 ∨ r = 9 ∨ r = 32 ∨ r = 95) ∨ (1 ≤ r ∧ r ≤ 8 ∧ Rw.cls r = 2) ∨ (10 ≤ r ∧ r ≤ 31 ∧ Rw.cls r = 2) ∨ (33 ≤ r ∧ r ≤ 47 ∧ Rw.cls r = 2) ∨ (48 ≤ r ∧ r ≤ 57 ∧ Rw.cls r = 1) ∨ (58 ≤ r ∧ r ≤ 64 ∧ Rw.cls r = 2) ∨ (65 ≤ r ∧ r ≤ 90 ∧ Rw.cls r = 1) ∨ (91 ≤ r ∧ r ≤ 94 ∧ Rw.cls r = 2) ∨ (96 ≤ r ∧ r ≤ 96 ∧ Rw.cls r = 2) ∨ (97 ≤ r ∧ r ≤ 122 ∧ Rw.cls r = 1) ∨ (123 ≤ r ∧ r ≤ 127 ∧ Rw.cls r = 2) ∨ (128 ≤ r ∧ 128 ≤ r ∧ Rw.cls r = 1) := by
  have hr : (r = 0 ∨ r = 9 ∨ r = 32 ∨ r = 95) ∨ (1 ≤ r ∧ r ≤ 8) ∨ (10 ≤ r ∧ r ≤ 31) ∨ (33 ≤ r ∧ r ≤ 47) ∨ (48 ≤ r ∧ r ≤ 57) ∨ (58 ≤ r ∧ r ≤ 64) ∨ (65 ≤ r ∧ r ≤ 90) ∨ (91 ≤ r ∧ r ≤ 94) ∨ (96 ≤ r ∧ r ≤ 96) ∨ (97 ≤ r ∧ r ≤ 122) ∨ (123 ≤ r ∧ r ≤ 127) ∨ 128 ≤ r := by omega
  rcases hr with h1 | h1 | h1 | h1 | h1 | h1 | h1 | h1 | h1 | h1 | h1 | h1
  · exact .inl h1
  · exact .inr (.inl ⟨h1.1, h1.2, cls_2 (by omega) (by omega) (by omega) (by omega) (by omega)⟩)
  · exact .inr (.inr (.inl ⟨h1.1, h1.2, cls_2 (by omega) (by omega) (by omega) (by omega) (by omega)⟩))
  · exact .inr (.inr (.inr (.inl ⟨h1.1, h1.2, cls_2 (by omega) (by omega) (by omega) (by omega) (by omega)⟩)))
  · exact .inr (.inr (.inr (.inr (.inl ⟨h1.1, h1.2, cls_1 (by omega)⟩))))
  · exact .inr (.inr (.inr (.inr (.inr (.inl ⟨h1.1, h1.2, cls_2 (by omega) (by omega) (by omega) (by omega) (by omega)⟩)))))
  · exact .inr (.inr (.inr (.inr (.inr (.inr (.inl ⟨h1.1, h1.2, cls_1 (by omega)⟩))))))
  · exact .inr (.inr (.inr (.inr (.inr (.inr (.inr (.inl ⟨h1.1, h1.2, cls_2 (by omega) (by omega) (by omega) (by omega) (by omega)⟩)))))))
  · exact .inr (.inr (.inr (.inr (.inr (.inr (.inr (.inr (.inl ⟨h1.1, h1.2, cls_2 (by omega) (by omega) (by omega) (by omega) (by omega)⟩))))))))
  · exact .inr (.inr (.inr (.inr (.inr (.inr (.inr (.inr (.inr (.inl ⟨h1.1, h1.2, cls_1 (by omega)⟩)))))))))
  · exact .inr (.inr (.inr (.inr (.inr (.inr (.inr (.inr (.inr (.inr (.inl ⟨h1.1, h1.2, cls_2 (by omega) (by omega) (by omega) (by omega) (by omega)⟩))))))))))
  · exact .inr (.inr (.inr (.inr (.inr (.inr (.inr (.inr (.inr (.inr (.inr (⟨h1, h1, cls_1 (by omega)⟩)))))))))))
theorem rclass_any (r : Int) (h : 0 ≤ r) (w : World) : Calls Tryz.prog 106 #[.int .i64 r] w fun e w' => e = .returned (.int .i64 (Rw.cls r)) ∧ w' = w := by
  rcases cls_cases r h with (rfl | rfl | rfl | rfl) | h1 | h1 | h1 | h1 | h1 | h1 | h1 | h1 | h1 | h1 | h1
  case inl.inl | inl.inr.inl | inl.inr.inr.inl | inl.inr.inr.inr =>
    clear h
    go_enter Tryz.func106, Tryz.ntmps106
    go_wp2
    go_ret
    exact ⟨rfl, rfl⟩
  all_goals
    obtain ⟨h1, h2, hk⟩ := h1
    have e1 := neqI r 32 (by omega)
    have e2 := neqI r 9 (by omega)
    have e3 := neqI r 95 (by omega)
    rw [hk]
    clear hk h
    rcases decI (97 ≤ r) with ⟨q0, f0⟩ | ⟨q0, f0⟩ <;> first | (exfalso; omega) | skip
    rcases decI (r ≤ 122) with ⟨q1, f1⟩ | ⟨q1, f1⟩ <;> first | (exfalso; omega) | skip
    rcases decI (65 ≤ r) with ⟨q2, f2⟩ | ⟨q2, f2⟩ <;> first | (exfalso; omega) | skip
    rcases decI (r ≤ 90) with ⟨q3, f3⟩ | ⟨q3, f3⟩ <;> first | (exfalso; omega) | skip
    rcases decI (48 ≤ r) with ⟨q4, f4⟩ | ⟨q4, f4⟩ <;> first | (exfalso; omega) | skip
    rcases decI (r ≤ 57) with ⟨q5, f5⟩ | ⟨q5, f5⟩ <;> first | (exfalso; omega) | skip
    rcases decI (128 ≤ r) with ⟨q6, f6⟩ | ⟨q6, f6⟩ <;> first | (exfalso; omega) | skip
    clear q0 q1 q2 q3 q4 q5 q6
    clear h1 h2
    go_enter Tryz.func106, Tryz.ntmps106
    go_wp2
    go_ret
    exact ⟨rfl, rfl⟩
end Go.Proofs.YtbofjefblhnkoaaGreatDoor
namespace Go.Proofs.YtbofjefblhnkoaaGreatDoor
open Go Go.RowKit Go.Shelf Go.Lib

theorem u8extra : U8Extra Tryz.prog Tryz.lays196_ren := ⟨by kernel_rfl, by kernel_rfl, by kernel_rfl, by kernel_rfl, by kernel_rfl, by kernel_rfl, by kernel_rfl⟩
/-- Go's two tables. -/
def Tabs (w : World) : Prop := Lib.Utf8Tabs (Tryz.lays196_ren.g 3) (Tryz.lays196_ren.g 4) w
theorem tabs_of {W : World} (h : laidMetH Tryz.prog [("unicode/utf8.acceptRanges", Rows.laid_unicode_utf8_acceptRanges), ("unicode/utf8.first", Rows.laid_unicode_utf8_first)] W) : Tabs W := by
  have h' : laidMet Tryz.prog [("unicode/utf8.acceptRanges", Rows.laid_unicode_utf8_acceptRanges), ("unicode/utf8.first", Rows.laid_unicode_utf8_first)] W := h
  refine utf8Tabs_of_readsT (U8Types.of196 Tryz.lays196) u8extra ?_ ?_
  · have := laidMet.reads h' (n := "unicode/utf8.first") (d := Rows.laid_unicode_utf8_first) (by simp)
    rw [show Rows.laid_unicode_utf8_first = firstData from Pinned.utf8First_eq] at this
    exact this
  · have := laidMet.reads h' (n := "unicode/utf8.acceptRanges") (d := Rows.laid_unicode_utf8_acceptRanges) (by simp)
    rw [show Rows.laid_unicode_utf8_acceptRanges = acceptData by kernel_rfl] at this
    exact this
theorem Tabs.kept {S : Nat → Prop} {w w' : World} (h : Tabs w) (hk : Kept S w w') (h0 : ¬ S 0) (h1 : ¬ S 1) : Tabs w' := by
  have c0 : w.cell? ⟨0, 0, none⟩ = some (.int .u8 (Lib.firstT 0)) := h.1 0 (by omega)
  have c1 : w.cell? ⟨1, 0, none⟩ = some (.int .u8 (Lib.accLo 0)) := (h.2 0 (by omega)).1
  have b0 := hk.block 0 (World.block_lt_of_cell? w _ c0) h0
  have b1 := hk.block 1 (World.block_lt_of_cell? w _ c1) h1
  exact ⟨fun c hc => (World.cell?_of_block (w := w) b0).trans (h.1 c hc), fun i hi => ⟨(World.cell?_of_block (w := w) b1).trans (h.2 i hi).1, (World.cell?_of_block (w := w) b1).trans (h.2 i hi).2⟩⟩
theorem valid_any (s : ByteArray) (w : World) (hs : s.size ≤ 9223372036854775807) (hT : Tabs w) :
    Calls Tryz.prog 25 #[.string s] w fun e w' => e = .returned (.bool (Lib.validD s.data.toList)) ∧ Kept (fun _ => False) w w' :=
  (Any.utf8_ValidString Tryz.lays196 s w hs hT).mono fun _ _ ⟨he, hb⟩ => ⟨he, Kept.of_below hb⟩
end Go.Proofs.YtbofjefblhnkoaaGreatDoor
namespace Go.Proofs.YtbofjefblhnkoaaGreatDoor
open Go Go.RowKit

/-- A byte that no text has. -/
def strayB (b : UInt8) : Bool := decide (b.toNat = 0 ∨ b.toNat = 192 ∨ b.toNat = 193 ∨ 245 ≤ b.toNat)
theorem stray_and (b : UInt8) : (strayB b = true ∧ (kn b.toNat = 5 ∨ kn b.toNat = 6)) ∨ (strayB b = false ∧ (kn b.toNat = 0 ∨ kn b.toNat = 1 ∨ kn b.toNat = 2 ∨ kn b.toNat = 10)) := by
  have := UInt8.toNat_lt b
  unfold strayB kn
  by_cases h : b.toNat = 0 ∨ b.toNat = 192 ∨ b.toNat = 193 ∨ 245 ≤ b.toNat
  · refine .inl ⟨by simpa using h, ?_⟩
    (repeat' split) <;> omega
  · refine .inr ⟨by simpa using h, ?_⟩
    (repeat' split) <;> omega
theorem byte_at (s : ByteArray) (k : Nat) (h : k < s.size) : s.data.toList[k]? = some (s[k]'h) := by
  show s.data.toList[k]? = some (s.data[k]'h)
  rw [Array.getElem?_toList]
  exact Array.getElem?_eq_getElem h
theorem stray_any (s : ByteArray) (w : World) (hs : s.size ≤ 4000) :
    Calls Tryz.prog 111 #[.string s] w fun e w' => e = .returned (.bool (s.data.toList.any strayB)) ∧ w' = w := by
  obtain ⟨V, hV⟩ : ∃ V, s.data.toList.any strayB = V := ⟨_, rfl⟩
  rw [hV]
  have HV := Lib.hid hV
  clear hV
  go_enter Tryz.func111, Tryz.ntmps111
  go_wp2
  go_loop [6] (fun v => ∃ k : Nat, k ≤ s.size ∧ v = .int .i64 k ∧ (s.data.toList.take k).any strayB = false) (fun v => s.size - (intOf v).toNat)
  case atStart => exact ⟨0, Nat.zero_le _, rfl, rfl⟩
  case round =>
    obtain ⟨k, hk, rfl, hall⟩ := hrel
    have HA := Lib.hid hall
    clear hall
    by_cases hlt : k < s.size
    · obtain ⟨b, hb⟩ : ∃ b, s[k]'hlt = b := ⟨_, rfl⟩
      have hlist : Hid (s.data.toList[k]? = some b) := by
        rw [← hb]
        exact byte_at s k hlt
      have hr := UInt8.toNat_lt b
      have cK := kind_any b.toNat ⟨by omega, by omega⟩ w
      have x0 : bits BinOp.and IntKind.u8 0 4 = 0 := by decide
      have x1 : bits BinOp.and IntKind.u8 1 4 = 0 := by decide
      have x2 : bits BinOp.and IntKind.u8 2 4 = 0 := by decide
      have x3 : bits BinOp.and IntKind.u8 10 4 = 0 := by decide
      have x4 : bits BinOp.and IntKind.u8 6 4 = 4 := by decide
      have x5 : bits BinOp.and IntKind.u8 5 4 = 4 := by decide
      rcases stray_and b with ⟨h1, h2⟩ | ⟨h1, h2⟩
      · have hV : Hid (V = true) := by
          show _ = _
          rw [← HV.out]
          exact List.any_eq_true.2 ⟨b, List.mem_of_getElem? hlist.out, h1⟩
        clear h1
        rcases h2 with h2 | h2
        all_goals
          rw [h2] at cK
          clear h2
          go_wp2_with (go_at_call 121; refine cK.mono ?_; rintro e w' ⟨rfl, rfl⟩)
          go_ret
          rw [hV.out]
          exact ⟨rfl, rfl⟩
      · have H1 := Lib.hid h1
        clear h1
        rcases h2 with h2 | h2 | h2 | h2
        all_goals
          rw [h2] at cK
          clear h2
          go_wp2_with (go_at_call 121; refine cK.mono ?_; rintro e w' ⟨rfl, rfl⟩)
          go_round
          case rel =>
            refine ⟨k + 1, by omega, by go_num, ?_⟩
            rw [List.take_add_one, hlist.out, List.any_append, HA.out]
            simpa using H1.out
          case measure => simp [intOf]; omega
    · obtain rfl : k = s.size := by omega
      have hsz := Lib.size_eq s
      have hfin : Hid (V = false) := by
        show _ = _
        rw [← HV.out]
        have h := HA.out
        rwa [List.take_of_length_le (by omega)] at h
      clear hsz
      go_wp2
      go_ret
      rw [hfin.out]
      exact ⟨rfl, rfl⟩
theorem stray_valid {s : ByteArray} (h : Lib.validD s.data.toList = true) : s.data.toList.any strayB = !(s.data.toList.all fun b => b != 0) := by
  have hp := valid_plain h
  generalize s.data.toList = l at hp ⊢
  clear h
  induction l with
  | nil => rfl
  | cons b l ih =>
    have hb := hp b (by simp)
    have : strayB b = !(b != 0) := by
      unfold strayB
      by_cases h0 : b = 0
      · subst h0; rfl
      · have : b.toNat ≠ 0 := fun e => h0 (UInt8.toNat_inj.1 (by simpa using e))
        have e1 : (b != 0) = true := by simpa using h0
        rw [e1]
        simp
        omega
    rw [List.any_cons, List.all_cons, ih (fun c hc => hp c (by simp [hc])), this]
    cases (b != 0) <;> cases (l.all fun b => b != 0) <;> rfl
/-- Check: 0 where it may be a text, 1 where not. -/
theorem check_any (s : ByteArray) (w : World) (hs : s.size ≤ 140737488351232) (hT : Tabs w) :
    Calls Tryz.prog 75 #[.string s] w fun e w' => e = .returned (.int .i64 (if mayB s then 0 else 1)) ∧ Kept (fun _ => False) w w' := by
  by_cases h1 : s.size ≤ 4000
  · have cV := valid_any s w (by omega) hT
    have HT := Lib.hid hT
    clear hT
    have b1 : decide (4000 < s.size) = false := by simp; omega
    have b2 : decide (4000 < (s.size : Int)) = false := by simp; omega
    cases hv : Lib.validD s.data.toList
    · have hm : mayB s = false := by unfold mayB; rw [hv]; simp
      rw [hm]
      rw [hv] at cV
      clear hv hm
      go_enter Tryz.func75, Tryz.ntmps75
      go_wp2_with (go_at_call 25; refine cV.mono ?_; rintro e w1 ⟨rfl, hk1⟩)
      go_ret
      exact ⟨rfl, hk1⟩
    · have hm : mayB s = !(s.data.toList.any strayB) := by
        rw [stray_valid hv]
        unfold mayB
        rw [hv]
        simp [h1]
      rw [hm]
      rw [hv] at cV
      clear hm hv
      have cS := fun w1 => stray_any s w1 h1
      generalize s.data.toList.any strayB = V at cS ⊢
      go_enter Tryz.func75, Tryz.ntmps75
      go_wp2_with (go_at_call 25; refine cV.mono ?_; rintro e w1 ⟨rfl, hk1⟩)
      refine (cS w1).mono ?_
      rintro e w2 ⟨rfl, rfl⟩
      cases V
      · go_wp2
        go_ret
        exact ⟨rfl, hk1⟩
      · go_wp2
        go_ret
        exact ⟨rfl, hk1⟩
  · have b1 : decide (4000 < s.size) = true := by simp; omega
    have b2 : decide (4000 < (s.size : Int)) = true := by simp; omega
    have hm : mayB s = false := by unfold mayB; simp [h1]
    rw [hm]
    clear hm hT
    go_enter Tryz.func75, Tryz.ntmps75
    go_wp2
    go_ret
    exact ⟨rfl, Kept.refl _ _⟩
/-- May of the reference. -/
theorem rmay_any (s : ByteArray) (w : World) (hs : s.size ≤ 140737488351232) (hT : Tabs w) :
    Calls Tryz.prog 9 #[.string s] w fun e w' => e = .returned (.bool (mayB s)) ∧ Kept (fun _ => False) w w' := by
  by_cases h1 : s.size ≤ 4000
  · have cV := valid_any s w (by omega) hT
    have HT := Lib.hid hT
    clear hT
    have b1 : decide (4000 < s.size) = false := by simp; omega
    have b2 : decide (4000 < (s.size : Int)) = false := by simp; omega
    cases hv : Lib.validD s.data.toList
    · have hm : mayB s = false := by unfold mayB; rw [hv]; simp
      rw [hm]
      rw [hv] at cV
      clear hv hm
      go_enter Tryz.func9, Tryz.ntmps9
      go_wp2_with (go_at_call 25; refine cV.mono ?_; rintro e w1 ⟨rfl, hk1⟩)
      go_ret
      exact ⟨rfl, hk1⟩
    · have hm : mayB s = s.data.toList.all fun b => b != 0 := by
        unfold mayB
        rw [hv]
        simp [h1]
      obtain ⟨V, hV⟩ : ∃ V, mayB s = V := ⟨_, rfl⟩
      rw [hV]
      rw [hV] at hm
      have HM := Lib.hid hm
      rw [hv] at cV
      clear hm hv hV
      go_enter Tryz.func9, Tryz.ntmps9
      go_wp2_with (go_at_call 25; refine cV.mono ?_; rintro e w1 ⟨rfl, hk1⟩)
      have HK := Lib.hid hk1
      clear hk1
      go_loop [3] (fun v => ∃ k : Nat, k ≤ s.size ∧ v = .int .i64 k ∧ (s.data.toList.take k).all (fun b => b != 0) = true) (fun v => s.size - (intOf v).toNat)
      case atStart => exact ⟨0, Nat.zero_le _, rfl, rfl⟩
      case round =>
        obtain ⟨k, hk, rfl, hall⟩ := hrel
        have HA := Lib.hid hall
        clear hall
        by_cases hlt : k < s.size
        · obtain ⟨b, hb⟩ : ∃ b, s[k]'hlt = b := ⟨_, rfl⟩
          have hlist : Hid (s.data.toList[k]? = some b) := by
            rw [← hb]
            exact byte_at s k hlt
          by_cases h0 : b = 0
          · have b3 : ((b.toNat : Int) == 0) = true := by rw [h0]; rfl
            have hV : Hid (V = false) := by
              show _ = _
              rw [HM.out, List.all_eq_false]
              exact ⟨b, List.mem_of_getElem? hlist.out, by rw [h0]; decide⟩
            clear h0
            go_wp2
            go_ret
            rw [hV.out]
            exact ⟨rfl, HK.out⟩
          · have b3 : ((b.toNat : Int) == 0) = false := by
              rw [beq_eq_false_iff_ne]
              intro h
              exact h0 (UInt8.toNat_inj.1 (by simp; omega))
            have H0 : Hid ((b != 0) = true) := by show _ = _; simpa using h0
            clear h0
            go_wp2
            go_round
            case rel =>
              refine ⟨k + 1, by omega, by go_num, ?_⟩
              rw [List.take_add_one, hlist.out, List.all_append, HA.out]
              simpa using H0.out
            case measure => simp [intOf]; omega
        · obtain rfl : k = s.size := by omega
          have hsz := Lib.size_eq s
          have hfin : Hid (V = true) := by
            show _ = _
            have h := HA.out
            rw [HM.out]
            rwa [List.take_of_length_le (by omega)] at h
          clear hsz
          go_wp2
          go_ret
          rw [hfin.out]
          exact ⟨rfl, HK.out⟩
  · have b1 : decide (4000 < s.size) = true := by simp; omega
    have b2 : decide (4000 < (s.size : Int)) = true := by simp; omega
    have hm : mayB s = false := by unfold mayB; simp [h1]
    rw [hm]
    clear hm hT
    go_enter Tryz.func9, Tryz.ntmps9
    go_wp2
    go_ret
    exact ⟨rfl, Kept.refl _ _⟩
end Go.Proofs.YtbofjefblhnkoaaGreatDoor
