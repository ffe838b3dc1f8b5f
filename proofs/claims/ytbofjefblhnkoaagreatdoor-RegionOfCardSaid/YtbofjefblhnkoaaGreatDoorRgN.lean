/-
  HOW MANY RUNES A TEXT HAS, of the library.
-/
import Derived.Test.YtbofjefblhnkoaaGreatDoorZMa
import Derived.Test.YtbofjefblhnkoaaGreatDoorShelf2
import Derived.Shelf.Utf8.RuneCount
set_option linter.unusedVariables false
namespace Go.Proofs.YtbofjefblhnkoaaGreatDoor
open Go Go.RowKit

theorem count_from (s : ByteArray) : ∀ (b pos : Nat), s.size ≤ pos + b → Lib.runeCountFrom s b pos = (Utf.runes (s.data.toList.drop pos)).length
  | 0, pos, h => by rw [rune_end s pos (by omega)]; rfl
  | b + 1, pos, h => by
    by_cases hp : pos < s.size
    · have hw := Lib.decode_width_pos s pos hp
      have ih := count_from s b (pos + (Utf8.decode s pos).2) (by omega)
      have e : Lib.runeCountFrom s (b + 1) pos = 1 + Lib.runeCountFrom s b (pos + (Utf8.decode s pos).2) := by
        rw [Lib.runeCountFrom, if_pos hp]
      rw [rune_at s pos hp, List.length_cons, ← ih, e]
      omega
    · rw [rune_end s pos hp, Lib.runeCountFrom_end s _ pos hp]; rfl
theorem rcount_any (s : ByteArray) (w : World) (hs : s.size ≤ 1000000) : Calls Tryz.prog 85 #[.string s] w fun e w' => e = .returned (.int .i64 (rs s).length) ∧ Kept (fun _ => False) w w' := by
  have h := Any.utf8_RuneCountInString Tryz.lays195 s w (by omega)
  have e : Lib.runeCount s = (rs s).length := by
    have := count_from s s.size 0 (by omega)
    exact this
  rw [e] at h
  exact h.mono fun e w' ⟨he, pos, hw⟩ => ⟨he, by rw [hw]; exact (Kept.refl _ w).alloc _⟩
end Go.Proofs.YtbofjefblhnkoaaGreatDoor
