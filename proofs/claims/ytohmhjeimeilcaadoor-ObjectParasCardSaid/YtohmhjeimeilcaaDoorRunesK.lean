/-
  THE PROGRAM's Runes: a text's runes, where it may be and the offset is one of its.
-/
import Derived.Test.YtohmhjeimeilcaaDoorTx2
set_option linter.unusedVariables false
namespace Go.Proofs.YtohmhjeimeilcaaDoor
open Go Go.RowKit

set_option maxRecDepth 100000 in
theorem runes_yes (s : ByteArray) (k : Nat) (w : World) (hT : Tabs w) (hm : mayB s = true) (hk : k ≤ (rs s).length) :
    Calls Tryd.prog 32 #[.string s, .int .i64 k] w fun e w' => Kept (fun _ => False) w w' ∧ ∃ b cap, e = .returned (.tuple #[.slice (some ⟨b, 0, none⟩) (rs s).length cap, .bool true]) ∧ w.heap.size ≤ b ∧ Rn w' (some ⟨b, 0, none⟩) (rs s).length (rs s) := by
  have hsz := mayB_size hm
  have cC := check_any s w (by omega) hT
  rw [hm] at cC
  have hl := rs_len s
  have cV := fun w1 => conv_rs s w1 (by omega)
  generalize rs s = t at *
  clear hT hm
  go_enter Tryd.func32, Tryd.ntmps32
  go_wp2_with (go_at_call 50; refine cC.mono ?_; rintro e w1 ⟨rfl, hk1⟩; obtain ⟨cap, w2, hcap, hcv, hk2, hlt, hR⟩ := cV w1; have HK1 := Lib.hid hk1; have HK2 := Lib.hid hk2; have HR := Lib.hid hR; clear cC cV hk1 hk2 hR)
  have hgs : w.heap.size ≤ w1.heap.size := HK1.out.size
  generalize w1.heap.size = g at *
  exact bodyPost_ret (v := .tuple #[.slice (some ⟨g, 0, none⟩) t.length cap, .bool true]) (by simp [results, Tryd.results32, go_sem]) rfl ⟨HK1.out.trans HK2.out, g, cap, rfl, hgs, HR.out⟩
set_option maxRecDepth 100000 in
theorem runes_no (s : ByteArray) (k : Int) (w : World) (hs : s.size ≤ 140737488351232) (hT : Tabs w) (hno : ¬ (mayB s = true ∧ 0 ≤ k ∧ k ≤ (rs s).length)) :
    Calls Tryd.prog 32 #[.string s, .int .i64 k] w fun e w' => Kept (fun _ => False) w w' ∧ e = .returned (.tuple #[.slice none 0 0, .bool false]) := by
  have cC := check_any s w (by omega) hT
  cases hm : mayB s with
  | false =>
    rw [hm] at cC
    clear hT hm hno
    go_enter Tryd.func32, Tryd.ntmps32
    go_wp2_with (go_at_call 50; refine cC.mono ?_; rintro e w1 ⟨rfl, hk1⟩)
    exact bodyPost_ret (v := .tuple #[.slice none 0 0, .bool false]) (by simp [results, Tryd.results32, go_sem]) rfl ⟨hk1, rfl⟩
  | true =>
    rw [hm] at cC
    have hsz := mayB_size hm
    have hl := rs_len s
    have cV := fun w1 => conv_rs s w1 (by omega)
    have hkk : k < 0 ∨ ((rs s).length : Int) < k := by
      by_cases h1 : 0 ≤ k
      · right
        by_cases h2 : k ≤ (rs s).length
        · exact absurd ⟨hm, h1, h2⟩ hno
        · omega
      · left; omega
    generalize rs s = t at *
    clear hT hm hno
    rcases hkk with h1 | h1
    · have b1 : decide (k < 0) = true := by simp; omega
      go_enter Tryd.func32, Tryd.ntmps32
      go_wp2_with (go_at_call 50; refine cC.mono ?_; rintro e w1 ⟨rfl, hk1⟩; obtain ⟨cap, w2, hcap, hcv, hk2, hlt, hR⟩ := cV w1; have HK1 := Lib.hid hk1; have HK2 := Lib.hid hk2; clear cC cV hk1 hk2 hR)
      exact bodyPost_ret (v := .tuple #[.slice none 0 0, .bool false]) (by simp [results, Tryd.results32, go_sem]) rfl ⟨HK1.out.trans HK2.out, rfl⟩
    · have b1 : decide (k < 0) = false := by simp; omega
      have b2 : decide ((t.length : Int) < k) = true := by simp; omega
      go_enter Tryd.func32, Tryd.ntmps32
      go_wp2_with (go_at_call 50; refine cC.mono ?_; rintro e w1 ⟨rfl, hk1⟩; obtain ⟨cap, w2, hcap, hcv, hk2, hlt, hR⟩ := cV w1; have HK1 := Lib.hid hk1; have HK2 := Lib.hid hk2; clear cC cV hk1 hk2 hR)
      exact bodyPost_ret (v := .tuple #[.slice none 0 0, .bool false]) (by simp [results, Tryd.results32, go_sem]) rfl ⟨HK1.out.trans HK2.out, rfl⟩
end Go.Proofs.YtohmhjeimeilcaaDoor
