/-
  THE LAWS' OWN SMALL CALLS.
-/
import Derived.Test.YthhlchgnjdfpeaaDoorNew
import Derived.Laws.IdiomStrings
set_option linter.unusedVariables false
namespace Go.Proofs.YthhlchgnjdfpeaaDoor
open Go Go.RowKit

theorem num_any (x : Int) (w : World) : Calls Tryd.prog 10 #[.int .i64 x] w fun e w' => e = .returned (.int .i64 x) ∧ w' = w := by
  go_enter Tryd.func10, Tryd.ntmps10
  go_wp2
  go_ret
  exact ⟨rfl, rfl⟩
theorem rlen_any (s : ByteArray) (w : World) (h : (Utf.runes s.data.toList).length ≤ 70368744177664) :
    Calls Tryd.prog 9 #[.string s] w fun e w' => e = .returned (.int .i64 ((Utf.runes s.data.toList).length : Nat)) ∧ Kept (fun _ => False) w w' := by
  obtain ⟨cap, w2, hcap, hcv, hk2, hlt2, hcb⟩ := conv_runes s w h
  have HK := Lib.hid hk2
  clear hk2 hcb hcap
  go_enter Tryd.func9, Tryd.ntmps9
  go_wp2
  go_ret
  exact ⟨rfl, HK.out⟩
/-- Bytes that may be a row. -/
def rowB (l : List UInt8) : Bool := l.all (fun b => b != 10 && b != 0) && Lib.validD l
theorem rowB_bad {l : List UInt8} (b : UInt8) (h : b ∈ l) (hb : (b != 10 && b != 0) = false) : rowB l = false := by
  unfold rowB
  have : l.all (fun b => b != 10 && b != 0) = false := by
    rw [List.all_eq_false]
    exact ⟨b, h, by rw [hb]; simp⟩
  rw [this]
  rfl
def RowRel (s : ByteArray) (v : Value) : Prop := ∃ k : Nat, k ≤ s.size ∧ v = .int .i64 k ∧ (s.data.toList.take k).all (fun b => b != 10 && b != 0) = true
theorem rrow_any (s : ByteArray) (w : World) (hs : s.size ≤ 140737488351232) (hT : Tabs w) :
    Calls Tryd.prog 26 #[.string s] w fun e w' => e = .returned (.bool (rowB s.data.toList)) ∧ Kept (fun _ => False) w w' := by
  have HT := Lib.hid hT
  clear hT
  go_enter Tryd.func26, Tryd.ntmps26
  go_wp2
  go_loop [3] (fun v => RowRel s v) (fun v => s.size - (intOf v).toNat)
  case atStart => exact ⟨0, Nat.zero_le _, rfl, rfl⟩
  case round =>
    obtain ⟨k, hk, rfl, hall⟩ := hrel
    have HA := Lib.hid hall
    clear hall
    by_cases hlt : k < s.size
    · obtain ⟨b, hb⟩ : ∃ b, s[k]'hlt = b := ⟨_, rfl⟩
      have hlist : Hid (s.data.toList[k]? = some b) := by
        rw [← hb]
        show s.data.toList[k]? = some (s.data[k]'hlt)
        rw [Array.getElem?_toList]
        exact Array.getElem?_eq_getElem hlt
      have hmem : Hid (b ∈ s.data.toList) := List.mem_of_getElem? hlist
      by_cases h1 : b = 10
      · have b1 : ((b.toNat : Int) == 10) = true := by rw [h1]; rfl
        have H1 := Lib.hid h1
        clear h1
        go_wp2
        go_ret
        refine ⟨?_, Kept.refl _ _⟩
        rw [rowB_bad b hmem.out (by rw [H1.out]; rfl)]
        rfl
      by_cases h2 : b = 0
      · have b1 : ((b.toNat : Int) == 10) = false := by rw [h2]; rfl
        have b2 : ((b.toNat : Int) == 0) = true := by rw [h2]; rfl
        have H2 := Lib.hid h2
        clear h1 h2
        go_wp2
        go_ret
        refine ⟨?_, Kept.refl _ _⟩
        rw [rowB_bad b hmem.out (by rw [H2.out]; rfl)]
        rfl
      have b1 : ((b.toNat : Int) == 10) = false := by
        rw [beq_eq_false_iff_ne]
        intro h
        exact h1 (UInt8.toNat_inj.1 (by simp; omega))
      have b2 : ((b.toNat : Int) == 0) = false := by
        rw [beq_eq_false_iff_ne]
        intro h
        exact h2 (UInt8.toNat_inj.1 (by simp; omega))
      have hgood : Hid ((b != 10 && b != 0) = true) := by
        show _ = true
        simp [h1, h2]
      clear h1 h2
      go_wp2
      go_round
      case rel =>
        refine ⟨k + 1, by omega, by go_num, ?_⟩
        rw [List.take_add_one, hlist.out, List.all_append, HA.out]
        simpa using hgood.out
      case measure => simp [intOf]; omega
    · obtain rfl : k = s.size := by omega
      have hsz := Lib.size_eq s
      have hfin : Hid (rowB s.data.toList = Lib.validD s.data.toList) := by
        show rowB _ = _
        have h := HA.out
        rw [List.take_of_length_le (by omega)] at h
        unfold rowB
        rw [h, Bool.true_and]
      have cV := valid_any s w (by omega) HT.out
      clear hsz
      go_wp2_with (go_at_call 24; refine cV.mono ?_; rintro e w1 ⟨rfl, hk1⟩)
      go_ret
      rw [hfin.out]
      exact ⟨rfl, hk1⟩
theorem row_any (s : ByteArray) (w : World) (hs : s.size ≤ 140737488351232) (hT : Tabs w) :
    Calls Tryd.prog 8 #[.string s] w fun e w' => e = .returned (.bool (rowB s.data.toList)) ∧ Kept (fun _ => False) w w' := by
  have cR := rrow_any s w hs hT
  generalize rowB s.data.toList = V at cR ⊢
  go_enter Tryd.func8, Tryd.ntmps8
  go_wp2_with (go_at_call 26; refine cR.mono ?_; rintro e w1 ⟨rfl, hk1⟩)
  go_ret
  exact ⟨rfl, hk1⟩
theorem rowB_may {l : List UInt8} (h : rowB l = true) : Lib.validD l = true ∧ ∀ r ∈ Utf.runes l, May r := by
  unfold rowB at h
  rw [Bool.and_eq_true] at h
  refine ⟨h.2, ?_⟩
  have hall : ∀ b ∈ l, b ≠ 10 ∧ b ≠ 0 := by
    intro b hb
    have := List.all_eq_true.1 h.1 b hb
    simpa using this
  intro r hr
  have hv := Utf.int_valid (Utf.valid_runes h.2 r hr)
  obtain ⟨pre, post, hpp⟩ := List.append_of_mem hr
  have hl : Utf.bytes (Utf.runes l) = l := Utf.bytes_runes h.2
  rw [hpp, Utf.bytes_append] at hl
  have henc : ∀ b ∈ Utf.enc r, b ∈ l := by
    intro b hb
    rw [← hl]
    simp [Utf.bytes, hb]
  by_cases h0 : r = 0
  · subst h0
    have := (hall 0 (henc 0 (by decide))).2
    exact absurd rfl this
  by_cases h10 : r = 10
  · subst h10
    have := (hall 10 (henc 10 (by decide))).1
    exact absurd rfl this
  unfold May
  omega
end Go.Proofs.YthhlchgnjdfpeaaDoor
