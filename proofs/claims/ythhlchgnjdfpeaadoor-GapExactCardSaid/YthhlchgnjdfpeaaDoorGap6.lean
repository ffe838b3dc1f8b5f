/-
  THE GAP BUFFER: which runes may stand in a row; runes are put there.
-/
import Derived.Test.YthhlchgnjdfpeaaDoorGap5
import Derived.LoopTactic
set_option linter.unusedVariables false
namespace Go.Proofs.YthhlchgnjdfpeaaDoor
open Go Go.RowKit

/-- A rune that a row may have. -/
def May (c : Int) : Prop := 1 ≤ c ∧ c ≤ 1114111 ∧ c ≠ 10 ∧ (c < 55296 ∨ 57343 < c)
theorem may_yes (c : Int) (h : May c) (w : World) : Calls Tryd.prog 25 #[.int .i64 c] w fun e w' => e = .returned (.bool true) ∧ w' = w := by
  obtain ⟨h1, h2, h3, h4⟩ := h
  have b3 : (c != 10) = true := by rw [bne_iff_ne]; exact h3
  by_cases h5 : c < 55296
  · have b5 : decide (c < 55296) = true := by simp; omega
    clear h4 h3
    go_enter Tryd.func25, Tryd.ntmps25
    go_wp2
    go_ret
    exact ⟨rfl, rfl⟩
  · have b5 : decide (c < 55296) = false := by simp; omega
    have b6 : decide (57343 < c) = true := by simp; omega
    clear h4 h3
    go_enter Tryd.func25, Tryd.ntmps25
    go_wp2
    go_ret
    exact ⟨rfl, rfl⟩
theorem may_no (c : Int) (h : ¬ May c) (w : World) : Calls Tryd.prog 25 #[.int .i64 c] w fun e w' => e = .returned (.bool false) ∧ w' = w := by
  by_cases h1 : c < 1
  · have b1 : decide (1 ≤ c) = false := by simp; omega
    clear h
    go_enter Tryd.func25, Tryd.ntmps25
    go_wp2
    go_ret
    exact ⟨rfl, rfl⟩
  by_cases h2 : 1114111 < c
  · have b2 : decide (c ≤ 1114111) = false := by simp; omega
    clear h
    go_enter Tryd.func25, Tryd.ntmps25
    go_wp2
    go_ret
    exact ⟨rfl, rfl⟩
  by_cases h3 : c = 10
  · subst h3
    clear h h1 h2
    go_enter Tryd.func25, Tryd.ntmps25
    go_wp2
    go_ret
    exact ⟨rfl, rfl⟩
  have b3 : (c != 10) = true := by rw [bne_iff_ne]; exact h3
  have h4 : 55296 ≤ c ∧ c ≤ 57343 := by unfold May at h; omega
  obtain ⟨h4, h5⟩ := h4
  have b5 : decide (c < 55296) = false := by simp; omega
  have b6 : decide (57343 < c) = false := by simp; omega
  clear h h3
  go_enter Tryd.func25, Tryd.ntmps25
  go_wp2
  go_ret
  exact ⟨rfl, rfl⟩

/-- A slice of numbers reads as a list, beside a gap buffer. -/
def Nums (w : World) (A : Option Addr) (m : Nat) (xs : List Int) : Prop :=
  xs.length = m ∧ ∀ j x, xs[j]? = some x → ∃ ad, A = some ad ∧ w.cell? (ad.add j) = some (.int .i64 x)
theorem Nums.cell {w : World} {A : Option Addr} {m : Nat} {xs : List Int} (h : Nums w A m xs) {j : Nat} (hj : j < m) : ∃ ad x, A = some ad ∧ xs[j]? = some x ∧ w.cell? (ad.add j) = some (.int .i64 x) := by
  have hl : j < xs.length := by rw [h.1]; exact hj
  obtain ⟨ad, e, hc⟩ := h.2 j xs[j] (List.getElem?_eq_getElem hl)
  exact ⟨ad, xs[j], e, List.getElem?_eq_getElem hl, hc⟩

section
variable {w : World} {rb room cb n c low high : Nat} {moves : Int} {zs t : List Int}
theorem insert_none (h : GS w rb room cb n c low high moves zs t) (i : Int) (A : Option Addr) (m cc : Nat) (hi : i < 0 ∨ (t.length : Int) < i) :
    Calls Tryd.prog 16 #[.pointer (some ⟨rb, 0, none⟩), .int .i64 i, .slice A m cc] w fun e w' => e = .returned (.int .i64 3) ∧ ∃ k, w' = w.drewN k := by
  have HG := Lib.hid h
  clear h
  by_cases h1 : i < 0
  · clear hi
    go_enter Tryd.func16, Tryd.ntmps16
    go_wp2_with fail
    go_ret
    exact ⟨rfl, 0, rfl⟩
  · have b1 : decide ((t.length : Int) < i) = true := by simp; omega
    have b2 : (t.length : Int) < i := by omega
    clear hi
    go_enter Tryd.func16, Tryd.ntmps16
    go_wp2_with (go_at_call 20; refine (G_len HG.out).mono ?_; rintro e w' ⟨rfl, k, rfl⟩)
    go_ret
    exact ⟨rfl, _, rfl⟩
theorem insert_form (h : GS w rb room cb n c low high moves zs t) (i : Nat) (A : Option Addr) (m cc : Nat) (xs : List Int) (hi : i ≤ t.length) (hx : Nums w A m xs) (hbad : ∃ x ∈ xs, ¬ May x) (hmm : m ≤ 1000000000000) :
    Calls Tryd.prog 16 #[.pointer (some ⟨rb, 0, none⟩), .int .i64 i, .slice A m cc] w fun e w' => e = .returned (.int .i64 1) ∧ ∃ k, w' = w.drewN k := by
  have HG := Lib.hid h
  have hlen := h.len
  have hnr := h.nr
  have hrr := h.rr
  have hlt : t.length ≤ 10000 := by omega
  have b0 : decide ((i : Int) < 0) = false := by simp
  have b1 : decide (t.length < i) = false := by simp; omega
  clear h hlen hnr hrr
  go_enter Tryd.func16, Tryd.ntmps16
  go_wp2_with (go_at_call 20; refine (G_len HG.out).mono ?_; rintro e w' ⟨rfl, k, rfl⟩)
  have HX : Hid (Nums (w.drewN k) A m xs) := hx
  have HB := Lib.hid hbad
  have hq : ∃ q, w.drewN k = w.drewN q := ⟨_, rfl⟩
  clear hx HG hbad
  generalize w.drewN k = w2 at HX hq ⊢
  have HQ := Lib.hid hq
  clear hq
  go_loop [21] (fun v => ∃ k : Nat, k ≤ m ∧ v = .int .i64 k ∧ (∀ j x, j < k → xs[j]? = some x → May x)) (fun v => m - (intOf v).toNat)
  case atStart => exact ⟨0, Nat.zero_le _, rfl, fun j x hj => by omega⟩
  case round =>
    obtain ⟨k, hk, rfl, hmay⟩ := hrel
    have HM := Lib.hid hmay
    clear hmay
    by_cases hkm : k < m
    · obtain ⟨ad, x, rfl, hxk, hc⟩ := HX.out.cell hkm
      have HXK := Lib.hid hxk
      clear hxk
      by_cases hgood : May x
      · go_wp2_with (go_at_call 25; refine (may_yes x hgood _).mono ?_; rintro e w' ⟨rfl, rfl⟩)
        go_round
        case rel => exact ⟨k + 1, by omega, by go_num, fun j y hj hy => by
          by_cases hjk : j < k
          · exact HM.out j y hjk hy
          · obtain rfl : j = k := by omega
            rw [HXK.out] at hy
            injection hy with hy
            exact hy ▸ hgood⟩
        case measure => simp [intOf]; omega
      · go_wp2_with (go_at_call 25; refine (may_no x hgood _).mono ?_; rintro e w' ⟨rfl, rfl⟩)
        go_ret
        exact ⟨rfl, HQ.out⟩
    · exfalso
      obtain ⟨x, hxm, hxb⟩ := HB.out
      obtain ⟨j, hj, rfl⟩ := List.getElem_of_mem hxm
      have := HX.out.1
      exact hxb (HM.out j _ (by omega) (List.getElem?_eq_getElem hj))
theorem insert_full (h : GS w rb room cb n c low high moves zs t) (i : Nat) (A : Option Addr) (m cc : Nat) (xs : List Int) (hi : i ≤ t.length) (hx : Nums w A m xs) (hgood : ∀ x ∈ xs, May x) (hmm : m ≤ 1000000000000) (hfull : room < t.length + m) :
    Calls Tryd.prog 16 #[.pointer (some ⟨rb, 0, none⟩), .int .i64 i, .slice A m cc] w fun e w' => e = .returned (.int .i64 4) ∧ ∃ k, w' = w.drewN k := by
  have HG := Lib.hid h
  have hlen := h.len
  have hnr := h.nr
  have hrr := h.rr
  have hlt : t.length ≤ 10000 := by omega
  have b0 : decide ((i : Int) < 0) = false := by simp
  have b1 : decide (t.length < i) = false := by simp; omega
  clear h hlen hnr
  go_enter Tryd.func16, Tryd.ntmps16
  go_wp2_with (go_at_call 20; refine (G_len HG.out).mono ?_; rintro e w' ⟨rfl, k, rfl⟩)
  have HX : Hid (Nums (w.drewN k) A m xs) := hx
  have HB := Lib.hid hgood
  have HG2 : Hid (GS (w.drewN k) rb room cb n c low high moves zs t) := HG.out.drewN k
  have hq : ∃ q, w.drewN k = w.drewN q := ⟨_, rfl⟩
  clear hx HG hgood
  generalize w.drewN k = w2 at HX HG2 hq ⊢
  have HQ := Lib.hid hq
  clear hq
  go_loop [21] (fun v => ∃ k : Nat, k ≤ m ∧ v = .int .i64 k) (fun v => m - (intOf v).toNat)
  case atStart => exact ⟨0, Nat.zero_le _, rfl⟩
  case round =>
    obtain ⟨k, hk, rfl⟩ := hrel
    by_cases hkm : k < m
    · obtain ⟨ad, x, rfl, hxk, hc⟩ := HX.out.cell hkm
      have hg := HB.out x (List.mem_of_getElem? hxk)
      clear hxk
      go_wp2_with (go_at_call 25; refine (may_yes x hg _).mono ?_; rintro e w' ⟨rfl, rfl⟩)
      go_round
      case rel => exact ⟨k + 1, by omega, by go_num⟩
      case measure => simp [intOf]; omega
    · go_wp2_with fail
      have c0 := HG2.out.r.c0
      have b2 : decide ((room : Int) - (t.length : Int) < (m : Int)) = true := by simp; omega
      go_quiet ((go_at_call 20; exact Calls.quiet_of (G_len (HG2.out.drewN _))))
      go_wp2_with fail
      go_ret
      obtain ⟨q, hq⟩ := HQ.out
      exact ⟨rfl, q + nq, by rw [hq, World.drewN_drewN]⟩
end
end Go.Proofs.YthhlchgnjdfpeaaDoor
