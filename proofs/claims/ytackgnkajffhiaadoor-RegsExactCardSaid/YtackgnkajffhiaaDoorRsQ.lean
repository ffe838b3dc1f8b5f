/-
  REGISTERS: slices.Clone of them.
-/
import Derived.Test.YtackgnkajffhiaaDoorRsT
import Derived.Laws.AppendOwn
import Derived.Laws.AppendOwnNone
import Derived.Laws.OwnMore
set_option linter.unusedVariables false
namespace Go.Proofs.YtackgnkajffhiaaDoor
open Go Go.RowKit

set_option maxRecDepth 100000 in
theorem eql_nilR (w : World) (a : Addr) (n c : Nat) : (binOp .eql 22 (.slice (some a) n c) (.slice none 0 0)).run Tryd.prog w = .ok (.bool false) w := by
  have h : ∀ d : Nat, (Op.equalIn (d + 1) 22 (.slice (some a) n c) (.slice none 0 0)).run Tryd.prog w = .ok false w := fun d => by
    simp [Op.equalIn, run_underlying Tryd.underlying22]
  simp only [binOp]
  simp [Op.equal, Op.maxDepth, h 9999]
set_option maxRecDepth 100000 in
theorem eql_nilN (w : World) : (binOp .eql 22 (.slice none 0 0) (.slice none 0 0)).run Tryd.prog w = .ok (.bool true) w := by
  have h : ∀ d : Nat, (Op.equalIn (d + 1) 22 (.slice none 0 0) (.slice none 0 0)).run Tryd.prog w = .ok true w := fun d => by
    simp [Op.equalIn, run_underlying Tryd.underlying22]
  simp only [binOp]
  simp [Op.equal, Op.maxDepth, h 9999]
theorem add_offR (a : Addr) (k f : Nat) (hf : 0 < f) : (⟨(a.add k).block, (a.add k).off + f, none⟩ : Addr) = a.add (k + f) := by
  unfold Addr.add
  by_cases hk : k = 0
  · subst hk
    rw [if_pos rfl, if_neg (by omega), Nat.zero_add]
  · rw [if_neg hk, if_neg (by omega), Nat.add_assoc]
theorem rg_news {w : World} {ad : Addr} {n : Nat} {M : List RegS} (h : Rg w (some ad) n M) : ∀ j u, (flatR M)[j]? = some u → w.cell? (ad.add j) = some u := by
  intro j u hj
  have hlt : j < M.length * 3 := by
    by_cases hl : j < M.length * 3
    · exact hl
    · rw [List.getElem?_eq_none (by rw [flatR_len]; omega)] at hj; cases hj
  have hk : j / 3 < M.length := by omega
  have hr : M[j / 3]? = some M[j / 3] := List.getElem?_eq_getElem hk
  obtain ⟨ad', he, h3⟩ := h.at' _ _ hr
  injection he with he
  subst he
  generalize M[j / 3] = r at *
  rcases (by omega : j % 3 = 0 ∨ j % 3 = 1 ∨ j % 3 = 2) with hm | hm | hm
  · have e : j / 3 * 3 + 0 = j := by omega
    have h0 := flatR_get hr (f := 0) rfl
    rw [e] at h0
    rw [h0] at hj
    cases hj
    have := h3.c0
    rwa [show j / 3 * 3 = j by omega] at this
  · have e : j / 3 * 3 + 1 = j := by omega
    have h0 := flatR_get hr (f := 1) rfl
    rw [e] at h0
    rw [h0] at hj
    cases hj
    have := h3.c1
    rwa [add_offR _ _ _ (by omega), e] at this
  · have e : j / 3 * 3 + 2 = j := by omega
    have h0 := flatR_get hr (f := 2) rfl
    rw [e] at h0
    rw [h0] at hj
    cases hj
    have := h3.c2
    rwa [add_offR _ _ _ (by omega), e] at this
set_option maxRecDepth 100000 in
set_option maxHeartbeats 4000000 in
theorem clone_any (A : Option Addr) (n c : Nat) (M : List RegS) (w : World) (hA : Rg w A n M) (hC : A = none → n = 0 ∧ c = 0) (hn : n ≤ 100000) :
    Calls Tryd.prog 40 #[.slice A n c] w fun e w' => (∃ A' c', e = .returned (.slice A' n c') ∧ Rg w' A' n M ∧ (A' = none → n = 0 ∧ c' = 0)) ∧ Kept (fun _ => False) w w' := by
  match A, hA, hC with
  | none, hA, hC =>
    obtain ⟨rfl, rfl⟩ := hC rfl
    have HA := Lib.hid hA
    have q0 : ∀ u, (binOp .eql 22 (.slice none 0 0) (.slice none 0 0)).run Tryd.prog u = .ok (.bool true) u := fun u => eql_nilN u
    clear hA hC
    go_enter Tryd.func40, Tryd.ntmps40
    go_wp2
    go_ret
    exact ⟨⟨none, 0, rfl, HA.out, fun _ => by simp⟩, Kept.refl _ _⟩
  | some ad, hA, _ =>
    obtain ⟨i0, hi, hz0, hz1, hz2⟩ := info_parts info_reg
    have hown : (w.alloc (.cells #[] 41)).ownsRow w.heap.size 41 3 (.slice (some ⟨w.heap.size, 0, none⟩) 0 0) 0 ([] : List Value) :=
      World.ownsRow_lit (base := w.heap.size) (e := 41) (size := 3) w #[] 0 (Nat.le_refl _) (by decide) rfl
    have hk : Kept (fun _ => False) w (w.alloc (.cells #[] 41)) := (Kept.refl _ w).alloc _
    have hz : w.heap.size ≤ (w.alloc (.cells #[] 41)).heap.size := hk.size
    have hA' := hA.kept hk (fun _ _ => id)
    have hl := hA.len
    have HSZ := Lib.hid hA.sz
    have HK := Lib.hid hk
    have q0 : ∀ u, (binOp .eql 22 (.slice (some ad) n c) (.slice none 0 0)).run Tryd.prog u = .ok (.bool false) u := fun u => eql_nilR u _ _ _
    clear hA hk
    go_enter Tryd.func40, Tryd.ntmps40
    go_wp2_with (at_builtin; refine wpList_append_own _ rfl _ _ 22 rfl w.heap.size 41 i0 (.agg #[.int .i64 0, .string ⟨#[]⟩, .bool false]) 3 32 Tryd.underlying22 hi hz0 hz1 hz2 rfl (by decide) _ _ _ rfl hown ad n c (flatR M) rfl (by rw [flatR_len, hl]) (rg_news hA') flatR_one' (by unfold maxLen; omega) (by omega) hz ?_)
    intro v' w1 hown' hgrow hnil
    have hK1 := Lib.hid (Kept.grew HK.out hgrow (fun q hq => (hown.lt q hq).1))
    obtain ⟨_, A', c', rfl, hRg, hB, hCp⟩ := own_regs hown' HSZ.out
    have HR := Lib.hid hRg
    have HCp := Lib.hid hCp
    clear hown' hgrow hnil hown hA' hz hRg hCp hB
    go_wp2
    go_ret
    exact ⟨⟨A', c', rfl, HR.out, fun h => by have h0 := HCp.out.2 h; have h1 := HCp.out.1; exact ⟨by omega, h0⟩⟩, hK1.out⟩
end Go.Proofs.YtackgnkajffhiaaDoor
