/-
  TREES: the eldest leaf.
-/
import Derived.Test.YthbfmdnibijapaaDoorUnK
import Derived.Test.YthbfmdnibijapaaDoorUnB
import Derived.Test.YthbfmdnibijapaaDoorUnH
set_option linter.unusedVariables false
namespace Go.Proofs.YthbfmdnibijapaaDoor
open Go Go.RowKit

theorem nchild_any (e : NodeS) (sb : Nat) (q : Int) (w : World) (hq : w.cell? ⟨sb, 0, none⟩ = some (.int .i64 q)) : Calls Tryd.prog 83 #[nodeV e, .pointer (some ⟨sb, 0, none⟩)] w fun e' w' => e' = .returned (.bool (e.pa == q)) ∧ Kept (fun _ => False) w w' := by
  have hK0 : Hid (Kept (fun _ => False) w (w.alloc (nodeO e))) := (Kept.refl _ w).alloc _
  have hq2 : (w.alloc (nodeO e)).cell? ⟨sb, 0, none⟩ = some (.int .i64 q) := cell_kept hK0.out hq id
  go_enter Tryd.func83, Tryd.ntmps83
  go_wp2_with fail
  go_ret
  exact ⟨rfl, hK0.out⟩
set_option maxRecDepth 100000 in
set_option maxHeartbeats 4000000 in
theorem nindex_any (A : Option Addr) (n c : Nat) (L : List NodeS) (sb : Nat) (q : Int) (w : World) (hA : Ng w A n L) (hn : n ≤ 100000) (hq : w.cell? ⟨sb, 0, none⟩ = some (.int .i64 q)) :
    Calls Tryd.prog 56 #[.slice A n c, .func (.func 83) #[] #[.pointer (some ⟨sb, 0, none⟩)]] w fun e w' => (∃ z : Int, e = .returned (.int .i64 z) ∧ decide (0 ≤ z) = L.any (fun e => e.pa == q)) ∧ Kept (fun _ => False) w w' := by
  have HA := Lib.hid hA
  have HQ := Lib.hid hq
  have HLN : Hid (L.length = n) := hA.len
  obtain ⟨C, hC⟩ : ∃ C, L.any (fun e => e.pa == q) = C := ⟨_, rfl⟩
  rw [hC]
  have HC := Lib.hid hC
  clear hA hq hC
  go_enter Tryd.func56, Tryd.ntmps56
  go_wp2_with fail
  go_loopw [8] (fun v wr => ∃ k : Nat, k ≤ n ∧ v = .int .i64 k ∧ (∀ (j : Nat) (b : NodeS), j < k → L[j]? = some b → b.pa ≠ q) ∧ Kept (fun _ => False) w wr) (fun v _ => n - (intOf v).toNat)
  case atStart => exact ⟨0, Nat.zero_le _, rfl, (fun j b hj => absurd hj (Nat.not_lt_zero _)), Kept.refl _ _⟩
  case round =>
    obtain ⟨k, hk, rfl, hat, hkept⟩ := hrel
    have HK := Lib.hid hkept
    have HAT := Lib.hid hat
    clear hkept hat
    by_cases hlt : k < n
    · obtain ⟨ad, b, rfl, hb, h4⟩ := (HA.out.kept HK.out (fun _ _ => id)).at_ hlt
      have cR := nchild_any b sb q wr (cell_kept HK.out HQ.out id)
      have HB := Lib.hid hb
      obtain ⟨c0, c1, c2, c3⟩ := h4
      obtain ⟨x0, x1, x2, x3⟩ := b
      simp only at c0 c1 c2 c3 cR
      have b1 : decide (k < n) = true := decide_eq_true hlt
      have b2 : decide ((k : Int) < (n : Int)) = true := decide_eq_true (by omega)
      have t1 : (0 : Int) ≤ (k : Int) := by omega
      have t2 : (k : Int) < (n : Int) := by omega
      clear hb
      by_cases hr : x1 = q
      · have hv : (x1 == q) = true := by simp [hr]
        rw [hv] at cR
        have HV : Hid (C = true) := by
          show _ = _
          rw [← HC.out, List.any_eq_true]
          exact ⟨_, List.mem_of_getElem? HB.out, hv⟩
        clear hr hv
        go_wp2_with (go_at_call 83; refine cR.mono ?_; rintro e w2 ⟨rfl, hk2⟩; have HK2 := Lib.hid (HK.out.trans hk2); clear hk2 cR)
        go_ret
        exact ⟨⟨(k : Int), rfl, by rw [HV.out]; simp⟩, HK2.out⟩
      · have hv : (x1 == q) = false := by rw [beq_eq_false_iff_ne]; exact hr
        rw [hv] at cR
        have HR : Hid (∀ (j : Nat) (b : NodeS), j < k + 1 → L[j]? = some b → b.pa ≠ q) := fun j b hj hb => by
          by_cases e : j = k
          · subst e
            rw [HB.out] at hb
            injection hb with hb
            subst hb
            exact hr
          · exact HAT.out j b (by omega) hb
        clear hr hv
        go_wp2_with (go_at_call 83; refine cR.mono ?_; rintro e w2 ⟨rfl, hk2⟩; have HK2 := Lib.hid (HK.out.trans hk2); clear hk2 cR)
        go_roundw
        case rel => exact ⟨k + 1, by omega, by go_num, HR.out, HK2.out⟩
        case measure => simp [intOf] <;> omega
    · obtain rfl : k = n := by omega
      have b1 : decide (k < k) = false := decide_eq_false (by omega)
      have b2 : decide ((k : Int) < (k : Int)) = false := decide_eq_false (by omega)
      have HV : Hid (C = false) := by
        show _ = _
        rw [← HC.out, List.any_eq_false]
        intro x hx h
        obtain ⟨j, hj, rfl⟩ := List.getElem_of_mem hx
        exact HAT.out j _ (by have := HLN.out; omega) (List.getElem?_eq_getElem hj) (by simpa using h)
      go_wp2_with fail
      go_ret
      exact ⟨⟨-1, rfl, by rw [HV.out]; rfl⟩, HK.out⟩
theorem ncontains_any (A : Option Addr) (n c : Nat) (L : List NodeS) (sb : Nat) (q : Int) (w : World) (hA : Ng w A n L) (hn : n ≤ 100000) (hq : w.cell? ⟨sb, 0, none⟩ = some (.int .i64 q)) :
    Calls Tryd.prog 84 #[.slice A n c, .func (.func 83) #[] #[.pointer (some ⟨sb, 0, none⟩)]] w fun e w' => e = .returned (.bool (L.any (fun e => e.pa == q))) ∧ Kept (fun _ => False) w w' := by
  have cI := nindex_any A n c L sb q w hA hn hq
  obtain ⟨C, hC⟩ : ∃ C, L.any (fun e => e.pa == q) = C := ⟨_, rfl⟩
  rw [hC] at cI ⊢
  clear hA hq hC
  go_enter Tryd.func84, Tryd.ntmps84
  go_wp2_with (go_at_call 56; refine cI.mono ?_; rintro e w2 ⟨⟨z, rfl, hz⟩, hk2⟩; clear cI)
  go_ret
  exact ⟨rfl, hk2⟩
/-- A leaf that is neither Cur nor the root. -/
def lfB (L : List NodeS) (cur : Int) (i : Nat) : Bool := match L[i]? with
  | none => false
  | some e => e.sq != cur && !(L.drop (i + 1)).any (fun x => x.pa == e.sq)
/-- The eldest leaf's place; 0: there is none. -/
def elf (L : List NodeS) (cur : Int) : Nat := ((List.range L.length).find? (fun i => decide (1 ≤ i) && lfB L cur i)).getD 0
theorem elf_hit {L : List NodeS} {cur : Int} {i : Nat} (h1 : 1 ≤ i) (h2 : i < L.length) (h3 : lfB L cur i = true) (h4 : ∀ k, 1 ≤ k → k < i → lfB L cur k = false) : elf L cur = i := by
  unfold elf
  have e : (List.range L.length).find? (fun i => decide (1 ≤ i) && lfB L cur i) = some i := by
    rw [List.find?_range_eq_some]
    refine ⟨by simp [h1, h3], by simpa using h2, fun j hj => ?_⟩
    by_cases h : 1 ≤ j
    · simp [h4 j h hj]
    · simp [h]
  rw [e]
  rfl
theorem elf_miss {L : List NodeS} {cur : Int} (h4 : ∀ k, 1 ≤ k → k < L.length → lfB L cur k = false) : elf L cur = 0 := by
  unfold elf
  have e : (List.range L.length).find? (fun i => decide (1 ≤ i) && lfB L cur i) = none := by
    rw [List.find?_range_eq_none]
    intro j hj
    by_cases h : 1 ≤ j
    · simp [h4 j h hj]
    · simp [h]
  rw [e]
  rfl
theorem Ng.drop {w : World} {ad : Addr} {n c : Nat} {L : List NodeS} (h : Ng w (some ad) n L) (hc : n ≤ c) (m : Nat) : Ng w (if c = m then some ad else (some ad).map (·.add (m * 4))) (n - m) (L.drop m) := by
  refine ⟨by rw [List.length_drop, h.len], fun k e he => ?_⟩
  rw [List.getElem?_drop] at he
  obtain ⟨hk, h4⟩ := h.nd he
  rw [if_neg (by omega)]
  refine ⟨_, rfl, ?_⟩
  have e : (ad.add (m * 4)).add (k * 4) = ad.add ((m + k) * 4) := by
    unfold Addr.add
    by_cases h1 : m * 4 = 0
    · rw [if_pos h1, show m = 0 by omega, Nat.zero_add]
    · rw [if_neg h1, if_neg (show ¬ (m + k) * 4 = 0 by omega)]
      by_cases h2 : k * 4 = 0
      · rw [if_pos h2, show (m + k) * 4 = m * 4 by omega]
      · rw [if_neg h2]
        simp only
        congr 1
        omega
  rw [e]
  exact h4
set_option maxRecDepth 100000 in
set_option maxHeartbeats 4000000 in
theorem eldest_any (ad : Addr) (n c : Nat) (L : List NodeS) (cur : Int) (w : World) (hA : Ng w (some ad) n L) (hnc : n ≤ c) (hn : n ≤ 100000) (hn1 : 1 ≤ n) (hT : Tabs w) :
    Calls Tryd.prog 69 #[treeV (.slice (some ad) n c) cur] w fun r w' => r = .returned (.int .i64 (elf L cur : Nat)) ∧ Kept (fun _ => False) w w' := by
  have hl := hA.len
  have HK0 : Hid (Kept (fun _ => False) w (w.alloc (treeO (.slice (some ad) n c) cur))) := (Kept.refl _ w).alloc _
  have HI0 := Lib.hid (trh_new (c := c) (cur := cur) hT hA)
  obtain ⟨tb, htb⟩ : ∃ tb, w.heap.size = tb := ⟨_, rfl⟩
  have HTB := Lib.hid htb
  rw [htb] at HI0
  have HHL := Lib.hid hl
  obtain ⟨R, hR⟩ : ∃ R, elf L cur = R := ⟨_, rfl⟩
  rw [hR]
  have HR := Lib.hid hR
  clear htb hA hT hl hR
  go_enter Tryd.func69, Tryd.ntmps69
  go_upto_region 1 with fail
  simp only [HTB.out]
  simp only [treeO] at HI0 HK0
  generalize w.alloc _ = w0 at *
  go_wp2_with fail
  go_loopw [3] (fun v wr => ∃ i : Nat, 1 ≤ i ∧ i ≤ n ∧ v = .int .i64 i ∧ (∀ k, 1 ≤ k → k < i → lfB L cur k = false) ∧ Kept (fun _ => False) w0 wr) (fun v _ => n - (intOf v).toNat)
  case atStart => exact ⟨1, Nat.le_refl _, hn1, rfl, (fun k h1 h2 => by omega), Kept.refl _ _⟩
  case round =>
    obtain ⟨i, hi1, hin, rfl, hat, hkr⟩ := hrel
    have HAT := Lib.hid hat
    have HIr := Lib.hid (HI0.out.kept hkr)
    have HKr := Lib.hid hkr
    clear hat hkr
    obtain ⟨t0, t1⟩ := HIr.out.cells
    by_cases hlt : i < n
    · obtain ⟨e, he⟩ : ∃ e, L[i]? = some e := ⟨_, List.getElem?_eq_getElem (by rw [HHL.out]; exact hlt)⟩
      have f0 := (HIr.out.ng.nd he).2.c0
      have b1 : decide (i < n) = true := decide_eq_true hlt
      have b2 : decide ((i : Int) < (n : Int)) = true := decide_eq_true (by omega)
      have b3 : (0 : Int) ≤ (i : Int) := by omega
      have b4 : (i : Int) < (n : Int) := by omega
      have HE := Lib.hid he
      obtain ⟨sq, pa, at_, tx⟩ := e
      simp only at f0
      have HS : Hid ((wr.alloc (.cells #[.int .i64 sq] 3)).cell? ⟨wr.heap.size, 0, none⟩ = some (.int .i64 sq)) := by show _ = _; rw [cell_of_row _ _ _ _ _ _ (heap_alloc_new wr _)]; rfl
      have HI1 := Lib.hid (HIr.out.kept ((Kept.refl (fun _ => False) wr).alloc (.cells #[.int .i64 sq] 3)))
      have HK1 := Lib.hid (HKr.out.trans ((Kept.refl (fun _ => False) wr).alloc (.cells #[.int .i64 sq] 3)))
      clear he
      go_upto_region 5 with fail
      clear f0 b1 b2 t0 t1
      generalize wr.alloc (.cells #[.int .i64 sq] 3) = w1 at *
      generalize wr.heap.size = sb at *
      obtain ⟨t0, t1⟩ := HI1.out.cells
      have s0 := HS.out
      by_cases hsc : sq = cur
      · have hne : (sq != cur) = false := by simp [hsc]
        have HF : Hid (∀ k, 1 ≤ k → k < i + 1 → lfB L cur k = false) := fun k h1 h2 => by
          by_cases hk : k = i
          · subst hk
            unfold lfB
            rw [HE.out]
            simp [hsc]
          · exact HAT.out k h1 (by omega)
        clear hsc
        go_wp2_with fail
        go_roundw
        case rel => exact ⟨i + 1, by omega, by omega, by go_num, HF.out, HK1.out⟩
        case measure => simp [intOf]; omega
      · have hne : (sq != cur) = true := by simp [hsc]
        have wi : IntKind.i64.wrap ((i : Int) + 1) = (i : Int) + 1 := IntWalk.i64_in _ ⟨by omega, by omega⟩
        have hcut := fun u => run_ncut_l u (some ad) n c (i + 1) ((i : Int) + 1) (by omega) (by omega) hnc
        have hD := HI1.out.ng.drop hnc (i + 1)
        have cC := ncontains_any _ (n - (i + 1)) (c - (i + 1)) _ sb sq w1 hD (by omega) s0
        obtain ⟨C, hC⟩ : ∃ C, (L.drop (i + 1)).any (fun x => x.pa == sq) = C := ⟨_, rfl⟩
        rw [hC] at cC
        have HLF : Hid (lfB L cur i = !C) := by
          show _ = _
          unfold lfB
          rw [HE.out]
          simp only
          rw [hC, hne, Bool.true_and]
        generalize (if c = i + 1 then some ad else (some ad).map (·.add ((i + 1) * 4))) = AD at *
        clear hC hsc hD
        cases C with
        | true =>
          have HF : Hid (∀ k, 1 ≤ k → k < i + 1 → lfB L cur k = false) := fun k h1 h2 => by
            by_cases hk : k = i
            · subst hk
              rw [HLF.out]
              rfl
            · exact HAT.out k h1 (by omega)
          go_wp2_with (go_at_call 84; refine cC.mono ?_; rintro e w2 ⟨rfl, hk2⟩; have HK2 := Lib.hid (HK1.out.trans hk2); clear hk2 cC)
          go_roundw
          case rel => exact ⟨i + 1, by omega, by omega, by go_num, HF.out, HK2.out⟩
          case measure => simp [intOf]; omega
        | false =>
          have HF : Hid (R = i) := by
            show _ = _
            rw [← HR.out]
            exact elf_hit hi1 (by rw [HHL.out]; exact hlt) HLF.out HAT.out
          go_wp2_with (go_at_call 84; refine cC.mono ?_; rintro e w2 ⟨rfl, hk2⟩; have HK2 := Lib.hid (HK1.out.trans hk2); clear hk2 cC)
          go_ret
          exact ⟨by rw [HF.out]; rfl, HK0.out.trans HK2.out⟩
    · obtain rfl : i = n := by omega
      have b1 : decide ((i : Int) < (i : Int)) = false := by simp
      have b2 : decide (i < i) = false := by simp
      have HF : Hid (R = 0) := by
        show _ = _
        rw [← HR.out]
        exact elf_miss (fun k h1 h2 => HAT.out k h1 (by rw [HHL.out] at h2; exact h2))
      go_wp2_with fail
      go_ret
      exact ⟨by rw [HF.out]; rfl, HK0.out.trans HKr.out⟩
end Go.Proofs.YthbfmdnibijapaaDoor
