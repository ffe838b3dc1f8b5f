/-
  IDs: the set of them, as bits.
-/
import Derived.Test.YthkohjijppbliaaDoorLMc
import Derived.Laws.Bits64
import Derived.Laws.BitsAllLaws
set_option linter.unusedVariables false
namespace Go.Proofs.YthkohjijppbliaaDoor
open Go Go.RowKit

abbrev idV (t s : Int) : Value := .agg #[.int .i64 t, .int .i64 s]
theorem at_any (q : Value) (t s : Int) (K : Nat) (hK : t * 5 + s = (K : Int)) (ht : 0 ≤ t ∧ t ≤ 10000) (hs : 0 ≤ s ∧ s ≤ 4) (w : World) :
    Calls Tryd.prog 83 #[q, idV t s] w fun e w' => e = .returned (.tuple #[.int .i64 ((K / 64 : Nat) : Int), .int .u64 ((2 ^ (K % 64) : Nat) : Int)]) ∧ Kept (fun _ => False) w w' := by
  have hk0 : Kept (fun _ => False) w (w.alloc (.cells #[.int .i64 t, .int .i64 s] 39)) := (Kept.refl _ w).alloc _
  have hB : (w.alloc (.cells #[.int .i64 t, .int .i64 s] 39)).heap[w.heap.size]? = some (.cells #[.int .i64 t, .int .i64 s] 39 (0, 0)) := heap_alloc_new w _
  obtain ⟨pb, hpb⟩ : ∃ pb, w.heap.size = pb := ⟨_, rfl⟩
  have HPB := Lib.hid hpb
  rw [hpb] at hB
  have HK0 := Lib.hid hk0
  have b0 : (w.alloc (.cells #[.int .i64 t, .int .i64 s] 39)).cell? ⟨pb, 0, none⟩ = some (.int .i64 t) := cell_of_row _ _ _ _ _ _ hB
  have b1 : (w.alloc (.cells #[.int .i64 t, .int .i64 s] 39)).cell? ⟨pb, 1, none⟩ = some (.int .i64 s) := cell_of_row _ _ _ _ _ _ hB
  have hk5 : K ≤ 50004 := by omega
  have w1_ : IntKind.i64.wrap (t * 5) = t * 5 := IntWalk.i64_in _ ⟨by omega, by omega⟩
  have w2_ : IntKind.i64.wrap (t * 5 + s) = (K : Int) := by rw [hK]; exact IntWalk.i64_in _ ⟨by omega, by omega⟩
  clear hk0 hB hpb
  go_enter Tryd.func83, Tryd.ntmps83
  go_upto_region 1 with fail
  simp only [HPB.out]
  generalize w.alloc _ = w1 at *
  go_upto_region 2 with fail
  clear b0 b1
  go_quiet (fail)
  go_wp2_with fail
  go_ret2
  refine ⟨?_, HK0.out.drewN _⟩
  have hp : (2 : Nat) ^ (K % 64) < 18446744073709551616 := by
    have h1 : K % 64 < 64 := Nat.mod_lt _ (by decide)
    have h2 : (2 : Nat) ^ (K % 64) < 2 ^ 64 := Nat.pow_lt_pow_right (by decide) h1
    exact h2
  have he : IntKind.u64.wrap ((2 : Int) ^ (K % 64)) = ((2 ^ (K % 64) : Nat) : Int) := by
    have h3 : ((2 : Int) ^ (K % 64)) = ((2 ^ (K % 64) : Nat) : Int) := by simp
    rw [h3]
    generalize (2 : Nat) ^ (K % 64) = P at hp
    exact IntWalk.u64_in _ ⟨by omega, by omega⟩
  show Ending.returned (.tuple #[.int .i64 ((K : Int) / 64), .int .u64 (IntKind.u64.wrap ((2 : Int) ^ (K % 64)))]) = _
  rw [he, show ((K : Int) / 64) = ((K / 64 : Nat) : Int) by omega]
/-- The set, as bits: who is in it. -/
structure Ib (w : World) (g : Nat) (S : Nat → Bool) : Prop where
  h : ∃ cs : Array Value, w.heap[g]? = some (.cells cs 107 (0, 0)) ∧ ∀ i, i < 782 → ∃ n : Nat, n < 18446744073709551616 ∧ cs[i]? = some (.int .u64 (n : Int)) ∧ ∀ b, b < 64 → n.testBit b = S (64 * i + b)
theorem Ib.cell {w : World} {g : Nat} {S : Nat → Bool} (h : Ib w g S) {i : Nat} (hi : i < 782) : ∃ n : Nat, n < 18446744073709551616 ∧ w.cell? ⟨g, i, none⟩ = some (.int .u64 (n : Int)) ∧ ∀ b, b < 64 → n.testBit b = S (64 * i + b) := by
  obtain ⟨cs, h1, h2⟩ := h.h
  obtain ⟨n, h3, h4, h5⟩ := h2 i hi
  exact ⟨n, h3, by rw [cell_of_row _ _ _ _ _ _ h1]; exact h4, h5⟩
theorem Ib.free {w : World} {g : Nat} {S : Nat → Bool} (h : Ib w g S) (i : Nat) : w.frozen? ⟨g, i, none⟩ = false := by
  obtain ⟨cs, h1, _⟩ := h.h
  exact frozen_of h1
theorem Ib.lt {w : World} {g : Nat} {S : Nat → Bool} (h : Ib w g S) : g < w.heap.size := by
  obtain ⟨cs, h1, _⟩ := h.h
  exact heap_lt h1
theorem Ib.kept {T : Nat → Prop} {w w' : World} {g : Nat} {S : Nat → Bool} (h : Ib w g S) (hk : Kept T w w') (hs : ¬ T g) : Ib w' g S := by
  obtain ⟨cs, h1, h2⟩ := h.h
  exact ⟨cs, (hk.block g (heap_lt h1) hs).trans h1, h2⟩
theorem Ib.drew {w : World} {g : Nat} {S : Nat → Bool} (h : Ib w g S) : Ib w.drew g S := ⟨h.h⟩
theorem bit_or (n k b : Nat) : (n ||| 2 ^ k).testBit b = (n.testBit b || decide (k = b)) := by
  rw [Nat.testBit_or, Nat.testBit_two_pow]
theorem Ib.set {w : World} {g : Nat} {S : Nat → Bool} (h : Ib w g S) {K n : Nat} (hK : K ≤ 50004) (hn : n < 18446744073709551616) (hc : w.cell? ⟨g, K / 64, none⟩ = some (.int .u64 (n : Int))) (m : Nat) (hm : m = n ||| 2 ^ (K % 64)) : Ib (w.setCell ⟨g, K / 64, none⟩ (.int .u64 (m : Int))) g (fun x => decide (x = K) || S x) := by
  obtain ⟨cs, h1, h2⟩ := h.h
  have hlt : K % 64 < 64 := Nat.mod_lt _ (by decide)
  have hi : K / 64 < 782 := by omega
  have hm64 : m < 18446744073709551616 := by
    rw [hm]
    have h2 : (2 : Nat) ^ (K % 64) < 2 ^ 64 := Nat.pow_lt_pow_right (by decide) hlt
    exact Nat.or_lt_two_pow (n := 64) hn h2
  rw [cell_of_row _ _ _ _ _ _ h1] at hc
  have hsz : K / 64 < cs.size := by
    by_cases hl : K / 64 < cs.size
    · exact hl
    · rw [Array.getElem?_eq_none (by omega)] at hc; cases hc
  refine ⟨cs.setIfInBounds (K / 64) (.int .u64 (m : Int)), heap_set h1 _, fun i hi2 => ?_⟩
  obtain ⟨q, h3, h4, h5⟩ := h2 i hi2
  by_cases e : i = K / 64
  · subst e
    rw [hc] at h4
    injection h4 with h4
    injection h4 with _ h4
    have h4 : n = q := by omega
    subst h4
    refine ⟨m, hm64, by rw [Array.getElem?_setIfInBounds_self_of_lt hsz], fun b hb => ?_⟩
    rw [hm, bit_or, h5 b hb]
    have : decide (64 * (K / 64) + b = K) = decide (K % 64 = b) := by
      rw [decide_eq_decide]
      omega
    rw [this, Bool.or_comm]
  · refine ⟨q, h3, by rw [Array.getElem?_setIfInBounds_ne (by omega)]; exact h4, fun b hb => ?_⟩
    rw [h5 b hb]
    have : decide (64 * i + b = K) = false := decide_eq_false (by omega)
    rw [this, Bool.false_or]
theorem and_bit {n k : Nat} : ((n &&& 2 ^ k : Nat) != 0) = n.testBit k := by
  cases h : n.testBit k with
  | false =>
    have : n &&& 2 ^ k = 0 := by
      apply Nat.eq_of_testBit_eq
      intro i
      rw [Nat.testBit_and, Nat.testBit_two_pow, Nat.zero_testBit]
      by_cases e : k = i
      · subst e; rw [h]; rfl
      · simp [e]
    rw [this]
    rfl
  | true =>
    have h2 : (n &&& 2 ^ k).testBit k = true := by rw [Nat.testBit_and, Nat.testBit_two_pow, h]; simp
    have : n &&& 2 ^ k ≠ 0 := by
      intro e
      rw [e, Nat.zero_testBit] at h2
      cases h2
    simp [this]
theorem has_any (g : Nat) (t s : Int) (K : Nat) (S : Nat → Bool) (hK : t * 5 + s = (K : Int)) (ht : 0 ≤ t ∧ t ≤ 10000) (hs : 0 ≤ s ∧ s ≤ 4) (w : World) (hI : Ib w g S) :
    Calls Tryd.prog 58 #[.pointer (some ⟨g, 0, none⟩), idV t s] w fun e w' => e = .returned (.bool (S K)) ∧ Kept (fun _ => False) w w' := by
  have hk0 : Kept (fun _ => False) w (w.alloc (.cells #[.int .i64 t, .int .i64 s] 39)) := (Kept.refl _ w).alloc _
  have hB : (w.alloc (.cells #[.int .i64 t, .int .i64 s] 39)).heap[w.heap.size]? = some (.cells #[.int .i64 t, .int .i64 s] 39 (0, 0)) := heap_alloc_new w _
  obtain ⟨pb, hpb⟩ : ∃ pb, w.heap.size = pb := ⟨_, rfl⟩
  have HPB := Lib.hid hpb
  rw [hpb] at hB
  have HK0 := Lib.hid hk0
  have b0 : (w.alloc (.cells #[.int .i64 t, .int .i64 s] 39)).cell? ⟨pb, 0, none⟩ = some (.int .i64 t) := cell_of_row _ _ _ _ _ _ hB
  have b1 : (w.alloc (.cells #[.int .i64 t, .int .i64 s] 39)).cell? ⟨pb, 1, none⟩ = some (.int .i64 s) := cell_of_row _ _ _ _ _ _ hB
  have HI := Lib.hid (hI.kept hk0 id)
  have cA := fun W => at_any (.pointer (some ⟨g, 0, none⟩)) t s K hK ht hs W
  have hk5 : K ≤ 50004 := by omega
  obtain ⟨i, hi⟩ : ∃ i, K / 64 = i := ⟨_, rfl⟩
  obtain ⟨P, hP⟩ : ∃ P, 2 ^ (K % 64) = P := ⟨_, rfl⟩
  rw [hi, hP] at cA
  have hi7 : i < 782 := by omega
  have hPl : P < 18446744073709551616 := by
    rw [← hP]
    have h2 : (2 : Nat) ^ (K % 64) < 2 ^ 64 := Nat.pow_lt_pow_right (by decide) (Nat.mod_lt _ (by decide))
    exact h2
  obtain ⟨B, hB2⟩ : ∃ B, S K = B := ⟨_, rfl⟩
  have HM : Hid (∀ n : Nat, n.testBit (K % 64) = S (64 * i + K % 64) → ((n &&& P : Nat) != 0) = B) := by
    show ∀ n : Nat, _
    intro n hn
    rw [← hP, and_bit, hn, ← hi, ← hB2, show 64 * (K / 64) + K % 64 = K by omega]
  have HKL : Hid (K % 64 < 64) := Nat.mod_lt _ (by decide)
  rw [hB2]
  clear hk0 hB hpb hI hi hP hB2 hK hk5
  go_enter Tryd.func58, Tryd.ntmps58
  go_upto_region 1 with fail
  simp only [HPB.out]
  generalize w.alloc _ = w1 at *
  go_upto_region 2 with (go_at_call 83; refine (cA _).mono ?_; rintro e w2 ⟨rfl, hk2⟩; have HK2 := Lib.hid (HK0.out.trans hk2); have HI2 := Lib.hid (HI.out.kept hk2 id); clear hk2 cA b0 b1)
  obtain ⟨n, hn, c0, hbit⟩ := HI2.out.cell hi7
  have t1 : (0 : Int) ≤ (i : Int) := by omega
  have t2 : (i : Int) < 782 := by omega
  have hand := u64_and_nat n P hn hPl
  obtain ⟨m, hm⟩ : ∃ m, n &&& P = m := ⟨_, rfl⟩
  rw [hm] at hand
  have hmb := HM.out n (hbit _ HKL.out)
  rw [hm] at hmb
  have hmb2 : ((m : Int) != 0) = B := by
    rw [← hmb]
    simp [bne]
    by_cases e : m = 0
    · subst e; rfl
    · have : ((m : Int) == 0) = false := by rw [beq_eq_false_iff_ne]; omega
      rw [this]
      have : (m == 0) = false := by rw [beq_eq_false_iff_ne]; exact e
      rw [this]
  clear hbit hm hmb
  go_wp2_with fail
  go_ret
  exact ⟨rfl, HK2.out⟩
theorem add_old (g : Nat) (t s : Int) (K : Nat) (S : Nat → Bool) (hK : t * 5 + s = (K : Int)) (ht : 0 ≤ t ∧ t ≤ 10000) (hs : 0 ≤ s ∧ s ≤ 4) (w : World) (hI : Ib w g S) (hS : S K = true) :
    Calls Tryd.prog 57 #[.pointer (some ⟨g, 0, none⟩), idV t s] w fun e w' => e = .returned (.bool false) ∧ Kept (fun _ => False) w w' := by
  have hk0 : Kept (fun _ => False) w (w.alloc (.cells #[.int .i64 t, .int .i64 s] 39)) := (Kept.refl _ w).alloc _
  have HB : Hid ((w.alloc (.cells #[.int .i64 t, .int .i64 s] 39)).heap[w.heap.size]? = some (.cells #[.int .i64 t, .int .i64 s] 39 (0, 0))) := heap_alloc_new w _
  obtain ⟨pb, hpb⟩ : ∃ pb, w.heap.size = pb := ⟨_, rfl⟩
  have HPB := Lib.hid hpb
  rw [hpb] at HB
  have HK0 := Lib.hid hk0
  have HI := Lib.hid (hI.kept hk0 id)
  have cH := fun W (h : Ib W g S) => has_any g t s K S hK ht hs W h
  rw [hS] at cH
  clear hk0 hpb hI hS hK
  go_enter Tryd.func57, Tryd.ntmps57
  go_upto_region 1 with fail
  simp only [HPB.out]
  generalize w.alloc _ = w1 at *
  have b0 : w1.cell? ⟨pb, 0, none⟩ = some (.int .i64 t) := cell_of_row _ _ _ _ _ _ HB.out
  have b1 : w1.cell? ⟨pb, 1, none⟩ = some (.int .i64 s) := cell_of_row _ _ _ _ _ _ HB.out
  go_wp2_with (go_at_call 58; refine (cH _ HI.out).mono ?_; rintro e w2 ⟨rfl, hk2⟩; have HK2 := Lib.hid (HK0.out.trans hk2); clear hk2 cH b0 b1)
  go_ret
  exact ⟨rfl, HK2.out⟩
set_option maxRecDepth 100000 in
set_option maxHeartbeats 4000000 in
theorem add_new (g : Nat) (t s : Int) (K : Nat) (S : Nat → Bool) (hK : t * 5 + s = (K : Int)) (ht : 0 ≤ t ∧ t ≤ 10000) (hs : 0 ≤ s ∧ s ≤ 4) (w : World) (hI : Ib w g S) (hS : S K = false) :
    Calls Tryd.prog 57 #[.pointer (some ⟨g, 0, none⟩), idV t s] w fun e w' => e = .returned (.bool true) ∧ Ib w' g (fun x => decide (x = K) || S x) ∧ Kept (fun q => q = g) w w' := by
  have hk0 : Kept (fun _ => False) w (w.alloc (.cells #[.int .i64 t, .int .i64 s] 39)) := (Kept.refl _ w).alloc _
  have HB : Hid ((w.alloc (.cells #[.int .i64 t, .int .i64 s] 39)).heap[w.heap.size]? = some (.cells #[.int .i64 t, .int .i64 s] 39 (0, 0))) := heap_alloc_new w _
  obtain ⟨pb, hpb⟩ : ∃ pb, w.heap.size = pb := ⟨_, rfl⟩
  have HPB := Lib.hid hpb
  rw [hpb] at HB
  have HK0 := Lib.hid hk0
  have HI := Lib.hid (hI.kept hk0 id)
  have cH := fun W (h : Ib W g S) => has_any g t s K S hK ht hs W h
  have cA := fun W => at_any (.pointer (some ⟨g, 0, none⟩)) t s K hK ht hs W
  rw [hS] at cH
  have hk5 : K ≤ 50004 := by omega
  obtain ⟨i, hi⟩ : ∃ i, K / 64 = i := ⟨_, rfl⟩
  obtain ⟨P, hP⟩ : ∃ P, 2 ^ (K % 64) = P := ⟨_, rfl⟩
  rw [hi, hP] at cA
  have hi7 : i < 782 := by omega
  have hPl : P < 18446744073709551616 := by
    rw [← hP]
    have h2 : (2 : Nat) ^ (K % 64) < 2 ^ 64 := Nat.pow_lt_pow_right (by decide) (Nat.mod_lt _ (by decide))
    exact h2
  have HSET : Hid (∀ (W : World) (n m : Nat), Ib W g S → n < 18446744073709551616 → W.cell? ⟨g, i, none⟩ = some (.int .u64 (n : Int)) → n ||| P = m → Ib (W.setCell ⟨g, i, none⟩ (.int .u64 (m : Int))) g (fun x => decide (x = K) || S x)) := by
    show ∀ (W : World) (n m : Nat), _
    intro W n m hI hn hc hm
    rw [← hi] at hc ⊢
    exact hI.set hk5 hn hc m (by rw [hP]; exact hm.symm)
  clear hk0 hpb hI hS hK hk5 hi hP
  go_enter Tryd.func57, Tryd.ntmps57
  go_upto_region 1 with fail
  simp only [HPB.out]
  generalize w.alloc _ = w1 at *
  have b0 : w1.cell? ⟨pb, 0, none⟩ = some (.int .i64 t) := cell_of_row _ _ _ _ _ _ HB.out
  have b1 : w1.cell? ⟨pb, 1, none⟩ = some (.int .i64 s) := cell_of_row _ _ _ _ _ _ HB.out
  go_upto_region 3 with (go_at_call 58; refine (cH _ HI.out).mono ?_; rintro e w2 ⟨rfl, hk2⟩; have HK2 := Lib.hid (HK0.out.trans hk2); have HI2 := Lib.hid (HI.out.kept hk2 id); have HB2 := Lib.hid ((hk2.block pb (heap_lt HB.out) id).trans HB.out); clear hk2 cH b0 b1)
  have b0 : w2.cell? ⟨pb, 0, none⟩ = some (.int .i64 t) := cell_of_row _ _ _ _ _ _ HB2.out
  have b1 : w2.cell? ⟨pb, 1, none⟩ = some (.int .i64 s) := cell_of_row _ _ _ _ _ _ HB2.out
  go_upto_region 4 with (go_at_call 83; refine (cA _).mono ?_; rintro e w3 ⟨rfl, hk3⟩; have HK3 := Lib.hid (HK2.out.trans hk3); have HI3 := Lib.hid (HI2.out.kept hk3 id); clear hk3 cA b0 b1)
  obtain ⟨n, hn, c0, _⟩ := HI3.out.cell hi7
  have f0 := HI3.out.free i
  have t1 : (0 : Int) ≤ (i : Int) := by omega
  have t2 : (i : Int) < 782 := by omega
  have hor := u64_or_nat n P hn hPl
  obtain ⟨m, hm⟩ : ∃ m, n ||| P = m := ⟨_, rfl⟩
  rw [hm] at hor
  have HST := Lib.hid (HSET.out w3 n m HI3.out hn c0 hm)
  clear hm
  go_region
  go_wp2_with fail
  go_ret
  exact ⟨rfl, HST.out.drew, ((HK3.out.any : Kept (fun q => q = g) w w3).setCell (p := ⟨g, i, none⟩) rfl _).drew⟩
end Go.Proofs.YthkohjijppbliaaDoor
