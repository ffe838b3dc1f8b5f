/-
  OPS: which numbers are runes that a text may have; which ids may be; which of two is less.
-/
import Derived.Test.YtlminkbaafjloaaDoorCdA
import Derived.Test.YtlminkbaafjloaaDoorTk2
set_option linter.unusedVariables false
namespace Go.Proofs.YtlminkbaafjloaaDoor
open Go Go.RowKit

theorem vrune_any (n : Int) (h : 0 ≤ n ∧ n ≤ 1114111) (w : World) : Calls Tryd.prog 80 #[.int .i32 n] w fun e w' => e = .returned (.bool (decide (¬ (55296 ≤ n ∧ n ≤ 57343)))) ∧ w' = w := by
  have b0 : decide (0 ≤ n) = true := decide_eq_true h.1
  by_cases h1 : n < 55296
  · have b1 : decide (n < 55296) = true := decide_eq_true h1
    rw [decide_eq_true (show ¬ (55296 ≤ n ∧ n ≤ 57343) by omega)]
    clear h h1
    go_enter Tryd.func80, Tryd.ntmps80
    go_wp2
    go_ret
    exact ⟨rfl, rfl⟩
  · have b1 : decide (n < 55296) = false := decide_eq_false h1
    by_cases h2 : 57343 < n
    · have b2 : decide (57343 < n) = true := decide_eq_true h2
      have b3 : decide (n ≤ 1114111) = true := decide_eq_true h.2
      rw [decide_eq_true (show ¬ (55296 ≤ n ∧ n ≤ 57343) by omega)]
      clear h h1 h2
      go_enter Tryd.func80, Tryd.ntmps80
      go_wp2
      go_ret
      exact ⟨rfl, rfl⟩
    · have b2 : decide (57343 < n) = false := decide_eq_false h2
      rw [decide_eq_false (show ¬ ¬ (55296 ≤ n ∧ n ≤ 57343) by omega)]
      clear h h1 h2
      go_enter Tryd.func80, Tryd.ntmps80
      go_wp2
      go_ret
      exact ⟨rfl, rfl⟩
theorem nz8 {n : Nat} (h : n % 256 ≠ 0) : (UInt8.ofNat n != 0) = true := by
  rw [bne_iff_ne]
  intro e
  have := congrArg UInt8.toNat e
  simp only [UInt8.toNat_ofNat'] at this
  exact h this
theorem enc_size (n : Int) : (Utf8.encode n).size ≤ 4 := by
  have hl := Utf.enc_length n
  have : (Utf8.encode n).size = (Utf.enc n).length := by unfold Utf.enc; rw [Array.length_toList]; rfl
  omega
/-- A rune, as a text: it may be one, but for the zero. -/
theorem may_rune {n : Int} (h : Utf8.valid n = true) : mayB (Utf8.encode n) = decide (n ≠ 0) := by
  have e : (Utf8.encode n).data.toList = Utf.enc n := rfl
  have e2 : Utf.bytes [n] = Utf.enc n := by simp [Utf.bytes]
  have hv : Lib.validD (Utf8.encode n).data.toList = true := by rw [e, ← e2]; exact Utf.valid_bytes _ (by simpa using h)
  have hs : (Utf8.encode n).size ≤ 4000 := by have := enc_size n; omega
  unfold mayB
  rw [decide_eq_true hs, hv, e]
  simp only [Bool.true_and]
  have hn := Utf.int_valid h
  obtain ⟨c, rfl⟩ := Int.eq_ofNat_of_zero_le (show 0 ≤ n by omega)
  rw [Utf.enc_of h]
  by_cases h0 : c = 0
  · subst h0
    rfl
  · rw [decide_eq_true (show ((c : Nat) : Int) ≠ 0 by omega)]
    split
    · simp only [List.all_cons, List.all_nil, Bool.and_true]
      exact nz8 (by omega)
    · split
      · simp only [List.all_cons, List.all_nil, Bool.and_true, Bool.and_eq_true]
        exact ⟨nz8 (by omega), nz8 (by omega)⟩
      · split
        · simp only [List.all_cons, List.all_nil, Bool.and_true, Bool.and_eq_true]
          exact ⟨nz8 (by omega), nz8 (by omega), nz8 (by omega)⟩
        · simp only [List.all_cons, List.all_nil, Bool.and_true, Bool.and_eq_true]
          exact ⟨nz8 (by omega), nz8 (by omega), nz8 (by omega), nz8 (by omega)⟩
theorem isrune_any (k : Int) (w : World) (hT : Tabs w) : Calls Tryd.prog 59 #[.int .i64 k] w fun e w' => e = .returned (.bool (decide (Cd.ruOk k))) ∧ Kept (fun _ => False) w w' := by
  by_cases h0 : 0 ≤ k
  · have b0 : decide (0 ≤ k) = true := decide_eq_true h0
    by_cases h1 : k ≤ 1114111
    · have b1 : decide (k ≤ 1114111) = true := decide_eq_true h1
      have e1 : IntKind.i32.wrap k = k := wraps_i32 k h0 (by omega)
      by_cases h2 : 55296 ≤ k ∧ k ≤ 57343
      · have cV := fun W => vrune_any k ⟨h0, h1⟩ W
        rw [decide_eq_false (fun h => h h2)] at cV
        rw [decide_eq_false (show ¬ Cd.ruOk k from fun h => h.2.2 h2)]
        clear h0 h1 h2
        go_enter Tryd.func59, Tryd.ntmps59
        go_wp2_with (go_at_call 80; refine (cV _).mono ?_; rintro e w' ⟨rfl, rfl⟩)
        go_ret
        exact ⟨rfl, Kept.refl _ _⟩
      · have cV := fun W => vrune_any k ⟨h0, h1⟩ W
        rw [decide_eq_true h2] at cV
        have hv : Utf8.valid k = true := Utf.valid_int (by omega)
        have hm := may_rune hv
        have hsz : (Utf8.encode k).size ≤ 140737488351232 := by have := enc_size k; omega
        have cC := fun W (hk : Tabs W) => check_any (Utf8.encode k) W hsz hk
        rw [hm] at cC
        have HT := Lib.hid hT
        clear hT hv hm hsz
        by_cases hz : k = 0
        · rw [decide_eq_false (show ¬ k ≠ 0 from fun h => h hz)] at cC
          rw [decide_eq_false (show ¬ Cd.ruOk k from fun h => by have := h.1; omega)]
          clear h0 h1 h2 hz
          go_enter Tryd.func59, Tryd.ntmps59
          go_wp2_with (first
            | (go_at_call 80; refine (cV _).mono ?_; rintro e w' ⟨rfl, rfl⟩)
            | (go_at_call 44; refine (cC _ HT.out).mono ?_; rintro e w' ⟨rfl, hk⟩))
          go_ret
          exact ⟨rfl, hk⟩
        · rw [decide_eq_true (show k ≠ 0 from hz)] at cC
          rw [decide_eq_true (show Cd.ruOk k from ⟨by omega, h1, h2⟩)]
          clear h0 h1 h2 hz
          go_enter Tryd.func59, Tryd.ntmps59
          go_wp2_with (first
            | (go_at_call 80; refine (cV _).mono ?_; rintro e w' ⟨rfl, rfl⟩)
            | (go_at_call 44; refine (cC _ HT.out).mono ?_; rintro e w' ⟨rfl, hk⟩))
          go_ret
          exact ⟨rfl, hk⟩
    · have b1 : decide (k ≤ 1114111) = false := decide_eq_false h1
      rw [decide_eq_false (show ¬ Cd.ruOk k from fun h => h1 h.2.1)]
      clear h0 h1
      go_enter Tryd.func59, Tryd.ntmps59
      go_wp2
      go_ret
      exact ⟨rfl, Kept.refl _ _⟩
  · have b0 : decide (0 ≤ k) = false := decide_eq_false h0
    rw [decide_eq_false (show ¬ Cd.ruOk k from fun h => by have := h.1; omega)]
    clear h0
    go_enter Tryd.func59, Tryd.ntmps59
    go_wp2
    go_ret
    exact ⟨rfl, Kept.refl _ _⟩
theorem pwithin_any (x l m : Int) (w : World) : Calls Tryd.prog 60 #[.int .i64 x, .int .i64 l, .int .i64 m] w fun e w' => e = .returned (.bool (decide (l ≤ x ∧ x ≤ m))) ∧ w' = w := by
  by_cases h1 : l ≤ x
  · have b1 : decide (l ≤ x) = true := by simp; omega
    by_cases h2 : x ≤ m
    · have b2 : decide (x ≤ m) = true := by simp; omega
      rw [decide_eq_true (show l ≤ x ∧ x ≤ m from ⟨h1, h2⟩)]
      clear h1 h2
      go_enter Tryd.func60, Tryd.ntmps60
      go_wp2
      go_ret
      exact ⟨rfl, rfl⟩
    · have b2 : decide (x ≤ m) = false := by simp; omega
      rw [decide_eq_false (show ¬ (l ≤ x ∧ x ≤ m) by omega)]
      clear h1 h2
      go_enter Tryd.func60, Tryd.ntmps60
      go_wp2
      go_ret
      exact ⟨rfl, rfl⟩
  · have b1 : decide (l ≤ x) = false := by simp; omega
    rw [decide_eq_false (show ¬ (l ≤ x ∧ x ≤ m) by omega)]
    clear h1
    go_enter Tryd.func60, Tryd.ntmps60
    go_wp2
    go_ret
    exact ⟨rfl, rfl⟩
theorem mayid_any (t s : Int) (w : World) : Calls Tryd.prog 58 #[.agg #[.int .i64 t, .int .i64 s]] w fun e w' => e = .returned (.bool (decide (Cd.idOk t s))) ∧ Kept (fun _ => False) w w' := by
  have hK0 : Hid (Kept (fun _ => False) w (w.alloc (.cells #[.int .i64 t, .int .i64 s] 47))) := (Kept.refl _ w).alloc _
  have c1 := fun W => pwithin_any t 1 10000 W
  have c2 := fun W => pwithin_any s 0 4 W
  by_cases h1 : 1 ≤ t ∧ t ≤ 10000
  · rw [decide_eq_true h1] at c1
    by_cases h2 : 0 ≤ s ∧ s ≤ 4
    · rw [decide_eq_true h2] at c2
      rw [decide_eq_true (show Cd.idOk t s from ⟨h1, h2⟩)]
      clear h1 h2
      go_enter Tryd.func58, Tryd.ntmps58
      go_wp2_with (go_at_call 60; first | (refine (c1 _).mono ?_; clear c1; rintro e w' ⟨rfl, rfl⟩) | (refine (c2 _).mono ?_; rintro e w' ⟨rfl, rfl⟩))
      go_ret
      exact ⟨rfl, hK0.out⟩
    · rw [decide_eq_false h2] at c2
      rw [decide_eq_false (show ¬ Cd.idOk t s from fun h => h2 h.2)]
      clear h1 h2
      go_enter Tryd.func58, Tryd.ntmps58
      go_wp2_with (go_at_call 60; first | (refine (c1 _).mono ?_; clear c1; rintro e w' ⟨rfl, rfl⟩) | (refine (c2 _).mono ?_; rintro e w' ⟨rfl, rfl⟩))
      go_ret
      exact ⟨rfl, hK0.out⟩
  · rw [decide_eq_false h1] at c1
    rw [decide_eq_false (show ¬ Cd.idOk t s from fun h => h1 h.1)]
    clear h1
    go_enter Tryd.func58, Tryd.ntmps58
    go_wp2_with (go_at_call 60; refine (c1 _).mono ?_; rintro e w' ⟨rfl, rfl⟩)
    go_ret
    exact ⟨rfl, hK0.out⟩
/-- How two numbers compare. -/
def cmpv (x z : Int) : Int := if x < z then -1 else if z < x then 1 else 0
theorem cnan_any (x : Int) (w : World) : Calls Tryd.prog 78 #[.int .i64 x] w fun e w' => e = .returned (.bool false) ∧ w' = w := by
  have b : (x != x) = false := by simp
  go_enter Tryd.func78, Tryd.ntmps78
  go_wp2
  go_ret
  exact ⟨rfl, rfl⟩
theorem compare_any (x z : Int) (w : World) : Calls Tryd.prog 54 #[.int .i64 x, .int .i64 z] w fun e w' => e = .returned (.int .i64 (cmpv x z)) ∧ w' = w := by
  by_cases h1 : x < z
  · have hv : Hid (cmpv x z = -1) := by show _ = _; unfold cmpv; rw [if_pos h1]
    have b1 : decide (x < z) = true := decide_eq_true h1
    clear h1
    go_enter Tryd.func54, Tryd.ntmps54
    go_wp2_with (go_at_call 78; refine (cnan_any _ _).mono ?_; rintro e w' ⟨rfl, rfl⟩)
    go_ret
    rw [hv.out]
    exact ⟨rfl, rfl⟩
  · by_cases h2 : z < x
    · have hv : Hid (cmpv x z = 1) := by show _ = _; unfold cmpv; rw [if_neg h1, if_pos h2]
      have b1 : decide (x < z) = false := decide_eq_false h1
      have b2 : decide (z < x) = true := decide_eq_true h2
      clear h1 h2
      go_enter Tryd.func54, Tryd.ntmps54
      go_wp2_with (go_at_call 78; refine (cnan_any _ _).mono ?_; rintro e w' ⟨rfl, rfl⟩)
      go_ret
      rw [hv.out]
      exact ⟨rfl, rfl⟩
    · have hv : Hid (cmpv x z = 0) := by show _ = _; unfold cmpv; rw [if_neg h1, if_neg h2]
      have b1 : decide (x < z) = false := decide_eq_false h1
      have b2 : decide (z < x) = false := decide_eq_false h2
      clear h1 h2
      go_enter Tryd.func54, Tryd.ntmps54
      go_wp2_with (go_at_call 78; refine (cnan_any _ _).mono ?_; rintro e w' ⟨rfl, rfl⟩)
      go_ret
      rw [hv.out]
      exact ⟨rfl, rfl⟩
theorem idcmp_any (t s t' s' : Int) (w : World) : Calls Tryd.prog 33 #[.agg #[.int .i64 t, .int .i64 s], .agg #[.int .i64 t', .int .i64 s']] w fun e w' => e = .returned (.int .i64 (if t = t' then cmpv s s' else cmpv t t')) ∧ Kept (fun _ => False) w w' := by
  have hK0 : Hid (Kept (fun _ => False) w ((w.alloc (.cells #[.int .i64 t, .int .i64 s] 47)).alloc (.cells #[.int .i64 t', .int .i64 s'] 47))) := ((Kept.refl _ w).alloc _).alloc _
  have c1 := fun W => compare_any t t' W
  have c2 := fun W => compare_any s s' W
  by_cases h : t = t'
  · have b : (t != t') = false := by simp [h]
    rw [if_pos h]
    clear h c1
    go_enter Tryd.func33, Tryd.ntmps33
    go_wp2_with (go_at_call 54; refine (c2 _).mono ?_; rintro e w' ⟨rfl, rfl⟩)
    go_ret
    exact ⟨rfl, hK0.out⟩
  · have b : (t != t') = true := by simp [h]
    rw [if_neg h]
    clear h c2
    go_enter Tryd.func33, Tryd.ntmps33
    go_wp2_with (go_at_call 54; refine (c1 _).mono ?_; rintro e w' ⟨rfl, rfl⟩)
    go_ret
    exact ⟨rfl, hK0.out⟩
theorem less_any (t s t' s' : Int) (w : World) : Calls Tryd.prog 61 #[.agg #[.int .i64 t, .int .i64 s], .agg #[.int .i64 t', .int .i64 s']] w fun e w' => e = .returned (.bool (decide (Cd.lessP t s t' s'))) ∧ Kept (fun _ => False) w w' := by
  have hK0 : Hid (Kept (fun _ => False) w ((w.alloc (.cells #[.int .i64 t, .int .i64 s] 47)).alloc (.cells #[.int .i64 t', .int .i64 s'] 47))) := ((Kept.refl _ w).alloc _).alloc _
  have c1 := fun W => idcmp_any t s t' s' W
  obtain ⟨v, hv⟩ : ∃ v, (if t = t' then cmpv s s' else cmpv t t') = v := ⟨_, rfl⟩
  rw [hv] at c1
  have hl : (v < 0) ↔ Cd.lessP t s t' s' := by
    rw [← hv]
    unfold cmpv Cd.lessP
    (repeat' split) <;> constructor <;> intro h <;> omega
  clear hv
  by_cases h : Cd.lessP t s t' s'
  · have b : decide (v < 0) = true := decide_eq_true (hl.2 h)
    rw [decide_eq_true h]
    clear h hl
    go_enter Tryd.func61, Tryd.ntmps61
    go_wp2_with (go_at_call 33; refine (c1 _).mono ?_; rintro e w' ⟨rfl, hk⟩)
    go_ret
    exact ⟨rfl, hK0.out.trans hk⟩
  · have b : decide (v < 0) = false := decide_eq_false (fun e => h (hl.1 e))
    rw [decide_eq_false h]
    clear h hl
    go_enter Tryd.func61, Tryd.ntmps61
    go_wp2_with (go_at_call 33; refine (c1 _).mono ?_; rintro e w' ⟨rfl, hk⟩)
    go_ret
    exact ⟨rfl, hK0.out.trans hk⟩
end Go.Proofs.YtlminkbaafjloaaDoor
