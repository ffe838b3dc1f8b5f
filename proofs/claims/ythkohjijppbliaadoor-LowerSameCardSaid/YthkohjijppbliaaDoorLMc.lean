/-
  OPS: which numbers are runes that a text may have; which ids may be; which of two is less.
  OPS: order.May: which ops may be.
  OPERATIONS in memory: small ones.
-/
import Derived.Test.YthkohjijppbliaaDoorLMa
import Derived.Test.YthkohjijppbliaaDoorLMb
import Derived.Deep.CutRange
import Derived.Laws.AppendOwn
import Derived.Laws.AppendOwnNone
import Derived.Laws.OwnMore
import Derived.Laws.MakeOwn
import Derived.OwnWalk
import Derived.Maps.AppendAt
import Derived.Deep.AppendLies
import Derived.Deep.RegionHeld3
import Derived.BigQuiet
set_option linter.unusedVariables false
namespace Go.Proofs.YthkohjijppbliaaDoor
open Go Go.RowKit

theorem vrune_any (n : Int) (h : 0 ≤ n ∧ n ≤ 1114111) (w : World) : Calls Tryd.prog 101 #[.int .i32 n] w fun e w' => e = .returned (.bool (decide (¬ (55296 ≤ n ∧ n ≤ 57343)))) ∧ w' = w := by
  have b0 : decide (0 ≤ n) = true := decide_eq_true h.1
  by_cases h1 : n < 55296
  · have b1 : decide (n < 55296) = true := decide_eq_true h1
    rw [decide_eq_true (show ¬ (55296 ≤ n ∧ n ≤ 57343) by omega)]
    clear h h1
    go_enter Tryd.func101, Tryd.ntmps101
    go_wp2
    go_ret
    exact ⟨rfl, rfl⟩
  · have b1 : decide (n < 55296) = false := decide_eq_false h1
    by_cases h2 : 57343 < n
    · have b2 : decide (57343 < n) = true := decide_eq_true h2
      have b3 : decide (n ≤ 1114111) = true := decide_eq_true h.2
      rw [decide_eq_true (show ¬ (55296 ≤ n ∧ n ≤ 57343) by omega)]
      clear h h1 h2
      go_enter Tryd.func101, Tryd.ntmps101
      go_wp2
      go_ret
      exact ⟨rfl, rfl⟩
    · have b2 : decide (57343 < n) = false := decide_eq_false h2
      rw [decide_eq_false (show ¬ ¬ (55296 ≤ n ∧ n ≤ 57343) by omega)]
      clear h h1 h2
      go_enter Tryd.func101, Tryd.ntmps101
      go_wp2
      go_ret
      exact ⟨rfl, rfl⟩
theorem nz8 {n : Nat} (h : n % 256 ≠ 0) : (UInt8.ofNat n != 0) = true := by
  rw [bne_iff_ne]
  intro e
  have := congrArg UInt8.toNat e
  simp only [UInt8.toNat_ofNat'] at this
  exact h this
theorem enc_size (n : Int) : (Utf8.encode n).size ≤ 4 := by
  have hl := Utf.enc_length n
  have : (Utf8.encode n).size = (Utf.enc n).length := by unfold Utf.enc; rw [Array.length_toList]; rfl
  omega
/-- A rune, as a text: it may be one, but for the zero. -/
theorem may_rune {n : Int} (h : Utf8.valid n = true) : mayB (Utf8.encode n) = decide (n ≠ 0) := by
  have e : (Utf8.encode n).data.toList = Utf.enc n := rfl
  have e2 : Utf.bytes [n] = Utf.enc n := by simp [Utf.bytes]
  have hv : Lib.validD (Utf8.encode n).data.toList = true := by rw [e, ← e2]; exact Utf.valid_bytes _ (by simpa using h)
  have hs : (Utf8.encode n).size ≤ 4000 := by have := enc_size n; omega
  unfold mayB
  rw [decide_eq_true hs, hv, e]
  simp only [Bool.true_and]
  have hn := Utf.int_valid h
  obtain ⟨c, rfl⟩ := Int.eq_ofNat_of_zero_le (show 0 ≤ n by omega)
  rw [Utf.enc_of h]
  by_cases h0 : c = 0
  · subst h0
    rfl
  · rw [decide_eq_true (show ((c : Nat) : Int) ≠ 0 by omega)]
    split
    · simp only [List.all_cons, List.all_nil, Bool.and_true]
      exact nz8 (by omega)
    · split
      · simp only [List.all_cons, List.all_nil, Bool.and_true, Bool.and_eq_true]
        exact ⟨nz8 (by omega), nz8 (by omega)⟩
      · split
        · simp only [List.all_cons, List.all_nil, Bool.and_true, Bool.and_eq_true]
          exact ⟨nz8 (by omega), nz8 (by omega), nz8 (by omega)⟩
        · simp only [List.all_cons, List.all_nil, Bool.and_true, Bool.and_eq_true]
          exact ⟨nz8 (by omega), nz8 (by omega), nz8 (by omega), nz8 (by omega)⟩
theorem isrune_any (k : Int) (w : World) (hT : Tabs w) : Calls Tryd.prog 68 #[.int .i64 k] w fun e w' => e = .returned (.bool (decide (Cd.ruOk k))) ∧ Kept (fun _ => False) w w' := by
  by_cases h0 : 0 ≤ k
  · have b0 : decide (0 ≤ k) = true := decide_eq_true h0
    by_cases h1 : k ≤ 1114111
    · have b1 : decide (k ≤ 1114111) = true := decide_eq_true h1
      have e1 : IntKind.i32.wrap k = k := wraps_i32 k h0 (by omega)
      by_cases h2 : 55296 ≤ k ∧ k ≤ 57343
      · have cV := fun W => vrune_any k ⟨h0, h1⟩ W
        rw [decide_eq_false (fun h => h h2)] at cV
        rw [decide_eq_false (show ¬ Cd.ruOk k from fun h => h.2.2 h2)]
        clear h0 h1 h2
        go_enter Tryd.func68, Tryd.ntmps68
        go_wp2_with (go_at_call 101; refine (cV _).mono ?_; rintro e w' ⟨rfl, rfl⟩)
        go_ret
        exact ⟨rfl, Kept.refl _ _⟩
      · have cV := fun W => vrune_any k ⟨h0, h1⟩ W
        rw [decide_eq_true h2] at cV
        have hv : Utf8.valid k = true := Utf.valid_int (by omega)
        have hm := may_rune hv
        have hsz : (Utf8.encode k).size ≤ 140737488351232 := by have := enc_size k; omega
        have cC := fun W (hk : Tabs W) => check_any (Utf8.encode k) W hsz hk
        rw [hm] at cC
        have HT := Lib.hid hT
        clear hT hv hm hsz
        by_cases hz : k = 0
        · rw [decide_eq_false (show ¬ k ≠ 0 from fun h => h hz)] at cC
          rw [decide_eq_false (show ¬ Cd.ruOk k from fun h => by have := h.1; omega)]
          clear h0 h1 h2 hz
          go_enter Tryd.func68, Tryd.ntmps68
          go_wp2_with (first
            | (go_at_call 101; refine (cV _).mono ?_; rintro e w' ⟨rfl, rfl⟩)
            | (go_at_call 102; refine (cC _ HT.out).mono ?_; rintro e w' ⟨rfl, hk⟩))
          go_ret
          exact ⟨rfl, hk⟩
        · rw [decide_eq_true (show k ≠ 0 from hz)] at cC
          rw [decide_eq_true (show Cd.ruOk k from ⟨by omega, h1, h2⟩)]
          clear h0 h1 h2 hz
          go_enter Tryd.func68, Tryd.ntmps68
          go_wp2_with (first
            | (go_at_call 101; refine (cV _).mono ?_; rintro e w' ⟨rfl, rfl⟩)
            | (go_at_call 102; refine (cC _ HT.out).mono ?_; rintro e w' ⟨rfl, hk⟩))
          go_ret
          exact ⟨rfl, hk⟩
    · have b1 : decide (k ≤ 1114111) = false := decide_eq_false h1
      rw [decide_eq_false (show ¬ Cd.ruOk k from fun h => h1 h.2.1)]
      clear h0 h1
      go_enter Tryd.func68, Tryd.ntmps68
      go_wp2
      go_ret
      exact ⟨rfl, Kept.refl _ _⟩
  · have b0 : decide (0 ≤ k) = false := decide_eq_false h0
    rw [decide_eq_false (show ¬ Cd.ruOk k from fun h => by have := h.1; omega)]
    clear h0
    go_enter Tryd.func68, Tryd.ntmps68
    go_wp2
    go_ret
    exact ⟨rfl, Kept.refl _ _⟩
theorem pwithin_any (x l m : Int) (w : World) : Calls Tryd.prog 69 #[.int .i64 x, .int .i64 l, .int .i64 m] w fun e w' => e = .returned (.bool (decide (l ≤ x ∧ x ≤ m))) ∧ w' = w := by
  by_cases h1 : l ≤ x
  · have b1 : decide (l ≤ x) = true := by simp; omega
    by_cases h2 : x ≤ m
    · have b2 : decide (x ≤ m) = true := by simp; omega
      rw [decide_eq_true (show l ≤ x ∧ x ≤ m from ⟨h1, h2⟩)]
      clear h1 h2
      go_enter Tryd.func69, Tryd.ntmps69
      go_wp2
      go_ret
      exact ⟨rfl, rfl⟩
    · have b2 : decide (x ≤ m) = false := by simp; omega
      rw [decide_eq_false (show ¬ (l ≤ x ∧ x ≤ m) by omega)]
      clear h1 h2
      go_enter Tryd.func69, Tryd.ntmps69
      go_wp2
      go_ret
      exact ⟨rfl, rfl⟩
  · have b1 : decide (l ≤ x) = false := by simp; omega
    rw [decide_eq_false (show ¬ (l ≤ x ∧ x ≤ m) by omega)]
    clear h1
    go_enter Tryd.func69, Tryd.ntmps69
    go_wp2
    go_ret
    exact ⟨rfl, rfl⟩
theorem mayid_any (t s : Int) (w : World) : Calls Tryd.prog 67 #[.agg #[.int .i64 t, .int .i64 s]] w fun e w' => e = .returned (.bool (decide (Cd.idOk t s))) ∧ Kept (fun _ => False) w w' := by
  have hK0 : Hid (Kept (fun _ => False) w (w.alloc (.cells #[.int .i64 t, .int .i64 s] 39))) := (Kept.refl _ w).alloc _
  have c1 := fun W => pwithin_any t 1 10000 W
  have c2 := fun W => pwithin_any s 0 4 W
  by_cases h1 : 1 ≤ t ∧ t ≤ 10000
  · rw [decide_eq_true h1] at c1
    by_cases h2 : 0 ≤ s ∧ s ≤ 4
    · rw [decide_eq_true h2] at c2
      rw [decide_eq_true (show Cd.idOk t s from ⟨h1, h2⟩)]
      clear h1 h2
      go_enter Tryd.func67, Tryd.ntmps67
      go_wp2_with (go_at_call 69; first | (refine (c1 _).mono ?_; clear c1; rintro e w' ⟨rfl, rfl⟩) | (refine (c2 _).mono ?_; rintro e w' ⟨rfl, rfl⟩))
      go_ret
      exact ⟨rfl, hK0.out⟩
    · rw [decide_eq_false h2] at c2
      rw [decide_eq_false (show ¬ Cd.idOk t s from fun h => h2 h.2)]
      clear h1 h2
      go_enter Tryd.func67, Tryd.ntmps67
      go_wp2_with (go_at_call 69; first | (refine (c1 _).mono ?_; clear c1; rintro e w' ⟨rfl, rfl⟩) | (refine (c2 _).mono ?_; rintro e w' ⟨rfl, rfl⟩))
      go_ret
      exact ⟨rfl, hK0.out⟩
  · rw [decide_eq_false h1] at c1
    rw [decide_eq_false (show ¬ Cd.idOk t s from fun h => h1 h.1)]
    clear h1
    go_enter Tryd.func67, Tryd.ntmps67
    go_wp2_with (go_at_call 69; refine (c1 _).mono ?_; rintro e w' ⟨rfl, rfl⟩)
    go_ret
    exact ⟨rfl, hK0.out⟩
/-- How two numbers compare. -/
def cmpv (x z : Int) : Int := if x < z then -1 else if z < x then 1 else 0
theorem cnan_any (x : Int) (w : World) : Calls Tryd.prog 94 #[.int .i64 x] w fun e w' => e = .returned (.bool false) ∧ w' = w := by
  have b : (x != x) = false := by simp
  go_enter Tryd.func94, Tryd.ntmps94
  go_wp2
  go_ret
  exact ⟨rfl, rfl⟩
theorem compare_any (x z : Int) (w : World) : Calls Tryd.prog 61 #[.int .i64 x, .int .i64 z] w fun e w' => e = .returned (.int .i64 (cmpv x z)) ∧ w' = w := by
  by_cases h1 : x < z
  · have hv : Hid (cmpv x z = -1) := by show _ = _; unfold cmpv; rw [if_pos h1]
    have b1 : decide (x < z) = true := decide_eq_true h1
    clear h1
    go_enter Tryd.func61, Tryd.ntmps61
    go_wp2_with (go_at_call 94; refine (cnan_any _ _).mono ?_; rintro e w' ⟨rfl, rfl⟩)
    go_ret
    rw [hv.out]
    exact ⟨rfl, rfl⟩
  · by_cases h2 : z < x
    · have hv : Hid (cmpv x z = 1) := by show _ = _; unfold cmpv; rw [if_neg h1, if_pos h2]
      have b1 : decide (x < z) = false := decide_eq_false h1
      have b2 : decide (z < x) = true := decide_eq_true h2
      clear h1 h2
      go_enter Tryd.func61, Tryd.ntmps61
      go_wp2_with (go_at_call 94; refine (cnan_any _ _).mono ?_; rintro e w' ⟨rfl, rfl⟩)
      go_ret
      rw [hv.out]
      exact ⟨rfl, rfl⟩
    · have hv : Hid (cmpv x z = 0) := by show _ = _; unfold cmpv; rw [if_neg h1, if_neg h2]
      have b1 : decide (x < z) = false := decide_eq_false h1
      have b2 : decide (z < x) = false := decide_eq_false h2
      clear h1 h2
      go_enter Tryd.func61, Tryd.ntmps61
      go_wp2_with (go_at_call 94; refine (cnan_any _ _).mono ?_; rintro e w' ⟨rfl, rfl⟩)
      go_ret
      rw [hv.out]
      exact ⟨rfl, rfl⟩
theorem idcmp_any (t s t' s' : Int) (w : World) : Calls Tryd.prog 33 #[.agg #[.int .i64 t, .int .i64 s], .agg #[.int .i64 t', .int .i64 s']] w fun e w' => e = .returned (.int .i64 (if t = t' then cmpv s s' else cmpv t t')) ∧ Kept (fun _ => False) w w' := by
  have hK0 : Hid (Kept (fun _ => False) w ((w.alloc (.cells #[.int .i64 t, .int .i64 s] 39)).alloc (.cells #[.int .i64 t', .int .i64 s'] 39))) := ((Kept.refl _ w).alloc _).alloc _
  have c1 := fun W => compare_any t t' W
  have c2 := fun W => compare_any s s' W
  by_cases h : t = t'
  · have b : (t != t') = false := by simp [h]
    rw [if_pos h]
    clear h c1
    go_enter Tryd.func33, Tryd.ntmps33
    go_wp2_with (go_at_call 61; refine (c2 _).mono ?_; rintro e w' ⟨rfl, rfl⟩)
    go_ret
    exact ⟨rfl, hK0.out⟩
  · have b : (t != t') = true := by simp [h]
    rw [if_neg h]
    clear h c2
    go_enter Tryd.func33, Tryd.ntmps33
    go_wp2_with (go_at_call 61; refine (c1 _).mono ?_; rintro e w' ⟨rfl, rfl⟩)
    go_ret
    exact ⟨rfl, hK0.out⟩
theorem less_any (t s t' s' : Int) (w : World) : Calls Tryd.prog 70 #[.agg #[.int .i64 t, .int .i64 s], .agg #[.int .i64 t', .int .i64 s']] w fun e w' => e = .returned (.bool (decide (Cd.lessP t s t' s'))) ∧ Kept (fun _ => False) w w' := by
  have hK0 : Hid (Kept (fun _ => False) w ((w.alloc (.cells #[.int .i64 t, .int .i64 s] 39)).alloc (.cells #[.int .i64 t', .int .i64 s'] 39))) := ((Kept.refl _ w).alloc _).alloc _
  have c1 := fun W => idcmp_any t s t' s' W
  obtain ⟨v, hv⟩ : ∃ v, (if t = t' then cmpv s s' else cmpv t t') = v := ⟨_, rfl⟩
  rw [hv] at c1
  have hl : (v < 0) ↔ Cd.lessP t s t' s' := by
    rw [← hv]
    unfold cmpv Cd.lessP
    (repeat' split) <;> constructor <;> intro h <;> omega
  clear hv
  by_cases h : Cd.lessP t s t' s'
  · have b : decide (v < 0) = true := decide_eq_true (hl.2 h)
    rw [decide_eq_true h]
    clear h hl
    go_enter Tryd.func70, Tryd.ntmps70
    go_wp2_with (go_at_call 33; refine (c1 _).mono ?_; rintro e w' ⟨rfl, hk⟩)
    go_ret
    exact ⟨rfl, hK0.out.trans hk⟩
  · have b : decide (v < 0) = false := decide_eq_false (fun e => h (hl.1 e))
    rw [decide_eq_false h]
    clear h hl
    go_enter Tryd.func70, Tryd.ntmps70
    go_wp2_with (go_at_call 33; refine (c1 _).mono ?_; rintro e w' ⟨rfl, hk⟩)
    go_ret
    exact ⟨rfl, hK0.out.trans hk⟩
end Go.Proofs.YthkohjijppbliaaDoor
namespace Go.Proofs.YthkohjijppbliaaDoor
open Go Go.RowKit

/-- An op, by value. -/
def opV (b : OpS) : Value := .agg #[.int .i64 b.o.kd, .int .i64 b.o.t, .int .i64 b.o.si, .int .i64 b.o.t0, .int .i64 b.o.s0, .int .i64 b.o.rn, .int .i64 b.o.st, .int .i64 b.o.nn, .slice b.A b.n b.c]
/-- An op's block. -/
def opO (b : OpS) : Obj := .cells #[.int .i64 b.o.kd, .int .i64 b.o.t, .int .i64 b.o.si, .int .i64 b.o.t0, .int .i64 b.o.s0, .int .i64 b.o.rn, .int .i64 b.o.st, .int .i64 b.o.nn, .slice b.A b.n b.c] 42
theorem op9_new {w : World} {b : OpS} : Op9 (w.alloc (opO b)) ⟨w.heap.size, 0, none⟩ b :=
  ⟨cell_of_row _ _ _ _ _ _ (heap_alloc_new w _), cell_of_row _ _ _ _ _ _ (heap_alloc_new w _), cell_of_row _ _ _ _ _ _ (heap_alloc_new w _), cell_of_row _ _ _ _ _ _ (heap_alloc_new w _), cell_of_row _ _ _ _ _ _ (heap_alloc_new w _), cell_of_row _ _ _ _ _ _ (heap_alloc_new w _), cell_of_row _ _ _ _ _ _ (heap_alloc_new w _), cell_of_row _ _ _ _ _ _ (heap_alloc_new w _), cell_of_row _ _ _ _ _ _ (heap_alloc_new w _)⟩
def inV (x : Int) : Prop := 0 ≤ x ∧ x ≤ 2000
instance (x : Int) : Decidable (inV x) := by unfold inV; infer_instance
theorem vec_of {l : List Int} (hl : l.length = 4) (h : ∀ (j : Nat) (x : Int), l[j]? = some x → inV x) : Cd.vecOk l :=
  ⟨hl, fun x hx => by
    obtain ⟨i, hi, rfl⟩ := List.getElem_of_mem hx
    exact h i _ (List.getElem?_eq_getElem hi)⟩
theorem vec_at {l : List Int} (h : Cd.vecOk l) {j : Nat} {x : Int} (hj : l[j]? = some x) : inV x := h.2 x (List.mem_of_getElem? hj)
/-- What stands ahead of what was seen, and how many there are. -/
def headOk (o : Cd.OpP) (n : Nat) : Prop := Cd.idOk o.t o.si ∧ (1 ≤ o.st ∧ o.st ≤ 4) ∧ (1 ≤ o.nn ∧ o.nn ≤ 2000) ∧ n = 4
instance (o : Cd.OpP) (n : Nat) : Decidable (headOk o n) := by unfold headOk; infer_instance
theorem opOk_iff {o : Cd.OpP} : Cd.opOk o ↔ (headOk o o.seen.length ∧ ∀ (j : Nat) (x : Int), o.seen[j]? = some x → inV x) ∧ Cd.kindOk o := by
  constructor
  · rintro ⟨h1, h2, h3, h4, h5⟩
    exact ⟨⟨⟨h1, h2, h3, h4.1⟩, fun j x hj => vec_at h4 hj⟩, h5⟩
  · rintro ⟨⟨⟨h1, h2, h3, h4⟩, h6⟩, h5⟩
    exact ⟨h1, h2, h3, vec_of h4 h6, h5⟩
theorem Op9.cs {w : World} {pb : Nat} {b : OpS} (h : Op9 w ⟨pb, 0, none⟩ b) : w.cell? ⟨pb, 0, none⟩ = some (.int .i64 b.o.kd) ∧ w.cell? ⟨pb, 1, none⟩ = some (.int .i64 b.o.t) ∧ w.cell? ⟨pb, 2, none⟩ = some (.int .i64 b.o.si) ∧
    w.cell? ⟨pb, 3, none⟩ = some (.int .i64 b.o.t0) ∧ w.cell? ⟨pb, 4, none⟩ = some (.int .i64 b.o.s0) ∧ w.cell? ⟨pb, 5, none⟩ = some (.int .i64 b.o.rn) ∧ w.cell? ⟨pb, 6, none⟩ = some (.int .i64 b.o.st) ∧ w.cell? ⟨pb, 7, none⟩ = some (.int .i64 b.o.nn) ∧
    w.cell? ⟨pb, 8, none⟩ = some (.slice b.A b.n b.c) := ⟨h.c0, h.c1, h.c2, h.c3, h.c4, h.c5, h.c6, h.c7, h.c8⟩
/-- Whether all are well so far. -/
def Gk (g G : Bool) (seen : List Int) (k : Nat) : Prop := g = true ↔ G = true ∧ ∀ (j : Nat) (x : Int), j < k → seen[j]? = some x → inV x
set_option maxRecDepth 100000 in
set_option maxHeartbeats 8000000 in
theorem may_any (b : OpS) (w : World) (hb : OpOk w b) (hT : Tabs w) :
    Calls Tryd.prog 40 #[opV b] w fun e w' => e = .returned (.int .i64 (if Cd.opOk b.o then 0 else 1)) ∧ Kept (fun _ => False) w w' := by
  have hK0 : Hid (Kept (fun _ => False) w (w.alloc (opO b))) := (Kept.refl _ w).alloc _
  have HO : Hid (Op9 (w.alloc (opO b)) ⟨w.heap.size, 0, none⟩ b) := op9_new
  have HT : Hid (Tabs (w.alloc (opO b))) := hT.kept hK0.out id id
  have hS := hb.seen.kept hK0.out (fun _ _ => id)
  have HS := Lib.hid hS
  have hn := hb.n
  have hiff := opOk_iff (o := b.o)
  rw [hS.1] at hiff
  have HI := Lib.hid hiff
  obtain ⟨E, hE⟩ : ∃ E : Int, (if Cd.opOk b.o then (0 : Int) else 1) = E := ⟨_, rfl⟩
  rw [hE]
  have HEE := Lib.hid hE
  clear hT hb hS hiff hE
  unfold opV
  go_enter Tryd.func40, Tryd.ntmps40
  obtain ⟨⟨kd, t, si, t0, s0, rn, st, nn, seen⟩, A, n, c⟩ := b
  simp only [opO] at *
  go_upto_region 1 with fail
  generalize w.alloc (.cells #[.int .i64 kd, .int .i64 t, .int .i64 si, .int .i64 t0, .int .i64 s0, .int .i64 rn, .int .i64 st, .int .i64 nn, .slice A n c] 42) = w1 at *
  generalize w.heap.size = pb at *
  obtain ⟨c0, c1, c2, c3, c4, c5, c6, c7, c8⟩ := HO.out.cs
  simp only at c0 c1 c2 c3 c4 c5 c6 c7 c8
  obtain ⟨G, hG⟩ : ∃ G : Bool, decide (headOk ⟨kd, t, si, t0, s0, rn, st, nn, seen⟩ n) = G := ⟨_, rfl⟩
  have HG := Lib.hid hG
  clear hG
  go_cut [3] from 6 to 24 (fun v wx => v = .bool G ∧ Kept (fun _ => False) w1 wx)
  case first =>
    have cI := fun W => mayid_any t si W
    have cS := fun W => pwithin_any st 1 4 W
    have cN := fun W => pwithin_any nn 1 2000 W
    by_cases h1 : Cd.idOk t si
    · rw [decide_eq_true h1] at cI
      by_cases h2 : 1 ≤ st ∧ st ≤ 4
      · rw [decide_eq_true h2] at cS
        by_cases h3 : 1 ≤ nn ∧ nn ≤ 2000
        · rw [decide_eq_true h3] at cN
          by_cases h4 : n = 4
          · have e : G = true := by rw [← HG.out]; exact decide_eq_true ⟨h1, h2, h3, h4⟩
            have b4 : ((n : Int) == 4) = true := by rw [h4]; rfl
            subst e
            clear h1 h2 h3 h4
            go_wp2_with (first
              | (go_at_call 67; refine (cI _).mono ?_; rintro e w2 ⟨rfl, hk2⟩; have HK2 := Lib.hid hk2; have d6 := cell_kept hk2 c6 id; have d7 := cell_kept hk2 c7 id; have d8 := cell_kept hk2 c8 id; clear hk2)
              | (go_at_call 69; first | (refine (cS _).mono ?_; clear cS; rintro e w' ⟨rfl, hw⟩; have hw2 := hw.symm; subst hw2) | (refine (cN _).mono ?_; rintro e w' ⟨rfl, hw⟩; have hw2 := hw.symm; subst hw2)))
            go_meet
            exact ⟨rfl, HK2.out⟩
          · have e : G = false := by rw [← HG.out]; exact decide_eq_false (fun h => h4 h.2.2.2)
            have b4 : ((n : Int) == 4) = false := beq_eq_false_iff_ne.2 (by omega)
            subst e
            clear h1 h2 h3 h4
            go_wp2_with (first
              | (go_at_call 67; refine (cI _).mono ?_; rintro e w2 ⟨rfl, hk2⟩; have HK2 := Lib.hid hk2; have d6 := cell_kept hk2 c6 id; have d7 := cell_kept hk2 c7 id; have d8 := cell_kept hk2 c8 id; clear hk2)
              | (go_at_call 69; first | (refine (cS _).mono ?_; clear cS; rintro e w' ⟨rfl, hw⟩; have hw2 := hw.symm; subst hw2) | (refine (cN _).mono ?_; rintro e w' ⟨rfl, hw⟩; have hw2 := hw.symm; subst hw2)))
            go_meet
            exact ⟨rfl, HK2.out⟩
        · rw [decide_eq_false h3] at cN
          have e : G = false := by rw [← HG.out]; exact decide_eq_false (fun h => h3 h.2.2.1)
          subst e
          clear h1 h2 h3
          go_wp2_with (first
            | (go_at_call 67; refine (cI _).mono ?_; rintro e w2 ⟨rfl, hk2⟩; have HK2 := Lib.hid hk2; have d6 := cell_kept hk2 c6 id; have d7 := cell_kept hk2 c7 id; have d8 := cell_kept hk2 c8 id; clear hk2)
            | (go_at_call 69; first | (refine (cS _).mono ?_; clear cS; rintro e w' ⟨rfl, hw⟩; have hw2 := hw.symm; subst hw2) | (refine (cN _).mono ?_; rintro e w' ⟨rfl, hw⟩; have hw2 := hw.symm; subst hw2)))
          go_meet
          exact ⟨rfl, HK2.out⟩
      · rw [decide_eq_false h2] at cS
        have e : G = false := by rw [← HG.out]; exact decide_eq_false (fun h => h2 h.2.1)
        subst e
        clear h1 h2
        go_wp2_with (first
          | (go_at_call 67; refine (cI _).mono ?_; rintro e w2 ⟨rfl, hk2⟩; have HK2 := Lib.hid hk2; have d6 := cell_kept hk2 c6 id; have d7 := cell_kept hk2 c7 id; have d8 := cell_kept hk2 c8 id; clear hk2)
          | (go_at_call 69; (refine (cS _).mono ?_; clear cS; rintro e w' ⟨rfl, hw⟩; have hw2 := hw.symm; subst hw2)))
        go_meet
        exact ⟨rfl, HK2.out⟩
    · rw [decide_eq_false h1] at cI
      have e : G = false := by rw [← HG.out]; exact decide_eq_false (fun h => h1 h.1)
      subst e
      clear h1
      go_wp2_with (go_at_call 67; refine (cI _).mono ?_; rintro e w2 ⟨rfl, hk2⟩; have HK2 := Lib.hid hk2; clear hk2)
      go_meet
      exact ⟨rfl, HK2.out⟩
  case rest =>
    obtain ⟨rfl, hk2⟩ := hcut
    have HK2 := Lib.hid (hK0.out.trans hk2)
    have hO2 := HO.out.kept hk2 id
    have hT2 := HT.out.kept hk2 id id
    have hS2 := HS.out.kept hk2 (fun _ _ => id)
    clear c0 c1 c2 c3 c4 c5 c6 c7 c8 HO HT HS hk2
    have HT2 := Lib.hid hT2
    have HS2 := Lib.hid hS2
    clear hT2 hS2
    obtain ⟨c0, c1, c2, c3, c4, c5, c6, c7, c8⟩ := hO2.cs
    simp only at c0 c1 c2 c3 c4 c5 c6 c7 c8 HS2
    clear hO2
    obtain ⟨w2, hw2⟩ : ∃ v, v = wc := ⟨_, rfl⟩
    subst hw2
    go_wp2_with fail
    go_loop [3, 28] (fun v i => ∃ (k : Nat) (g : Bool), k ≤ n ∧ i = .int .i64 k ∧ v = .bool g ∧ Gk g G seen k) (fun _ i => n - (intOf i).toNat)
    case atStart => exact ⟨0, G, Nat.zero_le _, rfl, rfl, fun h => ⟨h, fun j x hj => by omega⟩, fun h => h.1⟩
    case round =>
      obtain ⟨k, g, hk, rfl, rfl, hg⟩ := hrel
      have HGG := Lib.hid hg
      clear hg
      by_cases hkn : k < n
      · obtain ⟨ad, x, rfl, hx, hc⟩ := HS2.out.cell hkn
        have b1 : decide (k < n) = true := decide_eq_true hkn
        have b2 : decide ((k : Int) < (n : Int)) = true := decide_eq_true (by omega)
        have t1 : (0 : Int) ≤ (k : Int) := by omega
        have t2 : (k : Int) < (n : Int) := by omega
        have HX := Lib.hid hx
        clear hx
        cases g with
        | false =>
          have HN : Hid (Gk false G seen (k + 1)) := by
            show _ ↔ _
            refine ⟨fun h => Bool.noConfusion h, fun h => ?_⟩
            exact HGG.out.2 ⟨h.1, fun j x hj => h.2 j x (by omega)⟩
          go_wp2_with fail
          go_round
          case rel => exact ⟨k + 1, false, by omega, by go_num, rfl, HN.out⟩
          case measure => simp [intOf] <;> omega
        | true =>
          have cW := fun W => pwithin_any x 0 2000 W
          by_cases hv : 0 ≤ x ∧ x ≤ 2000
          · rw [decide_eq_true hv] at cW
            have HN : Hid (Gk true G seen (k + 1)) := by
              show _ ↔ _
              refine ⟨fun h => ⟨(HGG.out.1 h).1, fun j y hj hy => ?_⟩, fun _ => rfl⟩
              by_cases hjk : j < k
              · exact (HGG.out.1 h).2 j y hjk hy
              · obtain rfl : j = k := by omega
                rw [HX.out] at hy
                injection hy with hy
                exact hy ▸ hv
            clear hv
            go_wp2_with (go_at_call 69; refine (cW _).mono ?_; rintro e w' ⟨rfl, hw⟩; have hw2 := hw.symm; subst hw2)
            go_round
            case rel => exact ⟨k + 1, true, by omega, by go_num, rfl, HN.out⟩
            case measure => simp [intOf] <;> omega
          · rw [decide_eq_false hv] at cW
            have HN : Hid (Gk false G seen (k + 1)) := by
              show _ ↔ _
              exact ⟨fun h => Bool.noConfusion h, fun h => absurd (h.2 k x (by omega) HX.out) hv⟩
            clear hv
            go_wp2_with (go_at_call 69; refine (cW _).mono ?_; rintro e w' ⟨rfl, hw⟩; have hw2 := hw.symm; subst hw2)
            go_round
            case rel => exact ⟨k + 1, false, by omega, by go_num, rfl, HN.out⟩
            case measure => simp [intOf] <;> omega
      · obtain rfl : k = n := by omega
        have b1 : decide (k < k) = false := decide_eq_false (by omega)
        have b2 : decide ((k : Int) < (k : Int)) = false := decide_eq_false (by omega)
        have HGF : Hid (g = true ↔ headOk ⟨kd, t, si, t0, s0, rn, st, nn, seen⟩ k ∧ ∀ (j : Nat) (x : Int), seen[j]? = some x → inV x) := by
          refine ⟨fun h => ⟨of_decide_eq_true (HG.out.trans (HGG.out.1 h).1), fun j x hj => (HGG.out.1 h).2 j x ?_ hj⟩, fun h => HGG.out.2 ⟨HG.out.symm.trans (decide_eq_true h.1), fun j x _ hj => h.2 j x hj⟩⟩
          by_cases hjk : j < k
          · exact hjk
          · have hl : seen.length = k := HS2.out.1
            rw [List.getElem?_eq_none (by omega)] at hj; cases hj
        have HNO : Hid (g = false → ¬ Cd.opOk ⟨kd, t, si, t0, s0, rn, st, nn, seen⟩) := fun h ho => by have := HGF.out.2 (HI.out.1 ho).1; rw [h] at this; cases this
        clear HGG
        by_cases k1 : kd = 1
        · have e1 : (kd == 1) = true := by rw [k1]; rfl
          cases g with
          | false =>
            have HE : Hid (E = 1) := HEE.out.symm.trans (if_neg (HNO.out rfl))
            clear k1
            go_wp2_with fail
            go_ret
            rw [HE.out]
            exact ⟨rfl, HK2.out⟩
          | true =>
            have hp := HGF.out.1 rfl
            have cR := fun W (h : Tabs W) => isrune_any rn W h
            by_cases hr : Cd.ruOk rn
            · rw [decide_eq_true hr] at cR
              by_cases hz0 : t0 = 0
              · have z0 : (t0 == 0) = true := by rw [hz0]; rfl
                by_cases hz1 : s0 = 0
                · have z1 : (s0 == 0) = true := by rw [hz1]; rfl
                  have HE : Hid (E = 0) := HEE.out.symm.trans (if_pos (HI.out.2 ⟨hp, .inl ⟨k1, hr, .inl ⟨hz0, hz1⟩⟩⟩))
                  clear hp hr hz0 hz1 k1
                  go_wp2_with (go_at_call 68; refine (cR _ HT2.out).mono ?_; rintro e w3 ⟨rfl, hk3⟩; have HK3 := Lib.hid hk3; have d1 := cell_kept hk3 c1 id; have d2 := cell_kept hk3 c2 id; have d3 := cell_kept hk3 c3 id; have d4 := cell_kept hk3 c4 id; clear hk3)
                  go_ret
                  rw [HE.out]
                  exact ⟨rfl, HK2.out.trans HK3.out⟩
                · have z1 : (s0 == 0) = false := beq_eq_false_iff_ne.2 hz1
                  have hz : ¬ (t0 = 0 ∧ s0 = 0) := fun h => hz1 h.2
                  clear hz0 hz1
                  have cI := fun W => mayid_any t0 s0 W
                  by_cases hi : Cd.idOk t0 s0
                  · rw [decide_eq_true hi] at cI
                    have cL := fun W => less_any t0 s0 t si W
                    by_cases hl : Cd.lessP t0 s0 t si
                    · rw [decide_eq_true hl] at cL
                      have HE : Hid (E = 0) := HEE.out.symm.trans (if_pos (HI.out.2 ⟨hp, .inl ⟨k1, hr, .inr ⟨hi, hl⟩⟩⟩))
                      clear hp hr hz hi hl k1
                      go_wp2_with (first | (go_at_call 68; refine (cR _ HT2.out).mono ?_; rintro e w3 ⟨rfl, hk3⟩; have HK3 := Lib.hid hk3; have d1 := cell_kept hk3 c1 id; have d2 := cell_kept hk3 c2 id; have d3 := cell_kept hk3 c3 id; have d4 := cell_kept hk3 c4 id; clear hk3) | (go_at_call 67; refine (cI _).mono ?_; rintro e w4 ⟨rfl, hk4⟩; have HK4 := Lib.hid (HK3.out.trans hk4); have g1 := cell_kept hk4 d1 id; have g2 := cell_kept hk4 d2 id; have g3 := cell_kept hk4 d3 id; have g4 := cell_kept hk4 d4 id; clear hk4) | (go_at_call 70; refine (cL _).mono ?_; rintro e w5 ⟨rfl, hk5⟩; have HK5 := Lib.hid (HK4.out.trans hk5); clear hk5))
                      go_ret
                      rw [HE.out]
                      exact ⟨rfl, HK2.out.trans HK5.out⟩
                    · rw [decide_eq_false hl] at cL
                      have HE : Hid (E = 1) := HEE.out.symm.trans (if_neg (fun ho => by rcases (HI.out.1 ho).2 with ⟨_, _, hzz | ⟨_, h⟩⟩ | ⟨h, _⟩ <;> first | exact hl h | exact hz hzz | (have h : kd = 2 := h; omega)))
                      clear hp hr hz hi hl k1
                      go_wp2_with (first | (go_at_call 68; refine (cR _ HT2.out).mono ?_; rintro e w3 ⟨rfl, hk3⟩; have HK3 := Lib.hid hk3; have d1 := cell_kept hk3 c1 id; have d2 := cell_kept hk3 c2 id; have d3 := cell_kept hk3 c3 id; have d4 := cell_kept hk3 c4 id; clear hk3) | (go_at_call 67; refine (cI _).mono ?_; rintro e w4 ⟨rfl, hk4⟩; have HK4 := Lib.hid (HK3.out.trans hk4); have g1 := cell_kept hk4 d1 id; have g2 := cell_kept hk4 d2 id; have g3 := cell_kept hk4 d3 id; have g4 := cell_kept hk4 d4 id; clear hk4) | (go_at_call 70; refine (cL _).mono ?_; rintro e w5 ⟨rfl, hk5⟩; have HK5 := Lib.hid (HK4.out.trans hk5); clear hk5))
                      go_ret
                      rw [HE.out]
                      exact ⟨rfl, HK2.out.trans HK5.out⟩
                  · rw [decide_eq_false hi] at cI
                    have HE : Hid (E = 1) := HEE.out.symm.trans (if_neg (fun ho => by rcases (HI.out.1 ho).2 with ⟨_, _, hzz | ⟨h, _⟩⟩ | ⟨h, _⟩ <;> first | exact hi h | exact hz hzz | (have h : kd = 2 := h; omega)))
                    clear hp hr hz hi k1
                    go_wp2_with (first | (go_at_call 68; refine (cR _ HT2.out).mono ?_; rintro e w3 ⟨rfl, hk3⟩; have HK3 := Lib.hid hk3; have d1 := cell_kept hk3 c1 id; have d2 := cell_kept hk3 c2 id; have d3 := cell_kept hk3 c3 id; have d4 := cell_kept hk3 c4 id; clear hk3) | (go_at_call 67; refine (cI _).mono ?_; rintro e w4 ⟨rfl, hk4⟩; have HK4 := Lib.hid (HK3.out.trans hk4); have g1 := cell_kept hk4 d1 id; have g2 := cell_kept hk4 d2 id; have g3 := cell_kept hk4 d3 id; have g4 := cell_kept hk4 d4 id; clear hk4))
                    go_ret
                    rw [HE.out]
                    exact ⟨rfl, HK2.out.trans HK4.out⟩
              · have z0 : (t0 == 0) = false := beq_eq_false_iff_ne.2 hz0
                have hz : ¬ (t0 = 0 ∧ s0 = 0) := fun h => hz0 h.1
                clear hz0
                have cI := fun W => mayid_any t0 s0 W
                by_cases hi : Cd.idOk t0 s0
                · rw [decide_eq_true hi] at cI
                  have cL := fun W => less_any t0 s0 t si W
                  by_cases hl : Cd.lessP t0 s0 t si
                  · rw [decide_eq_true hl] at cL
                    have HE : Hid (E = 0) := HEE.out.symm.trans (if_pos (HI.out.2 ⟨hp, .inl ⟨k1, hr, .inr ⟨hi, hl⟩⟩⟩))
                    clear hp hr hz hi hl k1
                    go_wp2_with (first | (go_at_call 68; refine (cR _ HT2.out).mono ?_; rintro e w3 ⟨rfl, hk3⟩; have HK3 := Lib.hid hk3; have d1 := cell_kept hk3 c1 id; have d2 := cell_kept hk3 c2 id; have d3 := cell_kept hk3 c3 id; have d4 := cell_kept hk3 c4 id; clear hk3) | (go_at_call 67; refine (cI _).mono ?_; rintro e w4 ⟨rfl, hk4⟩; have HK4 := Lib.hid (HK3.out.trans hk4); have g1 := cell_kept hk4 d1 id; have g2 := cell_kept hk4 d2 id; have g3 := cell_kept hk4 d3 id; have g4 := cell_kept hk4 d4 id; clear hk4) | (go_at_call 70; refine (cL _).mono ?_; rintro e w5 ⟨rfl, hk5⟩; have HK5 := Lib.hid (HK4.out.trans hk5); clear hk5))
                    go_ret
                    rw [HE.out]
                    exact ⟨rfl, HK2.out.trans HK5.out⟩
                  · rw [decide_eq_false hl] at cL
                    have HE : Hid (E = 1) := HEE.out.symm.trans (if_neg (fun ho => by rcases (HI.out.1 ho).2 with ⟨_, _, hzz | ⟨_, h⟩⟩ | ⟨h, _⟩ <;> first | exact hl h | exact hz hzz | (have h : kd = 2 := h; omega)))
                    clear hp hr hz hi hl k1
                    go_wp2_with (first | (go_at_call 68; refine (cR _ HT2.out).mono ?_; rintro e w3 ⟨rfl, hk3⟩; have HK3 := Lib.hid hk3; have d1 := cell_kept hk3 c1 id; have d2 := cell_kept hk3 c2 id; have d3 := cell_kept hk3 c3 id; have d4 := cell_kept hk3 c4 id; clear hk3) | (go_at_call 67; refine (cI _).mono ?_; rintro e w4 ⟨rfl, hk4⟩; have HK4 := Lib.hid (HK3.out.trans hk4); have g1 := cell_kept hk4 d1 id; have g2 := cell_kept hk4 d2 id; have g3 := cell_kept hk4 d3 id; have g4 := cell_kept hk4 d4 id; clear hk4) | (go_at_call 70; refine (cL _).mono ?_; rintro e w5 ⟨rfl, hk5⟩; have HK5 := Lib.hid (HK4.out.trans hk5); clear hk5))
                    go_ret
                    rw [HE.out]
                    exact ⟨rfl, HK2.out.trans HK5.out⟩
                · rw [decide_eq_false hi] at cI
                  have HE : Hid (E = 1) := HEE.out.symm.trans (if_neg (fun ho => by rcases (HI.out.1 ho).2 with ⟨_, _, hzz | ⟨h, _⟩⟩ | ⟨h, _⟩ <;> first | exact hi h | exact hz hzz | (have h : kd = 2 := h; omega)))
                  clear hp hr hz hi k1
                  go_wp2_with (first | (go_at_call 68; refine (cR _ HT2.out).mono ?_; rintro e w3 ⟨rfl, hk3⟩; have HK3 := Lib.hid hk3; have d1 := cell_kept hk3 c1 id; have d2 := cell_kept hk3 c2 id; have d3 := cell_kept hk3 c3 id; have d4 := cell_kept hk3 c4 id; clear hk3) | (go_at_call 67; refine (cI _).mono ?_; rintro e w4 ⟨rfl, hk4⟩; have HK4 := Lib.hid (HK3.out.trans hk4); have g1 := cell_kept hk4 d1 id; have g2 := cell_kept hk4 d2 id; have g3 := cell_kept hk4 d3 id; have g4 := cell_kept hk4 d4 id; clear hk4))
                  go_ret
                  rw [HE.out]
                  exact ⟨rfl, HK2.out.trans HK4.out⟩
            · rw [decide_eq_false hr] at cR
              have HE : Hid (E = 1) := HEE.out.symm.trans (if_neg (fun ho => by rcases (HI.out.1 ho).2 with ⟨_, h, _⟩ | ⟨h, _⟩ <;> first | exact hr h | (have h : kd = 2 := h; omega)))
              clear hp hr k1
              go_wp2_with (go_at_call 68; refine (cR _ HT2.out).mono ?_; rintro e w3 ⟨rfl, hk3⟩; have HK3 := Lib.hid hk3; have d1 := cell_kept hk3 c1 id; have d2 := cell_kept hk3 c2 id; have d3 := cell_kept hk3 c3 id; have d4 := cell_kept hk3 c4 id; clear hk3)
              go_ret
              rw [HE.out]
              exact ⟨rfl, HK2.out.trans HK3.out⟩
        · have e1 : (kd == 1) = false := beq_eq_false_iff_ne.2 k1
          by_cases k2 : kd = 2
          · have e2 : (kd == 2) = true := by rw [k2]; rfl
            cases g with
            | false =>
              have HE : Hid (E = 1) := HEE.out.symm.trans (if_neg (HNO.out rfl))
              clear k1 k2
              go_wp2_with fail
              go_ret
              rw [HE.out]
              exact ⟨rfl, HK2.out⟩
            | true =>
              have hp := HGF.out.1 rfl
              by_cases hr : rn = 0
              · have zr : (rn == 0) = true := by rw [hr]; rfl
                by_cases hz0 : t0 = 0
                · have z0 : (t0 == 0) = true := by rw [hz0]; rfl
                  by_cases hz1 : s0 = 0
                  · have z1 : (s0 == 0) = true := by rw [hz1]; rfl
                    have HE : Hid (E = 0) := HEE.out.symm.trans (if_pos (HI.out.2 ⟨hp, .inr ⟨k2, hr, hz0, hz1⟩⟩))
                    clear hp hr hz0 hz1 k1 k2
                    go_wp2_with fail
                    go_ret
                    rw [HE.out]
                    exact ⟨rfl, HK2.out⟩
                  · have z1 : (s0 == 0) = false := beq_eq_false_iff_ne.2 hz1
                    have HE : Hid (E = 1) := HEE.out.symm.trans (if_neg (fun ho => by rcases (HI.out.1 ho).2 with ⟨h, _⟩ | ⟨_, _, _, h⟩ <;> first | exact hz1 h | exact k1 h))
                    clear hp hr hz0 hz1 k1 k2
                    go_wp2_with fail
                    go_ret
                    rw [HE.out]
                    exact ⟨rfl, HK2.out⟩
                · have z0 : (t0 == 0) = false := beq_eq_false_iff_ne.2 hz0
                  have HE : Hid (E = 1) := HEE.out.symm.trans (if_neg (fun ho => by rcases (HI.out.1 ho).2 with ⟨h, _⟩ | ⟨_, _, h, _⟩ <;> first | exact hz0 h | exact k1 h))
                  clear hp hr hz0 k1 k2
                  go_wp2_with fail
                  go_ret
                  rw [HE.out]
                  exact ⟨rfl, HK2.out⟩
              · have zr : (rn == 0) = false := beq_eq_false_iff_ne.2 hr
                have HE : Hid (E = 1) := HEE.out.symm.trans (if_neg (fun ho => by rcases (HI.out.1 ho).2 with ⟨h, _⟩ | ⟨_, h, _⟩ <;> first | exact hr h | exact k1 h))
                clear hp hr k1 k2
                go_wp2_with fail
                go_ret
                rw [HE.out]
                exact ⟨rfl, HK2.out⟩
          · have e2 : (kd == 2) = false := beq_eq_false_iff_ne.2 k2
            have HE : Hid (E = 1) := HEE.out.symm.trans (if_neg (fun ho => by rcases (HI.out.1 ho).2 with ⟨h, _⟩ | ⟨h, _⟩ <;> first | exact k1 h | exact k2 h))
            clear k1 k2
            go_wp2_with fail
            go_ret
            rw [HE.out]
            exact ⟨rfl, HK2.out⟩
end Go.Proofs.YthkohjijppbliaaDoor
namespace Go.Proofs.YthkohjijppbliaaDoor
open Go Go.RowKit
set_option maxRecDepth 100000 in
set_option maxHeartbeats 1000000 in
theorem eqnum_yes (A B : Option Addr) (n c c' : Nat) (xs : List Int) (w : World) (hA : Nums w A n xs) (hB : Nums w B n xs) (hn : n ≤ 17592186044416) :
    Calls Tryd.prog 63 #[.slice A n c, .slice B n c'] w fun e w' => e = .returned (.bool true) ∧ Kept (fun _ => False) w w' := by
  have HA := Lib.hid hA
  have HB := Lib.hid hB
  clear hA hB
  go_enter Tryd.func63, Tryd.ntmps63
  go_wp2_with fail
  go_loopw [5] (fun v wr => ∃ k m : Nat, k ≤ n ∧ v = .int .i64 k ∧ wr = w.drewN m) (fun v _ => n - (intOf v).toNat)
  case atStart => exact ⟨0, 0, Nat.zero_le _, rfl, rfl⟩
  case round =>
    obtain ⟨k, m, hk, rfl, rfl⟩ := hrel
    by_cases hlt : k < n
    · obtain ⟨ad, x, rfl, hr, f0⟩ := HA.out.cell hlt
      obtain ⟨bd, y, rfl, hr', g0⟩ := HB.out.cell hlt
      rw [hr] at hr'
      injection hr' with e1
      subst e1
      have f0' : (w.drewN m).cell? (ad.add k) = some (.int .i64 x) := f0
      have g0' : (w.drewN m).cell? (bd.add k) = some (.int .i64 x) := g0
      have b1 : decide (k < n) = true := decide_eq_true hlt
      have b2 : decide ((k : Int) < (n : Int)) = true := decide_eq_true (by omega)
      have t1 : (0 : Int) ≤ (k : Int) := by omega
      have t2 : (k : Int) < (n : Int) := by omega
      clear hr
      go_wp2_with fail
      try go_quiet (fail)
      try go_wp2_with fail
      go_roundw
      case rel => first | exact ⟨k + 1, _, by omega, by go_num, rfl⟩ | exact ⟨k + 1, m, by omega, by go_num, rfl⟩
      case measure => simp [intOf] <;> omega
    · obtain rfl : k = n := by omega
      have b1 : decide (k < k) = false := decide_eq_false (by omega)
      have b2 : decide ((k : Int) < (k : Int)) = false := decide_eq_false (by omega)
      go_wp2_with fail
      go_ret
      exact ⟨rfl, (Kept.refl _ w).drewN m⟩
set_option maxRecDepth 100000 in
set_option maxHeartbeats 4000000 in
theorem eqop_yes (b b' : OpS) (w : World) (hb : OpOk w b) (hb' : OpOk w b') (ho : b.o = b'.o) :
    Calls Tryd.prog 35 #[opV b, opV b'] w fun e w' => e = .returned (.bool true) ∧ Kept (fun _ => False) w w' := by
  obtain ⟨o, A, n, c⟩ := b
  obtain ⟨o', A', n', c'⟩ := b'
  simp only at ho
  subst ho
  have hnn : n = n' := hb.seen.1.symm.trans hb'.seen.1
  subst hnn
  have hK1 : Kept (fun _ => False) (w.alloc (opO ⟨o, A, n, c⟩)) ((w.alloc (opO ⟨o, A, n, c⟩)).alloc (opO ⟨o, A', n, c'⟩)) := (Kept.refl _ _).alloc _
  have hK0 : Kept (fun _ => False) w ((w.alloc (opO ⟨o, A, n, c⟩)).alloc (opO ⟨o, A', n, c'⟩)) := ((Kept.refl _ w).alloc _).alloc _
  have HO : Hid (Op9 ((w.alloc (opO ⟨o, A, n, c⟩)).alloc (opO ⟨o, A', n, c'⟩)) ⟨w.heap.size, 0, none⟩ ⟨o, A, n, c⟩) := op9_new.kept hK1 id
  have HO' : Hid (Op9 ((w.alloc (opO ⟨o, A, n, c⟩)).alloc (opO ⟨o, A', n, c'⟩)) ⟨w.heap.size + 1, 0, none⟩ ⟨o, A', n, c'⟩) := by
    have := op9_new (w := w.alloc (opO ⟨o, A, n, c⟩)) (b := ⟨o, A', n, c'⟩)
    rwa [show (w.alloc (opO ⟨o, A, n, c⟩)).heap.size = w.heap.size + 1 by simp] at this
  have cE := fun W (hk : Kept (fun _ => False) w W) => eqnum_yes A A' n c c' o.seen W (hb.seen.kept hk (fun _ _ => id)) (hb'.seen.kept hk (fun _ _ => id)) hb.n
  have HK := Lib.hid hK0
  clear hK0 hK1 hb hb'
  unfold opV
  go_enter Tryd.func35, Tryd.ntmps35
  simp only [opO] at *
  obtain ⟨c0, c1, c2, c3, c4, c5, c6, c7, c8⟩ := HO.out.cs
  obtain ⟨d0, d1, d2, d3, d4, d5, d6, d7, d8⟩ := HO'.out.cs
  simp only at c0 c1 c2 c3 c4 c5 c6 c7 c8 d0 d1 d2 d3 d4 d5 d6 d7 d8
  go_wp2_with (go_at_call 63; refine (cE _ HK.out).mono ?_; rintro e w3 ⟨rfl, hk3⟩; have HK3 := Lib.hid (HK.out.trans hk3); clear hk3)
  go_ret
  exact ⟨rfl, HK3.out⟩
abbrev zOp : Array Value := #[.int .i64 0, .int .i64 0, .int .i64 0, .int .i64 0, .int .i64 0, .int .i64 0, .int .i64 0, .int .i64 0, .slice none 0 0]
theorem zcs {w : World} {rb : Nat} (h : w.heap[rb]? = some (.cells zOp 42 (0, 0))) : (w.cell? ⟨rb, 0, none⟩ = some (.int .i64 0) ∧ w.cell? ⟨rb, 1, none⟩ = some (.int .i64 0) ∧ w.cell? ⟨rb, 2, none⟩ = some (.int .i64 0) ∧ w.cell? ⟨rb, 3, none⟩ = some (.int .i64 0) ∧ w.cell? ⟨rb, 4, none⟩ = some (.int .i64 0) ∧
    w.cell? ⟨rb, 5, none⟩ = some (.int .i64 0) ∧ w.cell? ⟨rb, 6, none⟩ = some (.int .i64 0) ∧ w.cell? ⟨rb, 7, none⟩ = some (.int .i64 0) ∧ w.cell? ⟨rb, 8, none⟩ = some (.slice none 0 0)) ∧
    (w.frozen? ⟨rb, 0, none⟩ = false ∧ w.frozen? ⟨rb, 1, none⟩ = false ∧ w.frozen? ⟨rb, 2, none⟩ = false ∧ w.frozen? ⟨rb, 3, none⟩ = false ∧ w.frozen? ⟨rb, 4, none⟩ = false ∧ w.frozen? ⟨rb, 5, none⟩ = false ∧ w.frozen? ⟨rb, 6, none⟩ = false ∧ w.frozen? ⟨rb, 7, none⟩ = false ∧ w.frozen? ⟨rb, 8, none⟩ = false) :=
  ⟨⟨cell_of_row _ _ _ _ _ _ h, cell_of_row _ _ _ _ _ _ h, cell_of_row _ _ _ _ _ _ h, cell_of_row _ _ _ _ _ _ h, cell_of_row _ _ _ _ _ _ h, cell_of_row _ _ _ _ _ _ h, cell_of_row _ _ _ _ _ _ h, cell_of_row _ _ _ _ _ _ h, cell_of_row _ _ _ _ _ _ h⟩, frozen_of h, frozen_of h, frozen_of h, frozen_of h, frozen_of h, frozen_of h, frozen_of h, frozen_of h, frozen_of h⟩
/-- But for a call's own nothing has turned. -/
abbrev Own (base : Nat) : Nat → Prop := fun k => base ≤ k
/-- What the reference's Take holds while it reads. -/
structure RkS (W0 w : World) (rb ob : Nat) (cs : Array Value) : Prop where
  r : w.heap[rb]? = some (.cells zOp 42 (0, 0))
  o : w.heap[ob]? = some (.cells cs 42 (0, 0))
  kept : Kept (Own rb) W0 w
  ro : rb < ob
theorem rk_new (w : World) (cs : Array Value) : RkS w ((w.alloc (.cells zOp 42)).alloc (.cells cs 42)) w.heap.size (w.heap.size + 1) cs := by
  have s1 : (w.alloc (.cells zOp 42)).heap.size = w.heap.size + 1 := by simp
  refine ⟨?_, ?_, ((Kept.refl _ w).alloc _).alloc _, by omega⟩
  · rw [Below.heap_alloc _ _ _ (by omega)]
    exact heap_alloc_new w _
  · rw [← s1]
    exact heap_alloc_new _ _
theorem one_cells {W : World} {a : Value} {ty : TypeId} : ∀ j u, ([a] : List Value)[j]? = some u → (W.alloc (.cells #[a] ty)).cell? ((⟨W.heap.size, 0, none⟩ : Addr).add j) = some u := by
  intro j u hj
  rw [addr_add, cell_of_row _ _ _ _ _ _ (heap_alloc_new W _)]
  match j, hj with
  | 0, hj => simpa using hj
theorem Nums.one {w : World} {A : Option Addr} {n : Nat} {l : List Int} (h : Nums w A n l) {k : Nat} (hk : k < n) : ∃ ad x, A = some ad ∧ l[k]? = some x ∧ w.cell? (ad.add k) = some (.int .i64 x) := by
  have hl : k < l.length := by rw [h.1]; exact hk
  obtain ⟨ad, e, hc⟩ := h.2 k l[k] (List.getElem?_eq_getElem hl)
  exact ⟨ad, l[k], e, List.getElem?_eq_getElem hl, hc⟩
theorem one_int {k : IntKind} {a : Int} : ∀ u ∈ ([Value.int k a] : List Value), u.oneCell' = true := by
  intro u hu
  simp only [List.mem_cons, List.not_mem_nil, or_false] at hu
  rcases hu with rfl
  rfl

theorem ba_len (s : ByteArray) : s.data.toList.length = s.size := by rw [Array.length_toList]; rfl
/-- What is owned is kept. -/
theorem ownsRow_kept {S : Nat → Prop} {w w' : World} {B : Nat} {e : TypeId} {sz n : Nat} {v : Value} {xs : List Value} (h : w.ownsRow B e sz v n xs) (hk : Kept S w w') (hs : ∀ g, v.ownBlock = some g → ¬ S g) : w'.ownsRow B e sz v n xs := by
  refine ⟨h.1, ?_⟩
  rcases h.2 with hn | ⟨g, cap, cur, rfl, hb, hgg, rest⟩
  · exact .inl hn
  · exact .inr ⟨g, cap, cur, rfl, hb, (hk.block g (Array.getElem?_eq_some_iff.1 hgg).1 (hs g rfl)).trans hgg, rest⟩
theorem info_int : (Tryd.prog.info? 3).map (fun i => (i.zero, i.size, i.bytes)) = some (some (.int .i64 0), 1, 8) := by kernel_rfl
/-- Append of one number that the call has laid, in a region that draws. -/
theorem step_append_one {w : World} {ops : Array Oper} {o : Oper} {a : Act} {K : Act → World → Prop} {Q : Exit → Act → World → Prop} {E : Prop} (hgd : o.guard = none) (s x : Operand) (ho : o.op = .call { callee := .builtin .append, args := #[s, x], argTypes := #[40, 40] })
    (base : Nat) (v : Value) (n : Nat) (xs : List Value) (hs : a.eval s = v) (hown : w.ownsRow base 3 1 v n xs) (ad : Addr) (p : Int) (hx : a.eval x = .slice (some ad) 1 1)
    (hnews : ∀ j u, ([Value.int .i64 p] : List Value)[j]? = some u → w.cell? (ad.add j) = some u) (hb : n + 1 ≤ 1000000) (hbase : base ≤ w.heap.size)
    (h : ∀ v' w', w'.ownsRow base 3 1 v' (n + 1) (xs ++ [.int .i64 p]) → w.grownBy w' v.ownBlock → K (a.put o.dst v') w') :
    if Region.wanted o (yielded ops a.tmps) = true then Oper.wp Tryd.prog o a w K Q else E := by
  have hw : Region.wanted o (yielded ops a.tmps) = true := by simp [Region.wanted, hgd]
  rw [if_pos hw]
  obtain ⟨i0, hi, hz0, hz1, hz2⟩ := info_parts info_int
  obtain ⟨v', w', hrun, h2, h3, h4, h5⟩ := run_append_own_at (P := Tryd.prog) w base 40 o.type 3 i0 (.int .i64 0) 1 8 Tryd.underlying40 hi hz0 hz1 hz2 rfl (by decide) v n xs hown ad 1 1 [.int .i64 p] rfl hnews one_int (by unfold maxLen; omega) (by omega) hbase
  unfold Oper.wp
  simp [execOp, ho, resolve, invoke, builtin, hs, hx, hrun, Result.andThen]
  exact h v' w' h2 h3
theorem own_form {w : World} {B n : Nat} {v : Value} {xs : List Value} (h : w.ownsRow B 3 1 v (n + 1) xs) : ∃ g c, v = .slice (some ⟨g, 0, none⟩) (n + 1) c := by
  rcases h.2 with ⟨_, hn⟩ | ⟨g, cap, cur, rfl, _⟩
  · omega
  · exact ⟨g, cap, rfl⟩
theorem own_nums {w : World} {B n : Nat} {v : Value} {xs : List Int} (h : w.ownsRow B 3 1 v (n + 1) (xs.map (.int .i64))) (hl : xs.length = n + 1) : ∃ g c, v = .slice (some ⟨g, 0, none⟩) (n + 1) c ∧ B ≤ g ∧ Nums w (some ⟨g, 0, none⟩) (n + 1) xs ∧ n + 1 ≤ c := by
  have hcells : ∀ g, v.ownBlock = some g → ∀ j u, (xs.map (Value.int .i64))[j]? = some u → w.cell? ((⟨g, 0, none⟩ : Addr).add j) = some u := fun g hg => h.cells hg
  rcases h.2 with ⟨_, hn⟩ | ⟨g, cap, cur, rfl, hb, _, hc, _⟩
  · omega
  · exact ⟨g, cap, rfl, hb, ⟨hl, fun j x hj => ⟨_, rfl, hcells g rfl j _ (by rw [List.getElem?_map, hj]; rfl)⟩⟩, hc⟩
theorem nine {w : World} {g : Nat} {a0 a1 a2 a3 a4 a5 a6 a7 a8 : Value} {t : TypeId} {f : Nat × Nat} (h : w.heap[g]? = some (.cells #[a0, a1, a2, a3, a4, a5, a6, a7, a8] t f)) (u0 u1 u2 u3 u4 u5 u6 u7 u8 : Value) :
    (((((((((w.setCell ⟨g, 0, none⟩ u0).setCell ⟨g, 1, none⟩ u1).setCell ⟨g, 2, none⟩ u2).setCell ⟨g, 3, none⟩ u3).setCell ⟨g, 4, none⟩ u4).setCell ⟨g, 5, none⟩ u5).setCell ⟨g, 6, none⟩ u6).setCell ⟨g, 7, none⟩ u7).setCell ⟨g, 8, none⟩ u8).heap[g]? = some (.cells #[u0, u1, u2, u3, u4, u5, u6, u7, u8] t f) := by
  have h0 : (w.setCell ⟨g, 0, none⟩ u0).heap[g]? = some (.cells #[u0, a1, a2, a3, a4, a5, a6, a7, a8] t f) := heap_set h u0
  have h1 : ((w.setCell ⟨g, 0, none⟩ u0).setCell ⟨g, 1, none⟩ u1).heap[g]? = some (.cells #[u0, u1, a2, a3, a4, a5, a6, a7, a8] t f) := heap_set h0 u1
  have h2 : (((w.setCell ⟨g, 0, none⟩ u0).setCell ⟨g, 1, none⟩ u1).setCell ⟨g, 2, none⟩ u2).heap[g]? = some (.cells #[u0, u1, u2, a3, a4, a5, a6, a7, a8] t f) := heap_set h1 u2
  have h3 : ((((w.setCell ⟨g, 0, none⟩ u0).setCell ⟨g, 1, none⟩ u1).setCell ⟨g, 2, none⟩ u2).setCell ⟨g, 3, none⟩ u3).heap[g]? = some (.cells #[u0, u1, u2, u3, a4, a5, a6, a7, a8] t f) := heap_set h2 u3
  have h4 : (((((w.setCell ⟨g, 0, none⟩ u0).setCell ⟨g, 1, none⟩ u1).setCell ⟨g, 2, none⟩ u2).setCell ⟨g, 3, none⟩ u3).setCell ⟨g, 4, none⟩ u4).heap[g]? = some (.cells #[u0, u1, u2, u3, u4, a5, a6, a7, a8] t f) := heap_set h3 u4
  have h5 : ((((((w.setCell ⟨g, 0, none⟩ u0).setCell ⟨g, 1, none⟩ u1).setCell ⟨g, 2, none⟩ u2).setCell ⟨g, 3, none⟩ u3).setCell ⟨g, 4, none⟩ u4).setCell ⟨g, 5, none⟩ u5).heap[g]? = some (.cells #[u0, u1, u2, u3, u4, u5, a6, a7, a8] t f) := heap_set h4 u5
  have h6 : (((((((w.setCell ⟨g, 0, none⟩ u0).setCell ⟨g, 1, none⟩ u1).setCell ⟨g, 2, none⟩ u2).setCell ⟨g, 3, none⟩ u3).setCell ⟨g, 4, none⟩ u4).setCell ⟨g, 5, none⟩ u5).setCell ⟨g, 6, none⟩ u6).heap[g]? = some (.cells #[u0, u1, u2, u3, u4, u5, u6, a7, a8] t f) := heap_set h5 u6
  have h7 : ((((((((w.setCell ⟨g, 0, none⟩ u0).setCell ⟨g, 1, none⟩ u1).setCell ⟨g, 2, none⟩ u2).setCell ⟨g, 3, none⟩ u3).setCell ⟨g, 4, none⟩ u4).setCell ⟨g, 5, none⟩ u5).setCell ⟨g, 6, none⟩ u6).setCell ⟨g, 7, none⟩ u7).heap[g]? = some (.cells #[u0, u1, u2, u3, u4, u5, u6, u7, a8] t f) := heap_set h6 u7
  have h8 : (((((((((w.setCell ⟨g, 0, none⟩ u0).setCell ⟨g, 1, none⟩ u1).setCell ⟨g, 2, none⟩ u2).setCell ⟨g, 3, none⟩ u3).setCell ⟨g, 4, none⟩ u4).setCell ⟨g, 5, none⟩ u5).setCell ⟨g, 6, none⟩ u6).setCell ⟨g, 7, none⟩ u7).setCell ⟨g, 8, none⟩ u8).heap[g]? = some (.cells #[u0, u1, u2, u3, u4, u5, u6, u7, u8] t f) := heap_set h7 u8
  exact h8
theorem Kept.nine {S : Nat → Prop} {w w' : World} {g : Nat} (h : Kept S w w') (hg : S g) (u0 u1 u2 u3 u4 u5 u6 u7 u8 : Value) : Kept S w (((((((((w'.setCell ⟨g, 0, none⟩ u0).setCell ⟨g, 1, none⟩ u1).setCell ⟨g, 2, none⟩ u2).setCell ⟨g, 3, none⟩ u3).setCell ⟨g, 4, none⟩ u4).setCell ⟨g, 5, none⟩ u5).setCell ⟨g, 6, none⟩ u6).setCell ⟨g, 7, none⟩ u7).setCell ⟨g, 8, none⟩ u8) :=
  ((((((((h.setCell (p := ⟨g, 0, none⟩) hg _).setCell (p := ⟨g, 1, none⟩) hg _).setCell (p := ⟨g, 2, none⟩) hg _).setCell (p := ⟨g, 3, none⟩) hg _).setCell (p := ⟨g, 4, none⟩) hg _).setCell (p := ⟨g, 5, none⟩) hg _).setCell (p := ⟨g, 6, none⟩) hg _).setCell (p := ⟨g, 7, none⟩) hg _).setCell (p := ⟨g, 8, none⟩) hg _
theorem Kept.own {base : Nat} {a b c : World} {row : Option Nat} (h : Kept (Own base) a b) (hg : b.grownBy c row) (hrow : ∀ k, row = some k → base ≤ k) : Kept (Own base) a c :=
  h.trans ⟨hg.os, hg.tape, hg.output, hg.size, fun k hk hs => hg.block k hk (fun e => hs (hrow k e.symm))⟩
abbrev cOp (d0 d1 d2 d3 d4 d5 d6 d7 : Int) (v : Value) : Array Value := #[.int .i64 d0, .int .i64 d1, .int .i64 d2, .int .i64 d3, .int .i64 d4, .int .i64 d5, .int .i64 d6, .int .i64 d7, v]
theorem RkS.set {W0 w : World} {rb ob : Nat} {cs : Array Value} (h : RkS W0 w rb ob cs) (i : Nat) (u : Value) : RkS W0 (w.setCell ⟨ob, i, none⟩ u) rb ob (cs.setIfInBounds i u) := by
  have h3 := h.ro
  exact ⟨(heap_far (by omega) u).trans h.r, heap_set h.o u, h.kept.setCell (p := ⟨ob, i, none⟩) (by show rb ≤ ob; omega) u, h3⟩
theorem RkS.drew {W0 w : World} {rb ob : Nat} {cs : Array Value} (h : RkS W0 w rb ob cs) : RkS W0 w.drew rb ob cs := ⟨h.r, h.o, h.kept.drew, h.ro⟩
theorem RkS.grow {W0 w w' : World} {rb ob : Nat} {cs : Array Value} {row : Option Nat} (h : RkS W0 w rb ob cs) (hg : w.grownBy w' row) (hr : ∀ k, row = some k → ob < k) : RkS W0 w' rb ob cs := by
  have h3 := h.ro
  have hb : ∀ k, k < w.heap.size → k ≤ ob → w'.heap[k]? = w.heap[k]? := fun k hk hko => hg.block k hk (fun e => by have := hr k e.symm; omega)
  exact ⟨(hb rb (heap_lt h.r) (by omega)).trans h.r, (hb ob (heap_lt h.o) (by omega)).trans h.o, h.kept.own hg (fun k e => by have := hr k e; omega), h3⟩
theorem RkS.alloc {W0 w : World} {rb ob : Nat} {cs : Array Value} (h : RkS W0 w rb ob cs) (o : Obj) : RkS W0 (w.alloc o) rb ob cs :=
  ⟨(Below.heap_alloc _ _ _ (heap_lt h.r)).trans h.r, (Below.heap_alloc _ _ _ (heap_lt h.o)).trans h.o, h.kept.alloc o, h.ro⟩
theorem RkS.keep {W0 w w' : World} {rb ob : Nat} {cs : Array Value} (h : RkS W0 w rb ob cs) (hk : Kept (fun _ => False) w w') : RkS W0 w' rb ob cs :=
  ⟨(hk.block _ (heap_lt h.r) id).trans h.r, (hk.block _ (heap_lt h.o) id).trans h.o, h.kept.trans hk.any, h.ro⟩
theorem RkS.cell {W0 w : World} {rb ob : Nat} {cs : Array Value} (h : RkS W0 w rb ob cs) (i : Nat) : w.cell? ⟨ob, i, none⟩ = cs[i]? := cell_of_row w ob i _ _ _ h.o
theorem RkS.c8 {W0 w : World} {rb ob : Nat} {d0 d1 d2 d3 d4 d5 d6 d7 : Int} {v : Value} (h : RkS W0 w rb ob (cOp d0 d1 d2 d3 d4 d5 d6 d7 v)) : w.cell? ⟨ob, 8, none⟩ = some v ∧ w.frozen? ⟨ob, 8, none⟩ = false := ⟨h.cell 8, frozen_of h.o⟩
theorem RkS.cs {W0 w : World} {rb ob : Nat} {d0 d1 d2 d3 d4 d5 d6 d7 : Int} {v : Value} (h : RkS W0 w rb ob (cOp d0 d1 d2 d3 d4 d5 d6 d7 v)) : w.cell? ⟨ob, 0, none⟩ = some (.int .i64 d0) ∧ w.cell? ⟨ob, 1, none⟩ = some (.int .i64 d1) ∧ w.cell? ⟨ob, 2, none⟩ = some (.int .i64 d2) ∧
    w.cell? ⟨ob, 3, none⟩ = some (.int .i64 d3) ∧ w.cell? ⟨ob, 4, none⟩ = some (.int .i64 d4) ∧ w.cell? ⟨ob, 5, none⟩ = some (.int .i64 d5) ∧ w.cell? ⟨ob, 6, none⟩ = some (.int .i64 d6) ∧ w.cell? ⟨ob, 7, none⟩ = some (.int .i64 d7) ∧ w.cell? ⟨ob, 8, none⟩ = some v :=
  ⟨h.cell 0, h.cell 1, h.cell 2, h.cell 3, h.cell 4, h.cell 5, h.cell 6, h.cell 7, h.cell 8⟩
end Go.Proofs.YthkohjijppbliaaDoor
