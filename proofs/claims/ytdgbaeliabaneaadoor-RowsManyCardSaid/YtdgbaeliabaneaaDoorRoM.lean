/-
  A TREE OF ROWS: a row of it, and what stands ahead of one.
-/
import Derived.Test.YtdgbaeliabaneaaDoorRoL
import Derived.BigQuiet
set_option linter.unusedVariables false
namespace Go.Proofs.YtdgbaeliabaneaaDoor
open Go Go.RowKit

set_option maxRecDepth 100000 in
theorem row_no (T : Nat) (L : List ByteArray) (i : Int) (w : World) (h : Tree w T L) (hi : i < 0 ∨ (L.length : Int) ≤ i) : Calls Tryd.prog 18 #[.pointer (some ⟨T, 0, none⟩), .int .i64 i] w fun e w' => e = .returned (.tuple #[.string ⟨#[]⟩, .int .i64 3]) ∧ Kept (fun _ => False) w w' := by
  have cL := len_any T L w h
  clear h
  by_cases h0 : i < 0
  · have d1 : decide (i < 0) = true := decide_eq_true h0
    clear cL hi
    go_enter Tryd.func18, Tryd.ntmps18
    go_wp2
    refine bodyPost_ret (results_tmp2 rfl _ _ _) rfl ⟨rfl, ?_⟩
    exact Kept.refl _ w
  · have d1 : decide (i < 0) = false := decide_eq_false h0
    have h1 : (L.length : Int) ≤ i := by omega
    have d2 : decide ((L.length : Int) ≤ i) = true := decide_eq_true h1
    clear hi
    go_enter Tryd.func18, Tryd.ntmps18
    go_wp2_with (go_at_call 21; refine cL.mono ?_; rintro e w1 ⟨rfl, hk1⟩; have HK1 := Lib.hid hk1; clear cL hk1)
    refine bodyPost_ret (results_tmp2 rfl _ _ _) rfl ⟨rfl, ?_⟩
    exact HK1.out
set_option maxRecDepth 100000 in
set_option maxHeartbeats 2000000 in
theorem row_yes (T : Nat) (L : List ByteArray) (i : Nat) (s : ByteArray) (w : World) (h : Tree w T L) (hi : L[i]? = some s) : Calls Tryd.prog 18 #[.pointer (some ⟨T, 0, none⟩), .int .i64 i] w fun e w' => e = .returned (.tuple #[.string s, .int .i64 0]) ∧ Kept (fun _ => False) w w' := by
  have cL := len_any T L w h
  have hil : i < L.length := by
    rcases Nat.lt_or_ge i L.length with h1 | h1
    · exact h1
    · rw [List.getElem?_eq_none h1] at hi; cases hi
  have hO := h.ok
  have hs : s.size ≤ 1000000 := (hO.sm s (List.mem_of_getElem? hi)).1
  have hz := hO.si
  obtain ⟨v, h1, t, h2, rfl, _⟩ := h.at_
  obtain ⟨p, rfl⟩ := h2.ptr
  have HT := Lib.hid (treeX h1)
  have HF : Hid (∀ W, Kept (fun _ => False) w W → Calls Tryd.prog 38 #[.pointer p, .int .i64 i] W fun e w' => Found W w' t i e) := fun W hk => find_any t _ i X0 W (h2.keptF hk) (by rw [t.size_rows]; omega) (by rw [Tr.ok_rows]; exact hO)
  have d1 : decide ((i : Int) < 0) = false := decide_eq_false (by omega)
  have d2 : decide ((t.rows.length : Int) ≤ (i : Int)) = false := decide_eq_false (by omega)
  have d3 : decide (t.rows.length ≤ i) = false := decide_eq_false (by omega)
  have HI := Lib.hid hi
  obtain ⟨n1, hn1⟩ : ∃ n : Nat, byL (t.rows.take i) = n := ⟨_, rfl⟩
  obtain ⟨n2, hn2⟩ : ∃ n : Nat, ruL (t.rows.take i) = n := ⟨_, rfl⟩
  unfold Found at HF
  rw [hn1, hn2] at HF
  have hCL := fun W => clone_any s W hs
  clear h1 h2 hO h hi hil hn1 hn2 hs hz
  go_enter Tryd.func18, Tryd.ntmps18
  go_wp2_with (first
    | (go_at_call 21; refine cL.mono ?_; rintro e w1 ⟨rfl, hk1⟩; have HK1 := Lib.hid hk1; clear cL hk1; have f0 := cell_kept HK1.out HT.out id; have cF := HF.out w1 HK1.out)
    | (go_at_call 38; refine cF.mono ?_; rintro e w2 ⟨p2, rfl, ⟨q, rfl⟩, hp, hk2⟩; obtain ⟨b1, hb1, hc1⟩ := hp s HI.out; injection hb1 with hb1; subst hb1; have HK2 := Lib.hid (HK1.out.trans hk2); have HKA : Hid (Kept (fun _ => False) w (w2.alloc (.cells #[.int .i64 (i : Nat), .int .i64 (n1 : Nat), .int .i64 (n2 : Nat)] 69))) := HK2.out.alloc _; have g0 : (w2.alloc (.cells #[.int .i64 (i : Nat), .int .i64 (n1 : Nat), .int .i64 (n2 : Nat)] 69)).cell? ⟨b1, 0, none⟩ = some (.string s) := cell_kept ((Kept.refl (fun _ => False) w2).alloc _) hc1 id; clear cF hk2 hc1 hp; have cC := hCL (w2.alloc (.cells #[.int .i64 (i : Nat), .int .i64 (n1 : Nat), .int .i64 (n2 : Nat)] 69)))
    | (go_at_call 37; refine cC.mono ?_; rintro e w3 ⟨rfl, hk3⟩; have HK3 := Lib.hid (HKA.out.trans hk3); clear cC hk3))
  refine bodyPost_ret (results_tmp2 rfl _ _ _) rfl ⟨rfl, ?_⟩
  exact HK3.out
set_option maxRecDepth 100000 in
theorem ahead_no (T : Nat) (L : List ByteArray) (i : Int) (w : World) (h : Tree w T L) (hi : i < 0 ∨ (L.length : Int) < i) : Calls Tryd.prog 19 #[.pointer (some ⟨T, 0, none⟩), .int .i64 i] w fun e w' => e = .returned (.tuple #[.int .i64 0, .int .i64 0, .int .i64 3]) ∧ Kept (fun _ => False) w w' := by
  have cL := len_any T L w h
  clear h
  by_cases h0 : i < 0
  · have d1 : decide (i < 0) = true := decide_eq_true h0
    clear cL hi
    go_enter Tryd.func19, Tryd.ntmps19
    go_wp2
    refine bodyPost_ret (results_tmp3 rfl _ _ _) rfl ⟨rfl, ?_⟩
    exact Kept.refl _ w
  · have d1 : decide (i < 0) = false := decide_eq_false h0
    have h1 : (L.length : Int) < i := by omega
    have d2 : decide ((L.length : Int) < i) = true := decide_eq_true h1
    clear hi
    go_enter Tryd.func19, Tryd.ntmps19
    go_wp2_with (go_at_call 21; refine cL.mono ?_; rintro e w1 ⟨rfl, hk1⟩; have HK1 := Lib.hid hk1; clear cL hk1)
    refine bodyPost_ret (results_tmp3 rfl _ _ _) rfl ⟨rfl, ?_⟩
    exact HK1.out
set_option maxRecDepth 100000 in
set_option maxHeartbeats 2000000 in
theorem ahead_yes (T : Nat) (L : List ByteArray) (i : Nat) (w : World) (h : Tree w T L) (hi : i ≤ L.length) : Calls Tryd.prog 19 #[.pointer (some ⟨T, 0, none⟩), .int .i64 i] w fun e w' => e = .returned (.tuple #[.int .i64 (byL (L.take i) : Nat), .int .i64 (ruL (L.take i) : Nat), .int .i64 0]) ∧ Kept (fun _ => False) w w' := by
  have cL := len_any T L w h
  have hO := h.ok
  have hz := hO.si
  obtain ⟨v, h1, t, h2, rfl, _⟩ := h.at_
  obtain ⟨p, rfl⟩ := h2.ptr
  have HT := Lib.hid (treeX h1)
  have HF : Hid (∀ W, Kept (fun _ => False) w W → Calls Tryd.prog 38 #[.pointer p, .int .i64 i] W fun e w' => Found W w' t i e) := fun W hk => find_any t _ i X0 W (h2.keptF hk) (by rw [t.size_rows]; omega) (by rw [Tr.ok_rows]; exact hO)
  have d1 : decide ((i : Int) < 0) = false := decide_eq_false (by omega)
  have d2 : decide ((t.rows.length : Int) < (i : Int)) = false := decide_eq_false (by omega)
  have d3 : decide (t.rows.length < i) = false := decide_eq_false (by omega)
  obtain ⟨n1, hn1⟩ : ∃ n : Nat, byL (t.rows.take i) = n := ⟨_, rfl⟩
  obtain ⟨n2, hn2⟩ : ∃ n : Nat, ruL (t.rows.take i) = n := ⟨_, rfl⟩
  unfold Found at HF
  rw [hn1, hn2] at HF ⊢
  clear h1 h2 hO h hi hn1 hn2 hz
  go_enter Tryd.func19, Tryd.ntmps19
  go_wp2_with (first
    | (go_at_call 21; refine cL.mono ?_; rintro e w1 ⟨rfl, hk1⟩; have HK1 := Lib.hid hk1; clear cL hk1; have f0 := cell_kept HK1.out HT.out id; have cF := HF.out w1 HK1.out)
    | (go_at_call 38; refine cF.mono ?_; rintro e w2 ⟨p2, rfl, ⟨q, rfl⟩, hp, hk2⟩; have HK2 := Lib.hid (HK1.out.trans hk2); have HKA : Hid (Kept (fun _ => False) w (w2.alloc (.cells #[.int .i64 (i : Nat), .int .i64 (n1 : Nat), .int .i64 (n2 : Nat)] 69))) := HK2.out.alloc _; clear cF hk2 hp))
  go_quiet (fail)
  go_wp2_with fail
  refine bodyPost_ret (results_tmp3 rfl _ _ _) rfl ⟨rfl, ?_⟩
  exact HKA.out.drewN _
end Go.Proofs.YtdgbaeliabaneaaDoor
