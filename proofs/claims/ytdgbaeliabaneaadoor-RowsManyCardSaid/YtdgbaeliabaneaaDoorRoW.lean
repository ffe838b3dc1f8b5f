/-
  THE LAW's STEP: Splice whatever is asked; rows appended; one more.
-/
import Derived.Test.YtdgbaeliabaneaaDoorRoV
import Derived.Deep.AppendSrc
set_option linter.unusedVariables false
namespace Go.Proofs.YtdgbaeliabaneaaDoor
open Go Go.RowKit

theorem str_ones {L : List ByteArray} : ∀ u ∈ L.map Value.string, u.oneCell' = true := by
  intro u hu
  obtain ⟨s, _, rfl⟩ := List.mem_map.1 hu
  rfl
set_option maxRecDepth 100000 in
/-- Append of texts, wherever they lie. -/
theorem run_append_strs (w : World) (base : Nat) (ty : TypeId) (v : Value) (n : Nat) (xs : List Value) (hown : w.ownsRow base 9 1 v n xs) (A : Option Addr) (m c : Nat) (L : List ByteArray) (hL : Strs w A m L) (hb : n + m ≤ 1000000) (hbase : base ≤ w.heap.size) :
    ∃ v' w', (Builtin.append_ #[22, 22] ty #[v, .slice A m c]).run Tryd.prog w = .ok v' w' ∧ w'.ownsRow base 9 1 v' (n + m) (xs ++ L.map .string) ∧ w.grownBy w' v.ownBlock := by
  obtain ⟨i0, hi, hz0, hz1, hz2⟩ := info_parts info_str
  cases A with
  | some ad =>
    obtain ⟨v', w', h1, h2, h3, _, _⟩ := run_append_own_at (P := Tryd.prog) w base 22 ty 9 i0 (.string ⟨#[]⟩) 1 16 Tryd.underlying22 hi hz0 hz1 hz2 rfl (by decide) v n xs hown ad m c (L.map .string) (by rw [List.length_map, hL.1]; omega) (by
      intro j u hj
      rw [List.getElem?_map] at hj
      cases hs : L[j]? with
      | none => rw [hs] at hj; cases hj
      | some s =>
        rw [hs] at hj
        obtain ⟨ad', e, hc, _⟩ := hL.2 j s hs
        cases e
        simp only [Option.map_some, Option.some.injEq] at hj
        rw [← hj]; exact hc) str_ones (by unfold maxLen; omega) (by omega) hbase
    exact ⟨v', w', h1, h2, h3⟩
  | none =>
    have hm : m = 0 := by
      rw [← hL.1]
      cases L with
      | nil => rfl
      | cons s L => obtain ⟨ad, e, _⟩ := hL.2 0 s rfl; cases e
    subst hm
    obtain rfl : L = [] := List.length_eq_zero_iff.1 hL.1
    have hg : w.grownBy w v.ownBlock := ⟨rfl, rfl, rfl, Nat.le_refl _, fun _ _ _ => rfl⟩
    refine ⟨v, w, ?_, by rw [List.map_nil, List.append_nil, Nat.add_zero]; exact hown, hg⟩
    rcases hown.2 with ⟨rfl, rfl⟩ | ⟨g, cap, cur, rfl, _, _, hcap, _⟩
    · simp [Builtin.append_, run_underlying Tryd.underlying22, sizeOf, typeInfo, hi, Builtin.lenOf, Result.andThen, run_firstCells_none]
    · have hr := run_append_room_src (P := Tryd.prog) w 22 22 ty 9 i0 Tryd.underlying22 hi g 0 n cap (.slice none 0 c) 0 [] (Src.ofNil w Tryd.underlying22 c) (by omega) (fun j hj => absurd hj (Nat.not_lt_zero _)) (fun j hj => absurd hj (Nat.not_lt_zero _))
      simpa [World.setCells] using hr
theorem step_append_strs {w : World} {ops : Array Oper} {o : Oper} {a : Act} {K : Act → World → Prop} {Q : Exit → Act → World → Prop} {E : Prop} (hgd : o.guard = none) (s x : Operand) (ho : o.op = .call { callee := .builtin .append, args := #[s, x], argTypes := #[22, 22] })
    (base : Nat) (v : Value) (n : Nat) (xs : List Value) (hs : a.eval s = v) (hown : w.ownsRow base 9 1 v n xs) (A : Option Addr) (m c : Nat) (L : List ByteArray) (hx : a.eval x = .slice A m c) (hL : Strs w A m L) (hb : n + m ≤ 1000000) (hbase : base ≤ w.heap.size)
    (h : ∀ v' w', w'.ownsRow base 9 1 v' (n + m) (xs ++ L.map .string) → w.grownBy w' v.ownBlock → K (a.put o.dst v') w') :
    if Region.wanted o (yielded ops a.tmps) = true then Oper.wp Tryd.prog o a w K Q else E := by
  have hw : Region.wanted o (yielded ops a.tmps) = true := by simp [Region.wanted, hgd]
  rw [if_pos hw]
  obtain ⟨v', w', hrun, h2, h3⟩ := run_append_strs w base o.type v n xs hown A m c L hL hb hbase
  unfold Oper.wp
  simp [execOp, ho, resolve, invoke, builtin, hs, hx, hrun, Result.andThen]
  exact h v' w' h2 h3
/-- What Splice tells, and what the rows are then. -/
structure SpCase (L : List ByteArray) (I N : Int) (l : List ByteArray) (F : Int) (L' : List ByteArray) : Prop where
  cs : (F = 3 ∧ ¬ ((0 ≤ I ∧ I ≤ L.length) ∧ 0 ≤ N ∧ N ≤ L.length - I) ∧ L' = L) ∨
    ∃ i n : Nat, I = i ∧ N = n ∧ i + n ≤ L.length ∧ ((F = 1 ∧ l.all rowB = false ∧ L' = L) ∨ (F = 4 ∧ l.all rowB = true ∧ ¬ MayL (spl L i n l) ∧ L' = L) ∨ (F = 0 ∧ l.all rowB = true ∧ MayL (spl L i n l) ∧ L' = spl L i n l))
  may : MayL L → MayL L'
theorem spl_all {L l : List ByteArray} {i n : Nat} (h1 : L.all rowB = true) (h2 : l.all rowB = true) : (spl L i n l).all rowB = true := by
  rw [List.all_eq_true] at *
  intro s hs
  unfold spl at hs
  rw [List.mem_append, List.mem_append] at hs
  rcases hs with (hs | hs) | hs
  · exact h1 s (List.mem_of_mem_take hs)
  · exact h2 s hs
  · exact h1 s (List.mem_of_mem_drop hs)
theorem splice_all (T : Nat) (L l : List ByteArray) (I N : Int) (A : Option Addr) (m c : Nat) (hM : MayL L) (hm : m ≤ 100000) (hb : byL l ≤ 100000) : ∃ F L', SpCase L I N l F L' ∧
    ∀ W, Tree W T L → Strs W A m l → m ≤ c → Tabs W → Calls Tryd.prog 13 #[.pointer (some ⟨T, 0, none⟩), .int .i64 I, .int .i64 N, .slice A m c] W fun e w' => e = .returned (.int .i64 F) ∧ Tree w' T L' ∧ Kept (fun q => q = T) W w' := by
  have hL : L.length ≤ 100000 := by have := hM.hi; omega
  by_cases hv : (0 ≤ I ∧ I ≤ L.length) ∧ 0 ≤ N ∧ N ≤ L.length - I
  · obtain ⟨i, rfl⟩ : ∃ i : Nat, I = i := ⟨I.toNat, by omega⟩
    obtain ⟨n, rfl⟩ : ∃ n : Nat, N = n := ⟨N.toNat, by omega⟩
    have hin : i + n ≤ L.length := by omega
    cases ha : l.all rowB with
    | false =>
      refine ⟨1, L, ⟨.inr ⟨i, n, rfl, rfl, hin, .inl ⟨rfl, ha, rfl⟩⟩, id⟩, fun W hT hS hc hTb => (splice_form T L l i n A m c W hT hL hin hS (by omega) (by omega) hTb ha).mono ?_⟩
      rintro e w' ⟨rfl, hk⟩
      exact ⟨rfl, hT.kept hk, hk.any⟩
    | true =>
      by_cases hf : 1 ≤ (spl L i n l).length ∧ (spl L i n l).length ≤ 1100 ∧ byL (spl L i n l) + (spl L i n l).length ≤ 4001
      · have hms : MayL (spl L i n l) := ⟨spl_all hM.row ha, hf.1, hf.2.1, hf.2.2⟩
        exact ⟨0, spl L i n l, ⟨.inr ⟨i, n, rfl, rfl, hin, .inr (.inr ⟨rfl, ha, hms, rfl⟩)⟩, fun _ => hms⟩, fun W hT hS hc hTb => splice_ok T L l i n A m c W hT hL hin hS hc (by omega) (by omega) hTb ha hf⟩
      · refine ⟨4, L, ⟨.inr ⟨i, n, rfl, rfl, hin, .inr (.inl ⟨rfl, ha, fun h => hf ⟨h.lo, h.hi, h.by_⟩, rfl⟩)⟩, id⟩, fun W hT hS hc hTb => (splice_full T L l i n A m c W hT hL hin hS hc (by omega) (by omega) hTb ha hf).mono ?_⟩
        rintro e w' ⟨rfl, hk⟩
        exact ⟨rfl, hT.kept hk, hk.any⟩
  · refine ⟨3, L, ⟨.inl ⟨rfl, hv, rfl⟩, id⟩, fun W hT hS hc hTb => (splice_none T L I N (.slice A m c) W hT hL ?_).mono ?_⟩
    · by_cases h1 : I < 0
      · exact .inl h1
      by_cases h2 : N < 0
      · exact .inr (.inl h2)
      by_cases h3 : (L.length : Int) < I
      · exact .inr (.inr (.inl h3))
      · exact .inr (.inr (.inr (by omega)))
    · rintro e w' ⟨rfl, hk⟩
      exact ⟨rfl, hT.kept hk, hk.any⟩
theorem lit_strs (w : World) (L : List ByteArray) (hz : byL L ≤ 1000000) : Strs (w.alloc (.cells (L.map Value.string).toArray 9)) (some ⟨w.heap.size, 0, none⟩) L.length L := by
  refine ⟨rfl, fun j s hj => ⟨_, rfl, ?_, by have := byL_mem (List.mem_of_getElem? hj); omega⟩⟩
  rw [addr_add, cell_of_row _ _ _ _ _ _ (heap_alloc_new w _)]
  simp [hj]
theorem may_a : MayL [⟨#[97]⟩] := ⟨by decide +kernel, by decide, by decide, by decide⟩
theorem may_e : MayL [⟨#[]⟩] := ⟨by decide +kernel, by decide, by decide, by decide⟩
theorem fit_bc : 1 ≤ (spl [⟨#[97]⟩] 0 1 [⟨#[98]⟩, ⟨#[99]⟩]).length ∧ (spl [⟨#[97]⟩] 0 1 [⟨#[98]⟩, ⟨#[99]⟩]).length ≤ 1100 ∧ byL (spl [⟨#[97]⟩] 0 1 [⟨#[98]⟩, ⟨#[99]⟩]) + (spl [⟨#[97]⟩] 0 1 [⟨#[98]⟩, ⟨#[99]⟩]).length ≤ 4001 := by decide
theorem spl_bc : (spl [⟨#[97]⟩] 0 1 [⟨#[98]⟩, ⟨#[99]⟩]).length = 2 ∧ ruL (spl [⟨#[97]⟩] 0 1 [⟨#[98]⟩, ⟨#[99]⟩]) = 2 := ⟨by decide, by decide +kernel⟩
set_option maxRecDepth 100000 in
set_option maxHeartbeats 2000000 in
theorem wakes3_any (w : World) (hT : Tabs w) : Calls Tryd.prog 20 #[] w fun e w' => e = .returned (.bool true) ∧ Kept (fun _ => False) w w' := by
  have hk0 : Kept (fun _ => False) w (w.alloc (.cells #[.string ⟨#[97]⟩] 9)) := (Kept.refl _ w).alloc _
  have HK0 := Lib.hid hk0
  have HT := Lib.hid hT
  have cN := new_yes (some ⟨w.heap.size, 0, none⟩) 1 1 [⟨#[97]⟩] (w.alloc (.cells #[.string ⟨#[97]⟩] 9)) (lit_strs w [⟨#[97]⟩] (by decide)) (Nat.le_refl _) may_a (hT.kept hk0 id id)
  have HSP : Hid (∀ W T, Kept (fun _ => False) w W → Tree W T [⟨#[97]⟩] → Calls Tryd.prog 13 #[.pointer (some ⟨T, 0, none⟩), .int .i64 0, .int .i64 1, .slice (some ⟨W.heap.size, 0, none⟩) 2 2] (W.alloc (.cells #[.string ⟨#[98]⟩, .string ⟨#[99]⟩] 9)) fun e w' => e = .returned (.int .i64 0) ∧ Tree w' T (spl [⟨#[97]⟩] 0 1 [⟨#[98]⟩, ⟨#[99]⟩]) ∧ Kept (fun q => q = T) (W.alloc (.cells #[.string ⟨#[98]⟩, .string ⟨#[99]⟩] 9)) w') := fun W T hk ht =>
    splice_ok T [⟨#[97]⟩] [⟨#[98]⟩, ⟨#[99]⟩] 0 1 _ 2 2 _ (ht.kept ((Kept.refl _ W).alloc _)) (by decide) (by decide) (lit_strs W [⟨#[98]⟩, ⟨#[99]⟩] (by decide)) (by omega) (by omega) (by decide) (HT.out.kept (hk.alloc _) id id) (by decide +kernel) fit_bc
  have HSB := Lib.hid spl_bc
  generalize spl [⟨#[97]⟩] 0 1 [⟨#[98]⟩, ⟨#[99]⟩] = LS at *
  clear hk0 hT
  go_enter Tryd.func20, Tryd.ntmps20
  go_wp2_with (first
    | (go_at_call 7; refine cN.mono ?_; rintro e w1 ⟨⟨T, rfl, ht, hTT⟩, hk1⟩; have HK1 := Lib.hid (HK0.out.trans hk1); have HT1 := Lib.hid ht; have HTT : Hid (w.heap.size ≤ T) := Nat.le_trans HK0.out.size hTT; clear cN hk1 ht hTT; have cM := num3_any 0 w1)
    | (go_at_call 9; refine cM.mono ?_; rintro e w2 ⟨rfl, hw⟩; have hw2 := hw.symm; subst hw2; clear cM; have cS := HSP.out w1 T HK1.out HT1.out)
    | (go_at_call 13; refine cS.mono ?_; rintro e w3 ⟨rfl, ht3, hk3⟩; have HK3 := Lib.hid ((HK1.out.alloc (.cells #[.string ⟨#[98]⟩, .string ⟨#[99]⟩] 9)).fresh hk3 (fun q h1 h2 => by have := HTT.out; omega)); have HT3 := Lib.hid ht3; clear cS hk3 ht3; have cM2 := num3_any 0 w3)
    | (go_at_call 9; refine cM2.mono ?_; rintro e w4 ⟨rfl, hw⟩; have hw2 := hw.symm; subst hw2; clear cM2; have cL := len_any T LS w3 HT3.out; rw [HSB.out.1] at cL)
    | (go_at_call 21; refine cL.mono ?_; rintro e w5 ⟨rfl, hk5⟩; have HK5 := Lib.hid (HK3.out.trans hk5); have cR := truns_any T LS w5 (HT3.out.kept hk5); rw [HSB.out.2] at cR; clear cL hk5)
    | (go_at_call 31; refine cR.mono ?_; rintro e w6 ⟨rfl, hk6⟩; have HK6 := Lib.hid (HK5.out.trans hk6); clear cR hk6))
  go_ret
  exact ⟨rfl, HK6.out⟩
end Go.Proofs.YtdgbaeliabaneaaDoor
