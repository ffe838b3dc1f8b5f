/-
  REGISTERS in memory: a slice of them; what a call owns of them.
-/
import Derived.Test.YtackgnkajffhiaaDoorRsP
import Derived.Test.YtackgnkajffhiaaDoorRws
import Derived.Test.YtackgnkajffhiaaDoorAoHn
import Derived.Maps.AppendAt
set_option linter.unusedVariables false
namespace Go.Proofs.YtackgnkajffhiaaDoor
open Go Go.RowKit

theorem info_reg : (Tryd.prog.info? 41).map (fun i => (i.zero, i.size, i.bytes)) = some (some (.agg #[.int .i64 0, .string ⟨#[]⟩, .bool false]), 3, 32) := by kernel_rfl
def RegS.vs (r : RegS) : List Value := [.int .i64 r.n, .string r.s, .bool r.b]
abbrev regV (r : RegS) : Value := .agg #[.int .i64 r.n, .string r.s, .bool r.b]
abbrev regO (r : RegS) : Obj := .cells #[.int .i64 r.n, .string r.s, .bool r.b] 41
abbrev zReg : RegS := ⟨0, ⟨#[]⟩, false⟩
/-- A register's cells. -/
structure Rg3 (w : World) (ad : Addr) (r : RegS) : Prop where
  c0 : w.cell? ad = some (.int .i64 r.n)
  c1 : w.cell? ⟨ad.block, ad.off + 1, none⟩ = some (.string r.s)
  c2 : w.cell? ⟨ad.block, ad.off + 2, none⟩ = some (.bool r.b)
theorem Rg3.kept {S : Nat → Prop} {w w' : World} {ad : Addr} {r : RegS} (h : Rg3 w ad r) (hk : Kept S w w') (hs : ¬ S ad.block) : Rg3 w' ad r := ⟨cell_kept hk h.c0 hs, cell_kept hk h.c1 hs, cell_kept hk h.c2 hs⟩
theorem Rg3.cs {w : World} {g : Nat} {r : RegS} (h : Rg3 w ⟨g, 0, none⟩ r) : w.cell? ⟨g, 0, none⟩ = some (.int .i64 r.n) ∧ w.cell? ⟨g, 1, none⟩ = some (.string r.s) ∧ w.cell? ⟨g, 2, none⟩ = some (.bool r.b) := ⟨h.c0, h.c1, h.c2⟩
theorem rg3_new {w : World} {r : RegS} : Rg3 (w.alloc (regO r)) ⟨w.heap.size, 0, none⟩ r := ⟨cell_of_row _ _ _ _ _ _ (heap_alloc_new w _), cell_of_row _ _ _ _ _ _ (heap_alloc_new w _), cell_of_row _ _ _ _ _ _ (heap_alloc_new w _)⟩
/-- A slice of registers. -/
structure Rg (w : World) (A : Option Addr) (n : Nat) (M : List RegS) : Prop where
  len : M.length = n
  at' : ∀ k r, M[k]? = some r → ∃ ad, A = some ad ∧ Rg3 w (ad.add (k * 3)) r
  sz : ∀ r ∈ M, r.s.size ≤ 140737488351232
theorem Rg.kept {S : Nat → Prop} {w w' : World} {A : Option Addr} {n : Nat} {M : List RegS} (h : Rg w A n M) (hk : Kept S w w') (hs : ∀ a, A = some a → ¬ S a.block) : Rg w' A n M :=
  ⟨h.len, fun k r hr => by
    obtain ⟨ad, e, h3⟩ := h.at' k r hr
    exact ⟨ad, e, h3.kept hk (by rw [addr_blk]; exact hs ad e)⟩, h.sz⟩
theorem Rg.at_ {w : World} {A : Option Addr} {n : Nat} {M : List RegS} (h : Rg w A n M) {k : Nat} (hk : k < n) : ∃ ad r, A = some ad ∧ M[k]? = some r ∧ Rg3 w (ad.add (k * 3)) r ∧ r.s.size ≤ 140737488351232 := by
  have hl : k < M.length := by rw [h.len]; exact hk
  obtain ⟨ad, e, h3⟩ := h.at' k M[k] (List.getElem?_eq_getElem hl)
  exact ⟨ad, M[k], e, List.getElem?_eq_getElem hl, h3, h.sz _ (List.getElem_mem hl)⟩
/-- Registers' cells, one behind another. -/
def flatR (M : List RegS) : List Value := M.flatMap RegS.vs
theorem flatR_app (a b : List RegS) : flatR (a ++ b) = flatR a ++ flatR b := by simp [flatR]
theorem flatR_one (r : RegS) : flatR [r] = r.vs := by simp [flatR]
theorem flatR_len : ∀ M : List RegS, (flatR M).length = M.length * 3
  | [] => rfl
  | r :: M => by
    have := flatR_len M
    unfold flatR at *
    rw [List.flatMap_cons, List.length_append, this, List.length_cons]
    simp [RegS.vs]
    omega
theorem flatR_get : ∀ {M : List RegS} {i f : Nat} {r : RegS} {u : Value}, M[i]? = some r → r.vs[f]? = some u → (flatR M)[i * 3 + f]? = some u
  | [], i, f, r, u, h, _ => by simp at h
  | q :: M, 0, f, r, u, h, hf => by
    simp only [List.getElem?_cons_zero, Option.some.injEq] at h
    subst h
    unfold flatR
    have hl : f < q.vs.length := by
      by_cases hl : f < q.vs.length
      · exact hl
      · rw [List.getElem?_eq_none (by omega)] at hf; cases hf
    rw [List.flatMap_cons, List.getElem?_append_left (by omega)]
    simpa using hf
  | q :: M, i + 1, f, r, u, h, hf => by
    have ih := flatR_get (M := M) (i := i) (by simpa using h) hf
    unfold flatR at *
    have hl : q.vs.length = 3 := rfl
    rw [List.flatMap_cons, List.getElem?_append_right (by omega), hl, show (i + 1) * 3 + f - 3 = i * 3 + f by omega]
    exact ih
theorem three_one {r : RegS} : ∀ u ∈ r.vs, u.oneCell' = true := by
  intro u hu
  simp only [RegS.vs, List.mem_cons, List.not_mem_nil, or_false] at hu
  rcases hu with rfl | rfl | rfl <;> rfl
theorem three_cells {W : World} {r : RegS} {ty : TypeId} : ∀ j u, r.vs[j]? = some u → (W.alloc (.cells #[.int .i64 r.n, .string r.s, .bool r.b] ty)).cell? ((⟨W.heap.size, 0, none⟩ : Addr).add j) = some u := by
  intro j u hj
  rw [addr_add, cell_of_row _ _ _ _ _ _ (heap_alloc_new W _)]
  match j, hj with
  | 0, hj => simpa [RegS.vs] using hj
  | 1, hj => simpa [RegS.vs] using hj
  | 2, hj => simpa [RegS.vs] using hj
/-- What a call owns, as registers. -/
theorem own_regs {w : World} {B n : Nat} {v : Value} {M : List RegS} (h : w.ownsRow B 41 3 v n (flatR M)) (hs : ∀ r ∈ M, r.s.size ≤ 140737488351232) : M.length = n ∧ ∃ A c, v = .slice A n c ∧ Rg w A n M ∧ (∀ a, A = some a → B ≤ a.block) ∧ Cp A n c := by
  have hl : M.length = n := by
    have := h.1
    rw [flatR_len] at this
    omega
  refine ⟨hl, ?_⟩
  have hcells : ∀ g, v.ownBlock = some g → ∀ j u, (flatR M)[j]? = some u → w.cell? ((⟨g, 0, none⟩ : Addr).add j) = some u := fun g hg => h.cells hg
  rcases h.2 with ⟨rfl, rfl⟩ | ⟨g, cap, cur, rfl, hb, hh, hcap, _, _, _⟩
  · obtain rfl := List.eq_nil_of_length_eq_zero hl
    exact ⟨none, 0, rfl, ⟨rfl, (fun k r hr => by simp at hr), hs⟩, (fun a ha => by cases ha), Nat.le_refl _, fun _ => rfl⟩
  · refine ⟨_, cap, rfl, ⟨hl, fun k r hr => ⟨_, rfl, ?_⟩, hs⟩, (fun a ha => by cases ha; exact hb), hcap, (fun h => by cases h)⟩
    have g0 := hcells g rfl (k * 3 + 0) _ (flatR_get hr (f := 0) rfl)
    have g1 := hcells g rfl (k * 3 + 1) _ (flatR_get hr (f := 1) rfl)
    have g2 := hcells g rfl (k * 3 + 2) _ (flatR_get hr (f := 2) rfl)
    rw [addr_add] at g0 g1 g2
    have e : (⟨g, 0, none⟩ : Addr).add (k * 3) = ⟨g, k * 3, none⟩ := by rw [addr_add, Nat.zero_add]
    rw [e]
    exact ⟨by simpa using g0, by simpa using g1, by simpa using g2⟩
theorem digit_any (n : Int) (w : World) : Calls Tryd.prog 32 #[.int .i64 n] w fun e w' => e = .returned (.bool (decide (48 ≤ n ∧ n ≤ 57))) ∧ w' = w := by
  by_cases h1 : 48 ≤ n
  · have b1 : decide (48 ≤ n) = true := decide_eq_true h1
    by_cases h2 : n ≤ 57
    · have b2 : decide (n ≤ 57) = true := decide_eq_true h2
      rw [decide_eq_true (show 48 ≤ n ∧ n ≤ 57 from ⟨h1, h2⟩)]
      clear h1 h2
      go_enter Tryd.func32, Tryd.ntmps32
      go_wp2
      go_ret
      exact ⟨rfl, rfl⟩
    · have b2 : decide (n ≤ 57) = false := decide_eq_false h2
      rw [decide_eq_false (show ¬ (48 ≤ n ∧ n ≤ 57) by omega)]
      clear h1 h2
      go_enter Tryd.func32, Tryd.ntmps32
      go_wp2
      go_ret
      exact ⟨rfl, rfl⟩
  · have b1 : decide (48 ≤ n) = false := decide_eq_false h1
    rw [decide_eq_false (show ¬ (48 ≤ n ∧ n ≤ 57) by omega)]
    clear h1
    go_enter Tryd.func32, Tryd.ntmps32
    go_wp2
    go_ret
    exact ⟨rfl, rfl⟩
theorem small_any (n : Int) (w : World) : Calls Tryd.prog 33 #[.int .i64 n] w fun e w' => e = .returned (.bool (decide (Rs.Sm n))) ∧ w' = w := by
  by_cases h1 : 97 ≤ n
  · have b1 : decide (97 ≤ n) = true := decide_eq_true h1
    by_cases h2 : n ≤ 122
    · have b2 : decide (n ≤ 122) = true := decide_eq_true h2
      rw [decide_eq_true (show Rs.Sm n from ⟨h1, h2⟩)]
      clear h1 h2
      go_enter Tryd.func33, Tryd.ntmps33
      go_wp2
      go_ret
      exact ⟨rfl, rfl⟩
    · have b2 : decide (n ≤ 122) = false := decide_eq_false h2
      rw [decide_eq_false (show ¬ Rs.Sm n by unfold Rs.Sm; omega)]
      clear h1 h2
      go_enter Tryd.func33, Tryd.ntmps33
      go_wp2
      go_ret
      exact ⟨rfl, rfl⟩
  · have b1 : decide (97 ≤ n) = false := decide_eq_false h1
    rw [decide_eq_false (show ¬ Rs.Sm n by unfold Rs.Sm; omega)]
    clear h1
    go_enter Tryd.func33, Tryd.ntmps33
    go_wp2
    go_ret
    exact ⟨rfl, rfl⟩
theorem great_any (n : Int) (w : World) : Calls Tryd.prog 30 #[.int .i64 n] w fun e w' => e = .returned (.bool (decide (Rs.Gt n))) ∧ w' = w := by
  by_cases h1 : 65 ≤ n
  · have b1 : decide (65 ≤ n) = true := decide_eq_true h1
    by_cases h2 : n ≤ 90
    · have b2 : decide (n ≤ 90) = true := decide_eq_true h2
      rw [decide_eq_true (show Rs.Gt n from ⟨h1, h2⟩)]
      clear h1 h2
      go_enter Tryd.func30, Tryd.ntmps30
      go_wp2
      go_ret
      exact ⟨rfl, rfl⟩
    · have b2 : decide (n ≤ 90) = false := decide_eq_false h2
      rw [decide_eq_false (show ¬ Rs.Gt n by unfold Rs.Gt; omega)]
      clear h1 h2
      go_enter Tryd.func30, Tryd.ntmps30
      go_wp2
      go_ret
      exact ⟨rfl, rfl⟩
  · have b1 : decide (65 ≤ n) = false := decide_eq_false h1
    rw [decide_eq_false (show ¬ Rs.Gt n by unfold Rs.Gt; omega)]
    clear h1
    go_enter Tryd.func30, Tryd.ntmps30
    go_wp2
    go_ret
    exact ⟨rfl, rfl⟩
theorem kept_any (n : Int) (w : World) : Calls Tryd.prog 16 #[.int .i64 n] w fun e w' => e = .returned (.bool (decide (Rs.Nm n))) ∧ w' = w := by
  have cD := fun W => digit_any n W
  have cS := fun W => small_any n W
  by_cases h1 : n = 34
  · have b1 : (n == 34) = true := by rw [h1]; rfl
    have hh := h1
    rw [decide_eq_true (show Rs.Nm n from .inl h1)]
    clear hh
    go_enter Tryd.func16, Tryd.ntmps16
    go_wp2_with fail
    go_ret
    exact ⟨rfl, rfl⟩
  · have b1 : (n == 34) = false := beq_eq_false_iff_ne.2 h1
    by_cases h2 : n = 45
    · have b2 : (n == 45) = true := by rw [h2]; rfl
      have hh := h2
      rw [decide_eq_true (show Rs.Nm n from .inr (.inl h2))]
      clear hh
      go_enter Tryd.func16, Tryd.ntmps16
      go_wp2_with fail
      go_ret
      exact ⟨rfl, rfl⟩
    · have b2 : (n == 45) = false := beq_eq_false_iff_ne.2 h2
      by_cases h3 : 48 ≤ n ∧ n ≤ 57
      · rw [decide_eq_true h3] at cD
        have hh := h3
        rw [decide_eq_true (show Rs.Nm n from .inr (.inr (.inl h3)))]
        clear hh
        go_enter Tryd.func16, Tryd.ntmps16
        go_wp2_with (go_at_call 32; refine (cD _).mono ?_; rintro e w' ⟨rfl, hw⟩; have hw2 := hw.symm; subst hw2)
        go_ret
        exact ⟨rfl, rfl⟩
      · rw [decide_eq_false h3] at cD
        by_cases h4 : Rs.Sm n
        · rw [decide_eq_true h4] at cS
          have hh := h4
          rw [decide_eq_true (show Rs.Nm n from .inr (.inr (.inr h4)))]
          clear hh
          go_enter Tryd.func16, Tryd.ntmps16
          go_wp2_with (first | (go_at_call 32; refine (cD _).mono ?_; rintro e w' ⟨rfl, hw⟩; have hw2 := hw.symm; subst hw2) | (go_at_call 33; refine (cS _).mono ?_; rintro e w' ⟨rfl, hw⟩; have hw2 := hw.symm; subst hw2))
          go_ret
          exact ⟨rfl, rfl⟩
        · rw [decide_eq_false h4] at cS
          have hh := h4
          rw [decide_eq_false (show ¬ Rs.Nm n from fun h => h.elim h1 (fun h => h.elim h2 (fun h => h.elim h3 h4)))]
          clear hh
          go_enter Tryd.func16, Tryd.ntmps16
          go_wp2_with (first | (go_at_call 32; refine (cD _).mono ?_; rintro e w' ⟨rfl, hw⟩; have hw2 := hw.symm; subst hw2) | (go_at_call 33; refine (cS _).mono ?_; rintro e w' ⟨rfl, hw⟩; have hw2 := hw.symm; subst hw2))
          go_ret
          exact ⟨rfl, rfl⟩
theorem told_any (n : Int) (w : World) : Calls Tryd.prog 29 #[.int .i64 n] w fun e w' => e = .returned (.bool (decide (Rs.Td n))) ∧ w' = w := by
  have cD := fun W => great_any n W
  have cS := fun W => kept_any n W
  by_cases h1 : n = 0
  · have b1 : (n == 0) = true := by rw [h1]; rfl
    have hh := h1
    rw [decide_eq_true (show Rs.Td n from .inl h1)]
    clear hh
    go_enter Tryd.func29, Tryd.ntmps29
    go_wp2_with fail
    go_ret
    exact ⟨rfl, rfl⟩
  · have b1 : (n == 0) = false := beq_eq_false_iff_ne.2 h1
    by_cases h2 : n = 95
    · have b2 : (n == 95) = true := by rw [h2]; rfl
      have hh := h2
      rw [decide_eq_true (show Rs.Td n from .inr (.inl h2))]
      clear hh
      go_enter Tryd.func29, Tryd.ntmps29
      go_wp2_with fail
      go_ret
      exact ⟨rfl, rfl⟩
    · have b2 : (n == 95) = false := beq_eq_false_iff_ne.2 h2
      by_cases h3 : Rs.Gt n
      · rw [decide_eq_true h3] at cD
        have hh := h3
        rw [decide_eq_true (show Rs.Td n from .inr (.inr (.inl h3)))]
        clear hh
        go_enter Tryd.func29, Tryd.ntmps29
        go_wp2_with (go_at_call 30; refine (cD _).mono ?_; rintro e w' ⟨rfl, hw⟩; have hw2 := hw.symm; subst hw2)
        go_ret
        exact ⟨rfl, rfl⟩
      · rw [decide_eq_false h3] at cD
        by_cases h4 : Rs.Nm n
        · rw [decide_eq_true h4] at cS
          have hh := h4
          rw [decide_eq_true (show Rs.Td n from .inr (.inr (.inr h4)))]
          clear hh
          go_enter Tryd.func29, Tryd.ntmps29
          go_wp2_with (first | (go_at_call 30; refine (cD _).mono ?_; rintro e w' ⟨rfl, hw⟩; have hw2 := hw.symm; subst hw2) | (go_at_call 16; refine (cS _).mono ?_; rintro e w' ⟨rfl, hw⟩; have hw2 := hw.symm; subst hw2))
          go_ret
          exact ⟨rfl, rfl⟩
        · rw [decide_eq_false h4] at cS
          have hh := h4
          rw [decide_eq_false (show ¬ Rs.Td n from fun h => h.elim h1 (fun h => h.elim h2 (fun h => h.elim h3 h4)))]
          clear hh
          go_enter Tryd.func29, Tryd.ntmps29
          go_wp2_with (first | (go_at_call 30; refine (cD _).mono ?_; rintro e w' ⟨rfl, hw⟩; have hw2 := hw.symm; subst hw2) | (go_at_call 16; refine (cS _).mono ?_; rintro e w' ⟨rfl, hw⟩; have hw2 := hw.symm; subst hw2))
          go_ret
          exact ⟨rfl, rfl⟩
end Go.Proofs.YtackgnkajffhiaaDoor
