/-
  MARKS: the reference's copy of a slice of them.
-/
import Derived.Test.YtknoiehglfpepaaDoorMk
import Derived.Maps.AppendAt
set_option linter.unusedVariables false
namespace Go.Proofs.YtknoiehglfpepaaDoor
open Go Go.RowKit

theorem info_mark : (Tryd.prog.info? 61).map (fun i => (i.zero, i.size, i.bytes)) = some (some (.agg #[.int .i64 0, .int .i64 0]), 2, 16) := by kernel_rfl
theorem two_cells {W : World} {a b : Int} {ty : TypeId} : ∀ j u, ([Value.int .i64 a, .int .i64 b] : List Value)[j]? = some u → (W.alloc (.cells #[.int .i64 a, .int .i64 b] ty)).cell? ((⟨W.heap.size, 0, none⟩ : Addr).add j) = some u := by
  intro j u hj
  rw [addr_add, cell_of_row _ _ _ _ _ _ (heap_alloc_new W _)]
  match j, hj with
  | 0, hj => simpa using hj
  | 1, hj => simpa using hj
theorem two_one {a b : Int} : ∀ u ∈ ([Value.int .i64 a, .int .i64 b] : List Value), u.oneCell' = true := by
  intro u hu
  simp only [List.mem_cons, List.not_mem_nil, or_false] at hu
  rcases hu with rfl | rfl <;> rfl
/-- The cells of rows, one behind another. -/
def flat (rows : List (List Int)) : List Value := rows.flatten.map (Value.int .i64)
theorem flat_step {rows : List (List Int)} {k : Nat} {x y : Int} (h : rows[k]? = some [x, y]) : flat (rows.take (k + 1)) = flat (rows.take k) ++ [.int .i64 x, .int .i64 y] := by
  unfold flat
  rw [List.take_add_one, h]
  simp
theorem flat_get : ∀ {rows : List (List Int)} {i f : Nat} {r : List Int} {x : Int}, (∀ r ∈ rows, r.length = 2) → rows[i]? = some r → r[f]? = some x → (flat rows)[i * 2 + f]? = some (.int .i64 x)
  | [], i, f, r, x, _, h, _ => by simp at h
  | q :: rows, 0, f, r, x, hl, h, hx => by
    have hq := hl q List.mem_cons_self
    simp only [List.getElem?_cons_zero, Option.some.injEq] at h
    subst h
    have hf : f < q.length := by
      by_cases hf : f < q.length
      · exact hf
      · rw [List.getElem?_eq_none (by omega)] at hx; cases hx
    unfold flat
    rw [List.flatten_cons, List.map_append, List.getElem?_append_left (by simp; omega), List.getElem?_map]
    simp [hx]
  | q :: rows, i + 1, f, r, x, hl, h, hx => by
    have hq := hl q List.mem_cons_self
    have ih := flat_get (rows := rows) (i := i) (fun r hr => hl r (List.mem_cons_of_mem _ hr)) (by simpa using h) hx
    unfold flat at *
    rw [List.flatten_cons, List.map_append, List.getElem?_append_right (by simp; omega), List.length_map, hq, show (i + 1) * 2 + f - 2 = i * 2 + f by omega]
    exact ih
/-- A slice of the call's own: its room, what it owns. -/
def Cq (w : World) (A : Option Addr) (n c : Nat) : Prop := Cp A n c ∧ ∃ base xs, w.ownsRow base 61 2 (.slice A n c) n xs
theorem owned_rows {w : World} {base : Nat} {v : Value} {n : Nat} {rows : List (List Int)} (h : w.ownsRow base 61 2 v n (flat rows)) (hx : rows.length = n) (hr : ∀ r ∈ rows, r.length = 2 ∧ ∀ x ∈ r, I64 x) : ∃ A c, v = .slice A n c ∧ Rws w A n 2 rows ∧ (∀ a, A = some a → base ≤ a.block) ∧ Cq w A n c := by
  have hcells : ∀ g, v.ownBlock = some g → ∀ j u, (flat rows)[j]? = some u → w.cell? ((⟨g, 0, none⟩ : Addr).add j) = some u := fun g hg => h.cells hg
  rcases h.2 with ⟨rfl, rfl⟩ | ⟨g, cap, cur, rfl, hb, hh, hcap, _, _, _⟩
  · obtain rfl := List.eq_nil_of_length_eq_zero hx
    exact ⟨none, 0, rfl, ⟨rfl, fun j x hj => by simp at hj⟩, (fun a ha => by cases ha), ⟨Nat.le_refl _, fun _ => rfl⟩, _, _, h⟩
  · refine ⟨_, cap, rfl, ⟨hx, fun i r hi => ?_⟩, (fun a ha => by cases ha; exact hb), ⟨hcap, (fun h => by cases h)⟩, _, _, h⟩
    obtain ⟨h1, h2⟩ := hr r (List.mem_of_getElem? hi)
    refine ⟨h1, h2, _, rfl, fun f x hf => ?_⟩
    have := hcells g rfl (i * 2 + f) _ (flat_get (fun r hr' => (hr r hr').1) hi hf)
    rw [addr_add] at this ⊢
    rw [addr_add]
    simpa [Nat.add_assoc] using this
set_option maxRecDepth 100000 in
set_option maxHeartbeats 1000000 in
theorem copymarks_any (A : Option Addr) (n c : Nat) (rows : List (List Int)) (w : World) (hA : Rws w A n 2 rows) (hn : n ≤ 100000) :
    Calls Tryd.prog 6 #[.slice A n c] w fun e w' => (∃ B c', e = .returned (.slice B n c') ∧ Rws w' B n 2 rows ∧ (∀ a, B = some a → w.heap.size ≤ a.block) ∧ Cp B n c') ∧ Kept (fun _ => False) w w' := by
  obtain ⟨i0, hi, hz0, hz1, hz2⟩ := info_parts info_mark
  have HA := Lib.hid hA
  clear hA
  go_enter Tryd.func6, Tryd.ntmps6
  go_wp2_with fail
  go_loopw [3, 4] (fun v i wr => ∃ k : Nat, k ≤ n ∧ i = .int .i64 k ∧ wr.ownsRow w.heap.size 61 2 v k (flat (rows.take k)) ∧ Kept (fun _ => False) w wr) (fun _ i _ => n - (intOf i).toNat)
  case atStart => exact ⟨0, Nat.zero_le _, rfl, World.ownsRow_nil _ _ _ _, Kept.refl _ _⟩
  case round =>
    obtain ⟨k, hk, rfl, hown, hkept⟩ := hrel
    have HK := Lib.hid hkept
    have hszk := hkept.size
    have HSZ := Lib.hid hszk
    clear hkept hszk
    by_cases hkn : k < n
    · obtain ⟨ad, x, y, rfl, hr, f0, f1⟩ := (HA.out.kept HK.out (fun _ _ => id)).two hkn
      have HST := Lib.hid (flat_step hr)
      obtain ⟨xs, hxs⟩ : ∃ xs, flat (rows.take k) = xs := ⟨_, rfl⟩
      rw [hxs] at hown
      have HXS := Lib.hid hxs
      have b1 : decide (k < n) = true := decide_eq_true hkn
      have b2 : decide ((k : Int) < (n : Int)) = true := decide_eq_true (by omega)
      have t1 : (0 : Int) ≤ (k : Int) := by omega
      have t2 : (k : Int) < (n : Int) := by omega
      clear hr hxs
      go_wp2_with (first
        | fail
        | (at_builtin; refine wpList_append_own_at _ rfl (.tmp 11) (.tmp 16) 22 rfl w.heap.size 61 i0 (.agg #[.int .i64 0, .int .i64 0]) 2 16 Tryd.underlying22 hi hz0 hz1 hz2 rfl (by decide) _ _ _ rfl (hown.alloc _) ⟨_, 0, none⟩ 1 1 [.int .i64 x, .int .i64 y] rfl rfl two_cells two_one (by unfold maxLen; omega) (by omega) (by have := HSZ.out; simp; omega) ?_; intro v' w4 hown' hgrow _ hat; have HK4 := Lib.hid (Kept.grew (HK.out.alloc _) hgrow (fun b hb => (hown.lt b hb).1)); have HO4 := Lib.hid hown'; clear hown' hgrow hat))
      go_roundw
      case rel => exact ⟨k + 1, by omega, by go_num, by rw [HST.out, HXS.out]; exact HO4.out, HK4.out⟩
      case measure => simp [intOf] <;> omega
    · obtain rfl : k = n := by omega
      have b1 : decide (k < k) = false := decide_eq_false (by omega)
      have b2 : decide ((k : Int) < (k : Int)) = false := decide_eq_false (by omega)
      rw [List.take_of_length_le (by rw [HA.out.1]; exact Nat.le_refl _)] at hown
      obtain ⟨B, c', rfl, hN, hbs, hcp⟩ := owned_rows hown HA.out.1 (fun r hr => by
        obtain ⟨i, hi, rfl⟩ := List.getElem_of_mem hr
        obtain ⟨h1, h2, _⟩ := HA.out.2 i _ (List.getElem?_eq_getElem hi)
        exact ⟨h1, h2⟩)
      have HN := Lib.hid hN
      have HBS := Lib.hid hbs
      have HCP := Lib.hid hcp.1
      clear hN hown hbs hcp
      go_wp2_with fail
      go_ret
      exact ⟨⟨B, c', rfl, HN.out, HBS.out, HCP.out⟩, HK.out⟩
end Go.Proofs.YtknoiehglfpepaaDoor
