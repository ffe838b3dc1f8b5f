/-
  THE CELLS OF A TEXT, of the program: where the cursor may stand, each with its class, and whether it is its row's first, or last.
-/
import Derived.Test.YtohmhjeimeilcaaDoorSp
import Derived.Test.YtohmhjeimeilcaaDoorWdE
import Derived.Test.YtohmhjeimeilcaaDoorAo3
import Derived.Laws.AppendOwn
set_option linter.unusedVariables false
namespace Go.Proofs.YtohmhjeimeilcaaDoor
open Go Go.RowKit

theorem info_cell : (Tryd.prog.info? 98).map (fun i => (i.zero, i.size, i.bytes)) = some (some (.agg #[.int .i64 0, .int .i64 0, .bool false, .bool false]), 4, 24) := by kernel_rfl
theorem classOf_any (big : Bool) (c : Int) (w : World) (h0 : 0 ≤ c) (h1 : c ≤ 1114111) :
    Calls Tryd.prog 75 #[.int .i32 c, .bool big] w fun e w' => e = .returned (.int .i64 (Rw.clsB big c)) ∧ w' = w := by
  have cC := class_any c h0 h1 w
  have hr := Rw.cls_range c
  obtain ⟨q, hq⟩ : ∃ q, Rw.cls c = q := ⟨_, rfl⟩
  have hB : Rw.clsB big c = if big = true ∧ q = 2 then 1 else q := by unfold Rw.clsB; rw [hq]
  rw [hB]
  rw [hq] at cC hr
  clear hB hq
  have hq3 : q = 0 ∨ q = 1 ∨ q = 2 := by omega
  clear hr
  cases big
  · rw [if_neg (by simp)]
    clear hq3
    go_enter Tryd.func75, Tryd.ntmps75
    go_wp2_with (go_at_call 77; refine cC.mono ?_; rintro e w' ⟨rfl, rfl⟩)
    go_ret
    exact ⟨rfl, rfl⟩
  · rcases hq3 with rfl | rfl | rfl
    all_goals
      go_enter Tryd.func75, Tryd.ntmps75
      go_wp2_with (go_at_call 77; refine cC.mono ?_; rintro e w' ⟨rfl, rfl⟩)
      go_ret
      exact ⟨rfl, rfl⟩
/-- One cell, as four places of memory. -/
def cellV (t : List Int) (big : Bool) (i : Nat) : List Value := [.int .i64 (i : Int), .int .i64 (Rw.at_ t big i), .bool (decide (Rw.beg t i = i)), .bool (Rw.lastB t i)]
theorem cellsV_at (t : List Int) (big : Bool) : ∀ (l : List Nat) (k i j : Nat), l[k]? = some i → j < 4 → (l.flatMap (cellV t big))[k * 4 + j]? = (cellV t big i)[j]?
  | [], k, i, j, h, _ => by simp at h
  | a :: l, 0, i, j, h, hj => by
    simp only [List.getElem?_cons_zero, Option.some.injEq] at h
    subst h
    rw [List.flatMap_cons, List.getElem?_append_left (by simp [cellV]; omega)]
    simp
  | a :: l, k + 1, i, j, h, hj => by
    have := cellsV_at t big l k i j (by simpa using h) hj
    rw [List.flatMap_cons, List.getElem?_append_right (by simp [cellV]; omega), show (k + 1) * 4 + j - (cellV t big a).length = k * 4 + j by simp [cellV]; omega]
    exact this
theorem cellsV_len (t : List Int) (big : Bool) (l : List Nat) : (l.flatMap (cellV t big)).length = l.length * 4 := by
  induction l with
  | nil => rfl
  | cons a l ih => rw [List.flatMap_cons, List.length_append, ih]; simp [cellV]; omega
/-- A slice of cells. -/
structure Cels (w : World) (g : Nat) (t : List Int) (big : Bool) (l : List Nat) : Prop where
  c0 : ∀ k i : Nat, l[k]? = some i → w.cell? ⟨g, k * 4, none⟩ = some (.int .i64 (i : Int))
  c1 : ∀ k i : Nat, l[k]? = some i → w.cell? ⟨g, k * 4 + 1, none⟩ = some (.int .i64 (Rw.at_ t big i))
  c2 : ∀ k i : Nat, l[k]? = some i → w.cell? ⟨g, k * 4 + 2, none⟩ = some (.bool (decide (Rw.beg t i = i)))
  c3 : ∀ k i : Nat, l[k]? = some i → w.cell? ⟨g, k * 4 + 3, none⟩ = some (.bool (Rw.lastB t i))
theorem Cels.kept {S : Nat → Prop} {w w' : World} {g : Nat} {t : List Int} {big : Bool} {l : List Nat} (h : Cels w g t big l) (hk : Kept S w w') (hs : ¬ S g) : Cels w' g t big l :=
  ⟨fun k i hi => cell_kept hk (h.c0 k i hi) hs, fun k i hi => cell_kept hk (h.c1 k i hi) hs, fun k i hi => cell_kept hk (h.c2 k i hi) hs, fun k i hi => cell_kept hk (h.c3 k i hi) hs⟩
theorem owned_cels {w : World} {base : Nat} {v : Value} {t : List Int} {big : Bool} {l : List Nat} (h : w.ownsRow base 98 4 v l.length (l.flatMap (cellV t big))) (hl : 0 < l.length) : ∃ g cap, v = .slice (some ⟨g, 0, none⟩) l.length cap ∧ base ≤ g ∧ Cels w g t big l := by
  have hcells : ∀ g, v.ownBlock = some g → ∀ j u, (l.flatMap (cellV t big))[j]? = some u → w.cell? ((⟨g, 0, none⟩ : Addr).add j) = some u := fun g hg => h.cells hg
  rcases h.2 with ⟨rfl, h0⟩ | ⟨g, cap, cur, rfl, hb, hh, hcap, _, _, _⟩
  · omega
  · have hc := hcells g rfl
    have hq : ∀ k i j u, l[k]? = some i → j < 4 → (cellV t big i)[j]? = some u → w.cell? ⟨g, k * 4 + j, none⟩ = some u := fun k i j u hk hj hu => by
      have := hc (k * 4 + j) u (by rw [cellsV_at t big l k i j hk hj, hu])
      rwa [addr_add, Nat.zero_add] at this
    exact ⟨g, cap, rfl, hb, fun k i hk => hq k i 0 _ hk (by omega) rfl, fun k i hk => hq k i 1 _ hk (by omega) rfl, fun k i hk => hq k i 2 _ hk (by omega) rfl, fun k i hk => hq k i 3 _ hk (by omega) rfl⟩
/-- The relation of the loop, kept by a cell more. -/
theorem own_cell {w : World} {base : Nat} {v : Value} {t : List Int} {big : Bool} {k : Nat} {q : Int} {F L : Bool} (hC : Rw.isC t k = true) (hq : q = Rw.at_ t big k) (hF : F = decide (Rw.beg t k = k)) (hL : L = Rw.lastB t k)
    (h : w.ownsRow base 98 4 v ((Rw.cel t k).length + 1) ((Rw.cel t k).flatMap (cellV t big) ++ [.int .i64 (k : Int), .int .i64 q, .bool F, .bool L])) :
    w.ownsRow base 98 4 v (Rw.cel t (k + 1)).length ((Rw.cel t (k + 1)).flatMap (cellV t big)) := by
  rw [Rw.cel_succ_yes hC, List.length_append, List.flatMap_append, List.flatMap_cons, List.flatMap_nil, List.append_nil]
  subst hq hF hL
  exact h
end Go.Proofs.YtohmhjeimeilcaaDoor
