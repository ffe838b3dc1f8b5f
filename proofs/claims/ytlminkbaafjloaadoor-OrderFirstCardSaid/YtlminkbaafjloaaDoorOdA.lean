/-
  ELEMENTS in memory: a slice of them; what a call owns of them.
-/
import Derived.Test.YtlminkbaafjloaaDoorRws
import Derived.Test.YtlminkbaafjloaaDoorCdP
import Derived.Laws.AppendOwn
import Derived.Laws.AppendOwnNone
import Derived.Laws.MakeOwn
import Derived.Laws.OwnMore
import Derived.Maps.AppendAt
import Derived.OwnWalk
set_option linter.unusedVariables false
namespace Go.Proofs.YtlminkbaafjloaaDoor
open Go Go.RowKit

/-- An element. -/
structure ElemS where
  t : Int
  si : Int
  r : Int
  d : Bool
deriving DecidableEq
instance : Inhabited ElemS := ⟨⟨0, 0, 0, false⟩⟩
theorem info_elem : (Tryd.prog.info? 56).map (fun i => (i.zero, i.size, i.bytes)) = some (some (.agg #[.int .i64 0, .int .i64 0, .int .i64 0, .bool false]), 4, 32) := by kernel_rfl
def ElemS.vs (e : ElemS) : List Value := [.int .i64 e.t, .int .i64 e.si, .int .i64 e.r, .bool e.d]
abbrev elemV (e : ElemS) : Value := .agg #[.int .i64 e.t, .int .i64 e.si, .int .i64 e.r, .bool e.d]
abbrev elemO (e : ElemS) : Obj := .cells #[.int .i64 e.t, .int .i64 e.si, .int .i64 e.r, .bool e.d] 56
/-- An element's cells. -/
structure El4 (w : World) (ad : Addr) (e : ElemS) : Prop where
  c0 : w.cell? ad = some (.int .i64 e.t)
  c1 : w.cell? ⟨ad.block, ad.off + 1, none⟩ = some (.int .i64 e.si)
  c2 : w.cell? ⟨ad.block, ad.off + 2, none⟩ = some (.int .i64 e.r)
  c3 : w.cell? ⟨ad.block, ad.off + 3, none⟩ = some (.bool e.d)
theorem El4.kept {S : Nat → Prop} {w w' : World} {ad : Addr} {e : ElemS} (h : El4 w ad e) (hk : Kept S w w') (hs : ¬ S ad.block) : El4 w' ad e := ⟨cell_kept hk h.c0 hs, cell_kept hk h.c1 hs, cell_kept hk h.c2 hs, cell_kept hk h.c3 hs⟩
theorem El4.cs {w : World} {g : Nat} {e : ElemS} (h : El4 w ⟨g, 0, none⟩ e) : w.cell? ⟨g, 0, none⟩ = some (.int .i64 e.t) ∧ w.cell? ⟨g, 1, none⟩ = some (.int .i64 e.si) ∧ w.cell? ⟨g, 2, none⟩ = some (.int .i64 e.r) ∧ w.cell? ⟨g, 3, none⟩ = some (.bool e.d) := ⟨h.c0, h.c1, h.c2, h.c3⟩
theorem el4_new {w : World} {e : ElemS} : El4 (w.alloc (elemO e)) ⟨w.heap.size, 0, none⟩ e := ⟨cell_of_row _ _ _ _ _ _ (heap_alloc_new w _), cell_of_row _ _ _ _ _ _ (heap_alloc_new w _), cell_of_row _ _ _ _ _ _ (heap_alloc_new w _), cell_of_row _ _ _ _ _ _ (heap_alloc_new w _)⟩
/-- A slice of elements. -/
structure Eg (w : World) (A : Option Addr) (n : Nat) (L : List ElemS) : Prop where
  len : L.length = n
  at' : ∀ k e, L[k]? = some e → ∃ ad, A = some ad ∧ El4 w (ad.add (k * 4)) e
theorem Eg.kept {S : Nat → Prop} {w w' : World} {A : Option Addr} {n : Nat} {L : List ElemS} (h : Eg w A n L) (hk : Kept S w w') (hs : ∀ a, A = some a → ¬ S a.block) : Eg w' A n L :=
  ⟨h.len, fun k e he => by
    obtain ⟨ad, ea, h4⟩ := h.at' k e he
    exact ⟨ad, ea, h4.kept hk (by rw [show (ad.add (k * 4)).block = ad.block by unfold Addr.add; split <;> rfl]; exact hs ad ea)⟩⟩
theorem Eg.at_ {w : World} {A : Option Addr} {n : Nat} {L : List ElemS} (h : Eg w A n L) {k : Nat} (hk : k < n) : ∃ ad e, A = some ad ∧ L[k]? = some e ∧ El4 w (ad.add (k * 4)) e := by
  have hl : k < L.length := by rw [h.len]; exact hk
  obtain ⟨ad, ea, h4⟩ := h.at' k L[k] (List.getElem?_eq_getElem hl)
  exact ⟨ad, L[k], ea, List.getElem?_eq_getElem hl, h4⟩
/-- Elements' cells, one behind another. -/
def flatE (L : List ElemS) : List Value := L.flatMap ElemS.vs
theorem flatE_app (a b : List ElemS) : flatE (a ++ b) = flatE a ++ flatE b := by simp [flatE]
theorem flatE_one (e : ElemS) : flatE [e] = e.vs := by simp [flatE]
theorem flatE_len : ∀ L : List ElemS, (flatE L).length = L.length * 4
  | [] => rfl
  | e :: L => by
    have := flatE_len L
    unfold flatE at *
    rw [List.flatMap_cons, List.length_append, this, List.length_cons]
    simp [ElemS.vs]
    omega
theorem flatE_get : ∀ {L : List ElemS} {i f : Nat} {e : ElemS} {u : Value}, L[i]? = some e → e.vs[f]? = some u → (flatE L)[i * 4 + f]? = some u
  | [], i, f, e, u, h, _ => by simp at h
  | q :: L, 0, f, e, u, h, hf => by
    simp only [List.getElem?_cons_zero, Option.some.injEq] at h
    subst h
    unfold flatE
    have hl : f < q.vs.length := by
      by_cases hl : f < q.vs.length
      · exact hl
      · rw [List.getElem?_eq_none (by omega)] at hf; cases hf
    rw [List.flatMap_cons, List.getElem?_append_left (by omega)]
    simpa using hf
  | q :: L, i + 1, f, e, u, h, hf => by
    have ih := flatE_get (L := L) (i := i) (by simpa using h) hf
    unfold flatE at *
    have hl : q.vs.length = 4 := rfl
    rw [List.flatMap_cons, List.getElem?_append_right (by omega), hl, show (i + 1) * 4 + f - 4 = i * 4 + f by omega]
    exact ih
theorem four_one {e : ElemS} : ∀ u ∈ e.vs, u.oneCell' = true := by
  intro u hu
  simp only [ElemS.vs, List.mem_cons, List.not_mem_nil, or_false] at hu
  rcases hu with rfl | rfl | rfl | rfl <;> rfl
theorem four_cells {W : World} {e : ElemS} {ty : TypeId} : ∀ j u, e.vs[j]? = some u → (W.alloc (.cells #[.int .i64 e.t, .int .i64 e.si, .int .i64 e.r, .bool e.d] ty)).cell? ((⟨W.heap.size, 0, none⟩ : Addr).add j) = some u := by
  intro j u hj
  rw [addr_add, cell_of_row _ _ _ _ _ _ (heap_alloc_new W _)]
  match j, hj with
  | 0, hj => simpa [ElemS.vs] using hj
  | 1, hj => simpa [ElemS.vs] using hj
  | 2, hj => simpa [ElemS.vs] using hj
  | 3, hj => simpa [ElemS.vs] using hj
/-- A slice of elements, as a value. -/
def Se (w : World) (v : Value) (L : List ElemS) : Prop := ∃ A n c, v = .slice A n c ∧ Eg w A n L ∧ n ≤ c ∧ (A = none → n = 0 ∧ c = 0)
theorem Se.kept {w w' : World} {v : Value} {L : List ElemS} (h : Se w v L) (hk : Kept (fun _ => False) w w') : Se w' v L := by
  obtain ⟨A, n, c, e, h1, h2, h3⟩ := h
  exact ⟨A, n, c, e, h1.kept hk (fun _ _ => id), h2, h3⟩
theorem Se.open' {w : World} {v : Value} {L : List ElemS} (h : Se w v L) : ∃ A c, v = .slice A L.length c ∧ Eg w A L.length L ∧ L.length ≤ c ∧ (A = none → L.length = 0 ∧ c = 0) := by
  obtain ⟨A, n, c, rfl, h1, h2, h3⟩ := h
  have := h1.len
  subst this
  exact ⟨A, c, rfl, h1, h2, h3⟩
theorem se_nil (w : World) : Se w (.slice none 0 0) [] := ⟨none, 0, 0, rfl, ⟨rfl, fun k r h => by simp at h⟩, Nat.le_refl _, fun _ => ⟨rfl, rfl⟩⟩
/-- What a call tells of elements, its own. -/
def Oe (w : World) (B : Nat) (v : Value) (L : List ElemS) : Prop := w.ownsRow B 56 4 v L.length (flatE L)
theorem Oe.kept {w w' : World} {B : Nat} {v : Value} {L : List ElemS} (h : Oe w B v L) (hk : Kept (fun _ => False) w w') : Oe w' B v L := by
  refine ⟨h.1, ?_⟩
  rcases h.2 with hn | ⟨g, cap, cur, e, hb, hg, rest⟩
  · exact .inl hn
  · exact .inr ⟨g, cap, cur, e, hb, (hk.block g (heap_lt hg) id).trans hg, rest⟩
theorem Oe.lt {w : World} {B : Nat} {v : Value} {L : List ElemS} (h : Oe w B v L) : ∀ k, v.ownBlock = some k → B ≤ k ∧ k < w.heap.size := fun k hk => World.ownsRow.lt h k hk
theorem oe_nil (w : World) (B : Nat) : Oe w B (.slice none 0 0) [] := World.ownsRow_nil _ _ _ _
theorem Oe.snoc {w : World} {B : Nat} {v : Value} {L : List ElemS} {e : ElemS} (h : w.ownsRow B 56 4 v (L.length + 1) (flatE L ++ e.vs)) : Oe w B v (L ++ [e]) := by
  unfold Oe
  rw [List.length_append, List.length_singleton, flatE_app, flatE_one]
  exact h
theorem Oe.se {w : World} {B : Nat} {v : Value} {L : List ElemS} (h : Oe w B v L) : Se w v L := by
  rcases id h.2 with ⟨rfl, hl⟩ | ⟨g, cap, cur, rfl, hb, hh, hcap, _, _, _⟩
  · obtain rfl := List.eq_nil_of_length_eq_zero hl
    exact se_nil w
  · refine ⟨_, _, cap, rfl, ⟨rfl, fun k e he => ⟨_, rfl, ?_⟩⟩, hcap, fun h => by cases h⟩
    have hcells : ∀ j u, (flatE L)[j]? = some u → w.cell? ((⟨g, 0, none⟩ : Addr).add j) = some u := World.ownsRow.cells h rfl
    have g0 := hcells (k * 4 + 0) _ (flatE_get he (f := 0) rfl)
    have g1 := hcells (k * 4 + 1) _ (flatE_get he (f := 1) rfl)
    have g2 := hcells (k * 4 + 2) _ (flatE_get he (f := 2) rfl)
    have g3 := hcells (k * 4 + 3) _ (flatE_get he (f := 3) rfl)
    rw [addr_add] at g0 g1 g2 g3
    have e : (⟨g, 0, none⟩ : Addr).add (k * 4) = ⟨g, k * 4, none⟩ := by rw [addr_add, Nat.zero_add]
    rw [e]
    exact ⟨by simpa using g0, by simpa using g1, by simpa using g2, by simpa using g3⟩
end Go.Proofs.YtlminkbaafjloaaDoor
