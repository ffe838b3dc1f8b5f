/-
  NODES of a tree in memory: a slice of them; what a call owns of them.
-/
import Derived.Test.YthbfmdnibijapaaDoorRws
import Derived.Laws.AppendOwn
import Derived.Laws.AppendOwnNone
import Derived.Laws.MakeOwn
import Derived.Laws.OwnMore
import Derived.Maps.AppendAt
import Derived.OwnWalk
set_option linter.unusedVariables false
namespace Go.Proofs.YthbfmdnibijapaaDoor
open Go Go.RowKit

/-- An element. -/
structure NodeS where
  sq : Int
  pa : Int
  at_ : Int
  tx : ByteArray
instance : Inhabited NodeS := ⟨⟨0, 0, 0, ⟨#[]⟩⟩⟩
theorem info_node : (Tryd.prog.info? 46).map (fun i => (i.zero, i.size, i.bytes)) = some (some (.agg #[.int .i64 0, .int .i64 0, .int .i64 0, .string ⟨#[]⟩]), 4, 40) := by kernel_rfl
def NodeS.vs (e : NodeS) : List Value := [.int .i64 e.sq, .int .i64 e.pa, .int .i64 e.at_, .string e.tx]
abbrev nodeV (e : NodeS) : Value := .agg #[.int .i64 e.sq, .int .i64 e.pa, .int .i64 e.at_, .string e.tx]
abbrev nodeO (e : NodeS) : Obj := .cells #[.int .i64 e.sq, .int .i64 e.pa, .int .i64 e.at_, .string e.tx] 46
/-- An element's cells. -/
structure Nd4 (w : World) (ad : Addr) (e : NodeS) : Prop where
  c0 : w.cell? ad = some (.int .i64 e.sq)
  c1 : w.cell? ⟨ad.block, ad.off + 1, none⟩ = some (.int .i64 e.pa)
  c2 : w.cell? ⟨ad.block, ad.off + 2, none⟩ = some (.int .i64 e.at_)
  c3 : w.cell? ⟨ad.block, ad.off + 3, none⟩ = some (.string e.tx)
theorem Nd4.kept {S : Nat → Prop} {w w' : World} {ad : Addr} {e : NodeS} (h : Nd4 w ad e) (hk : Kept S w w') (hs : ¬ S ad.block) : Nd4 w' ad e := ⟨cell_kept hk h.c0 hs, cell_kept hk h.c1 hs, cell_kept hk h.c2 hs, cell_kept hk h.c3 hs⟩
theorem Nd4.cs {w : World} {g : Nat} {e : NodeS} (h : Nd4 w ⟨g, 0, none⟩ e) : w.cell? ⟨g, 0, none⟩ = some (.int .i64 e.sq) ∧ w.cell? ⟨g, 1, none⟩ = some (.int .i64 e.pa) ∧ w.cell? ⟨g, 2, none⟩ = some (.int .i64 e.at_) ∧ w.cell? ⟨g, 3, none⟩ = some (.string e.tx) := ⟨h.c0, h.c1, h.c2, h.c3⟩
theorem nd4_new {w : World} {e : NodeS} : Nd4 (w.alloc (nodeO e)) ⟨w.heap.size, 0, none⟩ e := ⟨cell_of_row _ _ _ _ _ _ (heap_alloc_new w _), cell_of_row _ _ _ _ _ _ (heap_alloc_new w _), cell_of_row _ _ _ _ _ _ (heap_alloc_new w _), cell_of_row _ _ _ _ _ _ (heap_alloc_new w _)⟩
/-- A slice of elements. -/
structure Ng (w : World) (A : Option Addr) (n : Nat) (L : List NodeS) : Prop where
  len : L.length = n
  at' : ∀ k e, L[k]? = some e → ∃ ad, A = some ad ∧ Nd4 w (ad.add (k * 4)) e
theorem Ng.kept {S : Nat → Prop} {w w' : World} {A : Option Addr} {n : Nat} {L : List NodeS} (h : Ng w A n L) (hk : Kept S w w') (hs : ∀ a, A = some a → ¬ S a.block) : Ng w' A n L :=
  ⟨h.len, fun k e he => by
    obtain ⟨ad, ea, h4⟩ := h.at' k e he
    exact ⟨ad, ea, h4.kept hk (by rw [show (ad.add (k * 4)).block = ad.block by unfold Addr.add; split <;> rfl]; exact hs ad ea)⟩⟩
theorem Ng.at_ {w : World} {A : Option Addr} {n : Nat} {L : List NodeS} (h : Ng w A n L) {k : Nat} (hk : k < n) : ∃ ad e, A = some ad ∧ L[k]? = some e ∧ Nd4 w (ad.add (k * 4)) e := by
  have hl : k < L.length := by rw [h.len]; exact hk
  obtain ⟨ad, ea, h4⟩ := h.at' k L[k] (List.getElem?_eq_getElem hl)
  exact ⟨ad, L[k], ea, List.getElem?_eq_getElem hl, h4⟩
/-- Elements' cells, one behind another. -/
def flatN (L : List NodeS) : List Value := L.flatMap NodeS.vs
theorem flatN_app (a b : List NodeS) : flatN (a ++ b) = flatN a ++ flatN b := by simp [flatN]
theorem flatN_one (e : NodeS) : flatN [e] = e.vs := by simp [flatN]
theorem flatN_len : ∀ L : List NodeS, (flatN L).length = L.length * 4
  | [] => rfl
  | e :: L => by
    have := flatN_len L
    unfold flatN at *
    rw [List.flatMap_cons, List.length_append, this, List.length_cons]
    simp [NodeS.vs]
    omega
theorem flatN_get : ∀ {L : List NodeS} {i f : Nat} {e : NodeS} {u : Value}, L[i]? = some e → e.vs[f]? = some u → (flatN L)[i * 4 + f]? = some u
  | [], i, f, e, u, h, _ => by simp at h
  | q :: L, 0, f, e, u, h, hf => by
    simp only [List.getElem?_cons_zero, Option.some.injEq] at h
    subst h
    unfold flatN
    have hl : f < q.vs.length := by
      by_cases hl : f < q.vs.length
      · exact hl
      · rw [List.getElem?_eq_none (by omega)] at hf; cases hf
    rw [List.flatMap_cons, List.getElem?_append_left (by omega)]
    simpa using hf
  | q :: L, i + 1, f, e, u, h, hf => by
    have ih := flatN_get (L := L) (i := i) (by simpa using h) hf
    unfold flatN at *
    have hl : q.vs.length = 4 := rfl
    rw [List.flatMap_cons, List.getElem?_append_right (by omega), hl, show (i + 1) * 4 + f - 4 = i * 4 + f by omega]
    exact ih
theorem nfour_one {e : NodeS} : ∀ u ∈ e.vs, u.oneCell' = true := by
  intro u hu
  simp only [NodeS.vs, List.mem_cons, List.not_mem_nil, or_false] at hu
  rcases hu with rfl | rfl | rfl | rfl <;> rfl
theorem nfour_cells {W : World} {e : NodeS} {ty : TypeId} : ∀ j u, e.vs[j]? = some u → (W.alloc (.cells #[.int .i64 e.sq, .int .i64 e.pa, .int .i64 e.at_, .string e.tx] ty)).cell? ((⟨W.heap.size, 0, none⟩ : Addr).add j) = some u := by
  intro j u hj
  rw [addr_add, cell_of_row _ _ _ _ _ _ (heap_alloc_new W _)]
  match j, hj with
  | 0, hj => simpa [NodeS.vs] using hj
  | 1, hj => simpa [NodeS.vs] using hj
  | 2, hj => simpa [NodeS.vs] using hj
  | 3, hj => simpa [NodeS.vs] using hj
/-- A slice of elements, as a value. -/
def Sn (w : World) (v : Value) (L : List NodeS) : Prop := ∃ A n c, v = .slice A n c ∧ Ng w A n L ∧ n ≤ c ∧ (A = none → n = 0 ∧ c = 0)
theorem Sn.kept {w w' : World} {v : Value} {L : List NodeS} (h : Sn w v L) (hk : Kept (fun _ => False) w w') : Sn w' v L := by
  obtain ⟨A, n, c, e, h1, h2, h3⟩ := h
  exact ⟨A, n, c, e, h1.kept hk (fun _ _ => id), h2, h3⟩
theorem Sn.open' {w : World} {v : Value} {L : List NodeS} (h : Sn w v L) : ∃ A c, v = .slice A L.length c ∧ Ng w A L.length L ∧ L.length ≤ c ∧ (A = none → L.length = 0 ∧ c = 0) := by
  obtain ⟨A, n, c, rfl, h1, h2, h3⟩ := h
  have := h1.len
  subst this
  exact ⟨A, c, rfl, h1, h2, h3⟩
theorem sn_nil (w : World) : Sn w (.slice none 0 0) [] := ⟨none, 0, 0, rfl, ⟨rfl, fun k r h => by simp at h⟩, Nat.le_refl _, fun _ => ⟨rfl, rfl⟩⟩
/-- What a call tells of elements, its own. -/
def On (w : World) (B : Nat) (v : Value) (L : List NodeS) : Prop := w.ownsRow B 46 4 v L.length (flatN L)
theorem On.kept {w w' : World} {B : Nat} {v : Value} {L : List NodeS} (h : On w B v L) (hk : Kept (fun _ => False) w w') : On w' B v L := by
  refine ⟨h.1, ?_⟩
  rcases h.2 with hn | ⟨g, cap, cur, e, hb, hg, rest⟩
  · exact .inl hn
  · exact .inr ⟨g, cap, cur, e, hb, (hk.block g (heap_lt hg) id).trans hg, rest⟩
theorem On.lt {w : World} {B : Nat} {v : Value} {L : List NodeS} (h : On w B v L) : ∀ k, v.ownBlock = some k → B ≤ k ∧ k < w.heap.size := fun k hk => World.ownsRow.lt h k hk
theorem on_nil (w : World) (B : Nat) : On w B (.slice none 0 0) [] := World.ownsRow_nil _ _ _ _
theorem On.snoc {w : World} {B : Nat} {v : Value} {L : List NodeS} {e : NodeS} (h : w.ownsRow B 46 4 v (L.length + 1) (flatN L ++ e.vs)) : On w B v (L ++ [e]) := by
  unfold On
  rw [List.length_append, List.length_singleton, flatN_app, flatN_one]
  exact h
theorem On.sn {w : World} {B : Nat} {v : Value} {L : List NodeS} (h : On w B v L) : Sn w v L := by
  rcases id h.2 with ⟨rfl, hl⟩ | ⟨g, cap, cur, rfl, hb, hh, hcap, _, _, _⟩
  · obtain rfl := List.eq_nil_of_length_eq_zero hl
    exact sn_nil w
  · refine ⟨_, _, cap, rfl, ⟨rfl, fun k e he => ⟨_, rfl, ?_⟩⟩, hcap, fun h => by cases h⟩
    have hcells : ∀ j u, (flatN L)[j]? = some u → w.cell? ((⟨g, 0, none⟩ : Addr).add j) = some u := World.ownsRow.cells h rfl
    have g0 := hcells (k * 4 + 0) _ (flatN_get he (f := 0) rfl)
    have g1 := hcells (k * 4 + 1) _ (flatN_get he (f := 1) rfl)
    have g2 := hcells (k * 4 + 2) _ (flatN_get he (f := 2) rfl)
    have g3 := hcells (k * 4 + 3) _ (flatN_get he (f := 3) rfl)
    rw [addr_add] at g0 g1 g2 g3
    have e : (⟨g, 0, none⟩ : Addr).add (k * 4) = ⟨g, k * 4, none⟩ := by rw [addr_add, Nat.zero_add]
    rw [e]
    exact ⟨by simpa using g0, by simpa using g1, by simpa using g2, by simpa using g3⟩
end Go.Proofs.YthbfmdnibijapaaDoor
