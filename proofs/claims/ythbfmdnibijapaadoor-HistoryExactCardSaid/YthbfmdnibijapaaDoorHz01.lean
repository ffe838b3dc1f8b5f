/-
  SLICES OF STRUCTS OF NUMBERS, OPENED: row by row, cell by cell.
  NODES of a tree in memory: a slice of them; what a call owns of them.
  NODES: the search for a Seq among nodes in order.
  A TEXT's RUNES, by the model's own conversion; what a text may be.
-/
import Derived.Test.YthbfmdnibijapaaDoorHz00
import Derived.Deep.Strs
import Derived.Laws.AppendOwn
import Derived.Laws.AppendOwnNone
import Derived.Laws.MakeOwn
import Derived.Laws.OwnMore
import Derived.Maps.AppendAt
import Derived.OwnWalk
import Derived.Deep.CutRange
import Derived.Deep.CutBlock
import Derived.Deep.RegionHeld3
import Derived.Laws.RangeString
import Derived.Laws.RangeAny
import Derived.Lib.RuneCount
import Derived.Laws.IdiomStrings
set_option linter.unusedVariables false
namespace Go.Proofs.YthbfmdnibijapaaDoor
open Go Go.RowKit Go.ChangeShapes Go.WideShapes Go.ChangeAt

theorem addr_blk (x : Addr) (j : Nat) : (x.add j).block = x.block := by unfold Addr.add; split <;> rfl
/-- A slice's room. -/
def Cp (A : Option Addr) (n c : Nat) : Prop := n ≤ c ∧ (A = none → c = 0)
/-- A slice of structs of k numbers each. -/
def Rws (w : World) (A : Option Addr) (n k : Nat) (rows : List (List Int)) : Prop :=
  rows.length = n ∧ ∀ i r, rows[i]? = some r → r.length = k ∧ (∀ x ∈ r, I64 x) ∧ ∃ ad, A = some ad ∧ ∀ f x, r[f]? = some x → w.cell? ((ad.add (i * k)).add f) = some (.int .i64 x)
theorem Rws.kept {w w' : World} {S : Nat → Prop} {A : Option Addr} {n k : Nat} {rows : List (List Int)} (h : Rws w A n k rows) (hk : Kept S w w') (hS : ∀ a, A = some a → ¬ S a.block) : Rws w' A n k rows := by
  refine ⟨h.1, fun i r hi => ?_⟩
  obtain ⟨h1, h2, ad, e, hc⟩ := h.2 i r hi
  refine ⟨h1, h2, ad, e, fun f x hf => cell_kept hk (hc f x hf) ?_⟩
  rw [addr_blk, addr_blk]
  exact hS ad e
theorem Rws.row {w : World} {A : Option Addr} {n k : Nat} {rows : List (List Int)} (h : Rws w A n k rows) {i : Nat} (hi : i < n) : ∃ ad r, A = some ad ∧ rows[i]? = some r ∧ r.length = k ∧ (∀ x ∈ r, I64 x) ∧ ∀ f x, r[f]? = some x → w.cell? ((ad.add (i * k)).add f) = some (.int .i64 x) := by
  have hl : i < rows.length := by rw [h.1]; exact hi
  obtain ⟨h1, h2, ad, e, hc⟩ := h.2 i rows[i] (List.getElem?_eq_getElem hl)
  exact ⟨ad, rows[i], e, List.getElem?_eq_getElem hl, h1, h2, hc⟩
section
variable {H : Type} {enc : TypeId × Value → H} {W : World} {base : Nat} {sp : Nat → Bool} {held : Bool}
set_option maxRecDepth 100000 in
theorem rows_open {t e : TypeId} {k : Nat} (ht : Tryd.prog.underlying t = some (.slice e)) (hk : Tryd.prog.cellsOf e = k) (hb : 1 ≤ Tryd.prog.bytesOf e)
    (he : ∀ fuel cs x, DataW.trod enc Tryd.prog W base sp held fuel e cs = some x → ∃ r : List Int, r.length = k ∧ cs = r.map (Value.int .i64) ∧ ∀ y ∈ r, I64 y)
    {fuel : Nat} {cs : List Value} {x : DataW H × List MemPlace} (h : DataW.trod enc Tryd.prog W base sp held fuel t cs = some x) (hz : ∀ q ∈ x.1.weights Tryd.prog t, q ≤ reachBytes) :
    ∃ (A : Option Addr) (n c : Nat) (rows : List (List Int)), cs = [.slice A n c] ∧ Rws W A n k rows ∧ n ≤ 140737488351232 ∧ Cp A n c := by
  rcases Deep.open_slice ht h with ⟨rfl, rfl⟩ | ⟨a, len, cap, m, fu, D, Pl, rfl, hba, hl, hm, hmm, rfl, hx⟩
  · exact ⟨none, 0, 0, [], rfl, ⟨rfl, fun j x hj => by simp at hj⟩, by omega, Nat.le_refl _, fun _ => rfl⟩
  · have hle : len ≤ m := by rw [hmm]; split <;> omega
    have hlen : len ≤ 140737488351232 := by
      have h1 := hz ((((List.range len).map D).length + ((List.range (m - len)).map fun j => D (len + j)).length) * Tryd.prog.bytesOf e) (by
        simp only [DataW.weights, ht]
        exact List.mem_cons_self)
      simp only [List.length_map, List.length_range] at h1
      unfold reachBytes at h1
      have := Nat.le_mul_of_pos_right (len + (m - len)) (show 0 < Tryd.prog.bytesOf e by omega)
      omega
    obtain ⟨q, hq⟩ := Deep.choose_lt (α := List Int) (n := len) (p := fun i r => r.length = k ∧ (∀ y ∈ r, I64 y) ∧ ∀ f y, r[f]? = some y → W.cell? ((a.add (i * k)).add f) = some (.int .i64 y)) (fun i hi => by
      obtain ⟨cs', h1, h2⟩ := hx i (by omega)
      obtain ⟨r, hr, rfl, hri⟩ := he _ _ _ h2
      rw [hk] at h1
      obtain ⟨_, _, hc⟩ := World.cells?_some h1
      refine ⟨r, hr, hri, fun f y hf => ?_⟩
      have hfl : f < k := by
        rw [← hr]
        by_cases hfl : f < r.length
        · exact hfl
        · rw [List.getElem?_eq_none (by omega)] at hf; cases hf
      rw [hc f hfl, List.getElem?_map, hf]
      rfl)
    refine ⟨some a, len, cap, (List.range len).map q, rfl, ⟨by simp, fun i r hi => ?_⟩, hlen, hl, (fun h => by cases h)⟩
    have hil : i < len := by
      by_cases hil : i < len
      · exact hil
      · rw [List.getElem?_eq_none (by simp; omega)] at hi; simp at hi
    rw [List.getElem?_map, List.getElem?_range hil] at hi
    simp only [Option.map_some, Option.some.injEq] at hi
    rw [← hi]
    obtain ⟨k0, k1, k2⟩ := hq i hil
    exact ⟨k0, k1, a, rfl, k2⟩
/-- A struct of numbers. -/
theorem ints_open {fs : List Field} {fuel : Nat} {t : TypeId} {cs : List Value} {x : DataW H × List MemPlace} (ht : Tryd.prog.underlying t = some (.struct fs.toArray)) (hf : ∀ (i : Nat) (f : Field), fs[i]? = some f → f.type = 3 ∧ f.offset = i) (hc : Tryd.prog.cellsOf t = fs.length)
    (h : DataW.trod enc Tryd.prog W base sp held fuel t cs = some x) : ∃ r : List Int, r.length = fs.length ∧ cs = r.map (Value.int .i64) ∧ ∀ y ∈ r, I64 y := by
  obtain ⟨xs, n, _, rfl, hl, hlen, hfs⟩ := DataW.trod_struct ht h
  rw [hc] at hl
  obtain ⟨q, hq⟩ := Deep.choose_lt (α := Int) (n := cs.length) (p := fun i y => cs[i]? = some (.int .i64 y) ∧ I64 y) (fun i hi => by
    have hfi : fs[i]? = some fs[i] := List.getElem?_eq_getElem (by omega)
    obtain ⟨e1, e2⟩ := hf i _ hfi
    have h1 := hfs i fs[i] (by simp)
    rw [List.getElem?_eq_getElem (by simp at hlen; omega)] at h1
    rw [e1, e2, cells_int] at h1
    obtain ⟨z, ez, _, wz⟩ := DataW.trod_int Tryd.underlying3 h1
    refine ⟨z, ?_, i64_of_wf wz⟩
    have := congrArg (fun l => l[0]?) ez
    simpa [List.getElem?_take, List.getElem?_drop] using this)
  refine ⟨(List.range cs.length).map q, by simp [hl], ?_, fun y hy => ?_⟩
  · apply List.ext_getElem?
    intro i
    by_cases hi : i < cs.length
    · rw [(hq i hi).1, List.getElem?_map, List.getElem?_map, List.getElem?_range hi]
      rfl
    · rw [List.getElem?_eq_none (by omega), List.getElem?_eq_none (by simp; omega)]
  · obtain ⟨i, hi, rfl⟩ := List.mem_map.1 hy
    exact (hq i (List.mem_range.1 hi)).2
end
end Go.Proofs.YthbfmdnibijapaaDoor
namespace Go.Proofs.YthbfmdnibijapaaDoor
open Go Go.RowKit

/-- An element. -/
structure NodeS where
  sq : Int
  pa : Int
  at_ : Int
  tx : ByteArray
instance : Inhabited NodeS := ⟨⟨0, 0, 0, ⟨#[]⟩⟩⟩
theorem info_node : (Tryd.prog.info? 46).map (fun i => (i.zero, i.size, i.bytes)) = some (some (.agg #[.int .i64 0, .int .i64 0, .int .i64 0, .string ⟨#[]⟩]), 4, 40) := by kernel_rfl
def NodeS.vs (e : NodeS) : List Value := [.int .i64 e.sq, .int .i64 e.pa, .int .i64 e.at_, .string e.tx]
abbrev nodeV (e : NodeS) : Value := .agg #[.int .i64 e.sq, .int .i64 e.pa, .int .i64 e.at_, .string e.tx]
abbrev nodeO (e : NodeS) : Obj := .cells #[.int .i64 e.sq, .int .i64 e.pa, .int .i64 e.at_, .string e.tx] 46
/-- An element's cells. -/
structure Nd4 (w : World) (ad : Addr) (e : NodeS) : Prop where
  c0 : w.cell? ad = some (.int .i64 e.sq)
  c1 : w.cell? ⟨ad.block, ad.off + 1, none⟩ = some (.int .i64 e.pa)
  c2 : w.cell? ⟨ad.block, ad.off + 2, none⟩ = some (.int .i64 e.at_)
  c3 : w.cell? ⟨ad.block, ad.off + 3, none⟩ = some (.string e.tx)
theorem Nd4.kept {S : Nat → Prop} {w w' : World} {ad : Addr} {e : NodeS} (h : Nd4 w ad e) (hk : Kept S w w') (hs : ¬ S ad.block) : Nd4 w' ad e := ⟨cell_kept hk h.c0 hs, cell_kept hk h.c1 hs, cell_kept hk h.c2 hs, cell_kept hk h.c3 hs⟩
theorem Nd4.cs {w : World} {g : Nat} {e : NodeS} (h : Nd4 w ⟨g, 0, none⟩ e) : w.cell? ⟨g, 0, none⟩ = some (.int .i64 e.sq) ∧ w.cell? ⟨g, 1, none⟩ = some (.int .i64 e.pa) ∧ w.cell? ⟨g, 2, none⟩ = some (.int .i64 e.at_) ∧ w.cell? ⟨g, 3, none⟩ = some (.string e.tx) := ⟨h.c0, h.c1, h.c2, h.c3⟩
theorem nd4_new {w : World} {e : NodeS} : Nd4 (w.alloc (nodeO e)) ⟨w.heap.size, 0, none⟩ e := ⟨cell_of_row _ _ _ _ _ _ (heap_alloc_new w _), cell_of_row _ _ _ _ _ _ (heap_alloc_new w _), cell_of_row _ _ _ _ _ _ (heap_alloc_new w _), cell_of_row _ _ _ _ _ _ (heap_alloc_new w _)⟩
/-- A slice of elements. -/
structure Ng (w : World) (A : Option Addr) (n : Nat) (L : List NodeS) : Prop where
  len : L.length = n
  at' : ∀ k e, L[k]? = some e → ∃ ad, A = some ad ∧ Nd4 w (ad.add (k * 4)) e
theorem Ng.kept {S : Nat → Prop} {w w' : World} {A : Option Addr} {n : Nat} {L : List NodeS} (h : Ng w A n L) (hk : Kept S w w') (hs : ∀ a, A = some a → ¬ S a.block) : Ng w' A n L :=
  ⟨h.len, fun k e he => by
    obtain ⟨ad, ea, h4⟩ := h.at' k e he
    exact ⟨ad, ea, h4.kept hk (by rw [show (ad.add (k * 4)).block = ad.block by unfold Addr.add; split <;> rfl]; exact hs ad ea)⟩⟩
theorem Ng.at_ {w : World} {A : Option Addr} {n : Nat} {L : List NodeS} (h : Ng w A n L) {k : Nat} (hk : k < n) : ∃ ad e, A = some ad ∧ L[k]? = some e ∧ Nd4 w (ad.add (k * 4)) e := by
  have hl : k < L.length := by rw [h.len]; exact hk
  obtain ⟨ad, ea, h4⟩ := h.at' k L[k] (List.getElem?_eq_getElem hl)
  exact ⟨ad, L[k], ea, List.getElem?_eq_getElem hl, h4⟩
/-- Elements' cells, one behind another. -/
def flatN (L : List NodeS) : List Value := L.flatMap NodeS.vs
theorem flatN_app (a b : List NodeS) : flatN (a ++ b) = flatN a ++ flatN b := by simp [flatN]
theorem flatN_one (e : NodeS) : flatN [e] = e.vs := by simp [flatN]
theorem flatN_len : ∀ L : List NodeS, (flatN L).length = L.length * 4
  | [] => rfl
  | e :: L => by
    have := flatN_len L
    unfold flatN at *
    rw [List.flatMap_cons, List.length_append, this, List.length_cons]
    simp [NodeS.vs]
    omega
theorem flatN_get : ∀ {L : List NodeS} {i f : Nat} {e : NodeS} {u : Value}, L[i]? = some e → e.vs[f]? = some u → (flatN L)[i * 4 + f]? = some u
  | [], i, f, e, u, h, _ => by simp at h
  | q :: L, 0, f, e, u, h, hf => by
    simp only [List.getElem?_cons_zero, Option.some.injEq] at h
    subst h
    unfold flatN
    have hl : f < q.vs.length := by
      by_cases hl : f < q.vs.length
      · exact hl
      · rw [List.getElem?_eq_none (by omega)] at hf; cases hf
    rw [List.flatMap_cons, List.getElem?_append_left (by omega)]
    simpa using hf
  | q :: L, i + 1, f, e, u, h, hf => by
    have ih := flatN_get (L := L) (i := i) (by simpa using h) hf
    unfold flatN at *
    have hl : q.vs.length = 4 := rfl
    rw [List.flatMap_cons, List.getElem?_append_right (by omega), hl, show (i + 1) * 4 + f - 4 = i * 4 + f by omega]
    exact ih
theorem nfour_one {e : NodeS} : ∀ u ∈ e.vs, u.oneCell' = true := by
  intro u hu
  simp only [NodeS.vs, List.mem_cons, List.not_mem_nil, or_false] at hu
  rcases hu with rfl | rfl | rfl | rfl <;> rfl
theorem nfour_cells {W : World} {e : NodeS} {ty : TypeId} : ∀ j u, e.vs[j]? = some u → (W.alloc (.cells #[.int .i64 e.sq, .int .i64 e.pa, .int .i64 e.at_, .string e.tx] ty)).cell? ((⟨W.heap.size, 0, none⟩ : Addr).add j) = some u := by
  intro j u hj
  rw [addr_add, cell_of_row _ _ _ _ _ _ (heap_alloc_new W _)]
  match j, hj with
  | 0, hj => simpa [NodeS.vs] using hj
  | 1, hj => simpa [NodeS.vs] using hj
  | 2, hj => simpa [NodeS.vs] using hj
  | 3, hj => simpa [NodeS.vs] using hj
/-- A slice of elements, as a value. -/
def Sn (w : World) (v : Value) (L : List NodeS) : Prop := ∃ A n c, v = .slice A n c ∧ Ng w A n L ∧ n ≤ c ∧ (A = none → n = 0 ∧ c = 0)
theorem Sn.kept {w w' : World} {v : Value} {L : List NodeS} (h : Sn w v L) (hk : Kept (fun _ => False) w w') : Sn w' v L := by
  obtain ⟨A, n, c, e, h1, h2, h3⟩ := h
  exact ⟨A, n, c, e, h1.kept hk (fun _ _ => id), h2, h3⟩
theorem Sn.open' {w : World} {v : Value} {L : List NodeS} (h : Sn w v L) : ∃ A c, v = .slice A L.length c ∧ Ng w A L.length L ∧ L.length ≤ c ∧ (A = none → L.length = 0 ∧ c = 0) := by
  obtain ⟨A, n, c, rfl, h1, h2, h3⟩ := h
  have := h1.len
  subst this
  exact ⟨A, c, rfl, h1, h2, h3⟩
theorem sn_nil (w : World) : Sn w (.slice none 0 0) [] := ⟨none, 0, 0, rfl, ⟨rfl, fun k r h => by simp at h⟩, Nat.le_refl _, fun _ => ⟨rfl, rfl⟩⟩
/-- What a call tells of elements, its own. -/
def On (w : World) (B : Nat) (v : Value) (L : List NodeS) : Prop := w.ownsRow B 46 4 v L.length (flatN L)
theorem On.kept {w w' : World} {B : Nat} {v : Value} {L : List NodeS} (h : On w B v L) (hk : Kept (fun _ => False) w w') : On w' B v L := by
  refine ⟨h.1, ?_⟩
  rcases h.2 with hn | ⟨g, cap, cur, e, hb, hg, rest⟩
  · exact .inl hn
  · exact .inr ⟨g, cap, cur, e, hb, (hk.block g (heap_lt hg) id).trans hg, rest⟩
theorem On.lt {w : World} {B : Nat} {v : Value} {L : List NodeS} (h : On w B v L) : ∀ k, v.ownBlock = some k → B ≤ k ∧ k < w.heap.size := fun k hk => World.ownsRow.lt h k hk
theorem on_nil (w : World) (B : Nat) : On w B (.slice none 0 0) [] := World.ownsRow_nil _ _ _ _
theorem On.snoc {w : World} {B : Nat} {v : Value} {L : List NodeS} {e : NodeS} (h : w.ownsRow B 46 4 v (L.length + 1) (flatN L ++ e.vs)) : On w B v (L ++ [e]) := by
  unfold On
  rw [List.length_append, List.length_singleton, flatN_app, flatN_one]
  exact h
theorem On.sn {w : World} {B : Nat} {v : Value} {L : List NodeS} (h : On w B v L) : Sn w v L := by
  rcases id h.2 with ⟨rfl, hl⟩ | ⟨g, cap, cur, rfl, hb, hh, hcap, _, _, _⟩
  · obtain rfl := List.eq_nil_of_length_eq_zero hl
    exact sn_nil w
  · refine ⟨_, _, cap, rfl, ⟨rfl, fun k e he => ⟨_, rfl, ?_⟩⟩, hcap, fun h => by cases h⟩
    have hcells : ∀ j u, (flatN L)[j]? = some u → w.cell? ((⟨g, 0, none⟩ : Addr).add j) = some u := World.ownsRow.cells h rfl
    have g0 := hcells (k * 4 + 0) _ (flatN_get he (f := 0) rfl)
    have g1 := hcells (k * 4 + 1) _ (flatN_get he (f := 1) rfl)
    have g2 := hcells (k * 4 + 2) _ (flatN_get he (f := 2) rfl)
    have g3 := hcells (k * 4 + 3) _ (flatN_get he (f := 3) rfl)
    rw [addr_add] at g0 g1 g2 g3
    have e : (⟨g, 0, none⟩ : Addr).add (k * 4) = ⟨g, k * 4, none⟩ := by rw [addr_add, Nat.zero_add]
    rw [e]
    exact ⟨by simpa using g0, by simpa using g1, by simpa using g2, by simpa using g3⟩
end Go.Proofs.YthbfmdnibijapaaDoor
namespace Go.Proofs.YthbfmdnibijapaaDoor
open Go Go.RowKit

theorem mnum_any (x m : Int) (w : World) : Calls Tryd.prog 15 #[.int .i64 x, .int .i64 m] w fun e w' => e = .returned (.bool (decide (0 ≤ x ∧ x ≤ m))) ∧ w' = w := by
  by_cases h1 : 0 ≤ x
  · have b1 : decide (0 ≤ x) = true := by simp; omega
    by_cases h2 : x ≤ m
    · have b2 : decide (x ≤ m) = true := by simp; omega
      rw [decide_eq_true (show 0 ≤ x ∧ x ≤ m from ⟨h1, h2⟩)]
      clear h1 h2
      go_enter Tryd.func15, Tryd.ntmps15
      go_wp2
      go_ret
      exact ⟨rfl, rfl⟩
    · have b2 : decide (x ≤ m) = false := by simp; omega
      rw [decide_eq_false (show ¬ (0 ≤ x ∧ x ≤ m) by omega)]
      clear h1 h2
      go_enter Tryd.func15, Tryd.ntmps15
      go_wp2
      go_ret
      exact ⟨rfl, rfl⟩
  · have b1 : decide (0 ≤ x) = false := by simp; omega
    rw [decide_eq_false (show ¬ (0 ≤ x ∧ x ≤ m) by omega)]
    clear h1
    go_enter Tryd.func15, Tryd.ntmps15
    go_wp2
    go_ret
    exact ⟨rfl, rfl⟩
def cmpv (x z : Int) : Int := if x < z then -1 else if z < x then 1 else 0
theorem cnan_any (x : Int) (w : World) : Calls Tryd.prog 85 #[.int .i64 x] w fun e w' => e = .returned (.bool false) ∧ w' = w := by
  have b : (x != x) = false := by simp
  go_enter Tryd.func85, Tryd.ntmps85
  go_wp2
  go_ret
  exact ⟨rfl, rfl⟩
theorem compare_any (x z : Int) (w : World) : Calls Tryd.prog 75 #[.int .i64 x, .int .i64 z] w fun e w' => e = .returned (.int .i64 (cmpv x z)) ∧ w' = w := by
  by_cases h1 : x < z
  · have hv : Hid (cmpv x z = -1) := by show _ = _; unfold cmpv; rw [if_pos h1]
    have b1 : decide (x < z) = true := decide_eq_true h1
    clear h1
    go_enter Tryd.func75, Tryd.ntmps75
    go_wp2_with (go_at_call 85; refine (cnan_any _ _).mono ?_; rintro e w' ⟨rfl, rfl⟩)
    go_ret
    rw [hv.out]
    exact ⟨rfl, rfl⟩
  · by_cases h2 : z < x
    · have hv : Hid (cmpv x z = 1) := by show _ = _; unfold cmpv; rw [if_neg h1, if_pos h2]
      have b1 : decide (x < z) = false := decide_eq_false h1
      have b2 : decide (z < x) = true := decide_eq_true h2
      clear h1 h2
      go_enter Tryd.func75, Tryd.ntmps75
      go_wp2_with (go_at_call 85; refine (cnan_any _ _).mono ?_; rintro e w' ⟨rfl, rfl⟩)
      go_ret
      rw [hv.out]
      exact ⟨rfl, rfl⟩
    · have hv : Hid (cmpv x z = 0) := by show _ = _; unfold cmpv; rw [if_neg h1, if_neg h2]
      have b1 : decide (x < z) = false := decide_eq_false h1
      have b2 : decide (z < x) = false := decide_eq_false h2
      clear h1 h2
      go_enter Tryd.func75, Tryd.ntmps75
      go_wp2_with (go_at_call 85; refine (cnan_any _ _).mono ?_; rintro e w' ⟨rfl, rfl⟩)
      go_ret
      rw [hv.out]
      exact ⟨rfl, rfl⟩
theorem nclo_any (e : NodeS) (z : Int) (w : World) : Calls Tryd.prog 74 #[nodeV e, .int .i64 z] w fun e' w' => e' = .returned (.int .i64 (cmpv e.sq z)) ∧ Kept (fun _ => False) w w' := by
  have hK0 : Hid (Kept (fun _ => False) w (w.alloc (nodeO e))) := (Kept.refl _ w).alloc _
  go_enter Tryd.func74, Tryd.ntmps74
  go_wp2_with (go_at_call 75; refine (compare_any _ _ _).mono ?_; rintro e' w' ⟨rfl, rfl⟩)
  go_ret
  exact ⟨rfl, hK0.out⟩
/-- Nodes in order. -/
def Srt (L : List NodeS) : Prop := ∀ (i j : Nat) (a b : NodeS), L[i]? = some a → L[j]? = some b → i < j → a.sq < b.sq
/-- The place of a Seq, or -1. -/
def idx (L : List NodeS) (z : Int) : Int := match L.findIdx? (fun e => decide (e.sq = z)) with
  | some i => (i : Nat)
  | none => -1
set_option maxRecDepth 100000 in
set_option maxHeartbeats 1000000 in
theorem nbsf_any (A : Option Addr) (n c : Nat) (L : List NodeS) (z : Int) (w : World) (hA : Ng w A n L) (hn : n ≤ 100000) (ho : Srt L) :
    Calls Tryd.prog 73 #[.slice A n c, .int .i64 z, .func (.func 74) #[] #[]] w fun e w' => (∃ (m : Nat) (B : Bool), m ≤ n ∧ (∀ (j : Nat) (a : NodeS), L[j]? = some a → (j < m ↔ a.sq < z)) ∧ e = .returned (.tuple #[.int .i64 m, .bool B]) ∧ (B = true ↔ ∃ y : NodeS, L[m]? = some y ∧ y.sq = z)) ∧ Kept (fun _ => False) w w' := by
  have HA := Lib.hid hA
  have hp := ho
  have HP := Lib.hid hp
  clear hA hp ho
  go_enter Tryd.func73, Tryd.ntmps73
  go_wp2_with fail
  go_loopw [9, 10] (fun v u wr => ∃ I J : Nat, v = .int .i64 I ∧ u = .int .i64 J ∧ I ≤ J ∧ J ≤ n ∧ (∀ (j : Nat) (a : NodeS), L[j]? = some a → j < I → a.sq < z) ∧ (∀ (j : Nat) (a : NodeS), L[j]? = some a → J ≤ j → z ≤ a.sq) ∧ Kept (fun _ => False) w wr) (fun v u _ => (intOf u - intOf v).toNat)
  case atStart =>
    refine ⟨0, n, rfl, rfl, Nat.zero_le _, Nat.le_refl _, ?_, ?_, Kept.refl _ _⟩
    · intro j a _ h
      omega
    · intro j a h1 h2
      rw [List.getElem?_eq_none (by rw [HA.out.len]; exact h2)] at h1
      cases h1
  case round =>
    obtain ⟨I, J, rfl, rfl, hIJ, hJ, h1, h2, hkept⟩ := hrel
    have H1 := Lib.hid h1
    have H2 := Lib.hid h2
    have HK := Lib.hid hkept
    clear h1 h2 hkept
    by_cases hlt : I < J
    · obtain ⟨q, hq⟩ : ∃ q, (I + J) / 2 = q := ⟨_, rfl⟩
      have hq1 : I ≤ q ∧ q < J := by omega
      have hq2 : ((I : Int) + (J : Int)) / 2 = (q : Int) := by omega
      obtain ⟨ad, e0, rfl, hr, h4⟩ := (HA.out.kept HK.out (fun _ _ => id)).at_ (show q < n by omega)
      obtain ⟨x, y1, y2, y3⟩ := e0
      have f0 := h4.c0
      have f1 := h4.c1
      have f2 := h4.c2
      have f3 := h4.c3
      clear h4
      simp only at f0 f1 f2 f3
      have HR := Lib.hid hr
      have HQ := Lib.hid hq
      clear hr hq
      have cC := fun W => nclo_any ⟨x, y1, y2, y3⟩ z W
      by_cases hyx : x < z
      · rw [show cmpv x z = -1 by unfold cmpv; rw [if_pos hyx]] at cC
        go_wp2_with (go_at_call 74; refine (cC _).mono ?_; rintro e w' ⟨rfl, hkc⟩; have HKC := Lib.hid (HK.out.trans hkc); clear hkc)
        go_roundw
        case rel =>
          refine ⟨q + 1, J, by go_num, rfl, by omega, hJ, fun j a h3 h4 => ?_, H2.out, HKC.out⟩
          by_cases hj : j = q
          · subst hj
            rw [HR.out] at h3
            injection h3 with h3
            subst h3
            exact hyx
          · have h := HP.out j q a _ h3 HR.out (by omega); have h : a.sq < x := h; omega
        case measure => simp [intOf]; omega
      · have hc : (cmpv x z = 1 ∨ cmpv x z = 0) := by
          unfold cmpv
          rw [if_neg hyx]
          split
          · exact .inl rfl
          · exact .inr rfl
        rcases hc with hc | hc
        all_goals
          rw [hc] at cC
          go_wp2_with (go_at_call 74; refine (cC _).mono ?_; rintro e w' ⟨rfl, hkc⟩; have HKC := Lib.hid (HK.out.trans hkc); clear hkc)
          go_roundw
          case rel =>
            refine ⟨I, q, rfl, rfl, by omega, by omega, H1.out, fun j a h3 h4 => ?_, HKC.out⟩
            by_cases hj : j = q
            · subst hj
              rw [HR.out] at h3
              injection h3 with h3
              subst h3
              show z ≤ x
              omega
            · have h := HP.out q j _ a HR.out h3 (by omega); have h : x < a.sq := h; omega
          case measure => simp [intOf]; omega
    · obtain rfl : I = J := by omega
      have HF : Hid (∀ (j : Nat) (a : NodeS), L[j]? = some a → (j < I ↔ a.sq < z)) := by
        show ∀ (j : Nat) (a : NodeS), L[j]? = some a → (j < I ↔ a.sq < z)
        intro j a h
        have h1 := H1.out j a h
        have h2 := H2.out j a h
        omega
      by_cases hIn : I < n
      · obtain ⟨ad, e0, rfl, hr, h4⟩ := (HA.out.kept HK.out (fun _ _ => id)).at_ hIn
        obtain ⟨x, y1, y2, y3⟩ := e0
        have f0 := h4.c0
        have f1 := h4.c1
        have f2 := h4.c2
        have f3 := h4.c3
        clear h4
        simp only at f0 f1 f2 f3
        have HR := Lib.hid hr
        clear hr
        have b1 : decide (I < n) = true := by simp; omega
        have b2 : decide ((I : Int) < (n : Int)) = true := by simp; omega
        have cC := fun W => nclo_any ⟨x, y1, y2, y3⟩ z W
        by_cases hyx : x = z
        · subst hyx
          rw [show cmpv x x = 0 by unfold cmpv; rw [if_neg (by omega), if_neg (by omega)]] at cC
          go_wp2_with (go_at_call 74; refine (cC _).mono ?_; rintro e w' ⟨rfl, hkc⟩; have HKC := Lib.hid (HK.out.trans hkc); clear hkc)
          refine bodyPost_ret (v := .tuple #[.int .i64 (I : Nat), .bool true]) (by simp [results, Tryd.results73, go_sem]) rfl ⟨⟨I, true, hJ, HF.out, rfl, fun _ => ⟨_, HR.out, rfl⟩, fun _ => rfl⟩, HKC.out⟩
        · have hc : (cmpv x z = 1 ∨ cmpv x z = -1) := by
            unfold cmpv
            split
            · exact .inr rfl
            · rw [if_pos (by omega)]; exact .inl rfl
          have HNO : Hid (¬ ∃ y : NodeS, L[I]? = some y ∧ y.sq = z) := by
            show ¬ _
            rintro ⟨y', e, e2⟩
            rw [HR.out] at e
            injection e with e
            subst e
            exact hyx e2
          clear hyx
          rcases hc with hc | hc
          all_goals
            rw [hc] at cC
            go_wp2_with (go_at_call 74; refine (cC _).mono ?_; rintro e w' ⟨rfl, hkc⟩; have HKC := Lib.hid (HK.out.trans hkc); clear hkc)
            refine bodyPost_ret (v := .tuple #[.int .i64 (I : Nat), .bool false]) (by simp [results, Tryd.results73, go_sem]) rfl ⟨⟨I, false, hJ, HF.out, rfl, fun h => by simp at h, fun h => absurd h HNO.out⟩, HKC.out⟩
      · have b1 : decide (I < n) = false := by simp; omega
        have b2 : decide ((I : Int) < (n : Int)) = false := by simp; omega
        have HNO : Hid (¬ ∃ y : NodeS, L[I]? = some y ∧ y.sq = z) := by
          show ¬ _
          rintro ⟨y', e, _⟩
          rw [List.getElem?_eq_none (by rw [HA.out.len]; omega)] at e
          cases e
        go_wp2_with fail
        refine bodyPost_ret (v := .tuple #[.int .i64 (I : Nat), .bool false]) (by simp [results, Tryd.results73, go_sem]) rfl ⟨⟨I, false, hJ, HF.out, rfl, fun h => by simp at h, fun h => absurd h HNO.out⟩, HK.out⟩
theorem idx_hit {L : List NodeS} (ho : Srt L) {m : Nat} {y : NodeS} {z : Int} (h : L[m]? = some y) (hz : y.sq = z) : idx L z = (m : Nat) := by
  unfold idx
  have e : L.findIdx? (fun e => decide (e.sq = z)) = some m := by
    rw [List.findIdx?_eq_some_iff_getElem]
    obtain ⟨hl, he⟩ := List.getElem?_eq_some_iff.1 h
    refine ⟨hl, by rw [he]; simpa using hz, fun j hj => ?_⟩
    have h2 := ho j m _ y (List.getElem?_eq_getElem (Nat.lt_trans hj hl)) h hj
    simp
    omega
  rw [e]
theorem idx_miss {L : List NodeS} {z : Int} (h : ∀ e ∈ L, e.sq ≠ z) : idx L z = -1 := by
  unfold idx
  have e : L.findIdx? (fun e => decide (e.sq = z)) = none := by
    rw [List.findIdx?_eq_none_iff]
    intro x hx
    simpa using h x hx
  rw [e]
set_option maxHeartbeats 1000000 in
theorem nfind_any (A : Option Addr) (n c : Nat) (L : List NodeS) (z : Int) (w : World) (hA : Ng w A n L) (hn : n ≤ 100000) (ho : Srt L) :
    Calls Tryd.prog 62 #[.slice A n c, .int .i64 z] w fun e w' => e = .returned (.int .i64 (idx L z)) ∧ Kept (fun _ => False) w w' := by
  have cB := nbsf_any A n c L z w hA hn ho
  have HO := Lib.hid ho
  clear hA ho
  go_enter Tryd.func62, Tryd.ntmps62
  go_upto_region 2 with (go_at_call 73; refine cB.mono ?_; clear cB; rintro e w' ⟨⟨m, B, hm, hj, rfl, hB⟩, hk⟩; have HJ := Lib.hid hj; have HB := Lib.hid hB; have HK := Lib.hid hk; clear hj hB hk)
  cases B with
  | true =>
    have HI : Hid (idx L z = (m : Nat)) := by
      obtain ⟨y, h1, h2⟩ := HB.out.1 rfl
      exact idx_hit HO.out h1 h2
    go_wp2
    go_ret
    exact ⟨by rw [HI.out]; rfl, HK.out⟩
  | false =>
    have HI : Hid (idx L z = -1) := by
      refine idx_miss (fun e he hz => ?_)
      obtain ⟨j, hj, rfl⟩ := List.getElem_of_mem he
      have h1 := HJ.out j _ (List.getElem?_eq_getElem hj)
      have hjm : j = m := by
        by_cases hjm : j = m
        · exact hjm
        · have hml : m < L.length := by omega
          have h2 := HJ.out m _ (List.getElem?_eq_getElem hml)
          have h3 := HO.out m j _ _ (List.getElem?_eq_getElem hml) (List.getElem?_eq_getElem hj) (by omega)
          omega
      subst hjm
      have := HB.out.2 ⟨_, List.getElem?_eq_getElem hj, hz⟩
      cases this
    go_wp2
    go_ret
    exact ⟨by rw [HI.out]; rfl, HK.out⟩
end Go.Proofs.YthbfmdnibijapaaDoor
namespace Go.Proofs.YthbfmdnibijapaaDoor
open Go Go.RowKit

theorem rune_at (s : ByteArray) (pos : Nat) (h : pos < s.size) : Utf.runes (s.data.toList.drop pos) = ((Utf8.decode s pos).1 : Int) :: Utf.runes (s.data.toList.drop (pos + (Utf8.decode s pos).2)) := by
  have hne : s.data.toList.drop pos ≠ [] := by
    intro e
    have := congrArg List.length e
    rw [List.length_drop] at this
    have := Lib.size_eq s
    simp at *
    omega
  rw [Utf.runes_step _ hne, Lib.decodeL_drop, List.drop_drop]
theorem rune_end (s : ByteArray) (pos : Nat) (h : ¬ pos < s.size) : Utf.runes (s.data.toList.drop pos) = [] := by
  rw [List.drop_eq_nil_of_le (by have := Lib.size_eq s; omega)]
  rfl

/-- Bytes that no rune's form has. -/
theorem enc_plain (n : Int) (h : Utf8.valid n = true) : ∀ b ∈ Utf.enc n, b.toNat ≠ 192 ∧ b.toNat ≠ 193 ∧ b.toNat < 245 := by
  have hv := Utf.int_valid h
  obtain ⟨c, rfl⟩ := Int.eq_ofNat_of_zero_le (show 0 ≤ n by omega)
  rw [Utf.enc_of h]
  intro b hb
  by_cases h1 : c < 128
  · rw [if_pos h1] at hb
    simp only [List.mem_singleton] at hb
    subst hb
    rw [Utf.toNat_ofNat (by omega)]
    omega
  rw [if_neg h1] at hb
  by_cases h2 : c < 2048
  · rw [if_pos h2] at hb
    simp only [List.mem_cons, List.not_mem_nil, or_false] at hb
    rcases hb with rfl | rfl
    · rw [Utf.toNat_ofNat (by omega)]; omega
    · rw [Utf.toNat_ofNat (by omega)]; omega
  rw [if_neg h2] at hb
  by_cases h3 : c < 65536
  · rw [if_pos h3] at hb
    simp only [List.mem_cons, List.not_mem_nil, or_false] at hb
    rcases hb with rfl | rfl | rfl
    · rw [Utf.toNat_ofNat (by omega)]; omega
    · rw [Utf.toNat_ofNat (by omega)]; omega
    · rw [Utf.toNat_ofNat (by omega)]; omega
  rw [if_neg h3] at hb
  simp only [List.mem_cons, List.not_mem_nil, or_false] at hb
  rcases hb with rfl | rfl | rfl | rfl
  · rw [Utf.toNat_ofNat (by omega)]; omega
  · rw [Utf.toNat_ofNat (by omega)]; omega
  · rw [Utf.toNat_ofNat (by omega)]; omega
  · rw [Utf.toNat_ofNat (by omega)]; omega
theorem valid_plain {l : List UInt8} (h : Lib.validD l = true) : ∀ b ∈ l, b.toNat ≠ 192 ∧ b.toNat ≠ 193 ∧ b.toNat < 245 := by
  have hb := Utf.bytes_runes h
  have hv := Utf.valid_runes h
  rw [← hb]
  generalize Utf.runes l = ns at hv
  intro b hm
  induction ns with
  | nil => cases hm
  | cons n ns ih =>
    simp only [Utf.bytes, List.mem_append] at hm
    rcases hm with hm | hm
    · exact enc_plain n (hv n (by simp)) b hm
    · exact ih (fun r hr => hv r (by simp [hr])) hm
/-- May it be a text? -/
def mayB (s : ByteArray) : Bool := decide (s.size ≤ 4000) && Lib.validD s.data.toList && s.data.toList.all (fun b => b != 0)
theorem mayB_size {s : ByteArray} (h : mayB s = true) : s.size ≤ 4000 := by
  unfold mayB at h
  simp only [Bool.and_eq_true, decide_eq_true_eq] at h
  exact h.1.1
theorem mayB_valid {s : ByteArray} (h : mayB s = true) : Lib.validD s.data.toList = true := by
  unfold mayB at h
  simp only [Bool.and_eq_true, decide_eq_true_eq] at h
  exact h.1.2
theorem mayB_zero {s : ByteArray} (h : mayB s = true) : ∀ b ∈ s.data.toList, b ≠ 0 := by
  unfold mayB at h
  simp only [Bool.and_eq_true, decide_eq_true_eq] at h
  intro b hb
  simpa using List.all_eq_true.1 h.2 b hb
/-- The runes of a text. -/
def rs (s : ByteArray) : List Int := Utf.runes s.data.toList
theorem rs_len (s : ByteArray) : (rs s).length ≤ s.size := by
  have := Utf.runes_length s.data.toList
  have hs := Lib.size_eq s
  unfold rs
  omega
theorem rs_runey {s : ByteArray} (h : Lib.validD s.data.toList = true) : Runey (rs s) := by
  intro r hr
  have hv := Utf.int_valid (Utf.valid_runes h r hr)
  omega
end Go.Proofs.YthbfmdnibijapaaDoor
