/-
  SLICES OF STRUCTS OF NUMBERS, OPENED: row by row, cell by cell.
-/
import Derived.Test.YthbfmdnibijapaaDoorAsk
import Derived.Deep.Strs
set_option linter.unusedVariables false
namespace Go.Proofs.YthbfmdnibijapaaDoor
open Go Go.RowKit Go.ChangeShapes Go.WideShapes Go.ChangeAt

theorem addr_blk (x : Addr) (j : Nat) : (x.add j).block = x.block := by unfold Addr.add; split <;> rfl
/-- A slice's room. -/
def Cp (A : Option Addr) (n c : Nat) : Prop := n ≤ c ∧ (A = none → c = 0)
/-- A slice of structs of k numbers each. -/
def Rws (w : World) (A : Option Addr) (n k : Nat) (rows : List (List Int)) : Prop :=
  rows.length = n ∧ ∀ i r, rows[i]? = some r → r.length = k ∧ (∀ x ∈ r, I64 x) ∧ ∃ ad, A = some ad ∧ ∀ f x, r[f]? = some x → w.cell? ((ad.add (i * k)).add f) = some (.int .i64 x)
theorem Rws.kept {w w' : World} {S : Nat → Prop} {A : Option Addr} {n k : Nat} {rows : List (List Int)} (h : Rws w A n k rows) (hk : Kept S w w') (hS : ∀ a, A = some a → ¬ S a.block) : Rws w' A n k rows := by
  refine ⟨h.1, fun i r hi => ?_⟩
  obtain ⟨h1, h2, ad, e, hc⟩ := h.2 i r hi
  refine ⟨h1, h2, ad, e, fun f x hf => cell_kept hk (hc f x hf) ?_⟩
  rw [addr_blk, addr_blk]
  exact hS ad e
theorem Rws.row {w : World} {A : Option Addr} {n k : Nat} {rows : List (List Int)} (h : Rws w A n k rows) {i : Nat} (hi : i < n) : ∃ ad r, A = some ad ∧ rows[i]? = some r ∧ r.length = k ∧ (∀ x ∈ r, I64 x) ∧ ∀ f x, r[f]? = some x → w.cell? ((ad.add (i * k)).add f) = some (.int .i64 x) := by
  have hl : i < rows.length := by rw [h.1]; exact hi
  obtain ⟨h1, h2, ad, e, hc⟩ := h.2 i rows[i] (List.getElem?_eq_getElem hl)
  exact ⟨ad, rows[i], e, List.getElem?_eq_getElem hl, h1, h2, hc⟩
section
variable {H : Type} {enc : TypeId × Value → H} {W : World} {base : Nat} {sp : Nat → Bool} {held : Bool}
set_option maxRecDepth 100000 in
theorem rows_open {t e : TypeId} {k : Nat} (ht : Tryd.prog.underlying t = some (.slice e)) (hk : Tryd.prog.cellsOf e = k) (hb : 1 ≤ Tryd.prog.bytesOf e)
    (he : ∀ fuel cs x, DataW.trod enc Tryd.prog W base sp held fuel e cs = some x → ∃ r : List Int, r.length = k ∧ cs = r.map (Value.int .i64) ∧ ∀ y ∈ r, I64 y)
    {fuel : Nat} {cs : List Value} {x : DataW H × List MemPlace} (h : DataW.trod enc Tryd.prog W base sp held fuel t cs = some x) (hz : ∀ q ∈ x.1.weights Tryd.prog t, q ≤ reachBytes) :
    ∃ (A : Option Addr) (n c : Nat) (rows : List (List Int)), cs = [.slice A n c] ∧ Rws W A n k rows ∧ n ≤ 140737488351232 ∧ Cp A n c := by
  rcases Deep.open_slice ht h with ⟨rfl, rfl⟩ | ⟨a, len, cap, m, fu, D, Pl, rfl, hba, hl, hm, hmm, rfl, hx⟩
  · exact ⟨none, 0, 0, [], rfl, ⟨rfl, fun j x hj => by simp at hj⟩, by omega, Nat.le_refl _, fun _ => rfl⟩
  · have hle : len ≤ m := by rw [hmm]; split <;> omega
    have hlen : len ≤ 140737488351232 := by
      have h1 := hz ((((List.range len).map D).length + ((List.range (m - len)).map fun j => D (len + j)).length) * Tryd.prog.bytesOf e) (by
        simp only [DataW.weights, ht]
        exact List.mem_cons_self)
      simp only [List.length_map, List.length_range] at h1
      unfold reachBytes at h1
      have := Nat.le_mul_of_pos_right (len + (m - len)) (show 0 < Tryd.prog.bytesOf e by omega)
      omega
    obtain ⟨q, hq⟩ := Deep.choose_lt (α := List Int) (n := len) (p := fun i r => r.length = k ∧ (∀ y ∈ r, I64 y) ∧ ∀ f y, r[f]? = some y → W.cell? ((a.add (i * k)).add f) = some (.int .i64 y)) (fun i hi => by
      obtain ⟨cs', h1, h2⟩ := hx i (by omega)
      obtain ⟨r, hr, rfl, hri⟩ := he _ _ _ h2
      rw [hk] at h1
      obtain ⟨_, _, hc⟩ := World.cells?_some h1
      refine ⟨r, hr, hri, fun f y hf => ?_⟩
      have hfl : f < k := by
        rw [← hr]
        by_cases hfl : f < r.length
        · exact hfl
        · rw [List.getElem?_eq_none (by omega)] at hf; cases hf
      rw [hc f hfl, List.getElem?_map, hf]
      rfl)
    refine ⟨some a, len, cap, (List.range len).map q, rfl, ⟨by simp, fun i r hi => ?_⟩, hlen, hl, (fun h => by cases h)⟩
    have hil : i < len := by
      by_cases hil : i < len
      · exact hil
      · rw [List.getElem?_eq_none (by simp; omega)] at hi; simp at hi
    rw [List.getElem?_map, List.getElem?_range hil] at hi
    simp only [Option.map_some, Option.some.injEq] at hi
    rw [← hi]
    obtain ⟨k0, k1, k2⟩ := hq i hil
    exact ⟨k0, k1, a, rfl, k2⟩
/-- A struct of numbers. -/
theorem ints_open {fs : List Field} {fuel : Nat} {t : TypeId} {cs : List Value} {x : DataW H × List MemPlace} (ht : Tryd.prog.underlying t = some (.struct fs.toArray)) (hf : ∀ (i : Nat) (f : Field), fs[i]? = some f → f.type = 3 ∧ f.offset = i) (hc : Tryd.prog.cellsOf t = fs.length)
    (h : DataW.trod enc Tryd.prog W base sp held fuel t cs = some x) : ∃ r : List Int, r.length = fs.length ∧ cs = r.map (Value.int .i64) ∧ ∀ y ∈ r, I64 y := by
  obtain ⟨xs, n, _, rfl, hl, hlen, hfs⟩ := DataW.trod_struct ht h
  rw [hc] at hl
  obtain ⟨q, hq⟩ := Deep.choose_lt (α := Int) (n := cs.length) (p := fun i y => cs[i]? = some (.int .i64 y) ∧ I64 y) (fun i hi => by
    have hfi : fs[i]? = some fs[i] := List.getElem?_eq_getElem (by omega)
    obtain ⟨e1, e2⟩ := hf i _ hfi
    have h1 := hfs i fs[i] (by simp)
    rw [List.getElem?_eq_getElem (by simp at hlen; omega)] at h1
    rw [e1, e2, cells_int] at h1
    obtain ⟨z, ez, _, wz⟩ := DataW.trod_int Tryd.underlying3 h1
    refine ⟨z, ?_, i64_of_wf wz⟩
    have := congrArg (fun l => l[0]?) ez
    simpa [List.getElem?_take, List.getElem?_drop] using this)
  refine ⟨(List.range cs.length).map q, by simp [hl], ?_, fun y hy => ?_⟩
  · apply List.ext_getElem?
    intro i
    by_cases hi : i < cs.length
    · rw [(hq i hi).1, List.getElem?_map, List.getElem?_map, List.getElem?_range hi]
      rfl
    · rw [List.getElem?_eq_none (by omega), List.getElem?_eq_none (by simp; omega)]
  · obtain ⟨i, hi, rfl⟩ := List.mem_map.1 hy
    exact (hq i (List.mem_range.1 hi)).2
end
end Go.Proofs.YthbfmdnibijapaaDoor
