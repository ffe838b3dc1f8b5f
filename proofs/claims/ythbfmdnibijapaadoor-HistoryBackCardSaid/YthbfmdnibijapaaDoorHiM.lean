/-
  MAPS with ints for keys, in memory: looked up; grown; new ones.
-/
import Derived.Test.YthbfmdnibijapaaDoorKept
import Derived.Carry
import Derived.Maps.Own
set_option linter.unusedVariables false
namespace Go.Proofs.YthbfmdnibijapaaDoor
open Go Go.RowKit Go.Maps

/-- A map in memory, its entries in the order in which they came. -/
def MapI (W : World) (b : Nat) (kv : List (Int × Value)) : Prop := ∃ (es : Array MapEntry) (clock : Nat), W.heap[b]? = some (.map es clock) ∧ es.toList.map (fun e => (e.key, e.val)) = kv.map (fun p => (Value.int .i64 p.1, p.2))
theorem MapI.kept {W W' : World} {S : Nat → Prop} {b : Nat} {kv : List (Int × Value)} (h : MapI W b kv) (hk : Kept S W W') (hS : ¬ S b) : MapI W' b kv := by
  obtain ⟨es, clock, h1, h2⟩ := h
  exact ⟨es, clock, (hk.block b (heap_lt h1) hS).trans h1, h2⟩
theorem findNow_has : ∀ (es : List MapEntry) (kv : List (Int × Value)) (i : Nat) (k : Int) (v : Value), es.map (fun e => (e.key, e.val)) = kv.map (fun p => (Value.int .i64 p.1, p.2)) → kv.lookup k = some v → ∃ j, Instr.findNow (.int .i64) (.int .i64 k) es i = some (some (j, v))
  | [], kv, i, k, v, h, hl => by
    cases kv with
    | nil => cases hl
    | cons p kv => simp at h
  | e :: es, kv, i, k, v, h, hl => by
    cases kv with
    | nil => simp at h
    | cons p kv =>
      simp only [List.map_cons, List.cons.injEq, Prod.mk.injEq] at h
      obtain ⟨⟨h1, h2⟩, h3⟩ := h
      simp only [Instr.findNow, h1, Instr.sameNow, if_true]
      rw [List.lookup_cons] at hl
      cases hk : (k == p.1) with
      | true =>
        rw [hk] at hl
        simp only [Option.some.injEq] at hl
        exact ⟨i, by simp only [h2, hl]⟩
      | false =>
        rw [hk] at hl
        obtain ⟨j, hj⟩ := findNow_has es kv (i + 1) k v h3 hl
        exact ⟨j, by simp only [hj]⟩
theorem findNow_not : ∀ (es : List MapEntry) (kv : List (Int × Value)) (i : Nat) (k : Int), es.map (fun e => (e.key, e.val)) = kv.map (fun p => (Value.int .i64 p.1, p.2)) → kv.lookup k = none → Instr.findNow (.int .i64) (.int .i64 k) es i = some none
  | [], kv, i, k, h, hl => by simp [Instr.findNow]
  | e :: es, kv, i, k, h, hl => by
    cases kv with
    | nil => simp at h
    | cons p kv =>
      simp only [List.map_cons, List.cons.injEq, Prod.mk.injEq] at h
      obtain ⟨⟨h1, h2⟩, h3⟩ := h
      simp only [Instr.findNow, h1, Instr.sameNow, if_true]
      rw [List.lookup_cons] at hl
      cases hk : (k == p.1) with
      | true => rw [hk] at hl; cases hl
      | false =>
        rw [hk] at hl
        simp only
        exact findNow_not es kv (i + 1) k h3 hl
section
variable {P : Program} {T K E : TypeId}
theorem MapI.get (ht : P.underlying T = some (.map K E)) (hK : P.underlying K = some (.int .i64)) {W : World} {b : Nat} {kv : List (Int × Value)} (h : MapI W b kv) {k : Int} {v : Value} (hw : (Lit.int .i64 k).wf = true) (hl : kv.lookup k = some v) :
    (Instr.lookup T (.map (some b)) (.int .i64 k) false).run P W = .ok v W := by
  obtain ⟨es, clock, h1, h2⟩ := h
  obtain ⟨j, hj⟩ := findNow_has es.toList kv 0 k v h2 hl
  have hf : (Instr.findKey K (.int .i64 k) es.toList).run P W = .ok (some (j, v)) W := by simp [Instr.findKey, run_underlying hK, hj, Result.andThen]
  simp [Instr.lookup, run_underlying ht, MapKept.run_getObj_map h1, (int_keyed hK).check W _ (keyOf_int_mk hK hw), hf, Result.andThen]
theorem MapI.put (ht : P.underlying T = some (.map K E)) (hK : P.underlying K = some (.int .i64)) {W : World} {b : Nat} {kv : List (Int × Value)} (h : MapI W b kv) {k : Int} (v : Value) (hw : (Lit.int .i64 k).wf = true) (hl : kv.lookup k = none) :
    ∃ W', (Instr.mapUpdate T (.map (some b)) (.int .i64 k) v).run P W = .ok () W' ∧ MapI W' b (kv ++ [(k, v)]) ∧ Kept (fun q => q = b) W W' := by
  obtain ⟨es, clock, h1, h2⟩ := h
  have hj := findNow_not es.toList kv 0 k h2 hl
  have hlt := heap_lt h1
  refine ⟨{ W with heap := W.heap.setIfInBounds b (.map (es.push ⟨.int .i64 k, v, clock⟩) (clock + 1)) }, ?_, ⟨es.push ⟨.int .i64 k, v, clock⟩, clock + 1, by simp [hlt], by simp [h2]⟩, ⟨rfl, rfl, rfl, by simp, fun q hq hne => by simp [Ne.symm hne]⟩⟩
  have hf : (Instr.findKey K (.int .i64 k) es.toList).run P W = .ok none W := by simp [Instr.findKey, run_underlying hK, hj, Result.andThen]
  simp [Instr.mapUpdate, run_underlying ht, MapKept.run_getObj_map h1, (int_keyed hK).check W _ (keyOf_int_mk hK hw), hf, Result.andThen, setObj, Sem.run, h1]
theorem MapI.new (W : World) : MapI (W.alloc (.map #[] 0)) W.heap.size [] := ⟨#[], 0, heap_alloc_new W _, rfl⟩
end
end Go.Proofs.YthbfmdnibijapaaDoor
