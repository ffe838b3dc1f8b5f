/-
  AN ASK, OPENED: what a parameter of that type is, cell by cell, and how long its texts may be.
-/
import Derived.Test.YthbfmdnibijapaaDoorKept
import Derived.ProofKit
import Derived.SizedLaws
import Derived.Deep.Slices
import Derived.Lib.SmallJoins
set_option linter.unusedVariables false
namespace Go.Proofs.YthbfmdnibijapaaDoor
open Go Go.RowKit Go.ChangeShapes Go.WideShapes Go.ChangeAt

theorem laidOut : laidOutB Tryd.prog = true := by kernel_rfl
theorem cells_string : Tryd.prog.cellsOf 9 = 1 := by kernel_rfl
theorem cells_int : Tryd.prog.cellsOf 3 = 1 := by kernel_rfl
theorem cells_strings : Tryd.prog.cellsOf 117 = 1 := by kernel_rfl
theorem bytes_string : Tryd.prog.bytesOf 9 = 16 := by kernel_rfl
theorem bytes_int : Tryd.prog.bytesOf 3 = 8 := by kernel_rfl
theorem addr_far (x : Addr) (j : Nat) (hj : j ≠ 0) : x.add j = ⟨x.block, x.off + j, none⟩ := by
  unfold Addr.add; rw [if_neg hj]

/-- What a law leaves that has only made memory: every old place reads as it did, the argument among them. -/
theorem post_below {H : Type} {enc : TypeId × Value → H} {P : Program} {f : Func} {s : ChangeSpec} {apart fresh handsOn again : Bool} {W W' : World} {args : Array Value} {v : Value} {ds gs : List (DataW H)} {before pv : List MemPlace}
    (hW : DataW.Whole enc P f.params.toList s.vars apart W args.toList ds gs (before ++ pv)) (hb : Below W.heap.size W W')
    (hres : ∀ (b : Nat) (sp : Nat → Bool) (hd : Bool), DataW.TrodAll enc P W' b sp hd f.resultTypes.toList (v.resultList f.resultTypes.size) (s.fn H (ds ++ gs)).results [])
    (hargs : ∀ sp : Nat → Bool, (∀ p ∈ before, sp p.block = true) → DataW.TrodAll enc P W' 0 sp true f.params.toList args.toList (s.fn H (ds ++ gs)).args before)
    (hvars : ∀ sp : Nat → Bool, (∀ p ∈ pv, sp p.block = true) → DataW.TrodVars enc P W' sp s.vars (s.fn H (ds ++ gs)).vars pv)
    (hok : ∀ (j : Nat) (t : TypeId) (r : Value), f.resultTypes[j]? = some t → (v.resultList f.resultTypes.size)[j]? = some r → Value.okWide P W' .any 0 t r) :
    s.post enc P f apart fresh handsOn again W args v W' := by
  have old : ∀ p ∈ before ++ pv, p.block < W.heap.size := fun p hp => hW.lt p hp
  have oldA : ∀ p ∈ before, decide (p.block < W.heap.size) = true := fun p hp => decide_eq_true (old p (List.mem_append_left _ hp))
  have oldV : ∀ p ∈ pv, decide (p.block < W.heap.size) = true := fun p hp => decide_eq_true (old p (List.mem_append_right _ hp))
  obtain ⟨_, _, _, _, _, unfrozen, distinct⟩ := id hW
  refine ⟨ds, gs, before ++ pv, [], before, pv, hW, hres _ _ _, hargs _ oldA, hvars _ oldV, hb.frame _, fun _ => ⟨hok, (s.fn H (ds ++ gs)).results ++ (s.fn H (ds ++ gs)).args, (s.fn H (ds ++ gs)).vars, before ++ pv, ?_, fun p hp _ => hp⟩⟩
  refine ⟨before, pv, ?_, hvars _ (fun _ _ => rfl), rfl, fun b off hp => ?_, distinct⟩
  · simpa using trodAll_append (hargs (fun _ => true) (fun _ _ => rfl)) (hres 0 (fun _ => true) true)
  · exact (hb.frozen (p := ⟨b, off, none⟩) (old _ hp)).trans (unfrozen b off hp)


/-- A slice of texts. -/
def Strs (w : World) (A : Option Addr) (n : Nat) (ss : List ByteArray) : Prop :=
  ss.length = n ∧ ∀ j s, ss[j]? = some s → ∃ ad, A = some ad ∧ w.cell? (ad.add j) = some (.string s) ∧ s.size ≤ 140737488351232
theorem Strs.cell {w : World} {A : Option Addr} {n : Nat} {ss : List ByteArray} (h : Strs w A n ss) {j : Nat} (hj : j < n) : ∃ ad s, A = some ad ∧ ss[j]? = some s ∧ w.cell? (ad.add j) = some (.string s) ∧ s.size ≤ 140737488351232 := by
  have hl : j < ss.length := by rw [h.1]; exact hj
  obtain ⟨ad, e, r⟩ := h.2 j ss[j] (List.getElem?_eq_getElem hl)
  exact ⟨ad, ss[j], e, List.getElem?_eq_getElem hl, r⟩
theorem Strs.kept {w w' : World} {A : Option Addr} {n : Nat} {ss : List ByteArray} (h : Strs w A n ss) (hk : Kept (fun _ => False) w w') : Strs w' A n ss := by
  refine ⟨h.1, fun j s hj => ?_⟩
  obtain ⟨ad, e, r, hs⟩ := h.2 j s hj
  exact ⟨ad, e, cell_kept hk r id, hs⟩
/-- A number that an int can hold. -/
def I64 (x : Int) : Prop := -9223372036854775808 ≤ x ∧ x ≤ 9223372036854775807
theorem i64_of_wf {x : Int} (h : (Lit.int .i64 x).wf = true) : I64 x := by
  unfold Lit.wf at h
  simp only [Bool.and_eq_true, decide_eq_true_eq] at h
  have h1 : IntKind.i64.min = -9223372036854775808 := by decide
  have h2 : IntKind.i64.max = 9223372036854775807 := by decide
  rw [h1, h2] at h
  exact h

section
variable {H : Type} {enc : TypeId × Value → H} {W : World} {base : Nat} {sp : Nat → Bool} {held : Bool}

theorem mem_weightsAll {P : Program} {e : TypeId} {l : List (DataW H)} {d : DataW H} (hd : d ∈ l) {q : Nat} (hq : q ∈ d.weights P e) : q ∈ DataW.weightsAll P e l := by
  induction l with
  | nil => cases hd
  | cons x l ih =>
    simp only [DataW.weightsAll, List.mem_append]
    rcases List.mem_cons.1 hd with rfl | h
    · exact Or.inl hq
    · exact Or.inr (ih h)

instance : Inhabited ByteArray := ⟨.empty⟩
set_option maxRecDepth 100000 in
theorem strs_open {fuel : Nat} {cs : List Value} {x : DataW H × List MemPlace} (h : DataW.trod enc Tryd.prog W base sp held fuel 117 cs = some x) (hz : ∀ q ∈ x.1.weights Tryd.prog 117, q ≤ reachBytes) :
    ∃ (A : Option Addr) (n c : Nat) (ss : List ByteArray), cs = [.slice A n c] ∧ Strs W A n ss ∧ n ≤ 8796093022208 := by
  rcases Deep.open_slice1 Tryd.underlying117 cells_string h with ⟨rfl, rfl⟩ | ⟨a, len, cap, m, fu, V, D, Pl, rfl, hb, hl, hm, hmm, rfl, hx⟩
  · exact ⟨none, 0, 0, [], rfl, ⟨rfl, fun j x hj => by simp at hj⟩, by omega⟩
  · have hle : len ≤ m := by rw [hmm]; split <;> omega
    have hw : DataW.weights Tryd.prog 117 (DataW.slice ((List.range len).map D) ((List.range (m - len)).map fun j => D (len + j))) =
        (((List.range len).map D).length + ((List.range (m - len)).map fun j => D (len + j)).length) * Tryd.prog.bytesOf 9 :: (DataW.weightsAll Tryd.prog 9 ((List.range len).map D) ++ DataW.weightsAll Tryd.prog 9 ((List.range (m - len)).map fun j => D (len + j))) := by
      simp only [DataW.weights, Tryd.underlying117]
    have hlen : len ≤ 8796093022208 := by
      have h1 := hz _ (by rw [hw]; exact List.mem_cons_self)
      simp only [List.length_map, List.length_range, bytes_string] at h1
      unfold reachBytes at h1
      omega
    obtain ⟨q, hq⟩ := Deep.choose_lt (α := ByteArray) (n := len) (p := fun i s => W.cell? (a.add i) = some (.string s) ∧ s.size ≤ 140737488351232) (fun i hi => by
      obtain ⟨h1, h2⟩ := hx i (by omega)
      obtain ⟨S, e1, hD, hS⟩ := DataW.trod_string Tryd.underlying9 h2
      simp only [List.cons.injEq, and_true] at e1
      refine ⟨S, by rw [h1, e1], ?_⟩
      have := hz S.data.toList.length (by
        rw [hw]
        refine List.mem_cons_of_mem _ (List.mem_append_left _ (mem_weightsAll (d := D i) (List.mem_map.2 ⟨i, List.mem_range.2 hi, rfl⟩) ?_))
        have hD' := congrArg Prod.fst hD
        simp only at hD'
        rw [hD']
        simp [DataW.weights])
      rw [Array.length_toList] at this
      exact this)
    refine ⟨some a, len, cap, (List.range len).map q, rfl, ⟨by simp, fun j x hj => ⟨a, rfl, ?_⟩⟩, hlen⟩
    have hjl : j < len := by
      by_cases hjl : j < len
      · exact hjl
      · rw [List.getElem?_eq_none (by simp; omega)] at hj; simp at hj
    rw [List.getElem?_map, List.getElem?_range hjl] at hj
    simp only [Option.map_some, Option.some.injEq] at hj
    rw [← hj]
    exact hq j hjl

end
end Go.Proofs.YthbfmdnibijapaaDoor
