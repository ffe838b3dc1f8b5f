/-
  A SCRIPT, OPENED: what a parameter of that type is, cell by cell, and how long its parts may be.
-/
import Derived.Test.YthhlchgnjdfpeaaDoorLaw1
import Derived.ProofKit
import Derived.SizedLaws
import Derived.Deep.Slices
import Derived.Lib.SmallJoins
set_option linter.unusedVariables false
namespace Go.Proofs.YthhlchgnjdfpeaaDoor
open Go Go.RowKit Go.ChangeShapes Go.WideShapes Go.ChangeAt

theorem laidOut : laidOutB Tryd.prog = true := by kernel_rfl
theorem cells_act : Tryd.prog.cellsOf 37 = 4 := by kernel_rfl
theorem cells_int : Tryd.prog.cellsOf 3 = 1 := by kernel_rfl
theorem cells_ints : Tryd.prog.cellsOf 35 = 1 := by kernel_rfl
theorem bytes_act : Tryd.prog.bytesOf 37 = 48 := by kernel_rfl
theorem bytes_int : Tryd.prog.bytesOf 3 = 8 := by kernel_rfl
theorem addr_far (x : Addr) (j : Nat) (hj : j ≠ 0) : x.add j = ⟨x.block, x.off + j, none⟩ := by
  unfold Addr.add; rw [if_neg hj]

/-- What a law leaves that has only made memory: every old place reads as it did, the argument among them. -/
theorem post_below {H : Type} {enc : TypeId × Value → H} {P : Program} {f : Func} {s : ChangeSpec} {apart fresh handsOn again : Bool} {W W' : World} {args : Array Value} {v : Value} {ds gs : List (DataW H)} {before pv : List MemPlace}
    (hW : DataW.Whole enc P f.params.toList s.vars apart W args.toList ds gs (before ++ pv)) (hb : Below W.heap.size W W')
    (hres : ∀ (b : Nat) (sp : Nat → Bool) (hd : Bool), DataW.TrodAll enc P W' b sp hd f.resultTypes.toList (v.resultList f.resultTypes.size) (s.fn H (ds ++ gs)).results [])
    (hargs : ∀ sp : Nat → Bool, (∀ p ∈ before, sp p.block = true) → DataW.TrodAll enc P W' 0 sp true f.params.toList args.toList (s.fn H (ds ++ gs)).args before)
    (hvars : ∀ sp : Nat → Bool, (∀ p ∈ pv, sp p.block = true) → DataW.TrodVars enc P W' sp s.vars (s.fn H (ds ++ gs)).vars pv)
    (hok : ∀ (j : Nat) (t : TypeId) (r : Value), f.resultTypes[j]? = some t → (v.resultList f.resultTypes.size)[j]? = some r → Value.okWide P W' .any 0 t r) :
    s.post enc P f apart fresh handsOn again W args v W' := by
  have old : ∀ p ∈ before ++ pv, p.block < W.heap.size := fun p hp => hW.lt p hp
  have oldA : ∀ p ∈ before, decide (p.block < W.heap.size) = true := fun p hp => decide_eq_true (old p (List.mem_append_left _ hp))
  have oldV : ∀ p ∈ pv, decide (p.block < W.heap.size) = true := fun p hp => decide_eq_true (old p (List.mem_append_right _ hp))
  obtain ⟨_, _, _, _, _, unfrozen, distinct⟩ := id hW
  refine ⟨ds, gs, before ++ pv, [], before, pv, hW, hres _ _ _, hargs _ oldA, hvars _ oldV, hb.frame _, fun _ => ⟨hok, (s.fn H (ds ++ gs)).results ++ (s.fn H (ds ++ gs)).args, (s.fn H (ds ++ gs)).vars, before ++ pv, ?_, fun p hp _ => hp⟩⟩
  refine ⟨before, pv, ?_, hvars _ (fun _ _ => rfl), rfl, fun b off hp => ?_, distinct⟩
  · simpa using trodAll_append (hargs (fun _ => true) (fun _ _ => rfl)) (hres 0 (fun _ => true) true)
  · exact (hb.frozen (p := ⟨b, off, none⟩) (old _ hp)).trans (unfrozen b off hp)

section
variable {H : Type} {enc : TypeId × Value → H} {W : World} {base : Nat} {sp : Nat → Bool} {held : Bool}

theorem ints_open {fuel : Nat} {cs : List Value} {x : DataW H × List MemPlace} (h : DataW.trod enc Tryd.prog W base sp held fuel 35 cs = some x) (hz : ∀ q ∈ x.1.weights Tryd.prog 35, q ≤ reachBytes) :
    ∃ (A : Option Addr) (n c : Nat) (xs : List Int), cs = [.slice A n c] ∧ Nums W A n xs ∧ n ≤ 17592186044416 := by
  rcases Deep.open_slice1 Tryd.underlying35 cells_int h with ⟨rfl, rfl⟩ | ⟨a, len, cap, m, fu, V, D, Pl, rfl, hb, hl, hm, hmm, rfl, hx⟩
  · exact ⟨none, 0, 0, [], rfl, ⟨rfl, fun j x hj => by simp at hj⟩, by omega⟩
  · have hle : len ≤ m := by rw [hmm]; split <;> omega
    have hlen : len ≤ 17592186044416 := by
      have h1 := hz _ (by simp only [DataW.weights, Tryd.underlying35]; exact List.mem_cons_self)
      simp only [List.length_map, List.length_range, bytes_int] at h1
      unfold reachBytes at h1
      omega
    obtain ⟨q, hq⟩ := Deep.choose_lt (α := Int) (n := m) (p := fun i z => W.cell? (a.add i) = some (.int .i64 z)) (fun i hi => by
      obtain ⟨h1, h2⟩ := hx i hi
      obtain ⟨z, hz1, hz2, hz3⟩ := DataW.trod_int Tryd.underlying3 h2
      simp only [List.cons.injEq, and_true] at hz1
      exact ⟨z, by rw [h1, hz1]⟩)
    refine ⟨some a, len, cap, (List.range len).map q, rfl, ⟨by simp, fun j x hj => ⟨a, rfl, ?_⟩⟩, hlen⟩
    have hjl : j < len := by
      by_cases hjl : j < len
      · exact hjl
      · rw [List.getElem?_eq_none (by simp; omega)] at hj; simp at hj
    rw [List.getElem?_map, List.getElem?_range hjl] at hj
    simp only [Option.map_some, Option.some.injEq] at hj
    rw [hq j (by omega), hj]

theorem act_open {fuel : Nat} {cs : List Value} {x : DataW H × List MemPlace} (h : DataW.trod enc Tryd.prog W base sp held fuel 37 cs = some x) (hz : ∀ q ∈ x.1.weights Tryd.prog 37, q ≤ reachBytes) :
    ∃ a : ActV, cs = [.int .i64 a.ado, .int .i64 a.ai, .int .i64 a.an, .slice a.la a.ln a.lc] ∧ Nums W a.la a.ln a.xs ∧ a.ln ≤ 17592186044416 := by
  obtain ⟨y0, y1, y2, y3, n, rfl, hl, h0, h1, h2, h3⟩ := Joins.trod_struct4 Tryd.underlying37 h
  rw [cells_act] at hl
  match cs, hl with
  | [c0, c1, c2, c3], _ =>
    simp only [cells_int, cells_ints, List.drop_zero, List.drop_succ_cons, List.take_succ_cons, List.take_zero] at h0 h1 h2 h3
    obtain ⟨z0, e0, rfl, _⟩ := DataW.trod_int Tryd.underlying3 h0
    obtain ⟨z1, e1, rfl, _⟩ := DataW.trod_int Tryd.underlying3 h1
    obtain ⟨z2, e2, rfl, _⟩ := DataW.trod_int Tryd.underlying3 h2
    obtain ⟨A, m, c, xs, e3, hN, hm⟩ := ints_open h3 (fun q hq => hz q (by
      simp only [DataW.weights, Tryd.underlying37, List.map_cons, List.map_nil, DataW.weightsEach, List.mem_append, List.nil_append, List.not_mem_nil, or_false]
      exact hq))
    simp only [List.cons.injEq, and_true] at e0 e1 e2 e3
    exact ⟨⟨z0, z1, z2, A, m, c, xs⟩, by rw [e0, e1, e2, e3], hN, hm⟩

theorem mem_weightsAll {P : Program} {e : TypeId} {l : List (DataW H)} {d : DataW H} (hd : d ∈ l) {q : Nat} (hq : q ∈ d.weights P e) : q ∈ DataW.weightsAll P e l := by
  induction l with
  | nil => cases hd
  | cons x l ih =>
    simp only [DataW.weightsAll, List.mem_append]
    rcases List.mem_cons.1 hd with rfl | h
    · exact Or.inl hq
    · exact Or.inr (ih h)

instance : Inhabited ActV := ⟨⟨0, 0, 0, none, 0, 0, []⟩⟩

theorem acts_open {fuel : Nat} {cs : List Value} {x : DataW H × List MemPlace} (h : DataW.trod enc Tryd.prog W base sp held fuel 22 cs = some x) (hz : ∀ q ∈ x.1.weights Tryd.prog 22, q ≤ reachBytes) :
    ∃ (A : Option Addr) (n c : Nat) (acts : List ActV), cs = [.slice A n c] ∧ Acts W A n acts ∧ n ≤ 140737488351232 := by
  rcases Deep.open_slice Tryd.underlying22 h with ⟨rfl, rfl⟩ | ⟨a, len, cap, m, fu, D, Pl, rfl, hb, hl, hm, hmm, rfl, hx⟩
  · exact ⟨none, 0, 0, [], rfl, ⟨rfl, fun j x hj => by simp at hj⟩, by omega⟩
  · have hle : len ≤ m := by rw [hmm]; split <;> omega
    have hw : DataW.weights Tryd.prog 22 (DataW.slice ((List.range len).map D) ((List.range (m - len)).map fun j => D (len + j))) =
        (((List.range len).map D).length + ((List.range (m - len)).map fun j => D (len + j)).length) * Tryd.prog.bytesOf 37 :: (DataW.weightsAll Tryd.prog 37 ((List.range len).map D) ++ DataW.weightsAll Tryd.prog 37 ((List.range (m - len)).map fun j => D (len + j))) := by
      simp only [DataW.weights, Tryd.underlying22]
    have hlen : len ≤ 140737488351232 := by
      have h1 := hz _ (by rw [hw]; exact List.mem_cons_self)
      simp only [List.length_map, List.length_range, bytes_act] at h1
      unfold reachBytes at h1
      omega
    obtain ⟨q, hq⟩ := Deep.choose_lt (α := ActV) (n := len) (p := fun k b => W.cell? (a.add (k * 4)) = some (.int .i64 b.ado) ∧ W.cell? ⟨(a.add (k * 4)).block, (a.add (k * 4)).off + 1, none⟩ = some (.int .i64 b.ai) ∧
        W.cell? ⟨(a.add (k * 4)).block, (a.add (k * 4)).off + 2, none⟩ = some (.int .i64 b.an) ∧ W.cell? ⟨(a.add (k * 4)).block, (a.add (k * 4)).off + 3, none⟩ = some (.slice b.la b.ln b.lc) ∧ Nums W b.la b.ln b.xs ∧ b.ln ≤ 17592186044416) (fun i hi => by
      obtain ⟨cs', h1, h2⟩ := hx i (by omega)
      rw [cells_act] at h1
      obtain ⟨b, rfl, hN, hbl⟩ := act_open h2 (fun q hq => hz q (by
        rw [hw]
        exact List.mem_cons_of_mem _ (List.mem_append_left _ (mem_weightsAll (List.mem_map.2 ⟨i, List.mem_range.2 hi, rfl⟩) hq))))
      obtain ⟨_, _, hc⟩ := World.cells?_some h1
      have g0 := hc 0 (by omega)
      have g1 := hc 1 (by omega)
      have g2 := hc 2 (by omega)
      have g3 := hc 3 (by omega)
      rw [addr_far _ 1 (by omega)] at g1
      rw [addr_far _ 2 (by omega)] at g2
      rw [addr_far _ 3 (by omega)] at g3
      exact ⟨b, by simpa [Addr.add] using g0, g1, g2, g3, hN, hbl⟩)
    refine ⟨some a, len, cap, (List.range len).map q, rfl, ⟨by simp, fun k b hk => ⟨a, rfl, ?_⟩⟩, hlen⟩
    have hkl : k < len := by
      by_cases hkl : k < len
      · exact hkl
      · rw [List.getElem?_eq_none (by simp; omega)] at hk; simp at hk
    rw [List.getElem?_map, List.getElem?_range hkl] at hk
    simp only [Option.map_some, Option.some.injEq] at hk
    rw [← hk]
    exact hq k hkl

theorem script_open {r : Reach} {b0 : Nat} {v : Value} {d : DataW H} {p : List MemPlace} (hv : Value.okWide Tryd.prog W r b0 24 v) (h : DataW.Trod enc Tryd.prog W base sp held 24 v d p)
    (hz : ∀ q ∈ d.weights Tryd.prog 24, q ≤ reachBytes) :
    ∃ (room : Int) (S : ByteArray) (A : Option Addr) (n c : Nat) (acts : List ActV), v = .agg #[.int .i64 room, .string S, .slice A n c] ∧ (Lit.int .i64 room).wf = true ∧ S.size ≤ 140737488351232 ∧ n ≤ 140737488351232 ∧ Acts W A n acts := by
  obtain ⟨v0, v1, v2, y0, y1, y2, n, rfl, rfl, _, h0, h1, h2⟩ := Joins.open_agg3 Tryd.underlying24 (by kernel_rfl) (by kernel_rfl) hv h
  obtain ⟨room, e0, rfl, hw⟩ := DataW.trod_int Tryd.underlying3 h0
  obtain ⟨S, e1, rfl, hS⟩ := DataW.trod_string Tryd.underlying9 h1
  have hsz : S.size ≤ 140737488351232 := by
    have := hz S.data.toList.length (by
      simp only [DataW.weights, Tryd.underlying24, List.map_cons, List.map_nil, DataW.weightsEach, List.nil_append, List.mem_append, List.mem_singleton]
      exact Or.inl trivial)
    rw [Array.length_toList] at this
    exact this
  obtain ⟨A, m, c, acts, e2, hA, hm⟩ := acts_open h2 (fun q hq => hz q (by
    simp only [DataW.weights, Tryd.underlying24, List.map_cons, List.map_nil, DataW.weightsEach, List.nil_append, List.append_nil, List.mem_append]
    exact Or.inr hq))
  simp only [List.cons.injEq, and_true] at e0 e1 e2
  exact ⟨room, S, A, m, c, acts, by rw [e0, e1, e2], hw, hsz, hm, hA⟩
end
end Go.Proofs.YthhlchgnjdfpeaaDoor
