/-
  A SCRIPT, OPENED: the acts' numbers are Go's.
-/
import Derived.Test.YthhlchgnjdfpeaaDoorScript
import Derived.Test.YthhlchgnjdfpeaaDoorExact0
set_option linter.unusedVariables false
namespace Go.Proofs.YthhlchgnjdfpeaaDoor
open Go Go.RowKit Go.ChangeShapes Go.WideShapes Go.ChangeAt

theorem ib_of_wf {x : Int} (h : (Lit.int .i64 x).wf = true) : IB x := by
  unfold Lit.wf at h
  simp only [Bool.and_eq_true, decide_eq_true_eq] at h
  have h1 : IntKind.i64.min = -9223372036854775808 := by decide
  have h2 : IntKind.i64.max = 9223372036854775807 := by decide
  rw [h1, h2] at h
  exact h
section
variable {H : Type} {enc : TypeId × Value → H} {W : World} {base : Nat} {sp : Nat → Bool} {held : Bool}
theorem actI_open {fuel : Nat} {cs : List Value} {x : DataW H × List MemPlace} (h : DataW.trod enc Tryd.prog W base sp held fuel 37 cs = some x) (hz : ∀ q ∈ x.1.weights Tryd.prog 37, q ≤ reachBytes) :
    ∃ a : ActV, cs = [.int .i64 a.ado, .int .i64 a.ai, .int .i64 a.an, .slice a.la a.ln a.lc] ∧ Nums W a.la a.ln a.xs ∧ a.ln ≤ 17592186044416 ∧ IB a.ai ∧ IB a.an := by
  obtain ⟨y0, y1, y2, y3, n, rfl, hl, h0, h1, h2, h3⟩ := Joins.trod_struct4 Tryd.underlying37 h
  rw [cells_act] at hl
  match cs, hl with
  | [c0, c1, c2, c3], _ =>
    simp only [cells_int, cells_ints, List.drop_zero, List.drop_succ_cons, List.take_succ_cons, List.take_zero] at h0 h1 h2 h3
    obtain ⟨z0, e0, rfl, _⟩ := DataW.trod_int Tryd.underlying3 h0
    obtain ⟨z1, e1, rfl, w1⟩ := DataW.trod_int Tryd.underlying3 h1
    obtain ⟨z2, e2, rfl, w2⟩ := DataW.trod_int Tryd.underlying3 h2
    obtain ⟨A, m, c, xs, e3, hN, hm⟩ := ints_open h3 (fun q hq => hz q (by
      simp only [DataW.weights, Tryd.underlying37, List.map_cons, List.map_nil, DataW.weightsEach, List.mem_append, List.nil_append, List.not_mem_nil, or_false]
      exact hq))
    simp only [List.cons.injEq, and_true] at e0 e1 e2 e3
    exact ⟨⟨z0, z1, z2, A, m, c, xs⟩, by rw [e0, e1, e2, e3], hN, hm, ib_of_wf w1, ib_of_wf w2⟩

theorem actsI_open {fuel : Nat} {cs : List Value} {x : DataW H × List MemPlace} (h : DataW.trod enc Tryd.prog W base sp held fuel 22 cs = some x) (hz : ∀ q ∈ x.1.weights Tryd.prog 22, q ≤ reachBytes) :
    ∃ (A : Option Addr) (n c : Nat) (acts : List ActV), cs = [.slice A n c] ∧ Acts W A n acts ∧ n ≤ 140737488351232 ∧ ∀ a ∈ acts, IB a.ai ∧ IB a.an := by
  rcases Deep.open_slice Tryd.underlying22 h with ⟨rfl, rfl⟩ | ⟨a, len, cap, m, fu, D, Pl, rfl, hb, hl, hm, hmm, rfl, hx⟩
  · exact ⟨none, 0, 0, [], rfl, ⟨rfl, fun j x hj => by simp at hj⟩, by omega, fun a ha => by cases ha⟩
  · have hle : len ≤ m := by rw [hmm]; split <;> omega
    have hw : DataW.weights Tryd.prog 22 (DataW.slice ((List.range len).map D) ((List.range (m - len)).map fun j => D (len + j))) =
        (((List.range len).map D).length + ((List.range (m - len)).map fun j => D (len + j)).length) * Tryd.prog.bytesOf 37 :: (DataW.weightsAll Tryd.prog 37 ((List.range len).map D) ++ DataW.weightsAll Tryd.prog 37 ((List.range (m - len)).map fun j => D (len + j))) := by
      simp only [DataW.weights, Tryd.underlying22]
    have hlen : len ≤ 140737488351232 := by
      have h1 := hz _ (by rw [hw]; exact List.mem_cons_self)
      simp only [List.length_map, List.length_range, bytes_act] at h1
      unfold reachBytes at h1
      omega
    obtain ⟨q, hq⟩ := Deep.choose_lt (α := ActV) (n := len) (p := fun k b => W.cell? (a.add (k * 4)) = some (.int .i64 b.ado) ∧ W.cell? ⟨(a.add (k * 4)).block, (a.add (k * 4)).off + 1, none⟩ = some (.int .i64 b.ai) ∧
        W.cell? ⟨(a.add (k * 4)).block, (a.add (k * 4)).off + 2, none⟩ = some (.int .i64 b.an) ∧ W.cell? ⟨(a.add (k * 4)).block, (a.add (k * 4)).off + 3, none⟩ = some (.slice b.la b.ln b.lc) ∧ (Nums W b.la b.ln b.xs ∧ b.ln ≤ 17592186044416) ∧ IB b.ai ∧ IB b.an) (fun i hi => by
      obtain ⟨cs', h1, h2⟩ := hx i (by omega)
      rw [cells_act] at h1
      obtain ⟨b, rfl, hN, hbl, hb1, hb2⟩ := actI_open h2 (fun q hq => hz q (by
        rw [hw]
        exact List.mem_cons_of_mem _ (List.mem_append_left _ (mem_weightsAll (List.mem_map.2 ⟨i, List.mem_range.2 hi, rfl⟩) hq))))
      obtain ⟨_, _, hc⟩ := World.cells?_some h1
      have g0 := hc 0 (by omega)
      have g1 := hc 1 (by omega)
      have g2 := hc 2 (by omega)
      have g3 := hc 3 (by omega)
      rw [addr_far _ 1 (by omega)] at g1
      rw [addr_far _ 2 (by omega)] at g2
      rw [addr_far _ 3 (by omega)] at g3
      exact ⟨b, by simpa [Addr.add] using g0, g1, g2, g3, ⟨hN, hbl⟩, hb1, hb2⟩)
    refine ⟨some a, len, cap, (List.range len).map q, rfl, ⟨by simp, fun k b hk => ⟨a, rfl, ?_⟩⟩, hlen, fun b hb => ?_⟩
    rotate_left
    · obtain ⟨k, hk, rfl⟩ := List.mem_map.1 hb
      exact (hq k (List.mem_range.1 hk)).2.2.2.2.2
    have hkl : k < len := by
      by_cases hkl : k < len
      · exact hkl
      · rw [List.getElem?_eq_none (by simp; omega)] at hk; simp at hk
    rw [List.getElem?_map, List.getElem?_range hkl] at hk
    simp only [Option.map_some, Option.some.injEq] at hk
    rw [← hk]
    have h := hq k hkl
    exact ⟨h.1, h.2.1, h.2.2.1, h.2.2.2.1, h.2.2.2.2.1.1, h.2.2.2.2.1.2⟩

theorem scriptI_open {r : Reach} {b0 : Nat} {v : Value} {d : DataW H} {p : List MemPlace} (hv : Value.okWide Tryd.prog W r b0 24 v) (h : DataW.Trod enc Tryd.prog W base sp held 24 v d p)
    (hz : ∀ q ∈ d.weights Tryd.prog 24, q ≤ reachBytes) :
    ∃ (room : Int) (S : ByteArray) (A : Option Addr) (n c : Nat) (acts : List ActV), v = .agg #[.int .i64 room, .string S, .slice A n c] ∧ (Lit.int .i64 room).wf = true ∧ S.size ≤ 140737488351232 ∧ n ≤ 140737488351232 ∧ Acts W A n acts ∧ ∀ a ∈ acts, IB a.ai ∧ IB a.an := by
  obtain ⟨v0, v1, v2, y0, y1, y2, n, rfl, rfl, _, h0, h1, h2⟩ := Joins.open_agg3 Tryd.underlying24 (by kernel_rfl) (by kernel_rfl) hv h
  obtain ⟨room, e0, rfl, hw⟩ := DataW.trod_int Tryd.underlying3 h0
  obtain ⟨S, e1, rfl, hS⟩ := DataW.trod_string Tryd.underlying9 h1
  have hsz : S.size ≤ 140737488351232 := by
    have := hz S.data.toList.length (by
      simp only [DataW.weights, Tryd.underlying24, List.map_cons, List.map_nil, DataW.weightsEach, List.nil_append, List.mem_append, List.mem_singleton]
      exact Or.inl trivial)
    rw [Array.length_toList] at this
    exact this
  obtain ⟨A, m, c, acts, e2, hA, hm, hI⟩ := actsI_open h2 (fun q hq => hz q (by
    simp only [DataW.weights, Tryd.underlying24, List.map_cons, List.map_nil, DataW.weightsEach, List.nil_append, List.append_nil, List.mem_append]
    exact Or.inr hq))
  simp only [List.cons.injEq, and_true] at e0 e1 e2
  exact ⟨room, S, A, m, c, acts, by rw [e0, e1, e2], hw, hsz, hm, hA, hI⟩
end
end Go.Proofs.YthhlchgnjdfpeaaDoor
