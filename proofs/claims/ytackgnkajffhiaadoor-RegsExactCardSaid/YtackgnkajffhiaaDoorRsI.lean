/-
  REGISTERS: slices.Insert, where there is room.
-/
import Derived.Test.YtackgnkajffhiaaDoorRsW
import Derived.Lib.Overlaps
import Derived.Deep.RegionLaw
import Derived.Laws.CopyRow
set_option linter.unusedVariables false
namespace Go.Proofs.YtackgnkajffhiaaDoor
open Go Go.RowKit

set_option maxRecDepth 100000 in
theorem cutR_l (w : World) (g n c lo : Nat) (L : Int) (hL : L = lo) (h1 : lo ≤ n) (h2 : n ≤ c) (h3 : lo < c) :
    (Instr.slice 22 (.slice (some ⟨g, 0, none⟩) n c) (some (.int .i64 L)) none none).run Tryd.prog w = .ok (.slice (some ⟨g, lo * 3, none⟩) (n - lo) (c - lo)) w := by
  subst hL
  rw [run_slice_l (P := Tryd.prog) w 22 (some ⟨g, 0, none⟩) n c Tryd.underlying22 .i64 _ (by omega) (by omega)]
  have hz : ((sizeOf (Tryd.prog.elem 22)).run Tryd.prog w) = .ok 3 w := by kernel_rfl
  rw [hz]
  have hc : ¬ c = lo := by omega
  simp [Result.andThen, sliced, hc, addr_add]
set_option maxRecDepth 100000 in
theorem cutR_h (w : World) (g n c hi : Nat) (H : Int) (hH : H = hi) (h2 : hi ≤ c) (h3 : 0 < c) :
    (Instr.slice 22 (.slice (some ⟨g, 0, none⟩) n c) none (some (.int .i64 H)) none).run Tryd.prog w = .ok (.slice (some ⟨g, 0, none⟩) hi c) w := by
  subst hH
  rw [run_slice_h (P := Tryd.prog) w 22 (some ⟨g, 0, none⟩) n c Tryd.underlying22 .i64 _ (by omega) (by omega)]
  have hz : ((sizeOf (Tryd.prog.elem 22)).run Tryd.prog w) = .ok 3 w := by kernel_rfl
  rw [hz]
  have hc : ¬ c = 0 := by omega
  simp [Result.andThen, sliced, hc, Addr.add]
theorem run_copy3 (w : World) (ty : TypeId) (g o dLen dCap : Nat) (a : Addr) (sLen sCap n : Nat) (cs : List Value) (cur : Array Value) (hn : Nat.min sLen dLen = n) (hcl : cs.length = n * 3)
    (hsrc : ∀ j v, cs[j]? = some v → w.cell? (a.add j) = some v) (hg : w.heap[g]? = some (.cells cur 41 (0, 0))) (hfit : o + cs.length ≤ cur.size) (h1 : ∀ v ∈ cs, v.oneCell' = true) :
    (Builtin.copy_ #[22, 22] ty #[.slice (some ⟨g, o, none⟩) dLen dCap, .slice (some a) sLen sCap]).run Tryd.prog w = .ok (goInt n) (w.setRow g (cur.toList.take o ++ cs ++ cur.toList.drop (o + cs.length)).toArray) := by
  obtain ⟨i0, hi, hz0, hz1, hz2⟩ := info_parts info_reg
  have hf := run_firstCells_some (P := Tryd.prog) w i0.size n a sLen sCap cs (by rw [hz1]; exact hcl) hsrc
  have hst := run_storeCells_at (P := Tryd.prog) g o 41 cs 0 cur w hg (by simpa using hfit) h1
  simp only [Nat.add_zero] at hst
  simp [Builtin.copy_, run_underlying Tryd.underlying22, sizeOf, typeInfo, hi, Builtin.lenOf, hn, hf, hst]
theorem flatR_take (L : List RegS) (i : Nat) (h : i ≤ L.length) : (flatR L).take (i * 3) = flatR (L.take i) := by
  conv => lhs; rw [← List.take_append_drop i L, flatR_app]
  rw [List.take_append_of_le_length (by rw [flatR_len, List.length_take]; omega), List.take_of_length_le (by rw [flatR_len, List.length_take]; omega)]
theorem flatR_drop (L : List RegS) (i : Nat) (h : i ≤ L.length) : (flatR L).drop (i * 3) = flatR (L.drop i) := by
  conv => lhs; rw [← List.take_append_drop i L, flatR_app]
  rw [List.drop_append_of_le_length (by rw [flatR_len, List.length_take]; omega), List.drop_of_length_le (by rw [flatR_len, List.length_take]; omega), List.nil_append]
theorem flatR_one' : ∀ {L : List RegS}, ∀ u ∈ flatR L, u.oneCell' = true := by
  intro L u hu
  unfold flatR at hu
  obtain ⟨r, _, h⟩ := List.mem_flatMap.1 hu
  exact three_one u h
/-- What stands from i on is shifted by one, and a register laid there. -/
theorem Rm.shift {w : World} {g cap : Nat} {L : List RegS} (h : Rm w g cap L) {i N : Nat} {r : RegS} (hN : L.length = N) (hi : i < N) (hroom : N < cap) (vb vc : Nat) (hvb : vb ≠ g) (hv : ∀ j u, r.vs[j]? = some u → w.cell? ⟨vb, j, none⟩ = some u) :
    ∃ w1 w2, (∀ ty dc sc, (Builtin.copy_ #[22, 22] ty #[.slice (some ⟨g, (i + 1) * 3, none⟩) (N + 1 - (i + 1)) dc, .slice (some ⟨g, i * 3, none⟩) (N + 1 - i) sc]).run Tryd.prog w = .ok (goInt ((N - i : Nat) : Int)) w1) ∧
      (∀ ty' dc, (Builtin.copy_ #[22, 22] ty' #[.slice (some ⟨g, i * 3, none⟩) (N + 1 - i) dc, .slice (some ⟨vb, 0, none⟩) 1 vc]).run Tryd.prog w1 = .ok (goInt 1) w2) ∧
      Rm w2 g cap (L.take i ++ r :: L.drop i) ∧ Kept (fun q => q = g) w w2 := by
  obtain ⟨cur, h1, h2, h3⟩ := h.h
  have hcl : cur.toList.length = cap * 3 := by rw [Array.length_toList]; exact h2
  have hd : (flatR (L.drop i)).length = (N - i) * 3 := by rw [flatR_len, List.length_drop, hN]
  have hc1 := fun ty dc sc => run_copy3 w ty g ((i + 1) * 3) (N + 1 - (i + 1)) dc ⟨g, i * 3, none⟩ (N + 1 - i) sc (N - i) (flatR (L.drop i)) cur (by simp only [Nat.min_def]; split <;> omega) hd
    (fun j v hj => by
      rw [addr_add]
      rw [← flatR_drop L i (by omega), List.getElem?_drop] at hj
      exact h.cell hj) h1 (by rw [hd]; omega) flatR_one'
  have hvl : r.vs.length = 3 := rfl
  obtain ⟨Bl, hB⟩ : ∃ Bl, flatR (L.drop i) = Bl := ⟨_, rfl⟩
  rw [hB] at hd hc1
  obtain ⟨cur1, hcur1⟩ : ∃ cur1 : Array Value, (cur.toList.take ((i + 1) * 3) ++ Bl ++ cur.toList.drop ((i + 1) * 3 + Bl.length)).toArray = cur1 := ⟨_, rfl⟩
  have hl1 : cur1.toList = cur.toList.take ((i + 1) * 3) ++ Bl ++ cur.toList.drop ((i + 1) * 3 + Bl.length) := by rw [← hcur1]
  rw [hcur1] at hc1
  have hA : (cur.toList.take ((i + 1) * 3)).length = (i + 1) * 3 := by rw [List.length_take, hcl]; omega
  have hC : (cur.toList.drop ((i + 1) * 3 + Bl.length)).length = cap * 3 - ((i + 1) * 3 + Bl.length) := by rw [List.length_drop, hcl]
  have hs1 : cur1.size = cap * 3 := by
    rw [← Array.length_toList, hl1, List.length_append, List.length_append, hA, hC, hd]
    omega
  have hg1 : (w.setRow g cur1).heap[g]? = some (.cells cur1 41 (0, 0)) := setRow_heap w g cur _ _ _ h1
  have hc2 := fun ty' dc => run_copy3 (w.setRow g cur1) ty' g (i * 3) (N + 1 - i) dc ⟨vb, 0, none⟩ 1 vc 1 r.vs cur1 (by simp only [Nat.min_def]; split <;> omega) hvl
    (fun j v hj => by
      rw [addr_add, Nat.zero_add]
      exact (World.cell?_of_block (setRow_other w g vb _ hvb)).trans (hv j v hj)) hg1 (by rw [hvl, hs1]; omega) three_one
  have ht1 : cur1.toList.take (i * 3) = flatR (L.take i) := by
    rw [hl1, List.append_assoc, List.take_append_of_le_length (by rw [hA]; omega), List.take_take, show min (i * 3) ((i + 1) * 3) = i * 3 by omega, ← flatR_take L i (by omega), ← h3, List.take_take, show min (i * 3) (L.length * 3) = i * 3 by omega]
  have hd1 : cur1.toList.drop (i * 3 + 3) = Bl ++ cur.toList.drop ((i + 1) * 3 + Bl.length) := by
    rw [hl1, List.append_assoc, List.drop_append_of_le_length (by rw [hA]; omega), List.drop_of_length_le (by rw [hA]; omega), List.nil_append]
  refine ⟨_, _, hc1, hc2, ⟨⟨_, setRow_heap _ g cur1 _ _ _ hg1, ?_, ?_⟩, ?_⟩, ((Kept.refl (fun q => q = g) w).setRow rfl _).setRow rfl _⟩
  · rw [hvl, ht1, hd1, List.size_toArray, List.length_append, List.length_append, List.length_append, flatR_len, List.length_take, hvl, hC, hd]
    omega
  · have hln : (L.take i ++ r :: L.drop i).length = N + 1 := by rw [List.length_append, List.length_take, List.length_cons, List.length_drop]; omega
    rw [hvl, ht1, hd1, hln, show L.take i ++ r :: L.drop i = (L.take i ++ [r]) ++ L.drop i by simp, flatR_app, flatR_app, flatR_one, hB, ← List.append_assoc]
    rw [List.take_append_of_le_length (by rw [List.length_append, List.length_append, flatR_len, List.length_take, hvl, hd]; omega), List.take_of_length_le (by rw [List.length_append, List.length_append, flatR_len, List.length_take, hvl, hd]; omega)]
  · rw [List.length_append, List.length_take, List.length_cons, List.length_drop]
    omega
end Go.Proofs.YtackgnkajffhiaaDoor
