/-
  ELEMENTS: slices.Insert.
-/
import Derived.Test.YthkohjijppbliaaDoorLpC
import Derived.Lib.Overlaps
import Derived.Deep.RegionLaw
import Derived.Laws.CopyRow
import Derived.Shelf.Spec.SlicesInsertGrow
set_option linter.unusedVariables false
namespace Go.Proofs.YthkohjijppbliaaDoor
open Go Go.RowKit

set_option maxRecDepth 100000 in
theorem cutE_l (w : World) (g n c lo : Nat) (L : Int) (hL : L = lo) (h1 : lo ≤ n) (h2 : n ≤ c) (h3 : lo < c) :
    (Instr.slice 22 (.slice (some ⟨g, 0, none⟩) n c) (some (.int .i64 L)) none none).run Tryd.prog w = .ok (.slice (some ⟨g, lo * 4, none⟩) (n - lo) (c - lo)) w := by
  subst hL
  rw [run_slice_l (P := Tryd.prog) w 22 (some ⟨g, 0, none⟩) n c Tryd.underlying22 .i64 _ (by omega) (by omega)]
  have hz : ((sizeOf (Tryd.prog.elem 22)).run Tryd.prog w) = .ok 4 w := by kernel_rfl
  rw [hz]
  have hc : ¬ c = lo := by omega
  simp [Result.andThen, sliced, hc, addr_add]
set_option maxRecDepth 100000 in
theorem cutE_h (w : World) (g n c hi : Nat) (H : Int) (hH : H = hi) (h2 : hi ≤ c) (h3 : 0 < c) :
    (Instr.slice 22 (.slice (some ⟨g, 0, none⟩) n c) none (some (.int .i64 H)) none).run Tryd.prog w = .ok (.slice (some ⟨g, 0, none⟩) hi c) w := by
  subst hH
  rw [run_slice_h (P := Tryd.prog) w 22 (some ⟨g, 0, none⟩) n c Tryd.underlying22 .i64 _ (by omega) (by omega)]
  have hz : ((sizeOf (Tryd.prog.elem 22)).run Tryd.prog w) = .ok 4 w := by kernel_rfl
  rw [hz]
  have hc : ¬ c = 0 := by omega
  simp [Result.andThen, sliced, hc, Addr.add]
/-- Some values laid over others. -/
def put (c : List Value) (o : Nat) (cs : List Value) : List Value := c.take o ++ cs ++ c.drop (o + cs.length)
theorem put_len {c : List Value} {o : Nat} {cs : List Value} (h : o + cs.length ≤ c.length) : (put c o cs).length = c.length := by
  unfold put
  rw [List.length_append, List.length_append, List.length_take, List.length_drop]
  omega
theorem put_low {c : List Value} {o : Nat} {cs : List Value} (h : o ≤ c.length) : (put c o cs).take o = c.take o := by
  unfold put
  rw [List.append_assoc, List.take_append_of_le_length (by rw [List.length_take]; omega), List.take_take, Nat.min_self]
theorem put_take {c : List Value} {o m : Nat} {cs : List Value} (h : o ≤ c.length) (hm : cs.length = m) : (put c o cs).take (o + m) = c.take o ++ cs := by
  unfold put
  have h1 : (c.take o ++ cs).length = o + m := by rw [List.length_append, List.length_take]; omega
  rw [← h1, List.take_left]
theorem put_drop {c : List Value} {o : Nat} {cs : List Value} (h : o ≤ c.length) : (put c o cs).drop o = cs ++ c.drop (o + cs.length) := by
  unfold put
  have h1 : (c.take o).length = o := by rw [List.length_take]; omega
  rw [List.append_assoc, List.drop_append_of_le_length (by omega), List.drop_of_length_le (by omega), List.nil_append]
theorem put_past {c : List Value} {o m : Nat} {cs : List Value} (h : o ≤ c.length) (hm : cs.length = m) : (put c o cs).drop (o + m) = c.drop (o + m) := by
  rw [← List.drop_drop, put_drop h, ← hm, List.drop_left]
theorem run_copyE (w : World) (ty : TypeId) (g o dLen dCap : Nat) (a : Addr) (sLen sCap n : Nat) (cs : List Value) (cur : Array Value) (hn : Nat.min sLen dLen = n) (hcl : cs.length = n * 4)
    (hsrc : ∀ j v, cs[j]? = some v → w.cell? (a.add j) = some v) (hg : w.heap[g]? = some (.cells cur 71 (0, 0))) (hfit : o + cs.length ≤ cur.size) (h1 : ∀ v ∈ cs, v.oneCell' = true) :
    (Builtin.copy_ #[22, 22] ty #[.slice (some ⟨g, o, none⟩) dLen dCap, .slice (some a) sLen sCap]).run Tryd.prog w = .ok (goInt n) (w.setRow g (put cur.toList o cs).toArray) := by
  obtain ⟨i0, hi, hz0, hz1, hz2⟩ := info_parts info_elem
  have hf := run_firstCells_some (P := Tryd.prog) w i0.size n a sLen sCap cs (by rw [hz1]; exact hcl) hsrc
  have hst := run_storeCells_at (P := Tryd.prog) g o 71 cs 0 cur w hg (by simpa using hfit) h1
  simp only [Nat.add_zero] at hst
  simp [Builtin.copy_, run_underlying Tryd.underlying22, sizeOf, typeInfo, hi, Builtin.lenOf, hn, hf, hst, put]
theorem flatE_take (L : List ElemS) (i : Nat) (h : i ≤ L.length) : (flatE L).take (i * 4) = flatE (L.take i) := by
  conv => lhs; rw [← List.take_append_drop i L, flatE_app]
  rw [List.take_append_of_le_length (by rw [flatE_len, List.length_take]; omega), List.take_of_length_le (by rw [flatE_len, List.length_take]; omega)]
theorem flatE_drop (L : List ElemS) (i : Nat) (h : i ≤ L.length) : (flatE L).drop (i * 4) = flatE (L.drop i) := by
  conv => lhs; rw [← List.take_append_drop i L, flatE_app]
  rw [List.drop_append_of_le_length (by rw [flatE_len, List.length_take]; omega), List.drop_of_length_le (by rw [flatE_len, List.length_take]; omega), List.nil_append]
/-- A row of elements in a block of the call's own, with room. -/
structure Em (w : World) (g cap : Nat) (L : List ElemS) : Prop where
  h : ∃ cur : Array Value, w.heap[g]? = some (.cells cur 71 (0, 0)) ∧ cur.size = cap * 4 ∧ cur.toList.take (L.length * 4) = flatE L
  le : L.length ≤ cap
theorem Em.cell {w : World} {g cap : Nat} {L : List ElemS} (h : Em w g cap L) {j : Nat} {u : Value} (hu : (flatE L)[j]? = some u) : w.cell? ⟨g, j, none⟩ = some u := by
  obtain ⟨cur, h1, h2, h3⟩ := h.h
  rw [cell_of_row _ _ _ _ _ _ h1]
  rw [← h3, List.getElem?_take] at hu
  split at hu
  · rw [← Array.getElem?_toList]; exact hu
  · cases hu
theorem Em.lt {w : World} {g cap : Nat} {L : List ElemS} (h : Em w g cap L) : g < w.heap.size := by
  obtain ⟨cur, h1, _⟩ := h.h
  exact heap_lt h1
theorem Oe.em {w : World} {B : Nat} {v : Value} {L : List ElemS} (h : Oe w B v L) : (v = .slice none 0 0 ∧ L = []) ∨ ∃ g c, v = .slice (some ⟨g, 0, none⟩) L.length c ∧ B ≤ g ∧ Em w g c L ∧ c ≤ maxLen := by
  rcases h.2 with ⟨h1, h2⟩ | ⟨g, cap, cur, h1, h2, h3, h4, h5, h6, h7⟩
  · exact .inl ⟨h1, List.eq_nil_of_length_eq_zero h2⟩
  · exact .inr ⟨g, cap, h1, h2, ⟨⟨cur, h3, h6, h7⟩, h4⟩, h5⟩
theorem Em.oe {w : World} {g cap : Nat} {L : List ElemS} (h : Em w g cap L) {B n : Nat} (hB : B ≤ g) (hm : cap ≤ maxLen) (hn : L.length = n) : Oe w B (.slice (some ⟨g, 0, none⟩) n cap) L := by
  obtain ⟨cur, h1, h2, h3⟩ := h.h
  subst hn
  exact ⟨flatE_len L, .inr ⟨g, cap, cur, rfl, hB, h1, h.le, hm, h2, h3⟩⟩
/-- What stands from i on is shifted, and others laid there. -/
theorem Em.shift {w : World} {g cap : Nat} {L K : List ElemS} (h : Em w g cap L) {i n m : Nat} (hN : L.length = n) (hM : K.length = m) (hi : i < n) (hroom : n + m ≤ cap) (vb vc : Nat) (hvb : vb ≠ g) (hv : ∀ j u, (flatE K)[j]? = some u → w.cell? ⟨vb, j, none⟩ = some u) :
    ∃ w1 w2, (∀ ty dc sc, (Builtin.copy_ #[22, 22] ty #[.slice (some ⟨g, (i + m) * 4, none⟩) (n + m - (i + m)) dc, .slice (some ⟨g, i * 4, none⟩) (n + m - i) sc]).run Tryd.prog w = .ok (goInt ((n - i : Nat) : Int)) w1) ∧
      (∀ ty' dc, (Builtin.copy_ #[22, 22] ty' #[.slice (some ⟨g, i * 4, none⟩) (n + m - i) dc, .slice (some ⟨vb, 0, none⟩) m vc]).run Tryd.prog w1 = .ok (goInt (m : Int)) w2) ∧
      Em w2 g cap (L.take i ++ K ++ L.drop i) ∧ Kept (fun q => q = g) w w2 := by
  obtain ⟨cur, h1, h2, h3⟩ := h.h
  have hcl : cur.toList.length = cap * 4 := by rw [Array.length_toList]; exact h2
  have hd : (flatE (L.drop i)).length = (n - i) * 4 := by rw [flatE_len, List.length_drop, hN]
  have hkl : (flatE K).length = m * 4 := by rw [flatE_len, hM]
  have hc1 := fun ty dc sc => run_copyE w ty g ((i + m) * 4) (n + m - (i + m)) dc ⟨g, i * 4, none⟩ (n + m - i) sc (n - i) (flatE (L.drop i)) cur (by simp only [Nat.min_def]; split <;> omega) hd
    (fun j v hj => by
      rw [addr_add]
      rw [← flatE_drop L i (by omega), List.getElem?_drop] at hj
      exact h.cell hj) h1 (by rw [hd, h2]; omega) flatE_one'
  obtain ⟨D, hD⟩ : ∃ D, flatE (L.drop i) = D := ⟨_, rfl⟩
  obtain ⟨KF, hKF⟩ : ∃ KF, flatE K = KF := ⟨_, rfl⟩
  have hko := fun v (hv : v ∈ flatE K) => flatE_one' (L := K) v hv
  rw [hD] at hd hc1
  rw [hKF] at hkl hv hko
  have hl1 := put_len (c := cur.toList) (o := (i + m) * 4) (cs := D) (by rw [hd, hcl]; omega)
  have hlow1 := put_low (c := cur.toList) (o := (i + m) * 4) (cs := D) (by rw [hcl]; omega)
  have hdr1 := put_drop (c := cur.toList) (o := (i + m) * 4) (cs := D) (by rw [hcl]; omega)
  obtain ⟨c1, hc1e⟩ : ∃ c1, put cur.toList ((i + m) * 4) D = c1 := ⟨_, rfl⟩
  rw [hc1e] at hc1 hl1 hlow1 hdr1
  have hg1 : (w.setRow g c1.toArray).heap[g]? = some (.cells c1.toArray 71 (0, 0)) := setRow_heap w g cur _ _ _ h1
  have hc2 := fun ty' dc => run_copyE (w.setRow g c1.toArray) ty' g (i * 4) (n + m - i) dc ⟨vb, 0, none⟩ m vc m KF c1.toArray (by simp only [Nat.min_def]; split <;> omega) hkl
    (fun j v hj => by
      rw [addr_add, Nat.zero_add]
      exact (World.cell?_of_block (setRow_other w g vb _ hvb)).trans (hv j v hj)) hg1 (by rw [hkl, List.size_toArray, hl1, hcl]; omega) hko
  have ht : cur.toList.take (i * 4) = flatE (L.take i) := by
    rw [← flatE_take L i (by omega), ← h3, List.take_take, hN, Nat.min_eq_left (by omega)]
  refine ⟨_, _, hc1, hc2, ⟨⟨_, setRow_heap _ g c1.toArray _ _ _ hg1, ?_, ?_⟩, ?_⟩, ((Kept.refl (fun q => q = g) w).setRow rfl _).setRow rfl _⟩
  · show (put c1.toArray.toList (i * 4) KF).toArray.size = _
    rw [List.size_toArray, put_len (by rw [hkl]; simp only []; rw [hl1, hcl]; omega)]
    exact hl1.trans hcl
  · show (put c1.toArray.toList (i * 4) KF).toArray.toList.take _ = _
    have hln : (L.take i ++ K ++ L.drop i).length * 4 = (i * 4 + m * 4) + (n - i) * 4 := by rw [List.length_append, List.length_append, List.length_take, List.length_drop, hN, hM, Nat.min_eq_left (by omega)]; omega
    have e : (put c1 (i * 4) KF).take (i * 4 + m * 4 + (n - i) * 4) = (put c1 (i * 4) KF).take (i * 4 + m * 4) ++ ((put c1 (i * 4) KF).drop (i * 4 + m * 4)).take ((n - i) * 4) := List.take_add
    rw [hln]
    show (put c1 (i * 4) KF).take _ = _
    rw [e, put_take (by rw [hl1, hcl]; omega) hkl, put_past (by rw [hl1, hcl]; omega) hkl, flatE_app, flatE_app, hKF, hD]
    congr 1
    · congr 1
      have : c1.take (i * 4) = (c1.take ((i + m) * 4)).take (i * 4) := by rw [List.take_take, Nat.min_eq_left (by omega)]
      rw [this, hlow1, List.take_take, Nat.min_eq_left (by omega), ht]
    · rw [show i * 4 + m * 4 = (i + m) * 4 by omega, hdr1, ← hd, List.take_left]
  · rw [List.length_append, List.length_append, List.length_take, List.length_drop, hN, hM]
    omega
end Go.Proofs.YthkohjijppbliaaDoor
