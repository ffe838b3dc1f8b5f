/-
  CAUSAL ORDER: a vector copied; one of its numbers raised.
-/
import Derived.Test.YtpgicfbaefcbmaaDoorCaB
import Derived.Test.YtpgicfbaefcbmaaDoorCdT
import Derived.Laws.AppendOwn
import Derived.Laws.AppendOwnNone
import Derived.Laws.OwnMore
set_option linter.unusedVariables false
namespace Go.Proofs.YtpgicfbaefcbmaaDoor
open Go Go.RowKit

/-- A vector of the call's own: four numbers. -/
structure Vm (w : World) (g cap : Nat) (l : List Int) : Prop where
  h : ∃ cur : Array Value, w.heap[g]? = some (.cells cur 3 (0, 0)) ∧ cur.size = cap ∧ cur.toList.take l.length = l.map (Value.int .i64)
  le : l.length ≤ cap
theorem Vm.lt {w : World} {g cap : Nat} {l : List Int} (h : Vm w g cap l) : g < w.heap.size := by
  obtain ⟨cur, h1, _⟩ := h.h
  exact heap_lt h1
theorem Vm.kept {S : Nat → Prop} {w w' : World} {g cap : Nat} {l : List Int} (h : Vm w g cap l) (hk : Kept S w w') (hs : ¬ S g) : Vm w' g cap l := by
  obtain ⟨cur, h1, h2⟩ := h.h
  exact ⟨⟨cur, (hk.block g (heap_lt h1) hs).trans h1, h2⟩, h.le⟩
theorem Vm.nums {w : World} {g cap n : Nat} {l : List Int} (h : Vm w g cap l) (hl : l.length = n) : Nums w (some ⟨g, 0, none⟩) n l := by
  obtain ⟨cur, h1, h2, h3⟩ := h.h
  refine ⟨hl, fun j x hj => ⟨_, rfl, ?_⟩⟩
  rw [addr_add, Nat.zero_add, cell_of_row w g j cur _ _ h1]
  have hjl : j < l.length := (List.getElem?_eq_some_iff.1 hj).1
  have e : (l.map (Value.int .i64))[j]? = some (.int .i64 x) := by rw [List.getElem?_map, hj]; rfl
  rw [← h3, List.getElem?_take, if_pos hjl] at e
  simpa using e
theorem Vm.free {w : World} {g cap : Nat} {l : List Int} (h : Vm w g cap l) (j : Nat) : w.frozen? ⟨g, j, none⟩ = false := by
  obtain ⟨cur, h1, _⟩ := h.h
  exact frozen_of h1
theorem Vm.set {w : World} {g cap : Nat} {l : List Int} (h : Vm w g cap l) (k : Nat) (z : Int) : Vm (w.setCell ⟨g, k, none⟩ (.int .i64 z)) g cap (l.set k z) := by
  obtain ⟨cur, h1, h2, h3⟩ := h.h
  refine ⟨⟨_, heap_set h1 _, by simp [h2], ?_⟩, by rw [List.length_set]; exact h.le⟩
  rw [List.length_set, Array.toList_setIfInBounds, List.take_set, h3, List.map_set]
set_option maxRecDepth 100000 in
theorem eql_nilI (w : World) (a : Addr) (n c : Nat) : (binOp .eql 30 (.slice (some a) n c) (.slice none 0 0)).run Tryd.prog w = .ok (.bool false) w := by
  have h : ∀ d : Nat, (Op.equalIn (d + 1) 30 (.slice (some a) n c) (.slice none 0 0)).run Tryd.prog w = .ok false w := fun d => by
    simp [Op.equalIn, run_underlying Tryd.underlying30]
  simp only [binOp]
  simp [Op.equal, Op.maxDepth, h 9999]
theorem nums_news {w : World} {ad : Addr} {n : Nat} {l : List Int} (h : Nums w (some ad) n l) : ∀ j u, (l.map (Value.int .i64))[j]? = some u → w.cell? (ad.add j) = some u := by
  intro j u hj
  rw [List.getElem?_map] at hj
  cases hx : l[j]? with
  | none => rw [hx] at hj; cases hj
  | some x =>
    rw [hx] at hj
    cases hj
    obtain ⟨a, e, hc⟩ := h.2 j x hx
    cases e
    exact hc
theorem int_ones (l : List Int) : ∀ u ∈ l.map (Value.int .i64), u.oneCell' = true := by
  intro u hu
  obtain ⟨x, _, rfl⟩ := List.mem_map.1 hu
  rfl
set_option maxRecDepth 100000 in
set_option maxHeartbeats 4000000 in
theorem iclone_any (ad : Addr) (n c : Nat) (l : List Int) (w : World) (hA : Nums w (some ad) n l) (hn : n ≤ 100000) :
    Calls Tryd.prog 59 #[.slice (some ad) n c] w fun e w' => (∃ g cap, e = .returned (.slice (some ⟨g, 0, none⟩) n cap) ∧ Vm w' g cap l ∧ w.heap.size ≤ g) ∧ Kept (fun _ => False) w w' := by
  obtain ⟨i0, hi, hz0, hz1, hz2⟩ := info_parts info_int
  have hown : (w.alloc (.cells #[] 3)).ownsRow w.heap.size 3 1 (.slice (some ⟨w.heap.size, 0, none⟩) 0 0) 0 ([] : List Value) :=
    World.ownsRow_lit (base := w.heap.size) (e := 3) (size := 1) w #[] 0 (Nat.le_refl _) (by decide) rfl
  have hk : Kept (fun _ => False) w (w.alloc (.cells #[] 3)) := (Kept.refl _ w).alloc _
  have hz : w.heap.size ≤ (w.alloc (.cells #[] 3)).heap.size := hk.size
  have hA' := hA.kept hk (fun _ _ => id)
  have hl := hA.1
  have HL := Lib.hid hl
  have HK := Lib.hid hk
  have q0 : ∀ u, (binOp .eql 30 (.slice (some ad) n c) (.slice none 0 0)).run Tryd.prog u = .ok (.bool false) u := fun u => eql_nilI u _ _ _
  clear hA hk
  go_enter Tryd.func59, Tryd.ntmps59
  go_wp2_with (at_builtin; refine wpList_append_own _ rfl _ _ 30 rfl w.heap.size 3 i0 (.int .i64 0) 1 8 Tryd.underlying30 hi hz0 hz1 hz2 rfl (by decide) _ _ _ rfl hown ad n c (l.map (Value.int .i64)) rfl (by rw [List.length_map, hl, Nat.mul_one]) (nums_news hA') (int_ones l) (by unfold maxLen; omega) (by omega) hz ?_)
  intro v' w1 hown' hgrow hnil
  have hK1 := Lib.hid (Kept.grew HK.out hgrow (fun q hq => (hown.lt q hq).1))
  rcases hown'.2 with ⟨e, _⟩ | ⟨g, cap, cur, rfl, hb, hh, hcap, _, hcs, hct⟩
  · exact absurd e hnil
  · have HV : Hid (Vm w1 g cap l) := ⟨⟨cur, hh, by rw [hcs, Nat.mul_one], by rw [hl]; simpa using hct⟩, by rw [hl]; simpa using hcap⟩
    have HB : Hid (w.heap.size ≤ g) := hb
    clear hown' hgrow hnil hown hA' hz hh hcap hcs hct hb hl
    go_wp2
    go_ret
    exact ⟨⟨g, cap, by simp, HV.out, HB.out⟩, hK1.out⟩
end Go.Proofs.YtpgicfbaefcbmaaDoor
