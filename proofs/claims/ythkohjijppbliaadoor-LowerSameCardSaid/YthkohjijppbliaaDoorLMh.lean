/-
  CAUSAL ORDER: a vector copied; one of its numbers raised.
  CAUSAL ORDER: a row of operations of the call's own; slices.Clone of them.
-/
import Derived.Test.YthkohjijppbliaaDoorLMc
import Derived.Laws.AppendOwn
import Derived.Laws.AppendOwnNone
import Derived.Laws.OwnMore
set_option linter.unusedVariables false
namespace Go.Proofs.YthkohjijppbliaaDoor
open Go Go.RowKit

/-- A vector of the call's own: four numbers. -/
structure Vm (w : World) (g cap : Nat) (l : List Int) : Prop where
  h : ∃ cur : Array Value, w.heap[g]? = some (.cells cur 3 (0, 0)) ∧ cur.size = cap ∧ cur.toList.take l.length = l.map (Value.int .i64)
  le : l.length ≤ cap
theorem Vm.lt {w : World} {g cap : Nat} {l : List Int} (h : Vm w g cap l) : g < w.heap.size := by
  obtain ⟨cur, h1, _⟩ := h.h
  exact heap_lt h1
theorem Vm.kept {S : Nat → Prop} {w w' : World} {g cap : Nat} {l : List Int} (h : Vm w g cap l) (hk : Kept S w w') (hs : ¬ S g) : Vm w' g cap l := by
  obtain ⟨cur, h1, h2⟩ := h.h
  exact ⟨⟨cur, (hk.block g (heap_lt h1) hs).trans h1, h2⟩, h.le⟩
theorem Vm.nums {w : World} {g cap n : Nat} {l : List Int} (h : Vm w g cap l) (hl : l.length = n) : Nums w (some ⟨g, 0, none⟩) n l := by
  obtain ⟨cur, h1, h2, h3⟩ := h.h
  refine ⟨hl, fun j x hj => ⟨_, rfl, ?_⟩⟩
  rw [addr_add, Nat.zero_add, cell_of_row w g j cur _ _ h1]
  have hjl : j < l.length := (List.getElem?_eq_some_iff.1 hj).1
  have e : (l.map (Value.int .i64))[j]? = some (.int .i64 x) := by rw [List.getElem?_map, hj]; rfl
  rw [← h3, List.getElem?_take, if_pos hjl] at e
  simpa using e
theorem Vm.free {w : World} {g cap : Nat} {l : List Int} (h : Vm w g cap l) (j : Nat) : w.frozen? ⟨g, j, none⟩ = false := by
  obtain ⟨cur, h1, _⟩ := h.h
  exact frozen_of h1
theorem Vm.set {w : World} {g cap : Nat} {l : List Int} (h : Vm w g cap l) (k : Nat) (z : Int) : Vm (w.setCell ⟨g, k, none⟩ (.int .i64 z)) g cap (l.set k z) := by
  obtain ⟨cur, h1, h2, h3⟩ := h.h
  refine ⟨⟨_, heap_set h1 _, by simp [h2], ?_⟩, by rw [List.length_set]; exact h.le⟩
  rw [List.length_set, Array.toList_setIfInBounds, List.take_set, h3, List.map_set]
set_option maxRecDepth 100000 in
theorem eql_nilI (w : World) (a : Addr) (n c : Nat) : (binOp .eql 40 (.slice (some a) n c) (.slice none 0 0)).run Tryd.prog w = .ok (.bool false) w := by
  have h : ∀ d : Nat, (Op.equalIn (d + 1) 40 (.slice (some a) n c) (.slice none 0 0)).run Tryd.prog w = .ok false w := fun d => by
    simp [Op.equalIn, run_underlying Tryd.underlying40]
  simp only [binOp]
  simp [Op.equal, Op.maxDepth, h 9999]
theorem nums_news {w : World} {ad : Addr} {n : Nat} {l : List Int} (h : Nums w (some ad) n l) : ∀ j u, (l.map (Value.int .i64))[j]? = some u → w.cell? (ad.add j) = some u := by
  intro j u hj
  rw [List.getElem?_map] at hj
  cases hx : l[j]? with
  | none => rw [hx] at hj; cases hj
  | some x =>
    rw [hx] at hj
    cases hj
    obtain ⟨a, e, hc⟩ := h.2 j x hx
    cases e
    exact hc
theorem int_ones (l : List Int) : ∀ u ∈ l.map (Value.int .i64), u.oneCell' = true := by
  intro u hu
  obtain ⟨x, _, rfl⟩ := List.mem_map.1 hu
  rfl
set_option maxRecDepth 100000 in
set_option maxHeartbeats 4000000 in
theorem iclone_any (ad : Addr) (n c : Nat) (l : List Int) (w : World) (hA : Nums w (some ad) n l) (hn : n ≤ 100000) :
    Calls Tryd.prog 77 #[.slice (some ad) n c] w fun e w' => (∃ g cap, e = .returned (.slice (some ⟨g, 0, none⟩) n cap) ∧ Vm w' g cap l ∧ w.heap.size ≤ g) ∧ Kept (fun _ => False) w w' := by
  obtain ⟨i0, hi, hz0, hz1, hz2⟩ := info_parts info_int
  have hown : (w.alloc (.cells #[] 3)).ownsRow w.heap.size 3 1 (.slice (some ⟨w.heap.size, 0, none⟩) 0 0) 0 ([] : List Value) :=
    World.ownsRow_lit (base := w.heap.size) (e := 3) (size := 1) w #[] 0 (Nat.le_refl _) (by decide) rfl
  have hk : Kept (fun _ => False) w (w.alloc (.cells #[] 3)) := (Kept.refl _ w).alloc _
  have hz : w.heap.size ≤ (w.alloc (.cells #[] 3)).heap.size := hk.size
  have hA' := hA.kept hk (fun _ _ => id)
  have hl := hA.1
  have HL := Lib.hid hl
  have HK := Lib.hid hk
  have q0 : ∀ u, (binOp .eql 40 (.slice (some ad) n c) (.slice none 0 0)).run Tryd.prog u = .ok (.bool false) u := fun u => eql_nilI u _ _ _
  clear hA hk
  go_enter Tryd.func77, Tryd.ntmps77
  go_wp2_with (at_builtin; refine wpList_append_own _ rfl _ _ 40 rfl w.heap.size 3 i0 (.int .i64 0) 1 8 Tryd.underlying40 hi hz0 hz1 hz2 rfl (by decide) _ _ _ rfl hown ad n c (l.map (Value.int .i64)) rfl (by rw [List.length_map, hl, Nat.mul_one]) (nums_news hA') (int_ones l) (by unfold maxLen; omega) (by omega) hz ?_)
  intro v' w1 hown' hgrow hnil
  have hK1 := Lib.hid (Kept.grew HK.out hgrow (fun q hq => (hown.lt q hq).1))
  rcases hown'.2 with ⟨e, _⟩ | ⟨g, cap, cur, rfl, hb, hh, hcap, _, hcs, hct⟩
  · exact absurd e hnil
  · have HV : Hid (Vm w1 g cap l) := ⟨⟨cur, hh, by rw [hcs, Nat.mul_one], by rw [hl]; simpa using hct⟩, by rw [hl]; simpa using hcap⟩
    have HB : Hid (w.heap.size ≤ g) := hb
    clear hown' hgrow hnil hown hA' hz hh hcap hcs hct hb hl
    go_wp2
    go_ret
    exact ⟨⟨g, cap, by simp, HV.out, HB.out⟩, hK1.out⟩
end Go.Proofs.YthkohjijppbliaaDoor
namespace Go.Proofs.YthkohjijppbliaaDoor
open Go Go.RowKit

theorem info_op : (Tryd.prog.info? 42).map (fun i => (i.zero, i.size, i.bytes)) = some (some (.agg #[.int .i64 0, .int .i64 0, .int .i64 0, .int .i64 0, .int .i64 0, .int .i64 0, .int .i64 0, .int .i64 0, .slice none 0 0]), 9, 88) := by kernel_rfl
def flatO (al : List OpS) : List Value := al.flatMap OpS.vals
theorem flatO_cons (b : OpS) (al : List OpS) : flatO (b :: al) = b.vals ++ flatO al := by simp [flatO]
theorem flatO_app (a b : List OpS) : flatO (a ++ b) = flatO a ++ flatO b := by simp [flatO]
theorem vals_len (b : OpS) : b.vals.length = 9 := rfl
theorem flatO_len : ∀ al : List OpS, (flatO al).length = al.length * 9
  | [] => rfl
  | b :: al => by
    have := flatO_len al
    rw [flatO_cons, List.length_append, this, List.length_cons, vals_len]
    omega
theorem flatO_get : ∀ {al : List OpS} {i f : Nat} {b : OpS} {u : Value}, al[i]? = some b → b.vals[f]? = some u → (flatO al)[i * 9 + f]? = some u
  | [], i, f, b, u, h, _ => by simp at h
  | q :: al, 0, f, b, u, h, hf => by
    simp only [List.getElem?_cons_zero, Option.some.injEq] at h
    subst h
    have hl : f < q.vals.length := (List.getElem?_eq_some_iff.1 hf).1
    rw [flatO_cons, List.getElem?_append_left (by omega)]
    simpa using hf
  | q :: al, i + 1, f, b, u, h, hf => by
    have ih := flatO_get (al := al) (i := i) (by simpa using h) hf
    have hl := vals_len q
    rw [flatO_cons, List.getElem?_append_right (by omega), hl, show (i + 1) * 9 + f - 9 = i * 9 + f by omega]
    exact ih
theorem flatO_inv {al : List OpS} {j : Nat} {u : Value} (h : (flatO al)[j]? = some u) : ∃ b, al[j / 9]? = some b ∧ b.vals[j % 9]? = some u := by
  have hl := flatO_len al
  have hj : j < (flatO al).length := (List.getElem?_eq_some_iff.1 h).1
  have hk : j / 9 < al.length := by omega
  refine ⟨al[j / 9], List.getElem?_eq_getElem hk, ?_⟩
  have hf : j % 9 < (al[j / 9]).vals.length := by rw [vals_len]; omega
  have h2 := flatO_get (List.getElem?_eq_getElem hk) (List.getElem?_eq_getElem hf)
  rw [show j / 9 * 9 + j % 9 = j by omega, h] at h2
  rw [List.getElem?_eq_getElem hf]
  exact h2.symm
theorem add_offO (a : Addr) (k f : Nat) (hf : 0 < f) : (⟨(a.add k).block, (a.add k).off + f, none⟩ : Addr) = a.add (k + f) := by
  unfold Addr.add
  by_cases hk : k = 0
  · subst hk
    rw [if_pos rfl, if_neg (by omega), Nat.zero_add]
  · rw [if_neg hk, if_neg (by omega), Nat.add_assoc]
theorem Op9.cell {w : World} {ad : Addr} {m f : Nat} {b : OpS} {u : Value} (h : Op9 w (ad.add m) b) (hf : b.vals[f]? = some u) : w.cell? (ad.add (m + f)) = some u := by
  have hl : f < 9 := (List.getElem?_eq_some_iff.1 hf).1
  match f, hl, hf with
  | 0, _, hf => cases hf; exact h.c0
  | 1, _, hf => cases hf; rw [← add_offO _ _ _ (by omega)]; exact h.c1
  | 2, _, hf => cases hf; rw [← add_offO _ _ _ (by omega)]; exact h.c2
  | 3, _, hf => cases hf; rw [← add_offO _ _ _ (by omega)]; exact h.c3
  | 4, _, hf => cases hf; rw [← add_offO _ _ _ (by omega)]; exact h.c4
  | 5, _, hf => cases hf; rw [← add_offO _ _ _ (by omega)]; exact h.c5
  | 6, _, hf => cases hf; rw [← add_offO _ _ _ (by omega)]; exact h.c6
  | 7, _, hf => cases hf; rw [← add_offO _ _ _ (by omega)]; exact h.c7
  | 8, _, hf => cases hf; rw [← add_offO _ _ _ (by omega)]; exact h.c8
theorem op9_of {w : World} {g m : Nat} {b : OpS} (h : ∀ f u, b.vals[f]? = some u → w.cell? ((⟨g, 0, none⟩ : Addr).add (m + f)) = some u) : Op9 w ((⟨g, 0, none⟩ : Addr).add m) b :=
  ⟨h 0 _ rfl, by rw [add_offO _ _ _ (by omega)]; exact h 1 _ rfl, by rw [add_offO _ _ _ (by omega)]; exact h 2 _ rfl, by rw [add_offO _ _ _ (by omega)]; exact h 3 _ rfl, by rw [add_offO _ _ _ (by omega)]; exact h 4 _ rfl, by rw [add_offO _ _ _ (by omega)]; exact h 5 _ rfl,
    by rw [add_offO _ _ _ (by omega)]; exact h 6 _ rfl, by rw [add_offO _ _ _ (by omega)]; exact h 7 _ rfl, by rw [add_offO _ _ _ (by omega)]; exact h 8 _ rfl⟩
/-- What a call owns, as operations. -/
theorem own_ops {w : World} {B n : Nat} {v : Value} {al : List OpS} (h : w.ownsRow B 42 9 v n (flatO al)) (hok : ∀ b ∈ al, OpOk w b) : ∃ A c, v = .slice A n c ∧ OpsM w A n al ∧ (∀ a, A = some a → B ≤ a.block) ∧ Cp A n c := by
  have hl : al.length = n := by
    have := h.1
    rw [flatO_len] at this
    omega
  have hcells : ∀ g, v.ownBlock = some g → ∀ j u, (flatO al)[j]? = some u → w.cell? ((⟨g, 0, none⟩ : Addr).add j) = some u := fun g hg => h.cells hg
  rcases h.2 with ⟨rfl, rfl⟩ | ⟨g, cap, cur, rfl, hb, hh, hcap, _, _, _⟩
  · obtain rfl := List.eq_nil_of_length_eq_zero hl
    exact ⟨none, 0, rfl, ⟨rfl, fun k b hk => by simp at hk⟩, (fun a ha => by cases ha), Nat.le_refl _, fun _ => rfl⟩
  · refine ⟨_, cap, rfl, ⟨hl, fun k b hk => ⟨⟨_, rfl, op9_of fun f u hf => hcells g rfl _ u (flatO_get hk hf)⟩, hok b (List.mem_of_getElem? hk)⟩⟩, (fun a ha => by cases ha; exact hb), hcap, (fun h => by cases h)⟩
theorem ops_news {w : World} {ad : Addr} {n : Nat} {al : List OpS} (h : OpsM w (some ad) n al) : ∀ j u, (flatO al)[j]? = some u → w.cell? (ad.add j) = some u := by
  intro j u hj
  obtain ⟨b, hb, hf⟩ := flatO_inv hj
  obtain ⟨⟨a, e, h9⟩, _⟩ := h.2 _ b hb
  cases e
  have := h9.cell hf
  rwa [show j / 9 * 9 + j % 9 = j by omega] at this
theorem flatO_one {al : List OpS} : ∀ u ∈ flatO al, u.oneCell' = true := by
  intro u hu
  obtain ⟨b, _, h⟩ := List.mem_flatMap.1 hu
  simp only [OpS.vals, List.mem_cons, List.not_mem_nil, or_false] at h
  rcases h with rfl | rfl | rfl | rfl | rfl | rfl | rfl | rfl | rfl <;> rfl
set_option maxRecDepth 100000 in
theorem eql_nilO (w : World) (a : Addr) (n c : Nat) : (binOp .eql 23 (.slice (some a) n c) (.slice none 0 0)).run Tryd.prog w = .ok (.bool false) w := by
  have h : ∀ d : Nat, (Op.equalIn (d + 1) 23 (.slice (some a) n c) (.slice none 0 0)).run Tryd.prog w = .ok false w := fun d => by
    simp [Op.equalIn, run_underlying Tryd.underlying23]
  simp only [binOp]
  simp [Op.equal, Op.maxDepth, h 9999]
set_option maxRecDepth 100000 in
theorem eql_nilP (w : World) : (binOp .eql 23 (.slice none 0 0) (.slice none 0 0)).run Tryd.prog w = .ok (.bool true) w := by
  have h : ∀ d : Nat, (Op.equalIn (d + 1) 23 (.slice none 0 0) (.slice none 0 0)).run Tryd.prog w = .ok true w := fun d => by
    simp [Op.equalIn, run_underlying Tryd.underlying23]
  simp only [binOp]
  simp [Op.equal, Op.maxDepth, h 9999]
set_option maxRecDepth 100000 in
set_option maxHeartbeats 4000000 in
theorem oclone_any (A : Option Addr) (n c : Nat) (al : List OpS) (w : World) (hA : OpsM w A n al) (hC : A = none → n = 0 ∧ c = 0) (hn : n ≤ 100000) :
    Calls Tryd.prog 30 #[.slice A n c] w fun e w' => (∃ v, e = .returned v ∧ w'.ownsRow w.heap.size 42 9 v n (flatO al)) ∧ Kept (fun _ => False) w w' := by
  match A, hA, hC with
  | none, hA, hC =>
    obtain ⟨rfl, rfl⟩ := hC rfl
    obtain rfl := List.eq_nil_of_length_eq_zero hA.1
    have q0 : ∀ u, (binOp .eql 23 (.slice none 0 0) (.slice none 0 0)).run Tryd.prog u = .ok (.bool true) u := fun u => eql_nilP u
    clear hA hC
    go_enter Tryd.func30, Tryd.ntmps30
    go_wp2
    go_ret
    exact ⟨⟨_, rfl, World.ownsRow_nil _ _ _ _⟩, Kept.refl _ _⟩
  | some ad, hA, _ =>
    obtain ⟨i0, hi, hz0, hz1, hz2⟩ := info_parts info_op
    have hown : (w.alloc (.cells #[] 42)).ownsRow w.heap.size 42 9 (.slice (some ⟨w.heap.size, 0, none⟩) 0 0) 0 ([] : List Value) :=
      World.ownsRow_lit (base := w.heap.size) (e := 42) (size := 9) w #[] 0 (Nat.le_refl _) (by decide) rfl
    have hk : Kept (fun _ => False) w (w.alloc (.cells #[] 42)) := (Kept.refl _ w).alloc _
    have hz : w.heap.size ≤ (w.alloc (.cells #[] 42)).heap.size := hk.size
    have hA' := hA.kept hk (fun _ _ => id) (fun _ _ _ _ => id)
    have hl := hA.1
    have HK := Lib.hid hk
    have q0 : ∀ u, (binOp .eql 23 (.slice (some ad) n c) (.slice none 0 0)).run Tryd.prog u = .ok (.bool false) u := fun u => eql_nilO u _ _ _
    clear hA hk
    go_enter Tryd.func30, Tryd.ntmps30
    go_wp2_with (at_builtin; refine wpList_append_own _ rfl _ _ 23 rfl w.heap.size 42 i0 (.agg #[.int .i64 0, .int .i64 0, .int .i64 0, .int .i64 0, .int .i64 0, .int .i64 0, .int .i64 0, .int .i64 0, .slice none 0 0]) 9 88 Tryd.underlying23 hi hz0 hz1 hz2 rfl (by decide) _ _ _ rfl hown ad n c (flatO al) rfl (by rw [flatO_len, hl]) (ops_news hA') flatO_one (by unfold maxLen; omega) (by omega) hz ?_)
    intro v' w1 hown' hgrow hnil
    have hK1 := Lib.hid (Kept.grew HK.out hgrow (fun q hq => (hown.lt q hq).1))
    have hw2 : w1.ownsRow w.heap.size 42 9 v' n (flatO al) := by simpa using hown'
    have HW := Lib.hid hw2
    clear hw2
    clear hown' hgrow hnil hown hA' hz
    go_wp2
    go_ret
    exact ⟨⟨v', rfl, HW.out⟩, hK1.out⟩
end Go.Proofs.YthkohjijppbliaaDoor
