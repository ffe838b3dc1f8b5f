/-
  THE GAP BUFFER: the gap is carried, within one block, from one place to another one.
-/
import Derived.Test.YthhlchgnjdfpeaaDoorGap1
import Derived.StillTailTactics
import Derived.Laws.CopyOwn
import Derived.IntWalk
import Derived.Laws.LoneSync
import Derived.Lib.Hide
set_option linter.unusedVariables false
namespace Go.Proofs.YthhlchgnjdfpeaaDoor
open Go Go.RowKit

/-- copy into a block that is known whole: the world behind it is a name, of which the one row is told. -/
theorem wpList_copy_row {P : Program} {w : World} {ops : Array Oper} {rest : List Oper} {o : Oper} {a : Act} {Q : Exit → Act → World → Prop} (hgd : o.guard = none) (d s : Operand) (dT sT : TypeId)
    (ho : o.op = .call { callee := .builtin .copy, args := #[d, s], argTypes := #[dT, sT] }) (elem : TypeId) (hu : P.underlying dT = some (.slice elem)) (hsz : (P.info? elem).map (·.size) = some 1)
    (dp sp : Option Addr) (dLen dCap sLen sCap : Nat) (hd : a.eval d = .slice dp dLen dCap) (hs : a.eval s = .slice sp sLen sCap)
    (g off : Nat) (cur : List Value) (t : TypeId) (hg : w.heap[g]? = some (.cells cur.toArray t (0, 0))) (cs : List Value) (hn : cs.length = Nat.min sLen dLen)
    (hpos : 0 < cs.length → dp = some ⟨g, off, none⟩ ∧ ∃ ad, sp = some ad ∧ ∀ j v, cs[j]? = some v → w.cell? (ad.add j) = some v)
    (hfit : off + cs.length ≤ cur.length) (h1 : ∀ v ∈ cs, v.oneCell' = true)
    (h : ∀ w', Hid (w' = w.setRow g (splice cur off cs).toArray) → wpList P ops Q rest (a.put o.dst (goInt cs.length)) w') :
    wpList P ops Q (o :: rest) a w := by
  by_cases h0 : cs.length = 0
  · obtain rfl : cs = [] := List.eq_nil_of_length_eq_zero h0
    refine wpList_copy_nothing hgd d s dT sT ho elem hu hsz dp sp dLen dCap sLen sCap hd hs (by simpa using hn.symm) ?_
    exact h w (by
      show w = _
      have e : splice cur off ([] : List Value) = cur := by simp [splice]
      rw [e, setRow_self w g cur.toArray t (0, 0) hg])
  · obtain ⟨rfl, ad, rfl, hsrc⟩ := hpos (by omega)
    refine wpList_copy_own hgd d s dT sT ho elem hu hsz g off dLen dCap ad sLen sCap hd hs cur.toArray t hg cs hn hsrc (by simpa using hfit) h1 ?_
    exact h _ (by show _ = _; simp [splice])

/-- But for the blocks of S nothing that was there has turned. -/
structure Kept (S : Nat → Prop) (w w' : World) : Prop where
  os : w'.os = w.os
  tape : w'.tape = w.tape
  output : w'.output = w.output
  size : w.heap.size ≤ w'.heap.size
  block : ∀ k, k < w.heap.size → ¬ S k → w'.heap[k]? = w.heap[k]?
theorem Kept.refl (S : Nat → Prop) (w : World) : Kept S w w := ⟨rfl, rfl, rfl, Nat.le_refl _, fun _ _ _ => rfl⟩
theorem Kept.trans {S : Nat → Prop} {a b c : World} (h : Kept S a b) (k : Kept S b c) : Kept S a c :=
  ⟨k.os.trans h.os, k.tape.trans h.tape, k.output.trans h.output, Nat.le_trans h.size k.size, fun i hi hs => (k.block i (Nat.lt_of_lt_of_le hi h.size) hs).trans (h.block i hi hs)⟩
theorem Kept.mono {S T : Nat → Prop} {a b : World} (h : Kept S a b) (hST : ∀ k, k < a.heap.size → S k → T k) : Kept T a b :=
  ⟨h.os, h.tape, h.output, h.size, fun k hk hn => h.block k hk fun hs => hn (hST k hk hs)⟩
theorem Kept.drewN {S : Nat → Prop} {a b : World} (h : Kept S a b) (n : Nat) : Kept S a (b.drewN n) := ⟨h.os, h.tape, h.output, h.size, h.block⟩
theorem Kept.drew {S : Nat → Prop} {a b : World} (h : Kept S a b) : Kept S a b.drew := ⟨h.os, h.tape, h.output, h.size, h.block⟩
theorem Kept.alloc {S : Nat → Prop} {a b : World} (h : Kept S a b) (o : Obj) : Kept S a (b.alloc o) :=
  h.trans ⟨rfl, rfl, rfl, by simp, fun k hk _ => Below.heap_alloc _ _ _ hk⟩
theorem Kept.setCell {S : Nat → Prop} {a b : World} (h : Kept S a b) {p : Addr} (hp : S p.block) (u : Value) : Kept S a (b.setCell p u) :=
  h.trans ⟨rfl, rfl, rfl, by simp [World.setCell], fun k _ hk => Below.heap_setCell _ _ _ _ (fun e => hk (e ▸ hp))⟩
theorem Kept.setRow {S : Nat → Prop} {a b : World} (h : Kept S a b) {g : Nat} (hg : S g) (cs : Array Value) : Kept S a (b.setRow g cs) :=
  h.trans ⟨rfl, rfl, rfl, by simp [World.setRow], fun k _ hk => setRow_other _ _ _ _ (fun e => hk (e ▸ hg))⟩
theorem Kept.below {S : Nat → Prop} {a b : World} (h : Kept S a b) {B : Nat} (hB : B ≤ a.heap.size) (hS : ∀ k, S k → B ≤ k) : Below B a b :=
  ⟨h.os, h.tape, h.output, h.size, fun k hk => h.block k (by omega) fun hs => by have := hS k hs; omega⟩
theorem heap_lt {w : World} {g : Nat} {o : Obj} (h : w.heap[g]? = some o) : g < w.heap.size := by
  rcases Nat.lt_or_ge g w.heap.size with hlt | hge
  · exact hlt
  · rw [Array.getElem?_eq_none hge] at h; cases h
theorem block_ne {w : World} {g g' : Nat} {t t' : TypeId} {cs cs' : Array Value} {f f' : Nat × Nat} (h : w.heap[g]? = some (.cells cs t f)) (h' : w.heap[g']? = some (.cells cs' t' f')) (hne : t ≠ t') : g ≠ g' := by
  rintro rfl
  rw [h] at h'
  injection h' with h'
  injection h' with _ ht
  exact hne ht
theorem heap_set {w : World} {g i : Nat} {t : TypeId} {cs : Array Value} {f : Nat × Nat} (h : w.heap[g]? = some (.cells cs t f)) (u : Value) : (w.setCell ⟨g, i, none⟩ u).heap[g]? = some (.cells (cs.setIfInBounds i u) t f) := by
  simp [World.setCell, Array.getElem?_modify, h]
theorem heap_far {w : World} {g g' i : Nat} (h : g ≠ g') (u : Value) : (w.setCell ⟨g', i, none⟩ u).heap[g]? = w.heap[g]? := Below.heap_setCell _ _ _ _ h
theorem frozen_of {w : World} {g i : Nat} {t : TypeId} {cs : Array Value} (h : w.heap[g]? = some (.cells cs t (0, 0))) : w.frozen? ⟨g, i, none⟩ = false := by
  simp [World.frozen?, h]
theorem cutA_lt {cb c lo : Nat} (h : lo < c) : cutA (some ⟨cb, 0, none⟩) c lo = some ⟨cb, lo, none⟩ := by
  unfold cutA
  rw [if_neg (by omega)]
  simp [addr_add]

theorem add64_any (a : Addr) (x y : Int) (w : World) (hc : w.cell? a = some (.int .i64 x)) (hf : w.frozen? a = false) (h0 : -1000000000000000000 ≤ x) (h1 : x ≤ 2000000000000000000) (h2 : -1000000000000000000 ≤ y) (h3 : y ≤ 1000000000000000000) :
    Calls Tryd.prog 35 #[.pointer (some a), .int .i64 y] w fun e w' => e = .returned (.int .i64 (x + y)) ∧ w' = w.setCell a (.int .i64 (x + y)) := by
  have hadd := run_call_add (P := Tryd.prog) Tryd.func37 (by kernel_rfl) (by kernel_rfl) (by kernel_rfl) .i64 (by kernel_rfl) (x := x) (y := y) (s := x + y) hc hf (by
    have x1 : IntKind.i64.wrap (x + y) = x + y := IntWalk.i64_in _ (by omega)
    simp [go_sem, x1])
  clear hc hf
  go_enter Tryd.func35, Tryd.ntmps35
  go_wp2
  go_ret
  exact ⟨rfl, rfl⟩

theorem cell_set2 {w : World} {rb i j k : Nat} {u v x : Value} {t : TypeId} {cs : Array Value} (h : w.heap[rb]? = some (.cells cs t (0, 0))) (hx : cs[k]? = some x) (h1 : i ≠ k) (h2 : j ≠ k) :
    ((w.setCell ⟨rb, i, none⟩ u).setCell ⟨rb, j, none⟩ v).cell? ⟨rb, k, none⟩ = some x := by
  rw [cell_of_row _ rb k _ _ _ (heap_set (heap_set h u) v), Array.getElem?_setIfInBounds_ne h2, Array.getElem?_setIfInBounds_ne h1, hx]
theorem frozen_set2 {w : World} {rb i j k : Nat} {u v : Value} {t : TypeId} {cs : Array Value} (h : w.heap[rb]? = some (.cells cs t (0, 0))) :
    ((w.setCell ⟨rb, i, none⟩ u).setCell ⟨rb, j, none⟩ v).frozen? ⟨rb, k, none⟩ = false := frozen_of (heap_set (heap_set h u) v)

theorem splice_map {α β : Type} (f : α → β) (L : List α) (off : Nat) (cs : List α) : splice (L.map f) off (cs.map f) = (splice L off cs).map f := by simp [splice]

theorem carry_down (rb cb n c low high i : Nat) (w : World) (zs : List Int) (moves room : Int) (hr : w.heap[rb]? = some (.cells #[.int .i64 room, .slice (some ⟨cb, 0, none⟩) n c, .int .i64 low, .int .i64 high, .int .i64 moves] 57 (0, 0)))
    (hl : low ≤ high) (hh : high ≤ n) (hn : n ≤ 100000) (hc : n ≤ c) (hz : c = zs.length) (hb : w.heap[cb]? = some (.cells (zs.map (Value.int .i32)).toArray 21 (0, 0))) (hi : i < low) (hm0 : 0 ≤ moves) (hm : moves ≤ 1000000000000000000) :
    Calls Tryd.prog 28 #[.pointer (some ⟨rb, 0, none⟩), .int .i64 i] w fun e w' => e = .returned (.tuple #[]) ∧ Kept (fun k => k = rb ∨ k = cb) w w' ∧
      w'.heap[rb]? = some (.cells #[.int .i64 room, .slice (some ⟨cb, 0, none⟩) n c, .int .i64 i, .int .i64 ((high : Int) - ((low : Int) - (i : Int))), .int .i64 (moves + ((low : Int) - (i : Int)))] 57 (0, 0)) ∧
      w'.heap[cb]? = some (.cells ((splice zs (high - (low - i)) ((zs.take low).drop i)).map (Value.int .i32)).toArray 21 (0, 0)) := by
  have hne : rb ≠ cb := block_ne hr hb (by decide)
  have c1 : w.cell? ⟨rb, 1, none⟩ = some (.slice (some ⟨cb, 0, none⟩) n c) := by rw [cell_of_row w rb 1 _ _ _ hr]; rfl
  have c2 : w.cell? ⟨rb, 2, none⟩ = some (.int .i64 low) := by rw [cell_of_row w rb 2 _ _ _ hr]; rfl
  have c3 : w.cell? ⟨rb, 3, none⟩ = some (.int .i64 high) := by rw [cell_of_row w rb 3 _ _ _ hr]; rfl
  have e1 := fun w' => run_cut w' cb n c (high - (low - i)) high ((high : Int) - ((low : Int) - (i : Int))) high (by omega) rfl (by omega) (by omega)
  have e2 := fun w' => run_cut w' cb n c i low i low rfl rfl (by omega) (by omega)
  have g1 : 0 ≤ (high : Int) - ((low : Int) - (i : Int)) := by omega
  rw [cutA_lt (by omega)] at e1 e2
  have x1 : IntKind.i64.wrap ((high : Int) - ((low : Int) - (i : Int))) = (high : Int) - ((low : Int) - (i : Int)) := IntWalk.i64_in _ (by omega)
  have HR := Lib.hid hr
  have HB := Lib.hid hb
  have HZ := Lib.hid hz
  clear hr hb hz
  go_enter Tryd.func28, Tryd.ntmps28
  go_wp2
  refine wp_region_still_tail 25 (by kernel_rfl) (by kernel_rfl) ?_
  simp only [List.take_succ_cons, List.take_zero, List.drop_succ_cons, List.drop_zero]
  have d1 : w.drew.cell? ⟨rb, 1, none⟩ = some (.slice (some ⟨cb, 0, none⟩) n c) := c1
  have d2 : w.drew.cell? ⟨rb, 2, none⟩ = some (.int .i64 low) := c2
  have d3 : w.drew.cell? ⟨rb, 3, none⟩ = some (.int .i64 high) := c3
  have HB2 : Hid (w.drew.heap[cb]? = some (.cells (zs.map (Value.int .i32)).toArray 21 (0, 0))) := HB.out
  have HR2 : Hid (w.drew.heap[rb]? = some (.cells #[.int .i64 room, .slice (some ⟨cb, 0, none⟩) n c, .int .i64 low, .int .i64 high, .int .i64 moves] 57 (0, 0))) := HR.out
  have HK : Kept (fun k => k = rb ∨ k = cb) w w.drew := (Kept.refl _ w).drew
  change wpStill _ _ w.drew _ _ _
  generalize hw2 : w.drew = w2 at d1 d2 d3 HB2 HR2 HK ⊢
  repeat still_step
  refine wpStill_nil ?_
  change wpList _ _ _ _ _ w.drew
  rw [hw2]
  clear hw2 c1 c2 c3 HB HR
  refine wpList_copy_row rfl _ _ _ _ rfl 21 Tryd.underlying34 (by kernel_rfl) _ _ _ _ _ _ rfl rfl cb (high - (low - i)) (zs.map (Value.int .i32)) 21 HB2.out (((zs.take low).drop i).map (Value.int .i32)) (by have := HZ.out; simp only [List.length_map, List.length_drop, List.length_take]; show _ = min _ _; omega) ?hp (by have := HZ.out; simp only [List.length_map, List.length_drop, List.length_take]; omega) (by intro v hv; simp only [List.mem_map] at hv; obtain ⟨z, _, rfl⟩ := hv; rfl) ?_
  case hp =>
    intro _
    refine ⟨rfl, _, rfl, fun j v hj => ?_⟩
    rw [addr_add, cell_of_row w2 cb (i + j) _ _ _ HB2.out]
    have hz := HZ.out
    simp only [List.getElem?_map, List.getElem?_drop, List.getElem?_take] at hj
    split at hj
    · simpa using hj
    · simp at hj
  intro w3 hw3
  have k1 : Hid (w3.heap[rb]? = _) := (congrArg (fun x : World => x.heap[rb]?) hw3.out).trans ((setRow_other _ _ _ _ hne).trans HR2.out)
  have k2 : Hid (w3.heap[cb]? = _) := (congrArg (fun x : World => x.heap[cb]?) hw3.out).trans (setRow_heap _ _ _ _ _ _ HB2.out)
  have k3 : Kept (fun k => k = rb ∨ k = cb) w w3 := by rw [hw3.out]; exact HK.setRow (.inr rfl) _
  clear hw3 HB2 HR2 HK d1 d2 d3
  have c1 : w3.cell? ⟨rb, 1, none⟩ = some (.slice (some ⟨cb, 0, none⟩) n c) := by rw [cell_of_row w3 rb 1 _ _ _ k1.out]; rfl
  have c2 : w3.cell? ⟨rb, 2, none⟩ = some (.int .i64 low) := by rw [cell_of_row w3 rb 2 _ _ _ k1.out]; rfl
  have c3 : w3.cell? ⟨rb, 3, none⟩ = some (.int .i64 high) := by rw [cell_of_row w3 rb 3 _ _ _ k1.out]; rfl
  have c4 : w3.cell? ⟨rb, 4, none⟩ = some (.int .i64 moves) := by rw [cell_of_row w3 rb 4 _ _ _ k1.out]; rfl
  have f2 : w3.frozen? ⟨rb, 2, none⟩ = false := frozen_of k1.out
  have f3 : w3.frozen? ⟨rb, 3, none⟩ = false := frozen_of k1.out
  have f4 : w3.frozen? ⟨rb, 4, none⟩ = false := frozen_of k1.out
  go_wp2_with (go_at_call 35; refine (add64_any _ moves ((low : Int) - (i : Int)) _ (cell_set2 k1.out rfl (by decide) (by decide)) (frozen_set2 k1.out) (by omega) (by omega) (by omega) (by omega)).mono ?_; rintro e w' ⟨rfl, rfl⟩)
  go_end0
  refine ⟨rfl, ((k3.setCell (.inl rfl) _).setCell (.inl rfl) _).setCell (.inl rfl) _, ?_, ?_⟩
  · rw [heap_set (heap_set (heap_set k1.out _) _) _]
    rfl
  · rw [heap_far hne.symm, heap_far hne.symm, heap_far hne.symm, k2.out, splice_map]
theorem carry_up (rb cb n c low high i : Nat) (w : World) (zs : List Int) (moves room : Int) (hr : w.heap[rb]? = some (.cells #[.int .i64 room, .slice (some ⟨cb, 0, none⟩) n c, .int .i64 low, .int .i64 high, .int .i64 moves] 57 (0, 0)))
    (hl : low ≤ high) (hh : high ≤ n) (hn : n ≤ 100000) (hc : n ≤ c) (hz : c = zs.length) (hb : w.heap[cb]? = some (.cells (zs.map (Value.int .i32)).toArray 21 (0, 0))) (hi : low ≤ i) (hi2 : i + high ≤ n + low) (hm0 : 0 ≤ moves) (hm : moves ≤ 1000000000000000000) :
    Calls Tryd.prog 28 #[.pointer (some ⟨rb, 0, none⟩), .int .i64 i] w fun e w' => e = .returned (.tuple #[]) ∧ Kept (fun k => k = rb ∨ k = cb) w w' ∧
      w'.heap[rb]? = some (.cells #[.int .i64 room, .slice (some ⟨cb, 0, none⟩) n c, .int .i64 i, .int .i64 ((high : Int) - ((low : Int) - (i : Int))), .int .i64 (moves + (-((low : Int) - (i : Int))))] 57 (0, 0)) ∧
      w'.heap[cb]? = some (.cells ((splice zs low ((zs.take (high + (i - low))).drop high)).map (Value.int .i32)).toArray 21 (0, 0)) := by
  have hne : rb ≠ cb := block_ne hr hb (by decide)
  have c1 : w.cell? ⟨rb, 1, none⟩ = some (.slice (some ⟨cb, 0, none⟩) n c) := by rw [cell_of_row w rb 1 _ _ _ hr]; rfl
  have c2 : w.cell? ⟨rb, 2, none⟩ = some (.int .i64 low) := by rw [cell_of_row w rb 2 _ _ _ hr]; rfl
  have c3 : w.cell? ⟨rb, 3, none⟩ = some (.int .i64 high) := by rw [cell_of_row w rb 3 _ _ _ hr]; rfl
  have e1 := fun w' => run_cut w' cb n c low i low i rfl rfl (by omega) (by omega)
  have e2 := fun w' => run_cut w' cb n c high (high + (i - low)) high ((high : Int) - ((low : Int) - (i : Int))) rfl (by omega) (by omega) (by omega)
  have g1 : 0 ≤ (high : Int) - ((low : Int) - (i : Int)) := by omega
  have HA1 : Hid (low < i → cutA (some ⟨cb, 0, none⟩) c low = some ⟨cb, low, none⟩) := fun h => cutA_lt (by omega)
  have HA2 : Hid (low < i → cutA (some ⟨cb, 0, none⟩) c high = some ⟨cb, high, none⟩) := fun h => cutA_lt (by omega)
  generalize cutA (some ⟨cb, 0, none⟩) c low = A1 at e1 HA1
  generalize cutA (some ⟨cb, 0, none⟩) c high = A2 at e2 HA2
  have x1 : IntKind.i64.wrap ((high : Int) - ((low : Int) - (i : Int))) = (high : Int) - ((low : Int) - (i : Int)) := IntWalk.i64_in _ (by omega)
  have HR := Lib.hid hr
  have HB := Lib.hid hb
  have HZ := Lib.hid hz
  clear hr hb hz
  go_enter Tryd.func28, Tryd.ntmps28
  go_wp2
  refine wp_region_still_tail 25 (by kernel_rfl) (by kernel_rfl) ?_
  simp only [List.take_succ_cons, List.take_zero, List.drop_succ_cons, List.drop_zero]
  have d1 : w.drew.cell? ⟨rb, 1, none⟩ = some (.slice (some ⟨cb, 0, none⟩) n c) := c1
  have d2 : w.drew.cell? ⟨rb, 2, none⟩ = some (.int .i64 low) := c2
  have d3 : w.drew.cell? ⟨rb, 3, none⟩ = some (.int .i64 high) := c3
  have HB2 : Hid (w.drew.heap[cb]? = some (.cells (zs.map (Value.int .i32)).toArray 21 (0, 0))) := HB.out
  have HR2 : Hid (w.drew.heap[rb]? = some (.cells #[.int .i64 room, .slice (some ⟨cb, 0, none⟩) n c, .int .i64 low, .int .i64 high, .int .i64 moves] 57 (0, 0))) := HR.out
  have HK : Kept (fun k => k = rb ∨ k = cb) w w.drew := (Kept.refl _ w).drew
  change wpStill _ _ w.drew _ _ _
  generalize hw2 : w.drew = w2 at d1 d2 d3 HB2 HR2 HK ⊢
  repeat still_step
  refine wpStill_nil ?_
  change wpList _ _ _ _ _ w.drew
  rw [hw2]
  clear hw2 c1 c2 c3 HB HR
  refine wpList_copy_row rfl _ _ _ _ rfl 21 Tryd.underlying34 (by kernel_rfl) _ _ _ _ _ _ rfl rfl cb low (zs.map (Value.int .i32)) 21 HB2.out (((zs.take (high + (i - low))).drop high).map (Value.int .i32)) (by have := HZ.out; simp only [List.length_map, List.length_drop, List.length_take]; show _ = min _ _; omega) ?hp (by have := HZ.out; simp only [List.length_map, List.length_drop, List.length_take]; omega) (by intro v hv; simp only [List.mem_map] at hv; obtain ⟨z, _, rfl⟩ := hv; rfl) ?_
  case hp =>
    intro h0
    have hlt : low < i := by simp only [List.length_map, List.length_drop, List.length_take] at h0; omega
    refine ⟨HA1.out hlt, _, HA2.out hlt, fun j v hj => ?_⟩
    rw [addr_add, cell_of_row w2 cb (high + j) _ _ _ HB2.out]
    have hz := HZ.out
    simp only [List.getElem?_map, List.getElem?_drop, List.getElem?_take] at hj
    split at hj
    · simpa using hj
    · simp at hj
  intro w3 hw3
  have k1 : Hid (w3.heap[rb]? = _) := (congrArg (fun x : World => x.heap[rb]?) hw3.out).trans ((setRow_other _ _ _ _ hne).trans HR2.out)
  have k2 : Hid (w3.heap[cb]? = _) := (congrArg (fun x : World => x.heap[cb]?) hw3.out).trans (setRow_heap _ _ _ _ _ _ HB2.out)
  have k3 : Kept (fun k => k = rb ∨ k = cb) w w3 := by rw [hw3.out]; exact HK.setRow (.inr rfl) _
  clear hw3 HB2 HR2 HK d1 d2 d3
  have c1 : w3.cell? ⟨rb, 1, none⟩ = some (.slice (some ⟨cb, 0, none⟩) n c) := by rw [cell_of_row w3 rb 1 _ _ _ k1.out]; rfl
  have c2 : w3.cell? ⟨rb, 2, none⟩ = some (.int .i64 low) := by rw [cell_of_row w3 rb 2 _ _ _ k1.out]; rfl
  have c3 : w3.cell? ⟨rb, 3, none⟩ = some (.int .i64 high) := by rw [cell_of_row w3 rb 3 _ _ _ k1.out]; rfl
  have c4 : w3.cell? ⟨rb, 4, none⟩ = some (.int .i64 moves) := by rw [cell_of_row w3 rb 4 _ _ _ k1.out]; rfl
  have f2 : w3.frozen? ⟨rb, 2, none⟩ = false := frozen_of k1.out
  have f3 : w3.frozen? ⟨rb, 3, none⟩ = false := frozen_of k1.out
  have f4 : w3.frozen? ⟨rb, 4, none⟩ = false := frozen_of k1.out
  go_wp2_with (go_at_call 35; refine (add64_any _ moves (-((low : Int) - (i : Int))) _ (cell_set2 k1.out rfl (by decide) (by decide)) (frozen_set2 k1.out) (by omega) (by omega) (by omega) (by omega)).mono ?_; rintro e w' ⟨rfl, rfl⟩)
  go_end0
  refine ⟨rfl, ((k3.setCell (.inl rfl) _).setCell (.inl rfl) _).setCell (.inl rfl) _, ?_, ?_⟩
  · rw [heap_set (heap_set (heap_set k1.out _) _) _]
    rfl
  · rw [heap_far hne.symm, heap_far hne.symm, heap_far hne.symm, k2.out, splice_map]
end Go.Proofs.YthhlchgnjdfpeaaDoor
