/-
  WHAT A CALL LEAVES: which blocks may have turned; the cells of old memory read as they did.
-/
import Derived.Test.YthbfmdnibijapaaDoorChecked
import Derived.Test.YthbfmdnibijapaaDoorUtf
import Derived.WalkKit
import Derived.Deep.QuietTactic
import Derived.BigQuiet
import Derived.Outline
import Derived.StillTailTactics
import Derived.Laws.CopyOwn
import Derived.IntWalk
import Derived.Lib.Hide
import Derived.Lib.MinMax
import Derived.Deep.RegionLaw
import Derived.BigRegion
import Derived.RegionTactic
import Derived.WalkSpells
import Derived.LoopTactic
set_option linter.unusedVariables false
namespace Go.Proofs.YthbfmdnibijapaaDoor
open Go Go.RowKit

theorem addr_add (cb lo j : Nat) : (Addr.add ⟨cb, lo, none⟩ j) = ⟨cb, lo + j, none⟩ := by
  unfold Addr.add
  by_cases h : j = 0
  · subst h; simp
  · rw [if_neg h]
/-- But for the blocks of S nothing that was there has turned. -/
structure Kept (S : Nat → Prop) (w w' : World) : Prop where
  os : w'.os = w.os
  tape : w'.tape = w.tape
  output : w'.output = w.output
  size : w.heap.size ≤ w'.heap.size
  block : ∀ k, k < w.heap.size → ¬ S k → w'.heap[k]? = w.heap[k]?
theorem Kept.refl (S : Nat → Prop) (w : World) : Kept S w w := ⟨rfl, rfl, rfl, Nat.le_refl _, fun _ _ _ => rfl⟩
theorem Kept.trans {S : Nat → Prop} {a b c : World} (h : Kept S a b) (k : Kept S b c) : Kept S a c :=
  ⟨k.os.trans h.os, k.tape.trans h.tape, k.output.trans h.output, Nat.le_trans h.size k.size, fun i hi hs => (k.block i (Nat.lt_of_lt_of_le hi h.size) hs).trans (h.block i hi hs)⟩
theorem Kept.mono {S T : Nat → Prop} {a b : World} (h : Kept S a b) (hST : ∀ k, k < a.heap.size → S k → T k) : Kept T a b :=
  ⟨h.os, h.tape, h.output, h.size, fun k hk hn => h.block k hk fun hs => hn (hST k hk hs)⟩
theorem Kept.drewN {S : Nat → Prop} {a b : World} (h : Kept S a b) (n : Nat) : Kept S a (b.drewN n) := ⟨h.os, h.tape, h.output, h.size, h.block⟩
theorem Kept.drew {S : Nat → Prop} {a b : World} (h : Kept S a b) : Kept S a b.drew := ⟨h.os, h.tape, h.output, h.size, h.block⟩
theorem Kept.alloc {S : Nat → Prop} {a b : World} (h : Kept S a b) (o : Obj) : Kept S a (b.alloc o) :=
  h.trans ⟨rfl, rfl, rfl, by simp, fun k hk _ => Below.heap_alloc _ _ _ hk⟩
theorem Kept.setCell {S : Nat → Prop} {a b : World} (h : Kept S a b) {p : Addr} (hp : S p.block) (u : Value) : Kept S a (b.setCell p u) :=
  h.trans ⟨rfl, rfl, rfl, by simp [World.setCell], fun k _ hk => Below.heap_setCell _ _ _ _ (fun e => hk (e ▸ hp))⟩
theorem Kept.setRow {S : Nat → Prop} {a b : World} (h : Kept S a b) {g : Nat} (hg : S g) (cs : Array Value) : Kept S a (b.setRow g cs) :=
  h.trans ⟨rfl, rfl, rfl, by simp [World.setRow], fun k _ hk => setRow_other _ _ _ _ (fun e => hk (e ▸ hg))⟩
theorem Kept.below {S : Nat → Prop} {a b : World} (h : Kept S a b) {B : Nat} (hB : B ≤ a.heap.size) (hS : ∀ k, S k → B ≤ k) : Below B a b :=
  ⟨h.os, h.tape, h.output, h.size, fun k hk => h.block k (by omega) fun hs => by have := hS k hs; omega⟩
theorem heap_lt {w : World} {g : Nat} {o : Obj} (h : w.heap[g]? = some o) : g < w.heap.size := by
  rcases Nat.lt_or_ge g w.heap.size with hlt | hge
  · exact hlt
  · rw [Array.getElem?_eq_none hge] at h; cases h
theorem block_ne {w : World} {g g' : Nat} {t t' : TypeId} {cs cs' : Array Value} {f f' : Nat × Nat} (h : w.heap[g]? = some (.cells cs t f)) (h' : w.heap[g']? = some (.cells cs' t' f')) (hne : t ≠ t') : g ≠ g' := by
  rintro rfl
  rw [h] at h'
  injection h' with h'
  injection h' with _ ht
  exact hne ht
theorem heap_set {w : World} {g i : Nat} {t : TypeId} {cs : Array Value} {f : Nat × Nat} (h : w.heap[g]? = some (.cells cs t f)) (u : Value) : (w.setCell ⟨g, i, none⟩ u).heap[g]? = some (.cells (cs.setIfInBounds i u) t f) := by
  simp [World.setCell, Array.getElem?_modify, h]
theorem heap_far {w : World} {g g' i : Nat} (h : g ≠ g') (u : Value) : (w.setCell ⟨g', i, none⟩ u).heap[g]? = w.heap[g]? := Below.heap_setCell _ _ _ _ h
theorem frozen_of {w : World} {g i : Nat} {t : TypeId} {cs : Array Value} (h : w.heap[g]? = some (.cells cs t (0, 0))) : w.frozen? ⟨g, i, none⟩ = false := by
  simp [World.frozen?, h]

theorem cell_kept {S : Nat → Prop} {w w' : World} {p : Addr} {v : Value} (hk : Kept S w w') (h : w.cell? p = some v) (hs : ¬ S p.block) : w'.cell? p = some v :=
  (World.cell?_of_block (hk.block _ (World.block_lt_of_cell? w _ h) hs)).trans h
theorem Kept.of_below {w w' : World} (h : Below w.heap.size w w') : Kept (fun _ => False) w w' := ⟨h.os, h.tape, h.output, h.size, fun k hk _ => h.block k hk⟩
theorem Kept.to_below {w w' : World} (h : Kept (fun _ => False) w w') : Below w.heap.size w w' := ⟨h.os, h.tape, h.output, h.size, fun k hk => h.block k hk (fun h => h)⟩
theorem Kept.any {S : Nat → Prop} {w w' : World} (h : Kept (fun _ => False) w w') : Kept S w w' := h.mono (fun _ _ h => h.elim)
theorem Kept.grown {S : Nat → Prop} {a b c : World} (h : Kept S a b) (hg : b.grownBy c none) : Kept S a c :=
  h.trans ⟨hg.os, hg.tape, hg.output, hg.size, fun k hk _ => hg.block k hk (by simp)⟩
theorem Kept.grew {a b c : World} {row : Option Nat} (h : Kept (fun _ => False) a b) (hg : b.grownBy c row) (hrow : ∀ k, row = some k → a.heap.size ≤ k) : Kept (fun _ => False) a c :=
  Kept.of_below ((Kept.to_below h).grown hg h.size hrow)
theorem Kept.fresh {S : Nat → Prop} {w w1 w2 : World} (h1 : Kept (fun _ => False) w w1) (h2 : Kept S w1 w2) (hS : ∀ k, k < w.heap.size → ¬ S k) : Kept (fun _ => False) w w2 :=
  ⟨h2.os.trans h1.os, h2.tape.trans h1.tape, h2.output.trans h1.output, Nat.le_trans h1.size h2.size, fun k hk _ => (h2.block k (Nat.lt_of_lt_of_le hk h1.size) (hS k hk)).trans (h1.block k hk id)⟩
/-- What an outer world kept is kept when a later one only touches what is newer. -/
theorem Kept.over {S T : Nat → Prop} {w w1 w2 : World} (h1 : Kept S w w1) (h2 : Kept T w1 w2) (hT : ∀ k, k < w.heap.size → T k → S k) : Kept S w w2 :=
  ⟨h2.os.trans h1.os, h2.tape.trans h1.tape, h2.output.trans h1.output, Nat.le_trans h1.size h2.size, fun k hk hs => (h2.block k (Nat.lt_of_lt_of_le hk h1.size) (fun ht => hs (hT k hk ht))).trans (h1.block k hk hs)⟩

/-- A slice of numbers. -/
def Nums (w : World) (A : Option Addr) (m : Nat) (xs : List Int) : Prop :=
  xs.length = m ∧ ∀ j x, xs[j]? = some x → ∃ ad, A = some ad ∧ w.cell? (ad.add j) = some (.int .i64 x)
theorem Nums.cell {w : World} {A : Option Addr} {m : Nat} {xs : List Int} (h : Nums w A m xs) {j : Nat} (hj : j < m) : ∃ ad x, A = some ad ∧ xs[j]? = some x ∧ w.cell? (ad.add j) = some (.int .i64 x) := by
  have hl : j < xs.length := by rw [h.1]; exact hj
  obtain ⟨ad, e, r⟩ := h.2 j xs[j] (List.getElem?_eq_getElem hl)
  exact ⟨ad, xs[j], e, List.getElem?_eq_getElem hl, r⟩
theorem Nums.kept {S : Nat → Prop} {w w' : World} {A : Option Addr} {m : Nat} {xs : List Int} (h : Nums w A m xs) (hk : Kept S w w') (hs : ∀ a, A = some a → ¬ S a.block) : Nums w' A m xs := by
  refine ⟨h.1, fun j x hj => ?_⟩
  obtain ⟨ad, e, r⟩ := h.2 j x hj
  refine ⟨ad, e, cell_kept hk r ?_⟩
  rw [show (ad.add j).block = ad.block by unfold Addr.add; split <;> rfl]
  exact hs ad e

/-- A slice of runes. -/
def Rn (w : World) (A : Option Addr) (n : Nat) (t : List Int) : Prop :=
  t.length = n ∧ ∀ j x, t[j]? = some x → ∃ ad, A = some ad ∧ w.cell? (ad.add j) = some (.int .i32 x)
theorem Rn.cell {w : World} {A : Option Addr} {m : Nat} {xs : List Int} (h : Rn w A m xs) {j : Nat} (hj : j < m) : ∃ ad x, A = some ad ∧ xs[j]? = some x ∧ w.cell? (ad.add j) = some (.int .i32 x) := by
  have hl : j < xs.length := by rw [h.1]; exact hj
  obtain ⟨ad, e, r⟩ := h.2 j xs[j] (List.getElem?_eq_getElem hl)
  exact ⟨ad, xs[j], e, List.getElem?_eq_getElem hl, r⟩
theorem Rn.kept {S : Nat → Prop} {w w' : World} {A : Option Addr} {m : Nat} {xs : List Int} (h : Rn w A m xs) (hk : Kept S w w') (hs : ∀ a, A = some a → ¬ S a.block) : Rn w' A m xs := by
  refine ⟨h.1, fun j x hj => ?_⟩
  obtain ⟨ad, e, r⟩ := h.2 j x hj
  refine ⟨ad, e, cell_kept hk r ?_⟩
  rw [show (ad.add j).block = ad.block by unfold Addr.add; split <;> rfl]
  exact hs ad e
theorem Rn.drewN {w : World} {A : Option Addr} {m : Nat} {xs : List Int} (h : Rn w A m xs) (q : Nat) : Rn (w.drewN q) A m xs := h
/-- Runes of a text: numbers from 0 to the greatest rune's. -/
def Runey (t : List Int) : Prop := ∀ r ∈ t, 0 ≤ r ∧ r ≤ 1114111
theorem Runey.at_ {t : List Int} (h : Runey t) {j : Nat} {x : Int} (hj : t[j]? = some x) : 0 ≤ x ∧ x ≤ 1114111 := h x (List.mem_of_getElem? hj)
end Go.Proofs.YthbfmdnibijapaaDoor
