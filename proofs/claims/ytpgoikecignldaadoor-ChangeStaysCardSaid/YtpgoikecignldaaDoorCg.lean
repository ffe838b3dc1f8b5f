/-
  A CHANGE's SIX CELLS in a block of their own: read, written over.
-/
import Derived.Test.YtpgoikecignldaaDoorOf
import Derived.Test.YtpgoikecignldaaDoorOpP
import Derived.Test.YtpgoikecignldaaDoorCs
set_option linter.unusedVariables false
namespace Go.Proofs.YtpgoikecignldaaDoor
open Go Go.RowKit

theorem chg_facts {w : World} {g : Nat} {a d : Int} {s : ByteArray} {x : Int} {k : ByteArray} {l : Bool} (h : w.heap[g]? = some (chgO a d s x k l)) :
    (w.cell? ⟨g, 0, none⟩ = some (.int .i64 a) ∧ w.cell? ⟨g, 1, none⟩ = some (.int .i64 d) ∧ w.cell? ⟨g, 2, none⟩ = some (.string s) ∧ w.cell? ⟨g, 3, none⟩ = some (.int .i64 x) ∧ w.cell? ⟨g, 4, none⟩ = some (.string k) ∧ w.cell? ⟨g, 5, none⟩ = some (.bool l)) ∧
    (w.frozen? ⟨g, 0, none⟩ = false ∧ w.frozen? ⟨g, 1, none⟩ = false ∧ w.frozen? ⟨g, 2, none⟩ = false ∧ w.frozen? ⟨g, 3, none⟩ = false ∧ w.frozen? ⟨g, 4, none⟩ = false ∧ w.frozen? ⟨g, 5, none⟩ = false) :=
  ⟨⟨by rw [cell_of_row _ _ _ _ _ _ h]; rfl, by rw [cell_of_row _ _ _ _ _ _ h]; rfl, by rw [cell_of_row _ _ _ _ _ _ h]; rfl, by rw [cell_of_row _ _ _ _ _ _ h]; rfl, by rw [cell_of_row _ _ _ _ _ _ h]; rfl, by rw [cell_of_row _ _ _ _ _ _ h]; rfl⟩,
    frozen_of h, frozen_of h, frozen_of h, frozen_of h, frozen_of h, frozen_of h⟩
theorem chg_six {w : World} {g : Nat} {a d : Int} {s : ByteArray} {x : Int} {k : ByteArray} {l : Bool} (h : w.heap[g]? = some (chgO a d s x k l)) (a' d' : Int) (s' : ByteArray) (x' : Int) (k' : ByteArray) (l' : Bool) :
    ((((((w.setCell ⟨g, 0, none⟩ (.int .i64 a')).setCell ⟨g, 1, none⟩ (.int .i64 d')).setCell ⟨g, 2, none⟩ (.string s')).setCell ⟨g, 3, none⟩ (.int .i64 x')).setCell ⟨g, 4, none⟩ (.string k')).setCell ⟨g, 5, none⟩ (.bool l')).heap[g]? = some (chgO a' d' s' x' k' l') :=
  (heap_set (heap_set (heap_set (heap_set (heap_set (heap_set h _) _) _) _) _) _).trans rfl
theorem chg_three {w : World} {g : Nat} {a d : Int} {s : ByteArray} {x : Int} {k : ByteArray} {l : Bool} (h : w.heap[g]? = some (chgO a d s x k l)) (a' d' : Int) (s' : ByteArray) :
    (((w.setCell ⟨g, 0, none⟩ (.int .i64 a')).setCell ⟨g, 1, none⟩ (.int .i64 d')).setCell ⟨g, 2, none⟩ (.string s')).heap[g]? = some (chgO a' d' s' x k l) :=
  (heap_set (heap_set (heap_set h _) _) _).trans rfl
theorem chg_two {w : World} {g : Nat} {a d : Int} {s : ByteArray} {x : Int} {k : ByteArray} {l : Bool} (h : w.heap[g]? = some (chgO a d s x k l)) (k' : ByteArray) (l' : Bool) :
    ((w.setCell ⟨g, 4, none⟩ (.string k')).setCell ⟨g, 5, none⟩ (.bool l')).heap[g]? = some (chgO a d s x k' l') :=
  (heap_set (heap_set h _) _).trans rfl
theorem Kept.six {S : Nat → Prop} {w w1 : World} {g : Nat} (h : Kept S w w1) (hg : S g) (v0 v1 v2 v3 v4 v5 : Value) :
    Kept S w ((((((w1.setCell ⟨g, 0, none⟩ v0).setCell ⟨g, 1, none⟩ v1).setCell ⟨g, 2, none⟩ v2).setCell ⟨g, 3, none⟩ v3).setCell ⟨g, 4, none⟩ v4).setCell ⟨g, 5, none⟩ v5) :=
  (((((h.setCell (p := ⟨g, 0, none⟩) hg _).setCell (p := ⟨g, 1, none⟩) hg _).setCell (p := ⟨g, 2, none⟩) hg _).setCell (p := ⟨g, 3, none⟩) hg _).setCell (p := ⟨g, 4, none⟩) hg _).setCell (p := ⟨g, 5, none⟩) hg _
theorem rng_facts {w : World} {g : Nat} {lo hi : Int} {line : Bool} (h : w.heap[g]? = some (rngO lo hi line)) :
    w.cell? ⟨g, 0, none⟩ = some (.int .i64 lo) ∧ w.cell? ⟨g, 1, none⟩ = some (.int .i64 hi) ∧ w.cell? ⟨g, 2, none⟩ = some (.bool line) :=
  ⟨by rw [cell_of_row _ _ _ _ _ _ h]; rfl, by rw [cell_of_row _ _ _ _ _ _ h]; rfl, by rw [cell_of_row _ _ _ _ _ _ h]; rfl⟩
theorem cutB_block {A : Addr} {c lo : Nat} {a : Addr} (h : cutB (some A) c lo = some a) : a.block = A.block := by
  unfold cutB at h
  split at h
  · injection h with h
    rw [← h]
  · injection h with h
    rw [← h]
    show (A.add lo).block = _
    unfold Addr.add
    split <;> rfl
/-- A range's cells, and what a piece's runes are as a text, behind whatever leaves both. -/
theorem keep_y {S : Nat → Prop} {w w' : World} {xb m cp : Nat} {lo hi : Int} {line : Bool} {C : Option Addr} {u : List Int} (hk : Kept S w w') (h0 : w.cell? ⟨xb, 0, none⟩ = some (.int .i64 lo)) (h1 : w.cell? ⟨xb, 1, none⟩ = some (.int .i64 hi)) (h2 : w.cell? ⟨xb, 2, none⟩ = some (.bool line)) (hx : ¬ S xb) (hR : Rn w C m u) (hs : ∀ a, C = some a → ¬ S a.block) :
    w'.cell? ⟨xb, 0, none⟩ = some (.int .i64 lo) ∧ w'.cell? ⟨xb, 1, none⟩ = some (.int .i64 hi) ∧ w'.cell? ⟨xb, 2, none⟩ = some (.bool line) ∧ (convert 30 9 (.slice C m cp)).run Tryd.prog w' = .ok (.string (runesBytes u)) w' :=
  ⟨cell_kept hk h0 hx, cell_kept hk h1 hx, cell_kept hk h2 hx, run_txt (hR.kept hk hs)⟩
theorem heap_two'' (w : World) (o o' : Obj) : ((w.alloc o).alloc o').heap[w.heap.size + 1]? = some o' := by
  have h := heap_alloc_new (w.alloc o) o'
  rwa [show (w.alloc o).heap.size = w.heap.size + 1 by simp] at h
set_option maxRecDepth 100000 in
/-- The same as runes_yes, and how much room there is. -/
theorem runes_cap (s : ByteArray) (k : Nat) (w : World) (hT : Tabs w) (hm : mayB s = true) (hk : k ≤ (rs s).length) :
    Calls Tryd.prog 21 #[.string s, .int .i64 k] w fun e w' => Kept (fun _ => False) w w' ∧ ∃ b cap, e = .returned (.tuple #[.slice (some ⟨b, 0, none⟩) (rs s).length cap, .bool true]) ∧ w.heap.size ≤ b ∧ (rs s).length ≤ cap ∧ Rn w' (some ⟨b, 0, none⟩) (rs s).length (rs s) := by
  have hsz := mayB_size hm
  have cC := check_any s w (by omega) hT
  rw [hm] at cC
  have hl := rs_len s
  have cV := fun w1 => conv_rs s w1 (by omega)
  generalize rs s = t at *
  clear hT hm
  go_enter Tryd.func21, Tryd.ntmps21
  go_wp2_with (go_at_call 32; refine cC.mono ?_; rintro e w1 ⟨rfl, hk1⟩; obtain ⟨cap, w2, hcap, hcv, hk2, hlt, hR⟩ := cV w1; have HK1 := Lib.hid hk1; have HK2 := Lib.hid hk2; have HR := Lib.hid hR; clear cC cV hk1 hk2 hR)
  have hgs : w.heap.size ≤ w1.heap.size := HK1.out.size
  generalize w1.heap.size = g at *
  exact bodyPost_ret (v := .tuple #[.slice (some ⟨g, 0, none⟩) t.length cap, .bool true]) (by simp [results, Tryd.results21, go_sem]) rfl ⟨HK1.out.trans HK2.out, g, cap, rfl, hgs, hcap, HR.out⟩
end Go.Proofs.YtpgoikecignldaaDoor
