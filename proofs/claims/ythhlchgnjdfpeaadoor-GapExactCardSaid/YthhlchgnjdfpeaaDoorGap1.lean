import Derived.Test.YthhlchgnjdfpeaaDoorGap0
import Derived.StillTailTactics
import Derived.Laws.CopyOwn
import Derived.Deep.RegionLaw
import Derived.BigRegion
import Derived.RegionTactic
import Derived.WalkSpells
import Derived.Lib.MinMax
set_option linter.unusedVariables false
namespace Go.Proofs.YthhlchgnjdfpeaaDoor
open Go Go.RowKit

def cutA (A : Option Addr) (c lo : Nat) : Option Addr := if c = lo then A else A.map (·.add lo)
theorem run_cut (w : World) (cb n c lo hi : Nat) (L H : Int) (hL : L = lo) (hH : H = hi) (h1 : lo ≤ hi) (h2 : hi ≤ c) :
    (Instr.slice 34 (.slice (some ⟨cb, 0, none⟩) n c) (some (.int .i64 L)) (some (.int .i64 H)) none).run Tryd.prog w = .ok (.slice (cutA (some ⟨cb, 0, none⟩) c lo) (hi - lo) (c - lo)) w := by
  subst hL hH
  rw [run_slice_lh (P := Tryd.prog) w 34 _ n c Tryd.underlying34 .i64 .i64 _ _ (by omega) (by omega) (by omega)]
  have hz : ((sizeOf (Tryd.prog.elem 34)).run Tryd.prog w) = .ok 1 w := by kernel_rfl
  rw [hz]
  simp [Result.andThen, sliced, cutA]


theorem addr_add (cb lo j : Nat) : (Addr.add ⟨cb, lo, none⟩ j) = ⟨cb, lo + j, none⟩ := by
  unfold Addr.add
  by_cases h : j = 0
  · subst h; simp
  · rw [if_neg h]
theorem conv_cut (w : World) (cb n c lo hi : Nat) (zs : List Int) (hc : c = zs.length) (hb : w.heap[cb]? = some (.cells (zs.map (Value.int .i32)).toArray 21 (0, 0))) (h1 : lo ≤ hi) (h2 : hi ≤ c) (k : Nat) (C : Nat) :
    (convert 34 9 (.slice (cutA (some ⟨cb, 0, none⟩) c lo) (hi - lo) C)).run Tryd.prog (w.drewN k) = .ok (.string (runesBytes ((zs.take hi).drop lo))) (w.drewN k) := by
  have hcell : ∀ j, j < zs.length → (w.drewN k).cell? ⟨cb, j, none⟩ = some (.int .i32 (zs.getD j 0)) := by
    intro j hj
    have : (w.drewN k).cell? ⟨cb, j, none⟩ = w.cell? ⟨cb, j, none⟩ := rfl
    rw [this, cell_of_row w cb j _ _ _ hb]
    simp [List.getD, hj]
  by_cases h0 : lo = hi
  · subst h0
    have e : (zs.take lo).drop lo = [] := List.drop_eq_nil_of_le (by simp; omega)
    rw [e, Nat.sub_self]
    obtain ⟨ad, had⟩ : ∃ ad, cutA (some ⟨cb, 0, none⟩) c lo = some ad := by
      unfold cutA
      split
      · exact ⟨_, rfl⟩
      · exact ⟨_, rfl⟩
    rw [had, run_convert_runes_string (w.drewN k) 34 9 21 _ _ _ Tryd.underlying34 Tryd.underlying21 Tryd.underlying9]
    refine run_runesToString _ _ _ _ [] ?_
    rw [run_loadCells (w.drewN k) ad 0 (fun _ => .int .i32 0) (fun j hj => absurd hj (by omega))]
    rfl
  · have hA : cutA (some ⟨cb, 0, none⟩) c lo = some ⟨cb, lo, none⟩ := by
      unfold cutA
      rw [if_neg (by omega)]
      simp [addr_add]
    rw [hA, List.drop_take]
    refine run_convert_runes (P := Tryd.prog) (w.drewN k) 34 9 21 _ (hi - lo) C (zs.drop lo) (by simp; omega) Tryd.underlying34 Tryd.underlying21 Tryd.underlying9 ?_
    intro j hj
    rw [addr_add, hcell (lo + j) (by simp at hj; omega)]
    simp [List.getD]

theorem piece_any (rb cb : Nat) (n c low high i m : Nat) (w : World) (zs : List Int) (h1 : w.cell? ⟨rb, 1, none⟩ = some (.slice (some ⟨cb, 0, none⟩) n c)) (h2 : w.cell? ⟨rb, 2, none⟩ = some (.int .i64 low))
    (h3 : w.cell? ⟨rb, 3, none⟩ = some (.int .i64 high)) (hl : low ≤ high) (hh : high ≤ n) (hn : n ≤ 100000) (hc : n ≤ c) (hz : c = zs.length) (hb : w.heap[cb]? = some (.cells (zs.map (Value.int .i32)).toArray 21 (0, 0)))
    (him : i + m + high ≤ n + low) :
    Calls Tryd.prog 29 #[.pointer (some ⟨rb, 0, none⟩), .int .i64 i, .int .i64 m] w fun e w' => e = .returned (.string (runesBytes ((zs.take (min (i + m) low)).drop (min i low)) ++ runesBytes ((zs.take (max (i + m) low + high - low)).drop (max i low + high - low)))) ∧ ∃ k, w' = w.drewN k := by
  have e1 := fun w' => run_cut w' cb n c (min i low) (min (i + m) low) (min (i : Int) low) (min ((i : Int) + m) low) (by omega) (by omega) (by omega) (by omega)
  have e2 := fun w' => run_cut w' cb n c (max i low + high - low) (max (i + m) low + high - low) (max (i : Int) low + high - low) (max ((i : Int) + m) low + high - low) (by omega) (by omega) (by omega) (by omega)
  have d1 := conv_cut w cb n c (min i low) (min (i + m) low) zs hz hb (by omega) (by omega)
  have d2 := conv_cut w cb n c (max i low + high - low) (max (i + m) low + high - low) zs hz hb (by omega) (by omega)
  generalize cutA (some ⟨cb, 0, none⟩) c (min i low) = A1 at e1 d1
  generalize cutA (some ⟨cb, 0, none⟩) c (max i low + high - low) = A2 at e2 d2
  have s1 : (runesBytes ((zs.take (min (i + m) low)).drop (min i low))).size ≤ 400000 := by
    have := runesBytes_size_le ((zs.take (min (i + m) low)).drop (min i low))
    simp at this
    omega
  have s2 : (runesBytes ((zs.take (max (i + m) low + high - low)).drop (max i low + high - low))).size ≤ 400000 := by
    have := runesBytes_size_le ((zs.take (max (i + m) low + high - low)).drop (max i low + high - low))
    simp at this
    omega
  generalize runesBytes ((zs.take (min (i + m) low)).drop (min i low)) = S1 at d1 s1 ⊢
  generalize runesBytes ((zs.take (max (i + m) low + high - low)).drop (max i low + high - low)) = S2 at d2 s2 ⊢
  generalize min (i + m) low - min i low = l1 at e1 d1
  generalize max (i + m) low + high - low - (max i low + high - low) = l2 at e2 d2
  generalize c - min i low = c1 at e1
  generalize c - (max i low + high - low) = c2 at e2
  have g1 : 0 ≤ max (i : Int) low + high - low := by omega
  have g2 : max (i : Int) low + high - low ≤ 100000 := by omega
  have g3 : 0 ≤ max ((i : Int) + m) low + high - low := by omega
  have g4 : max ((i : Int) + m) low + high - low ≤ 100000 := by omega
  clear hb hz
  go_enter Tryd.func29, Tryd.ntmps29
  go_wp2
  go_quiet (fail)
  go_wp2
  go_quiet (fail)
  go_wp2
  go_ret
  exact ⟨rfl, _, rfl⟩
end Go.Proofs.YthhlchgnjdfpeaaDoor
