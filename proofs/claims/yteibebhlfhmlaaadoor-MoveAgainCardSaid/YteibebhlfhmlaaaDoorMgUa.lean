/-
  THE LAW MoveAgain: ; goes on as the search did, and , goes the other way.
-/
import Derived.Test.YteibebhlfhmlaaaDoorMgV
set_option linter.unusedVariables false
namespace Go.Proofs.YteibebhlfhmlaaaDoor
open Go Go.RowKit

theorem Rn.at_ {w : World} {rb n : Nat} {t : List Int} (h : Rn w (some ⟨rb, 0, none⟩) n t) {j : Nat} {x : Int} (hx : t[j]? = some x) : w.cell? ⟨rb, j, none⟩ = some (.int .i32 x) := by
  obtain ⟨ad, e, hc⟩ := h.2 j x hx
  injection e with e
  subst e
  rwa [addr_add, Nat.zero_add] at hc
theorem cmd_facts {W : World} {g : Nat} {c0 c1 c2 c3 c4 c5 : Int} (h : W.heap[g]? = some (cmdO c0 c1 c2 c3 c4 c5)) : W.cell? ⟨g, 0, none⟩ = some (.int .i64 c0) ∧ W.cell? ⟨g, 1, none⟩ = some (.int .i64 c1) ∧ W.cell? ⟨g, 2, none⟩ = some (.int .i64 c2) ∧ W.cell? ⟨g, 3, none⟩ = some (.int .i64 c3) ∧ W.cell? ⟨g, 4, none⟩ = some (.int .i64 c4) ∧ W.cell? ⟨g, 5, none⟩ = some (.int .i64 c5) ∧ W.frozen? ⟨g, 3, none⟩ = false :=
  ⟨by rw [cell_of_row _ _ _ _ _ _ h]; rfl, by rw [cell_of_row _ _ _ _ _ _ h]; rfl, by rw [cell_of_row _ _ _ _ _ _ h]; rfl, by rw [cell_of_row _ _ _ _ _ _ h]; rfl, by rw [cell_of_row _ _ _ _ _ _ h]; rfl, by rw [cell_of_row _ _ _ _ _ _ h]; rfl, frozen_of h⟩
theorem cmd_set {W : World} {g : Nat} {c0 c1 c2 c3 c4 c5 : Int} (h : W.heap[g]? = some (cmdO c0 c1 c2 c3 c4 c5)) (v : Int) : (W.setCell ⟨g, 3, none⟩ (.int .i64 v)).heap[g]? = some (cmdO c0 c1 c2 v c4 c5) :=
  (heap_set h _).trans rfl
theorem tx_new (w : World) (a b x y : Int) : ((w.alloc (tgtO a b)).alloc (sekO x y)).heap[w.heap.size]? = some (tgtO a b) ∧ ((w.alloc (tgtO a b)).alloc (sekO x y)).heap[w.heap.size + 1]? = some (sekO x y) := by
  have a1 := heap_alloc_new w (tgtO a b)
  have b1 := heap_alloc_new (w.alloc (tgtO a b)) (sekO x y)
  have ka := (Kept.refl (fun _ => False) (w.alloc (tgtO a b))).alloc (sekO x y)
  exact ⟨(ka.block _ (heap_lt a1) id).trans a1, by simpa using b1⟩
theorem new_second (w : World) (a b : Obj) : ((w.alloc a).alloc b).drew.heap[w.heap.size + 1]? = some b := by
  have h := heap_alloc_new (w.alloc a) b
  have hs : (w.alloc a).heap.size = w.heap.size + 1 := by simp
  rw [hs] at h
  exact h
theorem goM_seek {t : List Int} {k : Nat} {K r x y : Int} {M : List (List Int)} (hK : Rw.Seek K) : Rw.goM t k K r 0 x y M = (Rw.find t k K r 1).map fun a => (a, kon K, K, r) := by
  have h3 := Rw.by_seek.2 hK
  unfold Rw.goM
  rw [if_neg (by rw [h3]; decide), if_pos h3]
  rfl
theorem seek_nz {K : Int} (hK : Rw.Seek K) : K ≠ 0 := by unfold Rw.Seek at hK; omega
theorem goM_semi {t : List Int} {k : Nat} {K r e : Int} {M : List (List Int)} (hK : Rw.Seek K) : Rw.goM t k 59 e 0 K r M = (Rw.find t k K r 1).map fun a => (a, kon K, K, r) := by
  unfold Rw.goM
  rw [if_neg (by decide), if_neg (by decide), if_pos (by decide), if_neg (seek_nz hK), if_neg (by decide)]
  rfl
theorem goM_comma {t : List Int} {k : Nat} {K r e : Int} {M : List (List Int)} (hK : Rw.Seek K) : Rw.goM t k 44 e 0 K r M = (Rw.find t k (Rw.turn K) r 1).map fun a => (a, kon (Rw.turn K), K, r) := by
  unfold Rw.goM
  rw [if_neg (by decide), if_neg (by decide), if_pos (by decide), if_neg (seek_nz hK), if_pos (by decide)]
  rfl
theorem goV_two (o : Option Int) (κ x y x' y' : Int) : ∃ A B C D C' D' E : Int, goV (o.map fun a => (a, κ, x, y)) = .tuple #[tgt A B, sekV C D, .int .i64 E] ∧ goV (o.map fun a => (a, κ, x', y')) = .tuple #[tgt A B, sekV C' D', .int .i64 E] := by
  cases o with
  | none => exact ⟨_, _, _, _, _, _, _, rfl, rfl⟩
  | some p => exact ⟨_, _, _, _, _, _, _, rfl, rfl⟩
theorem rws_none (w : World) : Rws w none 0 2 [] := ⟨rfl, fun i r h => by simp at h⟩
theorem mok_none : Rw.mOk [] := fun i x y h => by simp at h
/-- A motion asked without marks, without a count. -/
theorem pgo_bare (s : ByteArray) (k : Nat) (K r x y : Int) (w : World) (hT : Tabs w) (hm : mayB s = true) (hk : k ≤ (rs s).length) (hx : x = 0 ∨ Rw.Seek x) (hkey : Rw.kin K ≠ 0) :
    Calls Tryd.prog 10 #[.string s, .int .i64 k, cmdV 0 0 0 K 0 r, sekV x y, .slice none 0 0] w fun e w' => e = .returned (goV (Rw.goM (rs s) k K r 0 x y [])) ∧ Kept (fun _ => False) w w' :=
  pgo_yes s k 0 0 0 K 0 r x y none 0 0 [] w hT hm hk (by omega) hx (rws_none w) (by omega) mok_none hkey
theorem kin_seek {K : Int} (hK : Rw.Seek K) : Rw.kin K ≠ 0 := by rw [Rw.by_seek.2 hK]; decide
end Go.Proofs.YteibebhlfhmlaaaDoor
