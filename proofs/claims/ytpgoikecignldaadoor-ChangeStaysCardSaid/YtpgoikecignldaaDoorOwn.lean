/-
  RUNES IN A BLOCK OF A CALL's OWN: they are read as a list, and may be written over one by one.
-/
import Derived.Test.YtpgoikecignldaaDoorTxt
import Derived.Laws.MakeOwn
set_option linter.unusedVariables false
namespace Go.Proofs.YtpgoikecignldaaDoor
open Go Go.RowKit

theorem Rn.set {w : World} {g n : Nat} {t : List Int} (h : Rn w (some ⟨g, 0, none⟩) n t) {k : Nat} (hk : k < n) (v : Int) : Rn (w.setCell ⟨g, k, none⟩ (.int .i32 v)) (some ⟨g, 0, none⟩) n (t.set k v) := by
  refine ⟨by rw [List.length_set]; exact h.1, fun j x hj => ⟨_, rfl, ?_⟩⟩
  rw [addr_add, Nat.zero_add]
  have hl := h.1
  by_cases e : k = j
  · subst e
    rw [List.getElem?_set_self (by omega)] at hj
    injection hj with hj
    subst hj
    obtain ⟨ad, y, e1, hy, hc⟩ := h.cell hk
    injection e1 with e1
    subst e1
    rw [addr_add, Nat.zero_add] at hc
    exact World.cell?_setCell_same _ _ _ hc
  · rw [List.getElem?_set_ne e] at hj
    obtain ⟨ad, e1, hc⟩ := h.2 j x hj
    injection e1 with e1
    subst e1
    rw [addr_add, Nat.zero_add] at hc
    rw [World.cell?_setCell_other]
    · exact hc
    · intro e2
      injection e2 with _ e2
      exact e e2
/-- A block of one's own that holds runes. -/
structure OwnR (w : World) (g n : Nat) (t : List Int) : Prop where
  rn : Rn w (some ⟨g, 0, none⟩) n t
  blk : ∃ (cs : Array Value) (ty : TypeId), w.heap[g]? = some (.cells cs ty (0, 0))
theorem OwnR.set {w : World} {g n : Nat} {t : List Int} (h : OwnR w g n t) {k : Nat} (hk : k < n) (v : Int) : OwnR (w.setCell ⟨g, k, none⟩ (.int .i32 v)) g n (t.set k v) := by
  obtain ⟨cs, ty, hb⟩ := h.blk
  exact ⟨h.rn.set hk v, _, ty, heap_set hb _⟩
theorem OwnR.free {w : World} {g n : Nat} {t : List Int} (h : OwnR w g n t) (i : Nat) : w.frozen? ⟨g, i, none⟩ = false := by
  obtain ⟨cs, ty, hb⟩ := h.blk
  exact frozen_of hb
theorem OwnR.cell {w : World} {g n : Nat} {t : List Int} (h : OwnR w g n t) {k : Nat} {x : Int} (hk : t[k]? = some x) : w.cell? ⟨g, k, none⟩ = some (.int .i32 x) := by
  obtain ⟨ad, e1, hc⟩ := h.rn.2 k x hk
  injection e1 with e1
  subst e1
  rw [addr_add, Nat.zero_add] at hc
  exact hc
theorem OwnR.lt {w : World} {g n : Nat} {t : List Int} (h : OwnR w g n t) : g < w.heap.size := by
  obtain ⟨cs, ty, hb⟩ := h.blk
  exact heap_lt hb
theorem OwnR.kept {S : Nat → Prop} {w w' : World} {g n : Nat} {t : List Int} (h : OwnR w g n t) (hk : Kept S w w') (hs : ¬ S g) : OwnR w' g n t := by
  obtain ⟨cs, ty, hb⟩ := h.blk
  exact ⟨h.rn.kept hk (fun a e => by injection e with e; subst e; exact hs), cs, ty, (hk.block g (heap_lt hb) hs).trans hb⟩
theorem take_set_succ {α : Type} {l : List α} {k : Nat} (h : k < l.length) (v : α) : (l.set k v).take (k + 1) = l.take k ++ [v] := by
  rw [List.take_add_one, List.getElem?_set_self h, List.take_set_of_le (Nat.le_refl _)]
  rfl
/-- A text's runes, in a block of one's own. -/
theorem conv_own (s : ByteArray) (w : World) (h : s.size ≤ 70368744177664) : ∃ cap w', (rs s).length ≤ cap ∧
    (convert 9 30 (.string s)).run Tryd.prog w = .ok (.slice (some ⟨w.heap.size, 0, none⟩) (rs s).length cap) w' ∧ Kept (fun _ => False) w w' ∧ w.heap.size < w'.heap.size ∧
    OwnR w' w.heap.size (rs s).length (rs s) := by
  obtain ⟨cap, w', h1, h2, h3, h4, h5⟩ := conv_rs s w h
  refine ⟨cap, w', h1, h2, h3, h4, h5, ?_⟩
  have e := Utf.convRunes_eq s
  have hz : (Conv.runesFrom s s.size 0 #[]).size = (Utf.runes s.data.toList).length := by rw [e]; simp
  have hrun := run_runes_of_string (P := Tryd.prog) w 9 30 21 s Tryd.underlying9 Tryd.underlying30 Tryd.underlying21 (by rw [hz]; have := rs_len s; unfold rs at this; omega)
  rw [h2] at hrun
  injection hrun with _ hw
  rw [hw]
  exact ⟨_, _, heap_alloc_new w.drew _⟩
theorem repl_get {n j : Nat} {x : Int} (h : (List.replicate n (0 : Int))[j]? = some x) : j < n ∧ x = 0 := by
  rw [List.getElem?_replicate] at h
  by_cases hj : j < n
  · rw [if_pos hj] at h
    exact ⟨hj, (Option.some.inj h).symm⟩
  · rw [if_neg hj] at h
    exact absurd h (by simp)
theorem infoRune : (Tryd.prog.info? 21).map (fun i => (i.zero, i.size, i.bytes)) = some (some (.int .i32 0), 1, 4) := by kernel_rfl
/-- So many runes, made anew. -/
theorem make_runes (n : Nat) (w : World) (hn : n ≤ 100000) : ∃ w', (Instr.makeSlice 30 (.int .i64 n) (.int .i64 n)).run Tryd.prog w = .ok (.slice (some ⟨w.heap.size, 0, none⟩) n n) w' ∧ Kept (fun _ => False) w w' ∧ w.heap.size < w'.heap.size ∧
    OwnR w' w.heap.size n (List.replicate n 0) := by
  obtain ⟨i0, hi, hz0, hz1, hz2⟩ := info_parts infoRune
  have hr := run_make (P := Tryd.prog) w 30 21 i0 _ Tryd.underlying30 hi hz0 .i64 .i64 n n (by omega) (by omega) (by rw [hz2]; omega) (by omega)
  rw [hz1, Nat.mul_one, Int.toNat_natCast] at hr
  refine ⟨_, hr, (Kept.refl _ w).alloc _, by simp, ⟨by simp, fun j x hj => ⟨_, rfl, ?_⟩⟩, _, _, heap_alloc_new w _⟩
  rw [addr_add, cell_of_row _ _ _ _ _ _ (heap_alloc_new w _)]
  obtain ⟨h, rfl⟩ := repl_get hj
  simp [madeCells, Value.cells, h, Nat.mod_one]
end Go.Proofs.YtpgoikecignldaaDoor
