/-
  A TREE OF ROWS: All.
-/
import Derived.Test.YtdgbaeliabaneaaDoorRoO
import Derived.Deep.Onto
set_option linter.unusedVariables false
namespace Go.Proofs.YtdgbaeliabaneaaDoor
open Go Go.RowKit

theorem run_mk (N : Nat) (hN : N ≤ 10000000) (w : World) : ∃ M : Array Value, M.size = N ∧ (Instr.makeSlice 22 (.int .i64 0) (.int .i64 (N : Int))).run Tryd.prog w = .ok (.slice (some ⟨w.heap.size, 0, none⟩) 0 N) (w.alloc (.cells M 9)) := by
  obtain ⟨i0, hi, hz0, hz1, hz2⟩ := info_parts info_str
  have hr := run_make (P := Tryd.prog) w 22 9 i0 _ Tryd.underlying22 hi hz0 .i64 .i64 0 (N : Int) (by omega) (by omega) (by rw [hz2]; omega) (by omega)
  refine ⟨madeCells (Value.cells (.string ⟨#[]⟩)) ((N : Int).toNat * i0.size), by rw [size_madeCells, hz1]; simp, ?_⟩
  rw [hr]
  simp
set_option maxRecDepth 100000 in
set_option maxHeartbeats 4000000 in
theorem all_any (T : Nat) (L : List ByteArray) (w : World) (h : Tree w T L) (hL : L.length ≤ 100000) :
    Calls Tryd.prog 17 #[.pointer (some ⟨T, 0, none⟩)] w fun e w' => (∃ v, e = .returned v ∧ w'.ownsRow w.heap.size 9 1 v L.length (L.map .string)) ∧ Kept (fun _ => False) w w' := by
  have cL := len_any T L w h
  obtain ⟨v, h1, t, h2, ht, _⟩ := h.at_
  have hsm : t.sm := ((t.ok_rows).2 (by rw [ht]; exact h.ok)).sm
  have hsz : t.size = L.length := by rw [t.size_rows, ht]
  have HT := Lib.hid h1
  obtain ⟨p, rfl⟩ := h2.ptr
  have HW : Hid (∀ (W : World) (M : Array Value), Kept (fun _ => False) w W → M.size = L.length → Calls Tryd.prog 35 #[.pointer p, .func (.func 36) #[] #[.pointer (some ⟨W.heap.size + 1, 0, none⟩)]] ((W.alloc (.cells M 9)).alloc (.cells #[.slice (some ⟨W.heap.size, 0, none⟩) 0 L.length] 22)) fun e w' => (∃ u, e = .returned u) ∧ Acc w' W.heap.size (W.heap.size + 1) L ∧ Kept (fun q => W.heap.size ≤ q) ((W.alloc (.cells M 9)).alloc (.cells #[.slice (some ⟨W.heap.size, 0, none⟩) 0 L.length] 22)) w') := by
    intro W M hk hM
    have hA : Acc ((W.alloc (.cells M 9)).alloc (.cells #[.slice (some ⟨W.heap.size, 0, none⟩) 0 L.length] 22)) W.heap.size (W.heap.size + 1) [] := by
      refine ⟨⟨_, ?_, (World.ownsRow_made (base := W.heap.size) (e := 9) (size := 1) W M L.length (Nat.le_refl _) (by unfold maxLen; omega) (by omega)).alloc _⟩, Nat.le_succ _⟩
      have := heap_alloc_new (W.alloc (.cells M 9)) (.cells #[.slice (some ⟨W.heap.size, 0, none⟩) 0 L.length] 22)
      rwa [show (W.alloc (.cells M 9)).heap.size = W.heap.size + 1 by simp] at this
    have hv : TrM ((W.alloc (.cells M 9)).alloc (.cells #[.slice (some ⟨W.heap.size, 0, none⟩) 0 L.length] 22)) (fun q => W.heap.size ≤ q) (.pointer p) t := TrM.keptF (((Kept.refl (fun _ => False) W).alloc _).alloc _) (TrM.old (Nat.le_refl _) (h2.keptF hk))
    have c := walk_any W.heap.size (W.heap.size + 1) t (.pointer p) [] _ hv hA hsm (by simp only [List.length_nil]; omega)
    rw [ht, List.nil_append] at c
    exact c
  have hmk := run_mk L.length (by omega)
  generalize hn : L.length = n at *
  have HN := Lib.hid hn
  clear hn
  clear h h1 h2 ht hsm hsz
  go_enter Tryd.func17, Tryd.ntmps17
  go_upto_region 1 with fail
  go_wp2_with (first
    | (go_at_call 21; refine cL.mono ?_; rintro e w1 ⟨rfl, hk1⟩; have HK1 := Lib.hid hk1; obtain ⟨M, hMs, hMr⟩ := hmk w1; have cW := HW.out w1 M hk1 hMs; have f0 : ((w1.alloc (.cells M 9)).alloc (.cells #[.slice (some ⟨w1.heap.size, 0, none⟩) 0 n] 22)).cell? ⟨T, 0, none⟩ = some (.pointer p) := cell_kept ((hk1.alloc _).alloc _) (treeX HT.out) id; clear cL hk1 hmk hMs)
    | (go_at_call 35; refine cW.mono ?_; rintro e w2 ⟨⟨u2, rfl⟩, ⟨⟨v2, hb2, hown2⟩, hlo2⟩, hk2⟩; have HB2 := Lib.hid hb2; have g0 : w2.cell? ⟨w1.heap.size + 1, 0, none⟩ = some v2 := cell_of_row _ _ _ _ _ _ hb2; have HO2 := Lib.hid hown2; have HK2 := Lib.hid (((HK1.out.alloc _).alloc _).fresh hk2 (fun q h1 h2 => by have := HK1.out.size; omega)); clear cW hk2 hb2 hown2 hlo2))
  go_ret
  exact ⟨⟨_, rfl, by have h := HO2.out.mono HK1.out.size; rw [HN.out] at h; exact h⟩, HK2.out⟩
end Go.Proofs.YtdgbaeliabaneaaDoor
