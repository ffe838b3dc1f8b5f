/-
  TREES: what text it stands at; a tree of one text.
-/
import Derived.Test.YthbfmdnibijapaaDoorUnB
import Derived.BigQuiet
set_option linter.unusedVariables false
namespace Go.Proofs.YthbfmdnibijapaaDoor
open Go Go.RowKit

structure TrH (ad : Addr) (n c : Nat) (L : List NodeS) (cur : Int) (tb : Nat) (W : World) : Prop where
  tabs : Tabs W
  ng : Ng W (some ad) n L
  box : W.heap[tb]? = some (treeO (.slice (some ad) n c) cur)
theorem TrH.kept {ad : Addr} {n c : Nat} {L : List NodeS} {cur : Int} {tb : Nat} {W W' : World} (h : TrH ad n c L cur tb W) (hk : Kept (fun _ => False) W W') : TrH ad n c L cur tb W' :=
  ⟨h.tabs.kept hk id id, h.ng.kept hk (fun _ _ => id), (hk.block _ (heap_lt h.box) id).trans h.box⟩
theorem TrH.drew {ad : Addr} {n c : Nat} {L : List NodeS} {cur : Int} {tb : Nat} {W : World} (h : TrH ad n c L cur tb W) : TrH ad n c L cur tb W.drew := h.kept (Kept.refl (fun _ => False) W).drew
theorem TrH.cells {ad : Addr} {n c : Nat} {L : List NodeS} {cur : Int} {tb : Nat} {W : World} (h : TrH ad n c L cur tb W) : W.cell? ⟨tb, 0, none⟩ = some (.slice (some ad) n c) ∧ W.cell? ⟨tb, 1, none⟩ = some (.int .i64 cur) := ⟨(tree_facts h.box).1, (tree_facts h.box).2.1⟩
theorem trh_new {ad : Addr} {n c : Nat} {L : List NodeS} {cur : Int} {w : World} (hT : Tabs w) (hA : Ng w (some ad) n L) : TrH ad n c L cur w.heap.size (w.alloc (treeO (.slice (some ad) n c) cur)) :=
  ⟨hT.kept ((Kept.refl (fun _ => False) w).alloc _) id id, hA.kept ((Kept.refl (fun _ => False) w).alloc _) (fun _ _ => id), heap_alloc_new w _⟩
set_option maxRecDepth 100000 in
set_option maxHeartbeats 4000000 in
theorem new_any (s : ByteArray) (w : World) (hT : Tabs w) (hm : mayB s = true) :
    Calls Tryd.prog 29 #[.string s] w fun r w' => (∃ v, r = .returned (.tuple #[treeV v 0, .int .i64 0]) ∧ On w' w.heap.size v [⟨0, -1, 0, s⟩]) ∧ Kept (fun _ => False) w w' := by
  have hsz := mayB_size hm
  have hk0 : Kept (fun _ => False) w (w.alloc nilT) := (Kept.refl _ w).alloc _
  have cC := check_any s _ (by omega) (hT.kept hk0 id id)
  rw [if_pos hm] at cC
  have HK0 := Lib.hid hk0
  have HY0 : Hid ((w.alloc nilT).heap[w.heap.size]? = some nilT) := heap_alloc_new w _
  obtain ⟨tb, htb⟩ : ∃ tb, w.heap.size = tb := ⟨_, rfl⟩
  have HTB := Lib.hid htb
  rw [htb] at HY0
  clear htb hk0 hT hm
  go_enter Tryd.func29, Tryd.ntmps29
  go_upto_region 1 with fail
  simp only [HTB.out]
  simp only [nilT, treeO] at HY0 HK0 cC
  generalize w.alloc _ = w0 at *
  go_upto_region 4 with (go_at_call 48; refine cC.mono ?_; rintro r w1 ⟨rfl, hk1⟩; have HK1 := Lib.hid (HK0.out.trans hk1); have HY1 := Lib.hid ((hk1.block tb (heap_lt HY0.out) id).trans HY0.out); clear hk1 cC)
  have hY2 : (w1.alloc (nodeO ⟨0, -1, 0, s⟩)).heap[tb]? = some nilT := (((Kept.refl (fun _ => False) w1).alloc _).block tb (heap_lt HY1.out) id).trans HY1.out
  have HY2 := Lib.hid hY2
  obtain ⟨r0, r1, r2, r3⟩ := tree_facts hY2
  have HTW : Hid (tb < w1.heap.size) := heap_lt HY1.out
  have HO : Hid (On (w1.alloc (nodeO ⟨0, -1, 0, s⟩)) w1.heap.size (.slice (some ⟨w1.heap.size, 0, none⟩) 1 1) [⟨0, -1, 0, s⟩]) := by
    have h := World.ownsRow_lit (base := w1.heap.size) (e := 46) (size := 4) w1 #[.int .i64 0, .int .i64 (-1), .int .i64 0, .string s] 1 (Nat.le_refl _) (by decide) rfl
    unfold On
    rw [flatN_one]
    exact h
  have HK2 : Hid (Kept (fun _ => False) w1 (w1.alloc (nodeO ⟨0, -1, 0, s⟩))) := (Kept.refl _ w1).alloc _
  clear hY2
  go_wp2_with fail
  refine bodyPost_ret (res_t1 rfl _ _ tb _ 0 rfl rfl (tree_set HY2.out _ 0)) rfl ⟨⟨_, rfl, ?ho⟩, ?hk⟩
  case ho =>
    have h1 := HO.out.keptS (Kept.tree (g := tb) (S := fun q => q = tb) (Kept.refl (fun q => q = tb) _) rfl (.slice (some ⟨w1.heap.size, 0, none⟩) 1 1) (.int .i64 0)) (fun k hk h => by have := HTW.out; omega)
    exact h1.mono (by have := HTW.out; have := HTB.out; omega)
  case hk => exact (HK1.out.trans HK2.out).fresh (Kept.tree (g := tb) (S := fun q => q = tb) (Kept.refl (fun q => q = tb) _) rfl _ _) (fun b hb h => by have := HTB.out; omega)
end Go.Proofs.YthbfmdnibijapaaDoor
