/-
  TREES: the way to whichever node.
-/
import Derived.Test.YthbfmdnibijapaaDoorUnB
import Derived.BigQuiet
set_option linter.unusedVariables false
namespace Go.Proofs.YthbfmdnibijapaaDoor
open Go Go.RowKit

set_option maxRecDepth 100000 in
set_option maxHeartbeats 4000000 in
theorem jump_any (ad : Addr) (n c : Nat) (L : List NodeS) (cur : Int) (w : World) (hA : Ng w (some ad) n L) (hnc : n ≤ c) (hT : Tabs w) (hM : MayT L cur) (z : Int) (p : Nat) (ep : NodeS) (hi : idx L z = (p : Nat)) (hep : L[p]? = some ep) :
    Calls Tryd.prog 52 #[treeV (.slice (some ad) n c) cur, .int .i64 z] w fun r w' => (∃ v, r = .returned (.tuple #[treeV v ep.sq, .string ep.tx, .int .i64 ep.at_, .int .i64 0]) ∧ On w' w.heap.size v L) ∧ Kept (fun _ => False) w w' := by
  have hl := hA.len
  have hs := ok_srt hM.ok
  have hle := hM.le
  rw [hl] at hle
  have HK0 : Hid (Kept (fun _ => False) w ((w.alloc (treeO (.slice (some ad) n c) cur)).alloc nilT)) := ((Kept.refl _ w).alloc _).alloc _
  have HI0 := Lib.hid (tri_new (c := c) (cur := cur) hT hA (by rw [← hl]; exact hM.ge))
  have cC := fun W (h : TrI ad n c L cur w.heap.size W) => tcheck_ok (some ad) n c L cur W h.ng hnc h.tabs hM
  have cF := fun W (h : TrI ad n c L cur w.heap.size W) => nfind_any (some ad) n c L z W h.ng (by omega) hs
  have cT := fun W (h : TrI ad n c L cur w.heap.size W) => to_any (some ad) n c L cur p ep W h.ng (fun h => by cases h) (by omega) hep
  rw [hi] at cF
  obtain ⟨tb, htb⟩ : ∃ tb, w.heap.size = tb := ⟨_, rfl⟩
  have HTB := Lib.hid htb
  rw [htb] at HI0 cC cF cT
  have HCF := Lib.hid cF
  have HCT := Lib.hid cT
  have HHL := Lib.hid hl
  clear htb hA hT hM hi hl hs cF cT hep
  go_enter Tryd.func52, Tryd.ntmps52
  go_upto_region 1 with fail
  simp only [HTB.out]
  simp only [treeO, nilT] at HI0 HK0
  generalize (w.alloc _).alloc _ = w0 at *
  obtain ⟨t0, t1⟩ := HI0.out.cells
  have cC0 := cC w0 HI0.out
  go_upto_region 4 with (go_at_call 59; refine cC0.mono ?_; rintro r w1 ⟨rfl, hk1⟩; have HK1 := Lib.hid (HK0.out.trans hk1); have HI1 := Lib.hid (HI0.out.kept hk1); clear hk1 t0 t1 cC0 cC)
  obtain ⟨t0, t1⟩ := HI1.out.cells
  have b0 : decide ((p : Int) < 0) = false := decide_eq_false (by omega)
  go_upto_region 7 with (go_at_call 62; refine (HCF.out _ HI1.out).mono ?_; rintro r w2 ⟨rfl, hk2⟩; have HK2 := Lib.hid (HK1.out.trans hk2); have HI2 := Lib.hid (HI1.out.kept hk2); clear hk2 t0 t1)
  clear b0
  obtain ⟨t0, t1⟩ := HI2.out.cells
  have cT2 := HCT.out w2 HI2.out
  go_upto_region 8 with (go_at_call 63; refine cT2.mono ?_; rintro r w4 ⟨⟨v, rfl, hO⟩, hk4⟩; obtain ⟨A', c', rfl, _⟩ := hO.slice; have HO := Lib.hid hO; have HI4 := Lib.hid (HI2.out.kept hk4); have HK4 := Lib.hid (HK2.out.trans hk4); obtain ⟨r0, r1, r2, r3⟩ := tree_facts HI4.out.res; clear hk4 hO cT2)
  clear r0 r1 r2 r3 t0 t1
  have HY5 := Lib.hid (tree_set HI4.out.res (.slice A' L.length c') ep.sq)
  have HK5 : Hid (Kept (fun q => q = tb + 1) w4 ((w4.setCell ⟨tb + 1, 0, none⟩ (.slice A' L.length c')).setCell ⟨tb + 1, 1, none⟩ (.int .i64 ep.sq))) := Kept.tree (g := tb + 1) (S := fun q => q = tb + 1) (Kept.refl (fun q => q = tb + 1) w4) rfl _ _
  generalize (w4.setCell ⟨tb + 1, 0, none⟩ (.slice A' L.length c')).setCell ⟨tb + 1, 1, none⟩ (.int .i64 ep.sq) = w5 at *
  obtain ⟨r0, r1, r2, r3⟩ := tree_facts HY5.out
  go_wp2_with fail
  refine bodyPost_ret (res_t4 rfl _ _ (tb + 1) _ ep.sq rfl rfl (tree_set HY5.out _ _)) rfl ⟨⟨_, rfl, ?ho⟩, ?hk⟩
  case ho =>
    have h1 := (HO.out.keptS HK5.out (fun k hk h => by have h1 := heap_lt HI2.out.res; omega)).keptS (Kept.tree (g := tb + 1) (S := fun q => q = tb + 1) (Kept.refl (fun q => q = tb + 1) w5) rfl (.slice A' L.length c') (.int .i64 ep.sq)) (fun k hk h => by have h1 := heap_lt HI2.out.res; omega)
    exact h1.mono (by have h1 := heap_lt HI2.out.res; have := HTB.out; omega)
  case hk => exact HK4.out.fresh (Kept.tree (g := tb + 1) (S := fun q => q = tb + 1) HK5.out rfl _ _) (fun b hb h => by have := HTB.out; omega)
end Go.Proofs.YthbfmdnibijapaaDoor
