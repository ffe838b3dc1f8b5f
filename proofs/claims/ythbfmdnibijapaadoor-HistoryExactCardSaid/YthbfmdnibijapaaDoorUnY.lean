/-
  THE PROGRAM's ways where nothing is told: trees that may not be; no such node; Earlier and Later.
-/
import Derived.Test.YthbfmdnibijapaaDoorUnX
import Derived.Test.YthbfmdnibijapaaDoorHz16
import Derived.Test.YthbfmdnibijapaaDoorHz08
import Derived.Test.YthbfmdnibijapaaDoorHz17
set_option linter.unusedVariables false
namespace Go.Proofs.YthbfmdnibijapaaDoor
open Go Go.RowKit

/-- A boxed tree of any kind, and the result's cells. -/
structure TrE (A : Option Addr) (n c : Nat) (L : List NodeS) (cur : Int) (tb : Nat) (W : World) : Prop where
  tabs : Tabs W
  ng : Ng W A n L
  box : W.heap[tb]? = some (treeO (.slice A n c) cur)
  res : W.heap[tb + 1]? = some nilT
theorem TrE.kept {A : Option Addr} {n c : Nat} {L : List NodeS} {cur : Int} {tb : Nat} {W W' : World} (h : TrE A n c L cur tb W) (hk : Kept (fun _ => False) W W') : TrE A n c L cur tb W' :=
  ⟨h.tabs.kept hk id id, h.ng.kept hk (fun _ _ => id), (hk.block _ (heap_lt h.box) id).trans h.box, (hk.block _ (heap_lt h.res) id).trans h.res⟩
theorem TrE.cells {A : Option Addr} {n c : Nat} {L : List NodeS} {cur : Int} {tb : Nat} {W : World} (h : TrE A n c L cur tb W) : W.cell? ⟨tb, 0, none⟩ = some (.slice A n c) ∧ W.cell? ⟨tb, 1, none⟩ = some (.int .i64 cur) := ⟨(tree_facts h.box).1, (tree_facts h.box).2.1⟩
theorem tre_new {A : Option Addr} {n c : Nat} {L : List NodeS} {cur : Int} {w : World} (hT : Tabs w) (hA : Ng w A n L) : TrE A n c L cur w.heap.size ((w.alloc (treeO (.slice A n c) cur)).alloc nilT) :=
  ⟨hT.kept (((Kept.refl (fun _ => False) w).alloc _).alloc _) id id, hA.kept (((Kept.refl (fun _ => False) w).alloc _).alloc _) (fun _ _ => id), heap_two1 w _ _, heap_two2 w _ _⟩
set_option maxRecDepth 100000 in
set_option maxHeartbeats 4000000 in
theorem back_no (A : Option Addr) (n c : Nat) (L : List NodeS) (cur : Int) (w : World) (hA : Ng w A n L) (hnc : n ≤ c) (hT : Tabs w) (hg : ∀ e ∈ L, e.tx.size ≤ 140737488351232) (hno : ¬ MayT L cur) :
    Calls Tryd.prog 46 #[treeV (.slice A n c) cur] w (Told w (wr0 1)) := by
  have HK0 : Hid (Kept (fun _ => False) w ((w.alloc (treeO (.slice A n c) cur)).alloc nilT)) := ((Kept.refl _ w).alloc _).alloc _
  have HI0 := Lib.hid (tre_new (c := c) (cur := cur) hT hA)
  have cC := fun W (h : TrE A n c L cur w.heap.size W) => tcheck_bad A n c L cur W h.ng hnc h.tabs hg hno
  obtain ⟨tb, htb⟩ : ∃ tb, w.heap.size = tb := ⟨_, rfl⟩
  have HTB := Lib.hid htb
  rw [htb] at HI0 cC
  clear htb hA hT hg hno
  go_enter Tryd.func46, Tryd.ntmps46
  go_upto_region 1 with fail
  simp only [HTB.out]
  simp only [treeO, nilT] at HI0 HK0
  generalize (w.alloc _).alloc _ = w0 at *
  obtain ⟨t0, t1⟩ := HI0.out.cells
  have cC0 := cC w0 HI0.out
  go_wp2_with (go_at_call 59; refine cC0.mono ?_; rintro r w1 ⟨rfl, hk1⟩; have HK1 := Lib.hid (HK0.out.trans hk1); have HI1 := Lib.hid (HI0.out.kept hk1); obtain ⟨r0, r1, r2, r3⟩ := tree_facts HI1.out.res; clear hk1 t0 t1 cC0 cC)
  refine bodyPost_ret (res_t4 rfl _ _ (tb + 1) (.slice none 0 0) 0 rfl rfl (tree_set HI1.out.res _ _)) rfl (told0 ⟨rfl, ?_⟩)
  exact HK1.out.fresh (Kept.tree (g := tb + 1) (S := fun q => q = tb + 1) (Kept.refl (fun q => q = tb + 1) w1) rfl _ _) (fun b hb h => by have := HTB.out; omega)
set_option maxRecDepth 100000 in
set_option maxHeartbeats 4000000 in
theorem again_no (A : Option Addr) (n c : Nat) (L : List NodeS) (cur : Int) (w : World) (hA : Ng w A n L) (hnc : n ≤ c) (hT : Tabs w) (hg : ∀ e ∈ L, e.tx.size ≤ 140737488351232) (hno : ¬ MayT L cur) :
    Calls Tryd.prog 47 #[treeV (.slice A n c) cur] w (Told w (wr0 1)) := by
  have HK0 : Hid (Kept (fun _ => False) w ((w.alloc (treeO (.slice A n c) cur)).alloc nilT)) := ((Kept.refl _ w).alloc _).alloc _
  have HI0 := Lib.hid (tre_new (c := c) (cur := cur) hT hA)
  have cC := fun W (h : TrE A n c L cur w.heap.size W) => tcheck_bad A n c L cur W h.ng hnc h.tabs hg hno
  obtain ⟨tb, htb⟩ : ∃ tb, w.heap.size = tb := ⟨_, rfl⟩
  have HTB := Lib.hid htb
  rw [htb] at HI0 cC
  clear htb hA hT hg hno
  go_enter Tryd.func47, Tryd.ntmps47
  go_upto_region 1 with fail
  simp only [HTB.out]
  simp only [treeO, nilT] at HI0 HK0
  generalize (w.alloc _).alloc _ = w0 at *
  obtain ⟨t0, t1⟩ := HI0.out.cells
  have cC0 := cC w0 HI0.out
  go_wp2_with (go_at_call 59; refine cC0.mono ?_; rintro r w1 ⟨rfl, hk1⟩; have HK1 := Lib.hid (HK0.out.trans hk1); have HI1 := Lib.hid (HI0.out.kept hk1); obtain ⟨r0, r1, r2, r3⟩ := tree_facts HI1.out.res; clear hk1 t0 t1 cC0 cC)
  refine bodyPost_ret (res_t4 rfl _ _ (tb + 1) (.slice none 0 0) 0 rfl rfl (tree_set HI1.out.res _ _)) rfl (told0 ⟨rfl, ?_⟩)
  exact HK1.out.fresh (Kept.tree (g := tb + 1) (S := fun q => q = tb + 1) (Kept.refl (fun q => q = tb + 1) w1) rfl _ _) (fun b hb h => by have := HTB.out; omega)
set_option maxRecDepth 100000 in
set_option maxHeartbeats 4000000 in
theorem beside_no (A : Option Addr) (n c : Nat) (L : List NodeS) (cur : Int) (w : World) (hA : Ng w A n L) (hnc : n ≤ c) (hT : Tabs w) (hg : ∀ e ∈ L, e.tx.size ≤ 140737488351232) (hno : ¬ MayT L cur) (by' : Int) :
    Calls Tryd.prog 65 #[treeV (.slice A n c) cur, .int .i64 by'] w (Told w (wr0 1)) := by
  have HK0 : Hid (Kept (fun _ => False) w ((w.alloc (treeO (.slice A n c) cur)).alloc nilT)) := ((Kept.refl _ w).alloc _).alloc _
  have HI0 := Lib.hid (tre_new (c := c) (cur := cur) hT hA)
  have cC := fun W (h : TrE A n c L cur w.heap.size W) => tcheck_bad A n c L cur W h.ng hnc h.tabs hg hno
  obtain ⟨tb, htb⟩ : ∃ tb, w.heap.size = tb := ⟨_, rfl⟩
  have HTB := Lib.hid htb
  rw [htb] at HI0 cC
  clear htb hA hT hg hno
  go_enter Tryd.func65, Tryd.ntmps65
  go_upto_region 1 with fail
  simp only [HTB.out]
  simp only [treeO, nilT] at HI0 HK0
  generalize (w.alloc _).alloc _ = w0 at *
  obtain ⟨t0, t1⟩ := HI0.out.cells
  have cC0 := cC w0 HI0.out
  go_wp2_with (go_at_call 59; refine cC0.mono ?_; rintro r w1 ⟨rfl, hk1⟩; have HK1 := Lib.hid (HK0.out.trans hk1); have HI1 := Lib.hid (HI0.out.kept hk1); obtain ⟨r0, r1, r2, r3⟩ := tree_facts HI1.out.res; clear hk1 t0 t1 cC0 cC)
  refine bodyPost_ret (res_t4 rfl _ _ (tb + 1) (.slice none 0 0) 0 rfl rfl (tree_set HI1.out.res _ _)) rfl (told0 ⟨rfl, ?_⟩)
  exact HK1.out.fresh (Kept.tree (g := tb + 1) (S := fun q => q = tb + 1) (Kept.refl (fun q => q = tb + 1) w1) rfl _ _) (fun b hb h => by have := HTB.out; omega)
set_option maxRecDepth 100000 in
set_option maxHeartbeats 4000000 in
theorem jump_no (A : Option Addr) (n c : Nat) (L : List NodeS) (cur : Int) (w : World) (hA : Ng w A n L) (hnc : n ≤ c) (hT : Tabs w) (hg : ∀ e ∈ L, e.tx.size ≤ 140737488351232) (hno : ¬ MayT L cur) (z : Int) :
    Calls Tryd.prog 52 #[treeV (.slice A n c) cur, .int .i64 z] w (Told w (wr0 1)) := by
  have HK0 : Hid (Kept (fun _ => False) w ((w.alloc (treeO (.slice A n c) cur)).alloc nilT)) := ((Kept.refl _ w).alloc _).alloc _
  have HI0 := Lib.hid (tre_new (c := c) (cur := cur) hT hA)
  have cC := fun W (h : TrE A n c L cur w.heap.size W) => tcheck_bad A n c L cur W h.ng hnc h.tabs hg hno
  obtain ⟨tb, htb⟩ : ∃ tb, w.heap.size = tb := ⟨_, rfl⟩
  have HTB := Lib.hid htb
  rw [htb] at HI0 cC
  clear htb hA hT hg hno
  go_enter Tryd.func52, Tryd.ntmps52
  go_upto_region 1 with fail
  simp only [HTB.out]
  simp only [treeO, nilT] at HI0 HK0
  generalize (w.alloc _).alloc _ = w0 at *
  obtain ⟨t0, t1⟩ := HI0.out.cells
  have cC0 := cC w0 HI0.out
  go_wp2_with (go_at_call 59; refine cC0.mono ?_; rintro r w1 ⟨rfl, hk1⟩; have HK1 := Lib.hid (HK0.out.trans hk1); have HI1 := Lib.hid (HI0.out.kept hk1); obtain ⟨r0, r1, r2, r3⟩ := tree_facts HI1.out.res; clear hk1 t0 t1 cC0 cC)
  refine bodyPost_ret (res_t4 rfl _ _ (tb + 1) (.slice none 0 0) 0 rfl rfl (tree_set HI1.out.res _ _)) rfl (told0 ⟨rfl, ?_⟩)
  exact HK1.out.fresh (Kept.tree (g := tb + 1) (S := fun q => q = tb + 1) (Kept.refl (fun q => q = tb + 1) w1) rfl _ _) (fun b hb h => by have := HTB.out; omega)
set_option maxRecDepth 100000 in
set_option maxHeartbeats 4000000 in
theorem commit_no (A : Option Addr) (n c : Nat) (L : List NodeS) (cur : Int) (w : World) (hA : Ng w A n L) (hnc : n ≤ c) (hT : Tabs w) (hg : ∀ e ∈ L, e.tx.size ≤ 140737488351232) (hno : ¬ MayT L cur) (s : ByteArray) (at' most : Int) :
    Calls Tryd.prog 43 #[treeV (.slice A n c) cur, .string s, .int .i64 at', .int .i64 most] w fun r w' => r = .returned (.tuple #[treeV (.slice none 0 0) 0, .int .i64 1]) ∧ Kept (fun _ => False) w w' := by
  have HK0 : Hid (Kept (fun _ => False) w ((w.alloc (treeO (.slice A n c) cur)).alloc nilT)) := ((Kept.refl _ w).alloc _).alloc _
  have HI0 := Lib.hid (tre_new (c := c) (cur := cur) hT hA)
  have cC := fun W (h : TrE A n c L cur w.heap.size W) => tcheck_bad A n c L cur W h.ng hnc h.tabs hg hno
  obtain ⟨tb, htb⟩ : ∃ tb, w.heap.size = tb := ⟨_, rfl⟩
  have HTB := Lib.hid htb
  rw [htb] at HI0 cC
  clear htb hA hT hg hno
  go_enter Tryd.func43, Tryd.ntmps43
  go_upto_region 1 with fail
  simp only [HTB.out]
  simp only [treeO, nilT] at HI0 HK0
  generalize (w.alloc _).alloc _ = w0 at *
  obtain ⟨t0, t1⟩ := HI0.out.cells
  have cC0 := cC w0 HI0.out
  go_wp2_with (go_at_call 59; refine cC0.mono ?_; rintro r w1 ⟨rfl, hk1⟩; have HK1 := Lib.hid (HK0.out.trans hk1); have HI1 := Lib.hid (HI0.out.kept hk1); obtain ⟨r0, r1, r2, r3⟩ := tree_facts HI1.out.res; clear hk1 t0 t1 cC0 cC)
  refine bodyPost_ret (res_t1 rfl _ _ (tb + 1) (.slice none 0 0) 0 rfl rfl (tree_set HI1.out.res _ _)) rfl ⟨rfl, ?_⟩
  exact HK1.out.fresh (Kept.tree (g := tb + 1) (S := fun q => q = tb + 1) (Kept.refl (fun q => q = tb + 1) w1) rfl _ _) (fun b hb h => by have := HTB.out; omega)
set_option maxRecDepth 100000 in
set_option maxHeartbeats 4000000 in
theorem new_no (s : ByteArray) (w : World) (hT : Tabs w) (hs : s.size ≤ 140737488351232) (hm : mayB s = false) :
    Calls Tryd.prog 29 #[.string s] w fun r w' => r = .returned (.tuple #[treeV (.slice none 0 0) 0, .int .i64 1]) ∧ Kept (fun _ => False) w w' := by
  have hk0 : Kept (fun _ => False) w (w.alloc nilT) := (Kept.refl _ w).alloc _
  have cC := check_any s _ (by omega) (hT.kept hk0 id id)
  rw [hm, if_neg (by decide)] at cC
  have HK0 := Lib.hid hk0
  have HY0 : Hid ((w.alloc nilT).heap[w.heap.size]? = some nilT) := heap_alloc_new w _
  obtain ⟨tb, htb⟩ : ∃ tb, w.heap.size = tb := ⟨_, rfl⟩
  have HTB := Lib.hid htb
  rw [htb] at HY0
  clear htb hk0 hT hm
  go_enter Tryd.func29, Tryd.ntmps29
  go_upto_region 1 with fail
  simp only [HTB.out]
  simp only [nilT, treeO] at HY0 HK0 cC
  generalize w.alloc _ = w0 at *
  go_wp2_with (go_at_call 48; refine cC.mono ?_; rintro r w1 ⟨rfl, hk1⟩; have HK1 := Lib.hid (HK0.out.trans hk1); have HY1 := Lib.hid ((hk1.block tb (heap_lt HY0.out) id).trans HY0.out); obtain ⟨r0, r1, r2, r3⟩ := tree_facts HY1.out; clear hk1 cC)
  refine bodyPost_ret (res_t1 rfl _ _ tb (.slice none 0 0) 0 rfl rfl (tree_set HY1.out _ _)) rfl ⟨rfl, ?_⟩
  exact HK1.out.fresh (Kept.tree (g := tb) (S := fun q => q = tb) (Kept.refl (fun q => q = tb) w1) rfl _ _) (fun b hb h => by have := HTB.out; omega)
set_option maxRecDepth 100000 in
set_option maxHeartbeats 4000000 in
theorem beside_any (ad : Addr) (n c : Nat) (L : List NodeS) (cur : Int) (w : World) (hA : Ng w (some ad) n L) (hnc : n ≤ c) (hT : Tabs w) (hM : MayT L cur) (by' : Int) (i p : Nat) (ep : NodeS) (hi : idx L cur = (i : Nat)) (hp : (i : Int) + by' = (p : Nat)) (hep : L[p]? = some ep) :
    Calls Tryd.prog 65 #[treeV (.slice (some ad) n c) cur, .int .i64 by'] w (Told w ⟨L, ep.sq, ep.tx, ep.at_, 0⟩) := by
  have hl := hA.len
  have hpn : p < n := (hA.nd hep).1
  have hs := ok_srt hM.ok
  have hle := hM.le
  rw [hl] at hle
  have HK0 : Hid (Kept (fun _ => False) w ((w.alloc (treeO (.slice (some ad) n c) cur)).alloc nilT)) := ((Kept.refl _ w).alloc _).alloc _
  have HI0 := Lib.hid (tri_new (c := c) (cur := cur) hT hA (by rw [← hl]; exact hM.ge))
  have cC := fun W (h : TrI ad n c L cur w.heap.size W) => tcheck_ok (some ad) n c L cur W h.ng hnc h.tabs hM
  have cF := fun W (h : TrI ad n c L cur w.heap.size W) => nfind_any (some ad) n c L cur W h.ng (by omega) hs
  have cT := fun W (h : TrI ad n c L cur w.heap.size W) => to_any (some ad) n c L cur p ep W h.ng (fun h => by cases h) (by omega) hep
  rw [hi] at cF
  obtain ⟨tb, htb⟩ : ∃ tb, w.heap.size = tb := ⟨_, rfl⟩
  have HTB := Lib.hid htb
  rw [htb] at HI0 cC cF cT
  have HCF := Lib.hid cF
  have HCT := Lib.hid cT
  have HHL := Lib.hid hl
  clear htb hA hT hM hi hl hs cF cT hep
  go_enter Tryd.func65, Tryd.ntmps65
  go_upto_region 1 with fail
  simp only [HTB.out]
  simp only [treeO, nilT] at HI0 HK0
  generalize (w.alloc _).alloc _ = w0 at *
  obtain ⟨t0, t1⟩ := HI0.out.cells
  have cC0 := cC w0 HI0.out
  go_upto_region 4 with (go_at_call 59; refine cC0.mono ?_; rintro r w1 ⟨rfl, hk1⟩; have HK1 := Lib.hid (HK0.out.trans hk1); have HI1 := Lib.hid (HI0.out.kept hk1); clear hk1 t0 t1 cC0 cC)
  obtain ⟨t0, t1⟩ := HI1.out.cells
  have b0 : decide ((p : Int) < 0) = false := decide_eq_false (by omega)
  have b1 : decide ((n : Int) ≤ (p : Int)) = false := decide_eq_false (by omega)
  have b2 : decide (n ≤ p) = false := decide_eq_false (by omega)
  have wi : IntKind.i64.wrap ((i : Int) + by') = (p : Int) := by rw [hp]; exact IntWalk.i64_in _ ⟨by omega, by omega⟩
  go_upto_region 7 with (go_at_call 62; refine (HCF.out _ HI1.out).mono ?_; rintro r w2 ⟨rfl, hk2⟩; have HK2 := Lib.hid (HK1.out.trans hk2); have HI2 := Lib.hid (HI1.out.kept hk2); clear hk2 t0 t1; obtain ⟨t0, t1⟩ := HI2.out.cells)
  clear t0 t1
  clear b0 b1 b2 wi
  obtain ⟨t0, t1⟩ := HI2.out.cells
  have cT2 := HCT.out w2 HI2.out
  go_upto_region 8 with (go_at_call 63; refine cT2.mono ?_; rintro r w4 ⟨⟨v, rfl, hO⟩, hk4⟩; obtain ⟨A', c', rfl, _⟩ := hO.slice; have HO := Lib.hid hO; have HI4 := Lib.hid (HI2.out.kept hk4); have HK4 := Lib.hid (HK2.out.trans hk4); obtain ⟨r0, r1, r2, r3⟩ := tree_facts HI4.out.res; clear hk4 hO cT2)
  clear r0 r1 r2 r3 t0 t1
  have HY5 := Lib.hid (tree_set HI4.out.res (.slice A' L.length c') ep.sq)
  have HK5 : Hid (Kept (fun q => q = tb + 1) w4 ((w4.setCell ⟨tb + 1, 0, none⟩ (.slice A' L.length c')).setCell ⟨tb + 1, 1, none⟩ (.int .i64 ep.sq))) := Kept.tree (g := tb + 1) (S := fun q => q = tb + 1) (Kept.refl (fun q => q = tb + 1) w4) rfl _ _
  generalize (w4.setCell ⟨tb + 1, 0, none⟩ (.slice A' L.length c')).setCell ⟨tb + 1, 1, none⟩ (.int .i64 ep.sq) = w5 at *
  obtain ⟨r0, r1, r2, r3⟩ := tree_facts HY5.out
  go_wp2_with fail
  refine bodyPost_ret (res_t4 rfl _ _ (tb + 1) _ ep.sq rfl rfl (tree_set HY5.out _ _)) rfl ⟨⟨_, rfl, ?ho⟩, ?hk⟩
  case ho =>
    have h1 := (HO.out.keptS HK5.out (fun k hk h => by have h1 := heap_lt HI2.out.res; omega)).keptS (Kept.tree (g := tb + 1) (S := fun q => q = tb + 1) (Kept.refl (fun q => q = tb + 1) w5) rfl (.slice A' L.length c') (.int .i64 ep.sq)) (fun k hk h => by have h1 := heap_lt HI2.out.res; omega)
    exact h1.mono (by have h1 := heap_lt HI2.out.res; have := HTB.out; omega)
  case hk => exact HK4.out.fresh (Kept.tree (g := tb + 1) (S := fun q => q = tb + 1) HK5.out rfl _ _) (fun b hb h => by have := HTB.out; omega)
set_option maxRecDepth 100000 in
set_option maxHeartbeats 4000000 in
theorem beside_none (ad : Addr) (n c : Nat) (L : List NodeS) (cur : Int) (w : World) (hA : Ng w (some ad) n L) (hnc : n ≤ c) (hT : Tabs w) (hM : MayT L cur) (by' : Int) (i : Nat) (q : Int) (hi : idx L cur = (i : Nat)) (hq : (i : Int) + by' = q) (hr : -2 ≤ by' ∧ by' ≤ 2) (hin : i < n) (ho : q < 0 ∨ (n : Int) ≤ q) :
    Calls Tryd.prog 65 #[treeV (.slice (some ad) n c) cur, .int .i64 by'] w (Told w (wr0 6)) := by
  have hl := hA.len
  have hs := ok_srt hM.ok
  have hle := hM.le
  rw [hl] at hle
  have HK0 : Hid (Kept (fun _ => False) w ((w.alloc (treeO (.slice (some ad) n c) cur)).alloc nilT)) := ((Kept.refl _ w).alloc _).alloc _
  have HI0 := Lib.hid (tri_new (c := c) (cur := cur) hT hA (by rw [← hl]; exact hM.ge))
  have hge := hM.ge
  rw [hl] at hge
  have cC := fun W (h : TrI ad n c L cur w.heap.size W) => tcheck_ok (some ad) n c L cur W h.ng hnc h.tabs hM
  have cF := fun W (h : TrI ad n c L cur w.heap.size W) => nfind_any (some ad) n c L cur W h.ng (by omega) hs
  rw [hi] at cF
  obtain ⟨tb, htb⟩ : ∃ tb, w.heap.size = tb := ⟨_, rfl⟩
  have HTB := Lib.hid htb
  rw [htb] at HI0 cC cF
  have HCF := Lib.hid cF
  clear htb hA hT hM hl hs cF
  go_enter Tryd.func65, Tryd.ntmps65
  go_upto_region 1 with fail
  simp only [HTB.out]
  simp only [treeO, nilT] at HI0 HK0
  generalize (w.alloc _).alloc _ = w0 at *
  obtain ⟨t0, t1⟩ := HI0.out.cells
  have cC0 := cC w0 HI0.out
  go_upto_region 4 with (go_at_call 59; refine cC0.mono ?_; rintro r w1 ⟨rfl, hk1⟩; have HK1 := Lib.hid (HK0.out.trans hk1); have HI1 := Lib.hid (HI0.out.kept hk1); clear hk1 t0 t1 cC0 cC)
  obtain ⟨t0, t1⟩ := HI1.out.cells
  have wi : IntKind.i64.wrap ((i : Int) + by') = q := by rw [hq]; exact IntWalk.i64_in _ ⟨by omega, by omega⟩
  by_cases hq0 : q < 0
  · have b0 : decide (q < 0) = true := decide_eq_true hq0
    go_wp2_with (go_at_call 62; refine (HCF.out _ HI1.out).mono ?_; rintro r w2 ⟨rfl, hk2⟩; have HK2 := Lib.hid (HK1.out.trans hk2); have HI2 := Lib.hid (HI1.out.kept hk2); obtain ⟨r0, r1, r2, r3⟩ := tree_facts HI2.out.res; clear hk2 t0 t1; obtain ⟨t0, t1⟩ := HI2.out.cells)
    refine bodyPost_ret (res_t4 rfl _ _ (tb + 1) (.slice none 0 0) 0 rfl rfl (tree_set HI2.out.res _ _)) rfl (told0 ⟨rfl, ?_⟩)
    exact HK2.out.fresh (Kept.tree (g := tb + 1) (S := fun q => q = tb + 1) (Kept.refl (fun q => q = tb + 1) w2) rfl _ _) (fun b hb h => by have := HTB.out; omega)
  · have b0 : decide (q < 0) = false := decide_eq_false hq0
    have b1 : decide ((n : Int) ≤ q) = true := decide_eq_true (by omega)
    go_wp2_with (go_at_call 62; refine (HCF.out _ HI1.out).mono ?_; rintro r w2 ⟨rfl, hk2⟩; have HK2 := Lib.hid (HK1.out.trans hk2); have HI2 := Lib.hid (HI1.out.kept hk2); obtain ⟨r0, r1, r2, r3⟩ := tree_facts HI2.out.res; clear hk2 t0 t1; obtain ⟨t0, t1⟩ := HI2.out.cells)
    refine bodyPost_ret (res_t4 rfl _ _ (tb + 1) (.slice none 0 0) 0 rfl rfl (tree_set HI2.out.res _ _)) rfl (told0 ⟨rfl, ?_⟩)
    exact HK2.out.fresh (Kept.tree (g := tb + 1) (S := fun q => q = tb + 1) (Kept.refl (fun q => q = tb + 1) w2) rfl _ _) (fun b hb h => by have := HTB.out; omega)
set_option maxRecDepth 100000 in
set_option maxHeartbeats 4000000 in
theorem jump_none (ad : Addr) (n c : Nat) (L : List NodeS) (cur : Int) (w : World) (hA : Ng w (some ad) n L) (hnc : n ≤ c) (hT : Tabs w) (hM : MayT L cur) (z : Int) (hz : idx L z < 0) :
    Calls Tryd.prog 52 #[treeV (.slice (some ad) n c) cur, .int .i64 z] w (Told w (wr0 3)) := by
  have hl := hA.len
  have hs := ok_srt hM.ok
  have hle := hM.le
  rw [hl] at hle
  have HK0 : Hid (Kept (fun _ => False) w ((w.alloc (treeO (.slice (some ad) n c) cur)).alloc nilT)) := ((Kept.refl _ w).alloc _).alloc _
  have HI0 := Lib.hid (tri_new (c := c) (cur := cur) hT hA (by rw [← hl]; exact hM.ge))
  have hge := hM.ge
  rw [hl] at hge
  have cC := fun W (h : TrI ad n c L cur w.heap.size W) => tcheck_ok (some ad) n c L cur W h.ng hnc h.tabs hM
  have cF := fun W (h : TrI ad n c L cur w.heap.size W) => nfind_any (some ad) n c L z W h.ng (by omega) hs
  obtain ⟨tb, htb⟩ : ∃ tb, w.heap.size = tb := ⟨_, rfl⟩
  have HTB := Lib.hid htb
  rw [htb] at HI0 cC cF
  have HCF := Lib.hid cF
  clear htb hA hT hM hl hs cF
  go_enter Tryd.func52, Tryd.ntmps52
  go_upto_region 1 with fail
  simp only [HTB.out]
  simp only [treeO, nilT] at HI0 HK0
  generalize (w.alloc _).alloc _ = w0 at *
  obtain ⟨t0, t1⟩ := HI0.out.cells
  have cC0 := cC w0 HI0.out
  go_upto_region 4 with (go_at_call 59; refine cC0.mono ?_; rintro r w1 ⟨rfl, hk1⟩; have HK1 := Lib.hid (HK0.out.trans hk1); have HI1 := Lib.hid (HI0.out.kept hk1); clear hk1 t0 t1 cC0 cC)
  obtain ⟨t0, t1⟩ := HI1.out.cells
  have b0 : decide (idx L z < 0) = true := decide_eq_true hz
  generalize idx L z = q at *
  go_wp2_with (go_at_call 62; refine (HCF.out _ HI1.out).mono ?_; rintro r w2 ⟨rfl, hk2⟩; have HK2 := Lib.hid (HK1.out.trans hk2); have HI2 := Lib.hid (HI1.out.kept hk2); obtain ⟨r0, r1, r2, r3⟩ := tree_facts HI2.out.res; clear hk2 t0 t1; obtain ⟨t0, t1⟩ := HI2.out.cells)
  refine bodyPost_ret (res_t4 rfl _ _ (tb + 1) (.slice none 0 0) 0 rfl rfl (tree_set HI2.out.res _ _)) rfl (told0 ⟨rfl, ?_⟩)
  exact HK2.out.fresh (Kept.tree (g := tb + 1) (S := fun q => q = tb + 1) (Kept.refl (fun q => q = tb + 1) w2) rfl _ _) (fun b hb h => by have := HTB.out; omega)
set_option maxRecDepth 100000 in
set_option maxHeartbeats 4000000 in
theorem again_none (ad : Addr) (n c : Nat) (L : List NodeS) (cur : Int) (w : World) (hA : Ng w (some ad) n L) (hnc : n ≤ c) (hT : Tabs w) (hM : MayT L cur) (hlast : ∀ k e', 0 < k → L[k]? = some e' → e'.pa ≠ cur) :
    Calls Tryd.prog 47 #[treeV (.slice (some ad) n c) cur] w (Told w (wr0 6)) := by
  have hl := hA.len
  have hs := ok_srt hM.ok
  have hle := hM.le
  rw [hl] at hle
  have HK0 : Hid (Kept (fun _ => False) w ((w.alloc (treeO (.slice (some ad) n c) cur)).alloc nilT)) := ((Kept.refl _ w).alloc _).alloc _
  have HI0 := Lib.hid (tri_new (c := c) (cur := cur) hT hA (by rw [← hl]; exact hM.ge))
  have cC := fun W (h : TrI ad n c L cur w.heap.size W) => tcheck_ok (some ad) n c L cur W h.ng hnc h.tabs hM
  have HND : Hid (∀ k e', L[k]? = some e' → ∀ W, TrI ad n c L cur w.heap.size W → Nd4 W (ad.add (k * 4)) e') := fun k e' hk W h => (h.ng.nd hk).2
  have hn1 : 1 ≤ n := by rw [← hl]; exact hM.ge
  obtain ⟨tb, htb⟩ : ∃ tb, w.heap.size = tb := ⟨_, rfl⟩
  have HTB := Lib.hid htb
  rw [htb] at HI0 cC HND
  have HLA := Lib.hid hlast
  have HHL := Lib.hid hl
  clear htb hA hT hM hl hs hlast
  go_enter Tryd.func47, Tryd.ntmps47
  go_upto_region 1 with fail
  simp only [HTB.out]
  simp only [treeO, nilT] at HI0 HK0
  generalize (w.alloc _).alloc _ = w0 at *
  obtain ⟨t0, t1⟩ := HI0.out.cells
  have cC0 := cC w0 HI0.out
  go_upto_region 4 with (go_at_call 59; refine cC0.mono ?_; rintro r w1 ⟨rfl, hk1⟩; have HK1 := Lib.hid (HK0.out.trans hk1); have HI1 := Lib.hid (HI0.out.kept hk1); clear hk1 t0 t1 cC0 cC)
  obtain ⟨t0, t1⟩ := HI1.out.cells
  have wn : IntKind.i64.wrap ((n : Int) - 1) = ((n - 1 : Nat) : Int) := by rw [show (n : Int) - 1 = ((n - 1 : Nat) : Int) by omega]; exact IntWalk.i64_in _ ⟨by omega, by omega⟩
  obtain ⟨m, hm⟩ : ∃ m, n - 1 = m := ⟨_, rfl⟩
  rw [hm] at wn
  have HM := Lib.hid hm
  clear hm
  go_wp2_with fail
  clear wn t0 t1
  go_loopw [7] (fun v wr => ∃ k : Nat, k ≤ m ∧ v = .int .i64 k ∧ Kept (fun _ => False) w1 wr) (fun v _ => (intOf v).toNat)
  case atStart => exact ⟨m, Nat.le_refl _, rfl, Kept.refl _ _⟩
  case round =>
    obtain ⟨k, hkm, rfl, hkr⟩ := hrel
    have HIr := Lib.hid (HI1.out.kept hkr)
    have HKr := Lib.hid (HK1.out.trans hkr)
    have HKW := Lib.hid hkr
    clear hkr
    have hkn : k < n := by have := HM.out; omega
    obtain ⟨t0, t1⟩ := HIr.out.cells
    have b3 : (0 : Int) ≤ (k : Int) := by omega
    have b4 : (k : Int) < (n : Int) := by omega
    by_cases hk0 : 0 < k
    · obtain ⟨e', he'⟩ : ∃ e', L[k]? = some e' := ⟨_, List.getElem?_eq_getElem (by rw [HHL.out]; exact hkn)⟩
      have f1 := (HND.out k e' he' wr HIr.out).c1
      have hpe : (e'.pa == cur) = false := by rw [beq_eq_false_iff_ne]; exact HLA.out k e' (by omega) he'
      have wk : IntKind.i64.wrap ((k : Int) - 1) = ((k - 1 : Nat) : Int) := by rw [show (k : Int) - 1 = ((k - 1 : Nat) : Int) by omega]; exact IntWalk.i64_in _ ⟨by omega, by omega⟩
      have b1 : decide ((0 : Int) < (k : Int)) = true := decide_eq_true (by omega)
      have b2 : decide (0 < k) = true := decide_eq_true hk0
      clear he'
      go_upto_region 7 with fail
      clear b1 b2
      go_quiet (fail)
      go_wp2_with fail
      go_roundw
      case rel => exact ⟨k - 1, by omega, by first | rfl | go_num, HKW.out.drewN _⟩
      case measure => simp [intOf]; omega
    · have b1 : decide ((0 : Int) < (k : Int)) = false := decide_eq_false (by omega)
      have b2 : decide (0 < k) = false := decide_eq_false hk0
      obtain ⟨r0, r1, r2, r3⟩ := tree_facts HIr.out.res
      go_wp2_with fail
      refine bodyPost_ret (res_t4 rfl _ _ (tb + 1) (.slice none 0 0) 0 rfl rfl (tree_set HIr.out.res _ _)) rfl (told0 ⟨rfl, ?_⟩)
      exact HKr.out.fresh (Kept.tree (g := tb + 1) (S := fun q => q = tb + 1) (Kept.refl (fun q => q = tb + 1) wr) rfl _ _) (fun b hb h => by have := HTB.out; omega)
set_option maxRecDepth 100000 in
set_option maxHeartbeats 4000000 in
theorem earlier_of (A : Option Addr) (n c : Nat) (L : List NodeS) (cur : Int) (w : World) (hA : Ng w A n L) (hT : Tabs w) (D : WR) (hB : ∀ W, Ng W A n L → Tabs W → Calls Tryd.prog 65 #[treeV (.slice A n c) cur, .int .i64 (-1)] W (Told W D)) :
    Calls Tryd.prog 50 #[treeV (.slice A n c) cur] w (Told w D) := by
  have HK0 : Hid (Kept (fun _ => False) w ((w.alloc (treeO (.slice A n c) cur)).alloc nilT)) := ((Kept.refl _ w).alloc _).alloc _
  have HI0 := Lib.hid (tre_new (c := c) (cur := cur) hT hA)
  obtain ⟨tb, htb⟩ : ∃ tb, w.heap.size = tb := ⟨_, rfl⟩
  have HTB := Lib.hid htb
  rw [htb] at HI0
  obtain ⟨dl, dc, ds, da, de⟩ := D
  clear htb hA hT
  go_enter Tryd.func50, Tryd.ntmps50
  go_upto_region 1 with fail
  simp only [HTB.out]
  simp only [treeO, nilT] at HI0 HK0
  generalize (w.alloc _).alloc _ = w0 at *
  obtain ⟨t0, t1⟩ := HI0.out.cells
  have cB := hB w0 HI0.out.ng HI0.out.tabs
  clear hB
  go_wp2_with (go_at_call 65; refine cB.mono ?_; rintro r w1 ⟨⟨v, rfl, hO⟩, hk1⟩; obtain ⟨A', n', c', rfl, _⟩ := hO.sn; have HO := Lib.hid hO; have HK1 := Lib.hid (HK0.out.trans hk1); have HI1 := Lib.hid (HI0.out.kept hk1); obtain ⟨r0, r1, r2, r3⟩ := tree_facts HI1.out.res; clear hk1 hO t0 t1 cB)
  refine bodyPost_ret (res_t4 rfl _ _ (tb + 1) _ dc rfl rfl (tree_set HI1.out.res _ _)) rfl ⟨⟨_, rfl, ?ho⟩, ?hk⟩
  case ho =>
    have h1 := HO.out.keptS (Kept.tree (g := tb + 1) (S := fun q => q = tb + 1) (Kept.refl (fun q => q = tb + 1) w1) rfl (.slice A' n' c') (.int .i64 dc)) (fun q h1 h => by have h1 := heap_lt HI0.out.res; omega)
    exact h1.mono (by have h1 := heap_lt HI0.out.res; have := HTB.out; omega)
  case hk => exact HK1.out.fresh (Kept.tree (g := tb + 1) (S := fun q => q = tb + 1) (Kept.refl (fun q => q = tb + 1) w1) rfl _ _) (fun b hb h => by have := HTB.out; omega)
set_option maxRecDepth 100000 in
set_option maxHeartbeats 4000000 in
theorem later_of (A : Option Addr) (n c : Nat) (L : List NodeS) (cur : Int) (w : World) (hA : Ng w A n L) (hT : Tabs w) (D : WR) (hB : ∀ W, Ng W A n L → Tabs W → Calls Tryd.prog 65 #[treeV (.slice A n c) cur, .int .i64 (1)] W (Told W D)) :
    Calls Tryd.prog 51 #[treeV (.slice A n c) cur] w (Told w D) := by
  have HK0 : Hid (Kept (fun _ => False) w ((w.alloc (treeO (.slice A n c) cur)).alloc nilT)) := ((Kept.refl _ w).alloc _).alloc _
  have HI0 := Lib.hid (tre_new (c := c) (cur := cur) hT hA)
  obtain ⟨tb, htb⟩ : ∃ tb, w.heap.size = tb := ⟨_, rfl⟩
  have HTB := Lib.hid htb
  rw [htb] at HI0
  obtain ⟨dl, dc, ds, da, de⟩ := D
  clear htb hA hT
  go_enter Tryd.func51, Tryd.ntmps51
  go_upto_region 1 with fail
  simp only [HTB.out]
  simp only [treeO, nilT] at HI0 HK0
  generalize (w.alloc _).alloc _ = w0 at *
  obtain ⟨t0, t1⟩ := HI0.out.cells
  have cB := hB w0 HI0.out.ng HI0.out.tabs
  clear hB
  go_wp2_with (go_at_call 65; refine cB.mono ?_; rintro r w1 ⟨⟨v, rfl, hO⟩, hk1⟩; obtain ⟨A', n', c', rfl, _⟩ := hO.sn; have HO := Lib.hid hO; have HK1 := Lib.hid (HK0.out.trans hk1); have HI1 := Lib.hid (HI0.out.kept hk1); obtain ⟨r0, r1, r2, r3⟩ := tree_facts HI1.out.res; clear hk1 hO t0 t1 cB)
  refine bodyPost_ret (res_t4 rfl _ _ (tb + 1) _ dc rfl rfl (tree_set HI1.out.res _ _)) rfl ⟨⟨_, rfl, ?ho⟩, ?hk⟩
  case ho =>
    have h1 := HO.out.keptS (Kept.tree (g := tb + 1) (S := fun q => q = tb + 1) (Kept.refl (fun q => q = tb + 1) w1) rfl (.slice A' n' c') (.int .i64 dc)) (fun q h1 h => by have h1 := heap_lt HI0.out.res; omega)
    exact h1.mono (by have h1 := heap_lt HI0.out.res; have := HTB.out; omega)
  case hk => exact HK1.out.fresh (Kept.tree (g := tb + 1) (S := fun q => q = tb + 1) (Kept.refl (fun q => q = tb + 1) w1) rfl _ _) (fun b hb h => by have := HTB.out; omega)
end Go.Proofs.YthbfmdnibijapaaDoor
