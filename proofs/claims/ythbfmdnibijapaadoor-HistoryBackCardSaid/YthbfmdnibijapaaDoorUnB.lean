/-
  TREES: the way back to the parent.
-/
import Derived.Test.YthbfmdnibijapaaDoorUnE
set_option linter.unusedVariables false
namespace Go.Proofs.YthbfmdnibijapaaDoor
open Go Go.RowKit

/-- A tree's head in two blocks of the call's own, the nodes elsewhere. -/
structure TrI (ad : Addr) (n c : Nat) (L : List NodeS) (cur : Int) (tb : Nat) (W : World) : Prop where
  tabs : Tabs W
  ng : Ng W (some ad) n L
  box : W.heap[tb]? = some (treeO (.slice (some ad) n c) cur)
  res : W.heap[tb + 1]? = some nilT
  lt : ad.block < tb
theorem TrI.kept {ad : Addr} {n c : Nat} {L : List NodeS} {cur : Int} {tb : Nat} {W W' : World} (h : TrI ad n c L cur tb W) (hk : Kept (fun _ => False) W W') : TrI ad n c L cur tb W' :=
  ⟨h.tabs.kept hk id id, h.ng.kept hk (fun _ _ => id), (hk.block _ (heap_lt h.box) id).trans h.box, (hk.block _ (heap_lt h.res) id).trans h.res, h.lt⟩
theorem TrI.drew {ad : Addr} {n c : Nat} {L : List NodeS} {cur : Int} {tb : Nat} {W : World} (h : TrI ad n c L cur tb W) : TrI ad n c L cur tb W.drew := h.kept (Kept.refl (fun _ => False) W).drew
theorem TrI.cells {ad : Addr} {n c : Nat} {L : List NodeS} {cur : Int} {tb : Nat} {W : World} (h : TrI ad n c L cur tb W) : W.cell? ⟨tb, 0, none⟩ = some (.slice (some ad) n c) ∧ W.cell? ⟨tb, 1, none⟩ = some (.int .i64 cur) := ⟨(tree_facts h.box).1, (tree_facts h.box).2.1⟩
theorem ng_lt {w : World} {ad : Addr} {n : Nat} {L : List NodeS} (h : Ng w (some ad) n L) (hn : 0 < n) : ad.block < w.heap.size := by
  obtain ⟨ad', e, ha, _, h4⟩ := h.at_ hn
  injection ha with ha
  subst ha
  have h0 := h4.c0
  have hb : (ad.add (0 * 4)).block = ad.block := by unfold Addr.add; split <;> rfl
  rcases Nat.lt_or_ge ad.block w.heap.size with h' | h'
  · exact h'
  · simp [World.cell?, hb, Array.getElem?_eq_none h'] at h0
theorem tri_new {ad : Addr} {n c : Nat} {L : List NodeS} {cur : Int} {w : World} (hT : Tabs w) (hA : Ng w (some ad) n L) (hn : 0 < n) : TrI ad n c L cur w.heap.size ((w.alloc (treeO (.slice (some ad) n c) cur)).alloc nilT) :=
  ⟨hT.kept (((Kept.refl (fun _ => False) w).alloc _).alloc _) id id, hA.kept (((Kept.refl (fun _ => False) w).alloc _).alloc _) (fun _ _ => id), heap_two1 w _ _, heap_two2 w _ _, ng_lt hA hn⟩
theorem Ng.nd {w : World} {ad : Addr} {n i : Nat} {L : List NodeS} {e : NodeS} (h : Ng w (some ad) n L) (he : L[i]? = some e) : i < n ∧ Nd4 w (ad.add (i * 4)) e := by
  obtain ⟨ad', ha, h4⟩ := h.at' i e he
  injection ha with ha
  subst ha
  refine ⟨?_, h4⟩
  rcases Nat.lt_or_ge i L.length with h' | h'
  · rw [h.len] at h'; exact h'
  · rw [List.getElem?_eq_none h'] at he; cases he
theorem heap_drew' {w : World} {g : Nat} {o : Option Obj} (h : w.heap[g]? = o) : w.drew.heap[g]? = o := h
set_option maxRecDepth 100000 in
set_option maxHeartbeats 4000000 in
theorem back_root (ad : Addr) (n c : Nat) (L : List NodeS) (cur : Int) (w : World) (hA : Ng w (some ad) n L) (hnc : n ≤ c) (hT : Tabs w) (hM : MayT L cur) (hi : idx L cur = 0) :
    Calls Tryd.prog 46 #[treeV (.slice (some ad) n c) cur] w fun r w' => r = .returned (.tuple #[treeV (.slice none 0 0) 0, .string ⟨#[]⟩, .int .i64 0, .int .i64 6]) ∧ Kept (fun _ => False) w w' := by
  have hl := hA.len
  have hs := ok_srt hM.ok
  have hle := hM.le
  rw [hl] at hle
  have HK0 : Hid (Kept (fun _ => False) w ((w.alloc (treeO (.slice (some ad) n c) cur)).alloc nilT)) := ((Kept.refl _ w).alloc _).alloc _
  have HI0 := Lib.hid (tri_new (c := c) (cur := cur) hT hA (by rw [← hl]; exact hM.ge))
  have cC := fun W (h : TrI ad n c L cur w.heap.size W) => tcheck_ok (some ad) n c L cur W h.ng hnc h.tabs hM
  have cF := fun W (h : TrI ad n c L cur w.heap.size W) => nfind_any (some ad) n c L cur W h.ng (by omega) hs
  rw [hi] at cF
  obtain ⟨tb, htb⟩ : ∃ tb, w.heap.size = tb := ⟨_, rfl⟩
  have HTB := Lib.hid htb
  rw [htb] at HI0 cC cF
  have HCF := Lib.hid cF
  clear htb hA hT hM hi hl hs cF
  go_enter Tryd.func46, Tryd.ntmps46
  go_upto_region 1 with fail
  simp only [HTB.out]
  simp only [treeO, nilT] at HI0 HK0
  generalize (w.alloc _).alloc _ = w0 at *
  obtain ⟨t0, t1⟩ := HI0.out.cells
  have cC0 := cC w0 HI0.out
  go_upto_region 4 with (go_at_call 59; refine cC0.mono ?_; rintro r w1 ⟨rfl, hk1⟩; have HK1 := Lib.hid (HK0.out.trans hk1); have HI1 := Lib.hid (HI0.out.kept hk1); clear hk1 t0 t1 cC0 cC)
  obtain ⟨t0, t1⟩ := HI1.out.cells
  go_wp2_with (go_at_call 62; refine (HCF.out _ HI1.out).mono ?_; rintro r w2 ⟨rfl, hk2⟩; have HK2 := Lib.hid (HK1.out.trans hk2); have HI2 := Lib.hid (HI1.out.kept hk2); obtain ⟨r0, r1, r2, r3⟩ := tree_facts HI2.out.res; clear hk2 t0 t1)
  refine bodyPost_ret (res_t4 rfl _ _ (tb + 1) (.slice none 0 0) 0 rfl rfl (tree_set HI2.out.res _ _)) rfl ⟨rfl, ?_⟩
  exact HK2.out.fresh (Kept.tree (g := tb + 1) (S := fun q => q = tb + 1) (Kept.refl (fun q => q = tb + 1) w2) rfl _ _) (fun b hb h => by have := HTB.out; omega)
set_option maxRecDepth 100000 in
set_option maxHeartbeats 4000000 in
theorem back_any (ad : Addr) (n c : Nat) (L : List NodeS) (cur : Int) (w : World) (hA : Ng w (some ad) n L) (hnc : n ≤ c) (hT : Tabs w) (hM : MayT L cur) (i p : Nat) (e ep : NodeS) (hi : idx L cur = (i : Nat)) (h0 : i ≠ 0) (he : L[i]? = some e) (hp : idx L e.pa = (p : Nat)) (hep : L[p]? = some ep) :
    Calls Tryd.prog 46 #[treeV (.slice (some ad) n c) cur] w fun r w' => (∃ v, r = .returned (.tuple #[treeV v ep.sq, .string ep.tx, .int .i64 e.at_, .int .i64 0]) ∧ On w' w.heap.size v L) ∧ Kept (fun _ => False) w w' := by
  have hl := hA.len
  have hs := ok_srt hM.ok
  have hle := hM.le
  rw [hl] at hle
  have HK0 : Hid (Kept (fun _ => False) w ((w.alloc (treeO (.slice (some ad) n c) cur)).alloc nilT)) := ((Kept.refl _ w).alloc _).alloc _
  have HI0 := Lib.hid (tri_new (c := c) (cur := cur) hT hA (by rw [← hl]; exact hM.ge))
  have cC := fun W (h : TrI ad n c L cur w.heap.size W) => tcheck_ok (some ad) n c L cur W h.ng hnc h.tabs hM
  have cF := fun W (h : TrI ad n c L cur w.heap.size W) => nfind_any (some ad) n c L cur W h.ng (by omega) hs
  have cP := fun W (h : TrI ad n c L cur w.heap.size W) => nfind_any (some ad) n c L e.pa W h.ng (by omega) hs
  have cT := fun W (h : TrI ad n c L cur w.heap.size W) => to_any (some ad) n c L cur p ep W h.ng (fun h => by cases h) (by omega) hep
  rw [hi] at cF
  rw [hp] at cP
  have HND : Hid (∀ W, TrI ad n c L cur w.heap.size W → Nd4 W (ad.add (i * 4)) e) := fun W h => (h.ng.nd he).2
  have hin : i < n := (hA.nd he).1
  have hpn : p < n := (hA.nd hep).1
  obtain ⟨tb, htb⟩ : ∃ tb, w.heap.size = tb := ⟨_, rfl⟩
  have HTB := Lib.hid htb
  rw [htb] at HI0 cC cF cP cT HND
  have HCF := Lib.hid cF
  have HCP := Lib.hid cP
  have HCT := Lib.hid cT
  have HHL := Lib.hid hl
  clear htb hA hT hM hi hl hs cF cP cT he hp hep
  go_enter Tryd.func46, Tryd.ntmps46
  go_upto_region 1 with fail
  simp only [HTB.out]
  simp only [treeO, nilT] at HI0 HK0
  generalize (w.alloc _).alloc _ = w0 at *
  obtain ⟨t0, t1⟩ := HI0.out.cells
  have cC0 := cC w0 HI0.out
  go_upto_region 4 with (go_at_call 59; refine cC0.mono ?_; rintro r w1 ⟨rfl, hk1⟩; have HK1 := Lib.hid (HK0.out.trans hk1); have HI1 := Lib.hid (HI0.out.kept hk1); clear hk1 t0 t1 cC0 cC)
  obtain ⟨t0, t1⟩ := HI1.out.cells
  have b0 : ((i : Int) == 0) = false := by rw [beq_eq_false_iff_ne]; omega
  go_upto_region 7 with (go_at_call 62; refine (HCF.out _ HI1.out).mono ?_; rintro r w2 ⟨rfl, hk2⟩; have HK2 := Lib.hid (HK1.out.trans hk2); have HI2 := Lib.hid (HI1.out.kept hk2); clear hk2 t0 t1)
  clear b0
  have b1 : (0 : Int) ≤ (i : Int) := by omega
  have b2 : (i : Int) < (n : Int) := by omega
  have KF : Hid (∀ W, Kept (fun q => q = tb + 1) w2 W → W.cell? ⟨tb, 0, none⟩ = some (.slice (some ad) n c) ∧ W.cell? ⟨tb, 1, none⟩ = some (.int .i64 cur) ∧ W.cell? ⟨(ad.add (i * 4)).block, (ad.add (i * 4)).off + 1, none⟩ = some (.int .i64 e.pa) ∧ W.cell? ⟨(ad.add (i * 4)).block, (ad.add (i * 4)).off + 2, none⟩ = some (.int .i64 e.at_)) := by
    show ∀ W, _
    intro W hk
    have h1 := HI2.out.cells
    have h2 := HND.out w2 HI2.out
    have hb : (ad.add (i * 4)).block = ad.block := by unfold Addr.add; split <;> rfl
    have h3 := HI2.out.lt
    exact ⟨cell_kept hk h1.1 (by show ¬ tb = tb + 1; omega), cell_kept hk h1.2 (by show ¬ tb = tb + 1; omega), cell_kept hk h2.c1 (by show ¬ (ad.add (i * 4)).block = tb + 1; omega), cell_kept hk h2.c2 (by show ¬ (ad.add (i * 4)).block = tb + 1; omega)⟩
  have KA := KF.out w2.drew (Kept.refl _ w2).drew
  have HI2d := Lib.hid HI2.out.drew
  go_region_held3 (fun (W : World) => W.cell? ⟨tb, 0, none⟩ = some (.slice (some ad) n c) ∧ W.cell? ⟨tb, 1, none⟩ = some (.int .i64 cur) ∧ W.cell? ⟨(ad.add (i * 4)).block, (ad.add (i * 4)).off + 1, none⟩ = some (.int .i64 e.pa) ∧ W.cell? ⟨(ad.add (i * 4)).block, (ad.add (i * 4)).off + 2, none⟩ = some (.int .i64 e.at_))
    (first | with_reducible exact HKD.out _ _ | with_reducible exact KC | with_reducible exact KB | with_reducible exact KA)
    (first
      | (go_at_call 62; refine (HCP.out _ HI2d.out).mono ?_; rintro r w3 ⟨rfl, hk3⟩; have HI3 := Lib.hid (HI2d.out.kept hk3); have HK3 := Lib.hid ((Kept.refl (fun _ => False) w2).drew.trans hk3); have KB := KF.out w3 HK3.out.any; clear hk3)
      | (go_at_call 63; refine (HCT.out _ HI3.out).mono ?_; rintro r w4 ⟨⟨v, rfl, hO⟩, hk4⟩; obtain ⟨A', c', rfl, _⟩ := hO.slice; have HO := Lib.hid hO; have HI4 := Lib.hid (HI3.out.kept hk4); have HZ := Lib.hid HK3.out.size; have HK4 := Lib.hid (HK3.out.trans hk4); have KC := KF.out w4 HK4.out.any; have HKD := Lib.hid (fun v0 v1 => KF.out _ (Kept.tree (g := tb + 1) (S := fun q => q = tb + 1) HK4.out.any rfl v0 v1)); obtain ⟨r0, r1, r2, r3⟩ := tree_facts HI4.out.res; clear hk4 hO))
  all_goals
    clear r0 r1 r2 r3 KA KB KC
    have HY5 := Lib.hid (tree_set HI4.out.res (.slice A' L.length c') ep.sq)
    have HK5 : Hid (Kept (fun q => q = tb + 1) w4 ((w4.setCell ⟨tb + 1, 0, none⟩ (.slice A' L.length c')).setCell ⟨tb + 1, 1, none⟩ (.int .i64 ep.sq))) := Kept.tree (g := tb + 1) (S := fun q => q = tb + 1) (Kept.refl (fun q => q = tb + 1) w4) rfl _ _
    have KD := HKD.out (.slice A' L.length c') (.int .i64 ep.sq)
    generalize (w4.setCell ⟨tb + 1, 0, none⟩ (.slice A' L.length c')).setCell ⟨tb + 1, 1, none⟩ (.int .i64 ep.sq) = w5 at *
    have KE : w5.drew.cell? ⟨tb, 0, none⟩ = some (.slice (some ad) n c) ∧ w5.drew.cell? ⟨(ad.add (i * 4)).block, (ad.add (i * 4)).off + 2, none⟩ = some (.int .i64 e.at_) ∧ w5.drew.cell? ⟨tb + 1, 0, none⟩ = some (.slice A' L.length c') ∧ w5.drew.cell? ⟨tb + 1, 1, none⟩ = some (.int .i64 ep.sq) := ⟨KD.1, KD.2.2.2, (tree_facts HY5.out).1, (tree_facts HY5.out).2.1⟩
    have k2 : w5.drew.frozen? ⟨tb + 1, 0, none⟩ = false := (tree_facts HY5.out).2.2.1
    have k3 : w5.drew.frozen? ⟨tb + 1, 1, none⟩ = false := (tree_facts HY5.out).2.2.2
    have k6 : w5.cell? ⟨tb + 1, 0, none⟩ = some (.slice A' L.length c') := (tree_facts HY5.out).1
    have k7 : w5.cell? ⟨tb + 1, 1, none⟩ = some (.int .i64 ep.sq) := (tree_facts HY5.out).2.1
    have k4 : w5.frozen? ⟨tb + 1, 0, none⟩ = false := (tree_facts HY5.out).2.2.1
    have k5 : w5.frozen? ⟨tb + 1, 1, none⟩ = false := (tree_facts HY5.out).2.2.2
    have HY6 := Lib.hid (heap_drew' (tree_set HY5.out (.slice A' L.length c') ep.sq))
    have HK6 : Hid (Kept (fun q => q = tb + 1) w5 ((w5.setCell ⟨tb + 1, 0, none⟩ (.slice A' L.length c')).setCell ⟨tb + 1, 1, none⟩ (.int .i64 ep.sq)).drew) := (Kept.tree (g := tb + 1) (S := fun q => q = tb + 1) (Kept.refl (fun q => q = tb + 1) w5) rfl _ _).drew
    have KG : ((w5.setCell ⟨tb + 1, 0, none⟩ (.slice A' L.length c')).setCell ⟨tb + 1, 1, none⟩ (.int .i64 ep.sq)).drew.cell? ⟨tb, 0, none⟩ = some (.slice (some ad) n c) ∧ ((w5.setCell ⟨tb + 1, 0, none⟩ (.slice A' L.length c')).setCell ⟨tb + 1, 1, none⟩ (.int .i64 ep.sq)).drew.cell? ⟨(ad.add (i * 4)).block, (ad.add (i * 4)).off + 2, none⟩ = some (.int .i64 e.at_) ∧ ((w5.setCell ⟨tb + 1, 0, none⟩ (.slice A' L.length c')).setCell ⟨tb + 1, 1, none⟩ (.int .i64 ep.sq)).drew.cell? ⟨tb + 1, 0, none⟩ = some (.slice A' L.length c') ∧ ((w5.setCell ⟨tb + 1, 0, none⟩ (.slice A' L.length c')).setCell ⟨tb + 1, 1, none⟩ (.int .i64 ep.sq)).drew.cell? ⟨tb + 1, 1, none⟩ = some (.int .i64 ep.sq) := by
      have h := KF.out _ (((HK4.out.any (S := fun q => q = tb + 1)).trans HK5.out).trans HK6.out)
      exact ⟨h.1, h.2.2.2, (tree_facts HY6.out).1, (tree_facts HY6.out).2.1⟩
    clear KD
    go_upto_region 8 with fail
    go_region_held3 (fun (W : World) => W.cell? ⟨tb, 0, none⟩ = some (.slice (some ad) n c) ∧ W.cell? ⟨(ad.add (i * 4)).block, (ad.add (i * 4)).off + 2, none⟩ = some (.int .i64 e.at_) ∧ W.cell? ⟨tb + 1, 0, none⟩ = some (.slice A' L.length c') ∧ W.cell? ⟨tb + 1, 1, none⟩ = some (.int .i64 ep.sq))
      (first | with_reducible exact KG | with_reducible exact KE) (fail)
    all_goals
      go_wp2_with fail
      refine bodyPost_ret (res_t4 rfl _ _ (tb + 1) _ ep.sq rfl rfl HY6.out) rfl ⟨⟨_, rfl, ?ho⟩, ?hk⟩
      case ho =>
        have h1 := (HO.out.keptS HK5.out (fun k hk h => by have h1 := heap_lt HI3.out.res; omega)).keptS HK6.out (fun k hk h => by have h1 := heap_lt HI3.out.res; omega)
        exact h1.mono (by have h1 := heap_lt HI3.out.res; have := HTB.out; omega)
      case hk => exact (HK2.out.trans HK4.out).fresh (HK5.out.trans HK6.out) (fun b hb h => by have := HTB.out; omega)
end Go.Proofs.YthbfmdnibijapaaDoor
