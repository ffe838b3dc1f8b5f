/-
  TREES: the way back to the parent.
  MAPS with ints for keys, in memory: looked up; grown; new ones.
  TEXTS MADE OF RUNES: what they read as, and whether they may be; slices of runes, cut, and made texts.
  PATCHES, what they stand on: a range over a string; runes counted.
-/
import Derived.Test.YthbfmdnibijapaaDoorHz03
import Derived.Test.YthbfmdnibijapaaDoorHz00
import Derived.Carry
import Derived.Maps.Own
import Derived.Test.YthbfmdnibijapaaDoorHz01
import Derived.Laws.Cover4
import Derived.Laws.Slices
import Derived.Deep.Slices
import Derived.Test.YthbfmdnibijapaaDoorHz02
import Derived.Test.YthbfmdnibijapaaDoorShelf2
import Derived.Shelf.Utf8.RuneCount
import Derived.Laws.Rows
import Derived.Laws.ResultCell
import Derived.Deep.CutBlock
import Derived.Deep.CutRange
import Derived.Deep.RegionHeld3
import Derived.BigQuiet
set_option linter.unusedVariables false
namespace Go.Proofs.YthbfmdnibijapaaDoor
open Go Go.RowKit

/-- A tree's head in two blocks of the call's own, the nodes elsewhere. -/
structure TrI (ad : Addr) (n c : Nat) (L : List NodeS) (cur : Int) (tb : Nat) (W : World) : Prop where
  tabs : Tabs W
  ng : Ng W (some ad) n L
  box : W.heap[tb]? = some (treeO (.slice (some ad) n c) cur)
  res : W.heap[tb + 1]? = some nilT
  lt : ad.block < tb
theorem TrI.kept {ad : Addr} {n c : Nat} {L : List NodeS} {cur : Int} {tb : Nat} {W W' : World} (h : TrI ad n c L cur tb W) (hk : Kept (fun _ => False) W W') : TrI ad n c L cur tb W' :=
  ⟨h.tabs.kept hk id id, h.ng.kept hk (fun _ _ => id), (hk.block _ (heap_lt h.box) id).trans h.box, (hk.block _ (heap_lt h.res) id).trans h.res, h.lt⟩
theorem TrI.drew {ad : Addr} {n c : Nat} {L : List NodeS} {cur : Int} {tb : Nat} {W : World} (h : TrI ad n c L cur tb W) : TrI ad n c L cur tb W.drew := h.kept (Kept.refl (fun _ => False) W).drew
theorem TrI.cells {ad : Addr} {n c : Nat} {L : List NodeS} {cur : Int} {tb : Nat} {W : World} (h : TrI ad n c L cur tb W) : W.cell? ⟨tb, 0, none⟩ = some (.slice (some ad) n c) ∧ W.cell? ⟨tb, 1, none⟩ = some (.int .i64 cur) := ⟨(tree_facts h.box).1, (tree_facts h.box).2.1⟩
theorem ng_lt {w : World} {ad : Addr} {n : Nat} {L : List NodeS} (h : Ng w (some ad) n L) (hn : 0 < n) : ad.block < w.heap.size := by
  obtain ⟨ad', e, ha, _, h4⟩ := h.at_ hn
  injection ha with ha
  subst ha
  have h0 := h4.c0
  have hb : (ad.add (0 * 4)).block = ad.block := by unfold Addr.add; split <;> rfl
  rcases Nat.lt_or_ge ad.block w.heap.size with h' | h'
  · exact h'
  · simp [World.cell?, hb, Array.getElem?_eq_none h'] at h0
theorem tri_new {ad : Addr} {n c : Nat} {L : List NodeS} {cur : Int} {w : World} (hT : Tabs w) (hA : Ng w (some ad) n L) (hn : 0 < n) : TrI ad n c L cur w.heap.size ((w.alloc (treeO (.slice (some ad) n c) cur)).alloc nilT) :=
  ⟨hT.kept (((Kept.refl (fun _ => False) w).alloc _).alloc _) id id, hA.kept (((Kept.refl (fun _ => False) w).alloc _).alloc _) (fun _ _ => id), heap_two1 w _ _, heap_two2 w _ _, ng_lt hA hn⟩
theorem Ng.nd {w : World} {ad : Addr} {n i : Nat} {L : List NodeS} {e : NodeS} (h : Ng w (some ad) n L) (he : L[i]? = some e) : i < n ∧ Nd4 w (ad.add (i * 4)) e := by
  obtain ⟨ad', ha, h4⟩ := h.at' i e he
  injection ha with ha
  subst ha
  refine ⟨?_, h4⟩
  rcases Nat.lt_or_ge i L.length with h' | h'
  · rw [h.len] at h'; exact h'
  · rw [List.getElem?_eq_none h'] at he; cases he
theorem heap_drew' {w : World} {g : Nat} {o : Option Obj} (h : w.heap[g]? = o) : w.drew.heap[g]? = o := h
set_option maxRecDepth 100000 in
set_option maxHeartbeats 4000000 in
theorem back_root (ad : Addr) (n c : Nat) (L : List NodeS) (cur : Int) (w : World) (hA : Ng w (some ad) n L) (hnc : n ≤ c) (hT : Tabs w) (hM : MayT L cur) (hi : idx L cur = 0) :
    Calls Tryd.prog 46 #[treeV (.slice (some ad) n c) cur] w fun r w' => r = .returned (.tuple #[treeV (.slice none 0 0) 0, .string ⟨#[]⟩, .int .i64 0, .int .i64 6]) ∧ Kept (fun _ => False) w w' := by
  have hl := hA.len
  have hs := ok_srt hM.ok
  have hle := hM.le
  rw [hl] at hle
  have HK0 : Hid (Kept (fun _ => False) w ((w.alloc (treeO (.slice (some ad) n c) cur)).alloc nilT)) := ((Kept.refl _ w).alloc _).alloc _
  have HI0 := Lib.hid (tri_new (c := c) (cur := cur) hT hA (by rw [← hl]; exact hM.ge))
  have cC := fun W (h : TrI ad n c L cur w.heap.size W) => tcheck_ok (some ad) n c L cur W h.ng hnc h.tabs hM
  have cF := fun W (h : TrI ad n c L cur w.heap.size W) => nfind_any (some ad) n c L cur W h.ng (by omega) hs
  rw [hi] at cF
  obtain ⟨tb, htb⟩ : ∃ tb, w.heap.size = tb := ⟨_, rfl⟩
  have HTB := Lib.hid htb
  rw [htb] at HI0 cC cF
  have HCF := Lib.hid cF
  clear htb hA hT hM hi hl hs cF
  go_enter Tryd.func46, Tryd.ntmps46
  go_upto_region 1 with fail
  simp only [HTB.out]
  simp only [treeO, nilT] at HI0 HK0
  generalize (w.alloc _).alloc _ = w0 at *
  obtain ⟨t0, t1⟩ := HI0.out.cells
  have cC0 := cC w0 HI0.out
  go_upto_region 4 with (go_at_call 59; refine cC0.mono ?_; rintro r w1 ⟨rfl, hk1⟩; have HK1 := Lib.hid (HK0.out.trans hk1); have HI1 := Lib.hid (HI0.out.kept hk1); clear hk1 t0 t1 cC0 cC)
  obtain ⟨t0, t1⟩ := HI1.out.cells
  go_wp2_with (go_at_call 62; refine (HCF.out _ HI1.out).mono ?_; rintro r w2 ⟨rfl, hk2⟩; have HK2 := Lib.hid (HK1.out.trans hk2); have HI2 := Lib.hid (HI1.out.kept hk2); obtain ⟨r0, r1, r2, r3⟩ := tree_facts HI2.out.res; clear hk2 t0 t1)
  refine bodyPost_ret (res_t4 rfl _ _ (tb + 1) (.slice none 0 0) 0 rfl rfl (tree_set HI2.out.res _ _)) rfl ⟨rfl, ?_⟩
  exact HK2.out.fresh (Kept.tree (g := tb + 1) (S := fun q => q = tb + 1) (Kept.refl (fun q => q = tb + 1) w2) rfl _ _) (fun b hb h => by have := HTB.out; omega)
set_option maxRecDepth 100000 in
set_option maxHeartbeats 4000000 in
theorem back_any (ad : Addr) (n c : Nat) (L : List NodeS) (cur : Int) (w : World) (hA : Ng w (some ad) n L) (hnc : n ≤ c) (hT : Tabs w) (hM : MayT L cur) (i p : Nat) (e ep : NodeS) (hi : idx L cur = (i : Nat)) (h0 : i ≠ 0) (he : L[i]? = some e) (hp : idx L e.pa = (p : Nat)) (hep : L[p]? = some ep) :
    Calls Tryd.prog 46 #[treeV (.slice (some ad) n c) cur] w fun r w' => (∃ v, r = .returned (.tuple #[treeV v ep.sq, .string ep.tx, .int .i64 e.at_, .int .i64 0]) ∧ On w' w.heap.size v L) ∧ Kept (fun _ => False) w w' := by
  have hl := hA.len
  have hs := ok_srt hM.ok
  have hle := hM.le
  rw [hl] at hle
  have HK0 : Hid (Kept (fun _ => False) w ((w.alloc (treeO (.slice (some ad) n c) cur)).alloc nilT)) := ((Kept.refl _ w).alloc _).alloc _
  have HI0 := Lib.hid (tri_new (c := c) (cur := cur) hT hA (by rw [← hl]; exact hM.ge))
  have cC := fun W (h : TrI ad n c L cur w.heap.size W) => tcheck_ok (some ad) n c L cur W h.ng hnc h.tabs hM
  have cF := fun W (h : TrI ad n c L cur w.heap.size W) => nfind_any (some ad) n c L cur W h.ng (by omega) hs
  have cP := fun W (h : TrI ad n c L cur w.heap.size W) => nfind_any (some ad) n c L e.pa W h.ng (by omega) hs
  have cT := fun W (h : TrI ad n c L cur w.heap.size W) => to_any (some ad) n c L cur p ep W h.ng (fun h => by cases h) (by omega) hep
  rw [hi] at cF
  rw [hp] at cP
  have HND : Hid (∀ W, TrI ad n c L cur w.heap.size W → Nd4 W (ad.add (i * 4)) e) := fun W h => (h.ng.nd he).2
  have hin : i < n := (hA.nd he).1
  have hpn : p < n := (hA.nd hep).1
  obtain ⟨tb, htb⟩ : ∃ tb, w.heap.size = tb := ⟨_, rfl⟩
  have HTB := Lib.hid htb
  rw [htb] at HI0 cC cF cP cT HND
  have HCF := Lib.hid cF
  have HCP := Lib.hid cP
  have HCT := Lib.hid cT
  have HHL := Lib.hid hl
  clear htb hA hT hM hi hl hs cF cP cT he hp hep
  go_enter Tryd.func46, Tryd.ntmps46
  go_upto_region 1 with fail
  simp only [HTB.out]
  simp only [treeO, nilT] at HI0 HK0
  generalize (w.alloc _).alloc _ = w0 at *
  obtain ⟨t0, t1⟩ := HI0.out.cells
  have cC0 := cC w0 HI0.out
  go_upto_region 4 with (go_at_call 59; refine cC0.mono ?_; rintro r w1 ⟨rfl, hk1⟩; have HK1 := Lib.hid (HK0.out.trans hk1); have HI1 := Lib.hid (HI0.out.kept hk1); clear hk1 t0 t1 cC0 cC)
  obtain ⟨t0, t1⟩ := HI1.out.cells
  have b0 : ((i : Int) == 0) = false := by rw [beq_eq_false_iff_ne]; omega
  go_upto_region 7 with (go_at_call 62; refine (HCF.out _ HI1.out).mono ?_; rintro r w2 ⟨rfl, hk2⟩; have HK2 := Lib.hid (HK1.out.trans hk2); have HI2 := Lib.hid (HI1.out.kept hk2); clear hk2 t0 t1)
  clear b0
  have b1 : (0 : Int) ≤ (i : Int) := by omega
  have b2 : (i : Int) < (n : Int) := by omega
  have KF : Hid (∀ W, Kept (fun q => q = tb + 1) w2 W → W.cell? ⟨tb, 0, none⟩ = some (.slice (some ad) n c) ∧ W.cell? ⟨tb, 1, none⟩ = some (.int .i64 cur) ∧ W.cell? ⟨(ad.add (i * 4)).block, (ad.add (i * 4)).off + 1, none⟩ = some (.int .i64 e.pa) ∧ W.cell? ⟨(ad.add (i * 4)).block, (ad.add (i * 4)).off + 2, none⟩ = some (.int .i64 e.at_)) := by
    show ∀ W, _
    intro W hk
    have h1 := HI2.out.cells
    have h2 := HND.out w2 HI2.out
    have hb : (ad.add (i * 4)).block = ad.block := by unfold Addr.add; split <;> rfl
    have h3 := HI2.out.lt
    exact ⟨cell_kept hk h1.1 (by show ¬ tb = tb + 1; omega), cell_kept hk h1.2 (by show ¬ tb = tb + 1; omega), cell_kept hk h2.c1 (by show ¬ (ad.add (i * 4)).block = tb + 1; omega), cell_kept hk h2.c2 (by show ¬ (ad.add (i * 4)).block = tb + 1; omega)⟩
  have KA := KF.out w2.drew (Kept.refl _ w2).drew
  have HI2d := Lib.hid HI2.out.drew
  go_region_held3 (fun (W : World) => W.cell? ⟨tb, 0, none⟩ = some (.slice (some ad) n c) ∧ W.cell? ⟨tb, 1, none⟩ = some (.int .i64 cur) ∧ W.cell? ⟨(ad.add (i * 4)).block, (ad.add (i * 4)).off + 1, none⟩ = some (.int .i64 e.pa) ∧ W.cell? ⟨(ad.add (i * 4)).block, (ad.add (i * 4)).off + 2, none⟩ = some (.int .i64 e.at_))
    (first | with_reducible exact HKD.out _ _ | with_reducible exact KC | with_reducible exact KB | with_reducible exact KA)
    (first
      | (go_at_call 62; refine (HCP.out _ HI2d.out).mono ?_; rintro r w3 ⟨rfl, hk3⟩; have HI3 := Lib.hid (HI2d.out.kept hk3); have HK3 := Lib.hid ((Kept.refl (fun _ => False) w2).drew.trans hk3); have KB := KF.out w3 HK3.out.any; clear hk3)
      | (go_at_call 63; refine (HCT.out _ HI3.out).mono ?_; rintro r w4 ⟨⟨v, rfl, hO⟩, hk4⟩; obtain ⟨A', c', rfl, _⟩ := hO.slice; have HO := Lib.hid hO; have HI4 := Lib.hid (HI3.out.kept hk4); have HZ := Lib.hid HK3.out.size; have HK4 := Lib.hid (HK3.out.trans hk4); have KC := KF.out w4 HK4.out.any; have HKD := Lib.hid (fun v0 v1 => KF.out _ (Kept.tree (g := tb + 1) (S := fun q => q = tb + 1) HK4.out.any rfl v0 v1)); obtain ⟨r0, r1, r2, r3⟩ := tree_facts HI4.out.res; clear hk4 hO))
  all_goals
    clear r0 r1 r2 r3 KA KB KC
    have HY5 := Lib.hid (tree_set HI4.out.res (.slice A' L.length c') ep.sq)
    have HK5 : Hid (Kept (fun q => q = tb + 1) w4 ((w4.setCell ⟨tb + 1, 0, none⟩ (.slice A' L.length c')).setCell ⟨tb + 1, 1, none⟩ (.int .i64 ep.sq))) := Kept.tree (g := tb + 1) (S := fun q => q = tb + 1) (Kept.refl (fun q => q = tb + 1) w4) rfl _ _
    have KD := HKD.out (.slice A' L.length c') (.int .i64 ep.sq)
    generalize (w4.setCell ⟨tb + 1, 0, none⟩ (.slice A' L.length c')).setCell ⟨tb + 1, 1, none⟩ (.int .i64 ep.sq) = w5 at *
    have KE : w5.drew.cell? ⟨tb, 0, none⟩ = some (.slice (some ad) n c) ∧ w5.drew.cell? ⟨(ad.add (i * 4)).block, (ad.add (i * 4)).off + 2, none⟩ = some (.int .i64 e.at_) ∧ w5.drew.cell? ⟨tb + 1, 0, none⟩ = some (.slice A' L.length c') ∧ w5.drew.cell? ⟨tb + 1, 1, none⟩ = some (.int .i64 ep.sq) := ⟨KD.1, KD.2.2.2, (tree_facts HY5.out).1, (tree_facts HY5.out).2.1⟩
    have k2 : w5.drew.frozen? ⟨tb + 1, 0, none⟩ = false := (tree_facts HY5.out).2.2.1
    have k3 : w5.drew.frozen? ⟨tb + 1, 1, none⟩ = false := (tree_facts HY5.out).2.2.2
    have k6 : w5.cell? ⟨tb + 1, 0, none⟩ = some (.slice A' L.length c') := (tree_facts HY5.out).1
    have k7 : w5.cell? ⟨tb + 1, 1, none⟩ = some (.int .i64 ep.sq) := (tree_facts HY5.out).2.1
    have k4 : w5.frozen? ⟨tb + 1, 0, none⟩ = false := (tree_facts HY5.out).2.2.1
    have k5 : w5.frozen? ⟨tb + 1, 1, none⟩ = false := (tree_facts HY5.out).2.2.2
    have HY6 := Lib.hid (heap_drew' (tree_set HY5.out (.slice A' L.length c') ep.sq))
    have HK6 : Hid (Kept (fun q => q = tb + 1) w5 ((w5.setCell ⟨tb + 1, 0, none⟩ (.slice A' L.length c')).setCell ⟨tb + 1, 1, none⟩ (.int .i64 ep.sq)).drew) := (Kept.tree (g := tb + 1) (S := fun q => q = tb + 1) (Kept.refl (fun q => q = tb + 1) w5) rfl _ _).drew
    have KG : ((w5.setCell ⟨tb + 1, 0, none⟩ (.slice A' L.length c')).setCell ⟨tb + 1, 1, none⟩ (.int .i64 ep.sq)).drew.cell? ⟨tb, 0, none⟩ = some (.slice (some ad) n c) ∧ ((w5.setCell ⟨tb + 1, 0, none⟩ (.slice A' L.length c')).setCell ⟨tb + 1, 1, none⟩ (.int .i64 ep.sq)).drew.cell? ⟨(ad.add (i * 4)).block, (ad.add (i * 4)).off + 2, none⟩ = some (.int .i64 e.at_) ∧ ((w5.setCell ⟨tb + 1, 0, none⟩ (.slice A' L.length c')).setCell ⟨tb + 1, 1, none⟩ (.int .i64 ep.sq)).drew.cell? ⟨tb + 1, 0, none⟩ = some (.slice A' L.length c') ∧ ((w5.setCell ⟨tb + 1, 0, none⟩ (.slice A' L.length c')).setCell ⟨tb + 1, 1, none⟩ (.int .i64 ep.sq)).drew.cell? ⟨tb + 1, 1, none⟩ = some (.int .i64 ep.sq) := by
      have h := KF.out _ (((HK4.out.any (S := fun q => q = tb + 1)).trans HK5.out).trans HK6.out)
      exact ⟨h.1, h.2.2.2, (tree_facts HY6.out).1, (tree_facts HY6.out).2.1⟩
    clear KD
    go_upto_region 8 with fail
    go_region_held3 (fun (W : World) => W.cell? ⟨tb, 0, none⟩ = some (.slice (some ad) n c) ∧ W.cell? ⟨(ad.add (i * 4)).block, (ad.add (i * 4)).off + 2, none⟩ = some (.int .i64 e.at_) ∧ W.cell? ⟨tb + 1, 0, none⟩ = some (.slice A' L.length c') ∧ W.cell? ⟨tb + 1, 1, none⟩ = some (.int .i64 ep.sq))
      (first | with_reducible exact KG | with_reducible exact KE) (fail)
    all_goals
      go_wp2_with fail
      refine bodyPost_ret (res_t4 rfl _ _ (tb + 1) _ ep.sq rfl rfl HY6.out) rfl ⟨⟨_, rfl, ?ho⟩, ?hk⟩
      case ho =>
        have h1 := (HO.out.keptS HK5.out (fun k hk h => by have h1 := heap_lt HI3.out.res; omega)).keptS HK6.out (fun k hk h => by have h1 := heap_lt HI3.out.res; omega)
        exact h1.mono (by have h1 := heap_lt HI3.out.res; have := HTB.out; omega)
      case hk => exact (HK2.out.trans HK4.out).fresh (HK5.out.trans HK6.out) (fun b hb h => by have := HTB.out; omega)
end Go.Proofs.YthbfmdnibijapaaDoor
namespace Go.Proofs.YthbfmdnibijapaaDoor
open Go Go.RowKit Go.Maps

/-- A map in memory, its entries in the order in which they came. -/
def MapI (W : World) (b : Nat) (kv : List (Int × Value)) : Prop := ∃ (es : Array MapEntry) (clock : Nat), W.heap[b]? = some (.map es clock) ∧ es.toList.map (fun e => (e.key, e.val)) = kv.map (fun p => (Value.int .i64 p.1, p.2))
theorem MapI.kept {W W' : World} {S : Nat → Prop} {b : Nat} {kv : List (Int × Value)} (h : MapI W b kv) (hk : Kept S W W') (hS : ¬ S b) : MapI W' b kv := by
  obtain ⟨es, clock, h1, h2⟩ := h
  exact ⟨es, clock, (hk.block b (heap_lt h1) hS).trans h1, h2⟩
theorem findNow_has : ∀ (es : List MapEntry) (kv : List (Int × Value)) (i : Nat) (k : Int) (v : Value), es.map (fun e => (e.key, e.val)) = kv.map (fun p => (Value.int .i64 p.1, p.2)) → kv.lookup k = some v → ∃ j, Instr.findNow (.int .i64) (.int .i64 k) es i = some (some (j, v))
  | [], kv, i, k, v, h, hl => by
    cases kv with
    | nil => cases hl
    | cons p kv => simp at h
  | e :: es, kv, i, k, v, h, hl => by
    cases kv with
    | nil => simp at h
    | cons p kv =>
      simp only [List.map_cons, List.cons.injEq, Prod.mk.injEq] at h
      obtain ⟨⟨h1, h2⟩, h3⟩ := h
      simp only [Instr.findNow, h1, Instr.sameNow, if_true]
      rw [List.lookup_cons] at hl
      cases hk : (k == p.1) with
      | true =>
        rw [hk] at hl
        simp only [Option.some.injEq] at hl
        exact ⟨i, by simp only [h2, hl]⟩
      | false =>
        rw [hk] at hl
        obtain ⟨j, hj⟩ := findNow_has es kv (i + 1) k v h3 hl
        exact ⟨j, by simp only [hj]⟩
theorem findNow_not : ∀ (es : List MapEntry) (kv : List (Int × Value)) (i : Nat) (k : Int), es.map (fun e => (e.key, e.val)) = kv.map (fun p => (Value.int .i64 p.1, p.2)) → kv.lookup k = none → Instr.findNow (.int .i64) (.int .i64 k) es i = some none
  | [], kv, i, k, h, hl => by simp [Instr.findNow]
  | e :: es, kv, i, k, h, hl => by
    cases kv with
    | nil => simp at h
    | cons p kv =>
      simp only [List.map_cons, List.cons.injEq, Prod.mk.injEq] at h
      obtain ⟨⟨h1, h2⟩, h3⟩ := h
      simp only [Instr.findNow, h1, Instr.sameNow, if_true]
      rw [List.lookup_cons] at hl
      cases hk : (k == p.1) with
      | true => rw [hk] at hl; cases hl
      | false =>
        rw [hk] at hl
        simp only
        exact findNow_not es kv (i + 1) k h3 hl
section
variable {P : Program} {T K E : TypeId}
theorem MapI.get (ht : P.underlying T = some (.map K E)) (hK : P.underlying K = some (.int .i64)) {W : World} {b : Nat} {kv : List (Int × Value)} (h : MapI W b kv) {k : Int} {v : Value} (hw : (Lit.int .i64 k).wf = true) (hl : kv.lookup k = some v) :
    (Instr.lookup T (.map (some b)) (.int .i64 k) false).run P W = .ok v W := by
  obtain ⟨es, clock, h1, h2⟩ := h
  obtain ⟨j, hj⟩ := findNow_has es.toList kv 0 k v h2 hl
  have hf : (Instr.findKey K (.int .i64 k) es.toList).run P W = .ok (some (j, v)) W := by simp [Instr.findKey, run_underlying hK, hj, Result.andThen]
  simp [Instr.lookup, run_underlying ht, MapKept.run_getObj_map h1, (int_keyed hK).check W _ (keyOf_int_mk hK hw), hf, Result.andThen]
theorem MapI.put (ht : P.underlying T = some (.map K E)) (hK : P.underlying K = some (.int .i64)) {W : World} {b : Nat} {kv : List (Int × Value)} (h : MapI W b kv) {k : Int} (v : Value) (hw : (Lit.int .i64 k).wf = true) (hl : kv.lookup k = none) :
    ∃ W', (Instr.mapUpdate T (.map (some b)) (.int .i64 k) v).run P W = .ok () W' ∧ MapI W' b (kv ++ [(k, v)]) ∧ Kept (fun q => q = b) W W' := by
  obtain ⟨es, clock, h1, h2⟩ := h
  have hj := findNow_not es.toList kv 0 k h2 hl
  have hlt := heap_lt h1
  refine ⟨{ W with heap := W.heap.setIfInBounds b (.map (es.push ⟨.int .i64 k, v, clock⟩) (clock + 1)) }, ?_, ⟨es.push ⟨.int .i64 k, v, clock⟩, clock + 1, by simp [hlt], by simp [h2]⟩, ⟨rfl, rfl, rfl, by simp, fun q hq hne => by simp [Ne.symm hne]⟩⟩
  have hf : (Instr.findKey K (.int .i64 k) es.toList).run P W = .ok none W := by simp [Instr.findKey, run_underlying hK, hj, Result.andThen]
  simp [Instr.mapUpdate, run_underlying ht, MapKept.run_getObj_map h1, (int_keyed hK).check W _ (keyOf_int_mk hK hw), hf, Result.andThen, setObj, Sem.run, h1]
theorem MapI.new (W : World) : MapI (W.alloc (.map #[] 0)) W.heap.size [] := ⟨#[], 0, heap_alloc_new W _, rfl⟩
end
end Go.Proofs.YthbfmdnibijapaaDoor
namespace Go.Proofs.YthbfmdnibijapaaDoor
open Go Go.RowKit

/-- Runes that a rune of a text may be. -/
def Vld (t : List Int) : Prop := ∀ r ∈ t, Utf8.valid r = true
theorem Vld.append {a b : List Int} (ha : Vld a) (hb : Vld b) : Vld (a ++ b) := fun r hr => (List.mem_append.1 hr).elim (ha r) (hb r)
theorem Vld.sub {a t : List Int} (h : Vld t) (hs : ∀ r ∈ a, r ∈ t) : Vld a := fun r hr => h r (hs r hr)
theorem rs_vld {s : ByteArray} (h : mayB s = true) : Vld (rs s) := Utf.valid_runes (mayB_valid h)
theorem txt_list (t : List Int) : (runesBytes t).data.toList = Utf.bytes t := Utf.runesBytes_eq t
theorem rs_txt {t : List Int} (h : Vld t) : rs (runesBytes t) = t := by
  unfold rs
  rw [txt_list]
  exact Utf.runes_bytes t h
theorem ba_ext {a b : ByteArray} (h : a.data.toList = b.data.toList) : a = b := by
  cases a; cases b
  simp only [ByteArray.mk.injEq]
  exact Array.ext' h
theorem txt_rs {s : ByteArray} (h : mayB s = true) : runesBytes (rs s) = s := by
  apply ba_ext
  rw [txt_list]
  exact Utf.bytes_runes (mayB_valid h)
theorem txt_append (a b : List Int) : runesBytes a ++ runesBytes b = runesBytes (a ++ b) := by
  apply ba_ext
  rw [txt_list, Utf.bytes_append]
  simp [txt_list]
theorem txt_size (t : List Int) : (runesBytes t).size = (Utf.bytes t).length := by
  rw [← txt_list]
  exact (Lib.size_eq _)
theorem bytes_sub {a t : List Int} (h : List.Sublist a t) : (Utf.bytes a).length ≤ (Utf.bytes t).length := by
  induction h with
  | slnil => exact Nat.le_refl _
  | cons n _ ih =>
    show _ ≤ (Utf.enc n ++ Utf.bytes _).length
    rw [List.length_append]
    omega
  | cons_cons n _ ih =>
    show (Utf.enc n ++ Utf.bytes _).length ≤ (Utf.enc n ++ Utf.bytes _).length
    rw [List.length_append, List.length_append]
    omega
/-- No byte is 0 where no rune is. -/
theorem enc_zero {n : Int} (hv : Utf8.valid n = true) (h0 : n ≠ 0) : ∀ b ∈ Utf.enc n, b ≠ 0 := by
  have hn := Utf.int_valid hv
  obtain ⟨c, rfl⟩ := Int.eq_ofNat_of_zero_le (show 0 ≤ n by omega)
  rw [Utf.enc_of hv]
  intro b hb e
  subst e
  have hz : ∀ m, m < 256 → (0 : UInt8) = UInt8.ofNat m → m = 0 := fun m hm h => by
    have := congrArg UInt8.toNat h
    rw [Utf.toNat_ofNat hm] at this
    simpa using this.symm
  by_cases h1 : c < 128
  · rw [if_pos h1] at hb
    simp only [List.mem_singleton] at hb
    have := hz c (by omega) hb
    omega
  rw [if_neg h1] at hb
  by_cases h2 : c < 2048
  · rw [if_pos h2] at hb
    simp only [List.mem_cons, List.not_mem_nil, or_false] at hb
    rcases hb with hb | hb
    · have := hz _ (by omega) hb; omega
    · have := hz _ (by omega) hb; omega
  rw [if_neg h2] at hb
  by_cases h3 : c < 65536
  · rw [if_pos h3] at hb
    simp only [List.mem_cons, List.not_mem_nil, or_false] at hb
    rcases hb with hb | hb | hb
    · have := hz _ (by omega) hb; omega
    · have := hz _ (by omega) hb; omega
    · have := hz _ (by omega) hb; omega
  rw [if_neg h3] at hb
  simp only [List.mem_cons, List.not_mem_nil, or_false] at hb
  rcases hb with hb | hb | hb | hb
  · have := hz _ (by omega) hb; omega
  · have := hz _ (by omega) hb; omega
  · have := hz _ (by omega) hb; omega
  · have := hz _ (by omega) hb; omega
theorem bytes_zero {t : List Int} (hv : Vld t) (h0 : (0 : Int) ∉ t) : ∀ b ∈ Utf.bytes t, b ≠ 0 := by
  induction t with
  | nil => intro b hb; cases hb
  | cons n t ih =>
    intro b hb
    have hb' : b ∈ Utf.enc n ++ Utf.bytes t := hb
    rcases List.mem_append.1 hb' with h | h
    · exact enc_zero (hv n (by simp)) (fun e => h0 (by simp [e])) b h
    · exact ih (fun r hr => hv r (by simp [hr])) (fun h => h0 (by simp [h])) b h
theorem rs_zero {s : ByteArray} (h : mayB s = true) : (0 : Int) ∉ rs s := by
  intro hz
  have h1 := mayB_zero h
  have h2 := Utf.bytes_runes (mayB_valid h)
  rw [← h2] at h1
  have : ∀ t : List Int, (0 : Int) ∈ t → (0 : UInt8) ∈ Utf.bytes t := by
    intro t
    induction t with
    | nil => intro h; cases h
    | cons n t ih =>
      intro h
      show (0 : UInt8) ∈ Utf.enc n ++ Utf.bytes t
      rcases List.mem_cons.1 h with h | h
      · subst h
        exact List.mem_append_left _ (by decide)
      · exact List.mem_append_right _ (ih h)
  exact h1 0 (this _ hz) rfl
/-- A text may be, if its runes may, none is 0, and it isn't too long. -/
theorem may_txt {t : List Int} (hv : Vld t) (h0 : (0 : Int) ∉ t) : mayB (runesBytes t) = decide ((Utf.bytes t).length ≤ 4000) := by
  unfold mayB
  rw [txt_list, txt_size, Utf.valid_bytes t hv, Bool.and_true]
  have : (Utf.bytes t).all (fun b => b != 0) = true := List.all_eq_true.2 fun b hb => by simpa using bytes_zero hv h0 b hb
  rw [this, Bool.and_true]
/-- Of what a text has, with something left out, a text may be made. -/
theorem may_sub {s : ByteArray} {t : List Int} (h : mayB s = true) (hs : List.Sublist t (rs s)) : mayB (runesBytes t) = true := by
  have hsz := mayB_size h
  have e := Utf.bytes_runes (mayB_valid h)
  have hl := bytes_sub hs
  have h2 : (Utf.bytes (rs s)).length = s.size := by
    unfold rs
    rw [e]
    exact (Lib.size_eq s).symm
  rw [may_txt ((rs_vld h).sub fun r hr => hs.subset hr) (fun hz => rs_zero h (hs.subset hz)), decide_eq_true_eq]
  omega

/-- A slice, cut: where it begins. -/
def cutB (A : Option Addr) (c lo : Nat) : Option Addr := if c = lo then A else A.map (·.add lo)
set_option maxRecDepth 100000 in
theorem run_cut_lh (w : World) (A : Option Addr) (n c lo hi : Nat) (L H : Int) (hL : L = lo) (hH : H = hi) (h1 : lo ≤ hi) (h2 : hi ≤ c) :
    (Instr.slice 105 (.slice A n c) (some (.int .i64 L)) (some (.int .i64 H)) none).run Tryd.prog w = .ok (.slice (cutB A c lo) (hi - lo) (c - lo)) w := by
  subst hL hH
  rw [run_slice_lh (P := Tryd.prog) w 105 A n c Tryd.underlying105 .i64 .i64 _ _ (by omega) (by omega) (by omega)]
  have hz : ((sizeOf (Tryd.prog.elem 105)).run Tryd.prog w) = .ok 1 w := by kernel_rfl
  rw [hz]
  simp [Result.andThen, sliced, cutB]
set_option maxRecDepth 100000 in
theorem run_cut_h (w : World) (A : Option Addr) (n c hi : Nat) (H : Int) (hH : H = hi) (h2 : hi ≤ c) :
    (Instr.slice 105 (.slice A n c) none (some (.int .i64 H)) none).run Tryd.prog w = .ok (.slice (cutB A c 0) hi c) w := by
  subst hH
  rw [run_slice_h (P := Tryd.prog) w 105 A n c Tryd.underlying105 .i64 _ (by omega) (by omega)]
  have hz : ((sizeOf (Tryd.prog.elem 105)).run Tryd.prog w) = .ok 1 w := by kernel_rfl
  rw [hz]
  simp [Result.andThen, sliced, cutB]
set_option maxRecDepth 100000 in
theorem run_cut_l (w : World) (A : Option Addr) (n c lo : Nat) (L : Int) (hL : L = lo) (h1 : lo ≤ n) (h2 : n ≤ c) :
    (Instr.slice 105 (.slice A n c) (some (.int .i64 L)) none none).run Tryd.prog w = .ok (.slice (cutB A c lo) (n - lo) (c - lo)) w := by
  subst hL
  rw [run_slice_l (P := Tryd.prog) w 105 A n c Tryd.underlying105 .i64 _ (by omega) (by omega)]
  have hz : ((sizeOf (Tryd.prog.elem 105)).run Tryd.prog w) = .ok 1 w := by kernel_rfl
  rw [hz]
  simp [Result.andThen, sliced, cutB]
theorem Rn.cut {w : World} {A : Option Addr} {n c lo hi : Nat} {t : List Int} (h : Rn w A n t) (h1 : lo ≤ hi) (h2 : hi ≤ n) (hc : n ≤ c) : Rn w (cutB A c lo) (hi - lo) ((t.take hi).drop lo) := by
  have hl := h.1
  refine ⟨by rw [List.length_drop, List.length_take, hl]; omega, fun j x hj => ?_⟩
  rw [List.getElem?_drop, List.getElem?_take] at hj
  split at hj
  · rename_i hlt
    obtain ⟨ad, rfl, hcl⟩ := h.2 (lo + j) x hj
    unfold cutB
    rw [if_neg (by omega)]
    exact ⟨ad.add lo, rfl, by rw [Go.Deep.add_add]; exact hcl⟩
  · cases hj
theorem Rn.form {w : World} {A : Option Addr} {n : Nat} {t : List Int} (h : Rn w A n t) (hA : A = none) : n = 0 := by
  have hl := h.1
  subst hA
  cases t with
  | nil => simpa using hl.symm
  | cons x t =>
    obtain ⟨ad, e, _⟩ := h.2 0 x rfl
    cases e

set_option maxRecDepth 100000 in
theorem run_txt {w : World} {A : Option Addr} {n c : Nat} {t : List Int} (h : Rn w A n t) : (convert 105 9 (.slice A n c)).run Tryd.prog w = .ok (.string (runesBytes t)) w := by
  cases A with
  | none =>
    have h0 := h.form rfl
    have hl := h.1
    have : t = [] := List.eq_nil_of_length_eq_zero (by omega)
    subst this
    rw [run_convert_runes_nil w 105 9 21 _ _ Tryd.underlying105 Tryd.underlying21 Tryd.underlying9]
    rfl
  | some ad =>
    have h2 := run_convert_runes (P := Tryd.prog) w 105 9 21 ad n c t (by have := h.1; omega) Tryd.underlying105 Tryd.underlying21 Tryd.underlying9 (fun j hj => by
      obtain ⟨ad2, e, hc⟩ := h.2 j t[j] (List.getElem?_eq_getElem hj)
      injection e with e
      subst e
      rw [hc]
      simp [List.getD, hj])
    rw [List.take_of_length_le (by have := h.1; omega)] at h2
    exact h2
theorem conv_rn (s : ByteArray) (w : World) (h : (Utf.runes s.data.toList).length ≤ 70368744177664) : ∃ cap w', (Utf.runes s.data.toList).length ≤ cap ∧
    (convert 9 105 (.string s)).run Tryd.prog w = .ok (.slice (some ⟨w.heap.size, 0, none⟩) (Utf.runes s.data.toList).length cap) w' ∧ Kept (fun _ => False) w w' ∧ w.heap.size < w'.heap.size ∧
    Rn w' (some ⟨w.heap.size, 0, none⟩) (Utf.runes s.data.toList).length (Utf.runes s.data.toList) := by
  have e := Utf.convRunes_eq s
  have hz : (Conv.runesFrom s s.size 0 #[]).size = (Utf.runes s.data.toList).length := by rw [e]; simp
  have hrun := run_runes_of_string (P := Tryd.prog) w 9 105 21 s Tryd.underlying9 Tryd.underlying105 Tryd.underlying21 (by rw [hz]; exact h)
  rw [hz] at hrun
  refine ⟨_, _, ?_, hrun, ((Kept.refl _ w).drew).alloc _, by simp, rfl, fun j x hj => ⟨_, rfl, ?_⟩⟩
  · have := grownCap_ge w (Utf.runes s.data.toList).length 0 21
    omega
  · have hh : (w.drew.alloc (.cells (Conv.runesFrom s s.size 0 #[] ++ Array.replicate (grownCap w (Utf.runes s.data.toList).length 0 21 - (Utf.runes s.data.toList).length) (.int .i32 0)) 21)).heap[w.heap.size]? = _ := heap_alloc_new w.drew _
    rw [addr_add, cell_of_row _ _ _ _ _ _ hh, e]
    have hl : j < (Utf.runes s.data.toList).length := by
      by_cases hl : j < (Utf.runes s.data.toList).length
      · exact hl
      · rw [List.getElem?_eq_none (by omega)] at hj; cases hj
    simp [Array.getElem?_append, hl]
    rw [List.getElem?_eq_getElem hl] at hj
    injection hj

theorem conv_rs (s : ByteArray) (w : World) (h : s.size ≤ 70368744177664) : ∃ cap w', (rs s).length ≤ cap ∧
    (convert 9 105 (.string s)).run Tryd.prog w = .ok (.slice (some ⟨w.heap.size, 0, none⟩) (rs s).length cap) w' ∧ Kept (fun _ => False) w w' ∧ w.heap.size < w'.heap.size ∧
    Rn w' (some ⟨w.heap.size, 0, none⟩) (rs s).length (rs s) := conv_rn s w (by have := rs_len s; unfold rs at this; omega)
end Go.Proofs.YthbfmdnibijapaaDoor
namespace Go.Proofs.YthbfmdnibijapaaDoor
open Go Go.RowKit

/-- The iterator set on. -/
def setIter (w : World) (g : Nat) (s : ByteArray) (pos : Nat) : World := { w with heap := w.heap.setIfInBounds g (.stringIter s pos) }
theorem run_next_at (w : World) (g : Nat) (s : ByteArray) (pos : Nat) (ty : TypeId) (hg : w.heap[g]? = some (.stringIter s pos)) (hp : pos < s.size) :
    (Instr.next (.pointer (some ⟨g, 0, none⟩)) true ty).run Tryd.prog w = .ok (.tuple #[.bool true, .int .i64 pos, .int .i32 (Utf8.decode s pos).1]) (setIter w g s (pos + (Utf8.decode s pos).2)) := by
  simp only [Instr.next, getObj, setObj, Sem.run_bind, Sem.run, hg, Result.andThen, hp, if_true]
  simp [goInt, setIter]
theorem run_next_done (w : World) (g : Nat) (s : ByteArray) (pos : Nat) (ty : TypeId) (hg : w.heap[g]? = some (.stringIter s pos)) (hp : ¬ pos < s.size) :
    (Instr.next (.pointer (some ⟨g, 0, none⟩)) true ty).run Tryd.prog w = .ok (.tuple #[.bool false]) w := by
  simp [Instr.next, getObj, Sem.run, hg, hp]
theorem iter_same {w : World} {g : Nat} {o : Obj} {s : ByteArray} {pos : Nat} (h : w.heap[g]? = some o) : (setIter w g s pos).heap[g]? = some (.stringIter s pos) := by
  have := heap_lt h
  simp [setIter, this]
theorem iter_far {w : World} {g b : Nat} {s : ByteArray} {pos : Nat} (h : b ≠ g) : (setIter w g s pos).heap[b]? = w.heap[b]? := by
  simp [setIter, Ne.symm h]
theorem Kept.iter (w : World) (g : Nat) (s : ByteArray) (pos : Nat) : Kept (fun b => b = g) w (setIter w g s pos) :=
  ⟨rfl, rfl, rfl, by simp [setIter], fun k _ hk => iter_far hk⟩
theorem iterPos_at {w : World} {g : Nat} {s : ByteArray} {pos : Nat} (h : w.heap[g]? = some (.stringIter s pos)) : w.iterPos g = pos := by
  unfold World.iterPos
  rw [h]
theorem count_from (s : ByteArray) : ∀ (b pos : Nat), s.size ≤ pos + b → Lib.runeCountFrom s b pos = (Utf.runes (s.data.toList.drop pos)).length
  | 0, pos, h => by rw [rune_end s pos (by omega)]; rfl
  | b + 1, pos, h => by
    by_cases hp : pos < s.size
    · have hw := Lib.decode_width_pos s pos hp
      have ih := count_from s b (pos + (Utf8.decode s pos).2) (by omega)
      have e : Lib.runeCountFrom s (b + 1) pos = 1 + Lib.runeCountFrom s b (pos + (Utf8.decode s pos).2) := by
        rw [Lib.runeCountFrom, if_pos hp]
      rw [rune_at s pos hp, List.length_cons, ← ih, e]
      omega
    · rw [rune_end s pos hp, Lib.runeCountFrom_end s _ pos hp]; rfl
theorem rcount_any (s : ByteArray) (w : World) (hs : s.size ≤ 1000000) : Calls Tryd.prog 86 #[.string s] w fun e w' => e = .returned (.int .i64 (rs s).length) ∧ Kept (fun _ => False) w w' := by
  have h := Any.utf8_RuneCountInString Tryd.lays195 s w (by omega)
  have e : Lib.runeCount s = (rs s).length := by
    have := count_from s s.size 0 (by omega)
    exact this
  rw [e] at h
  exact h.mono fun e w' ⟨he, pos, hw⟩ => ⟨he, by rw [hw]; exact (Kept.refl _ w).alloc _⟩
theorem pat_cells {w : World} {g : Nat} {a d : Int} {s : ByteArray} {fr : Nat × Nat} (h : w.heap[g]? = some (.cells #[.int .i64 a, .int .i64 d, .string s] 79 fr)) :
    w.cell? ⟨g, 0, none⟩ = some (.int .i64 a) ∧ w.cell? ⟨g, 1, none⟩ = some (.int .i64 d) ∧ w.cell? ⟨g, 2, none⟩ = some (.string s) :=
  ⟨cell_of_row w g 0 _ _ _ h, cell_of_row w g 1 _ _ _ h, cell_of_row w g 2 _ _ _ h⟩
end Go.Proofs.YthbfmdnibijapaaDoor
