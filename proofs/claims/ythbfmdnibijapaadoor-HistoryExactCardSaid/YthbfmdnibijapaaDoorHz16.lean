/-
  TREES: the way on to the latest child.
  TREES: the way to whichever node.
  SCRIPTS of trees: opened; how much one weighs.
-/
import Derived.Test.YthbfmdnibijapaaDoorHz04
import Derived.BigQuiet
import Derived.Test.YthbfmdnibijapaaDoorHz03
import Derived.Test.YthbfmdnibijapaaDoorHz00
set_option linter.unusedVariables false
namespace Go.Proofs.YthbfmdnibijapaaDoor
open Go Go.RowKit

set_option maxRecDepth 100000 in
set_option maxHeartbeats 4000000 in
theorem again_any (ad : Addr) (n c : Nat) (L : List NodeS) (cur : Int) (w : World) (hA : Ng w (some ad) n L) (hnc : n ≤ c) (hT : Tabs w) (hM : MayT L cur) (j : Nat) (e : NodeS) (h0 : 0 < j) (he : L[j]? = some e) (hpa : e.pa = cur) (hlast : ∀ k e', j < k → L[k]? = some e' → e'.pa ≠ cur) :
    Calls Tryd.prog 47 #[treeV (.slice (some ad) n c) cur] w fun r w' => (∃ v, r = .returned (.tuple #[treeV v e.sq, .string e.tx, .int .i64 e.at_, .int .i64 0]) ∧ On w' w.heap.size v L) ∧ Kept (fun _ => False) w w' := by
  have hl := hA.len
  have hs := ok_srt hM.ok
  have hle := hM.le
  rw [hl] at hle
  have HK0 : Hid (Kept (fun _ => False) w ((w.alloc (treeO (.slice (some ad) n c) cur)).alloc nilT)) := ((Kept.refl _ w).alloc _).alloc _
  have HI0 := Lib.hid (tri_new (c := c) (cur := cur) hT hA (by rw [← hl]; exact hM.ge))
  have cC := fun W (h : TrI ad n c L cur w.heap.size W) => tcheck_ok (some ad) n c L cur W h.ng hnc h.tabs hM
  have cT := fun W (h : TrI ad n c L cur w.heap.size W) => to_any (some ad) n c L cur j e W h.ng (fun h => by cases h) (by omega) he
  have HND : Hid (∀ k e', L[k]? = some e' → ∀ W, TrI ad n c L cur w.heap.size W → Nd4 W (ad.add (k * 4)) e') := fun k e' hk W h => (h.ng.nd hk).2
  have hjn : j < n := (hA.nd he).1
  obtain ⟨tb, htb⟩ : ∃ tb, w.heap.size = tb := ⟨_, rfl⟩
  have HTB := Lib.hid htb
  rw [htb] at HI0 cC cT HND
  have HLA := Lib.hid hlast
  have HE := Lib.hid he
  have HPA := Lib.hid hpa
  have HCT := Lib.hid cT
  have HHL := Lib.hid hl
  clear htb hA hT hM hl hs cT he hpa hlast
  go_enter Tryd.func47, Tryd.ntmps47
  go_upto_region 1 with fail
  simp only [HTB.out]
  simp only [treeO, nilT] at HI0 HK0
  generalize (w.alloc _).alloc _ = w0 at *
  obtain ⟨t0, t1⟩ := HI0.out.cells
  have cC0 := cC w0 HI0.out
  go_upto_region 4 with (go_at_call 59; refine cC0.mono ?_; rintro r w1 ⟨rfl, hk1⟩; have HK1 := Lib.hid (HK0.out.trans hk1); have HI1 := Lib.hid (HI0.out.kept hk1); clear hk1 t0 t1 cC0 cC)
  obtain ⟨t0, t1⟩ := HI1.out.cells
  have wn : IntKind.i64.wrap ((n : Int) - 1) = ((n - 1 : Nat) : Int) := by rw [show (n : Int) - 1 = ((n - 1 : Nat) : Int) by omega]; exact IntWalk.i64_in _ ⟨by omega, by omega⟩
  obtain ⟨m, hm⟩ : ∃ m, n - 1 = m := ⟨_, rfl⟩
  rw [hm] at wn
  have HM := Lib.hid hm
  clear hm
  go_wp2_with fail
  clear wn t0 t1
  go_loopw [7] (fun v wr => ∃ k : Nat, j ≤ k ∧ k ≤ m ∧ v = .int .i64 k ∧ Kept (fun _ => False) w1 wr) (fun v _ => (intOf v).toNat)
  case atStart => exact ⟨m, by have := HM.out; omega, Nat.le_refl _, rfl, Kept.refl _ _⟩
  case round =>
    obtain ⟨k, hjk, hkm, rfl, hkr⟩ := hrel
    have HIr := Lib.hid (HI1.out.kept hkr)
    have HKr := Lib.hid (HK1.out.trans hkr)
    have HKW := Lib.hid hkr
    clear hkr
    have hkn : k < n := by have := HM.out; omega
    obtain ⟨t0, t1⟩ := HIr.out.cells
    have b1 : decide ((0 : Int) < (k : Int)) = true := decide_eq_true (by omega)
    have b2 : decide (0 < k) = true := decide_eq_true (by omega)
    have b3 : (0 : Int) ≤ (k : Int) := by omega
    have b4 : (k : Int) < (n : Int) := by omega
    by_cases hkj : k = j
    · subst hkj
      have f1 := (HND.out k e HE.out wr HIr.out).c1
      have hpe : (e.pa == cur) = true := by rw [HPA.out]; simp
      go_upto_region 7 with fail
      clear b1 b2
      go_quiet (fail)
      go_upto_region 8 with fail
      generalize hw2 : wr.drewN _ = w2
      have HI2 : Hid (TrI ad n c L cur tb w2) := by rw [← hw2]; exact HIr.out.kept ((Kept.refl (fun _ => False) wr).drewN _)
      have HK2 : Hid (Kept (fun _ => False) w w2) := by rw [← hw2]; exact HKr.out.drewN _
      clear hw2 t0 t1 f1 b3 b4 hpe
      obtain ⟨t0, t1⟩ := HI2.out.cells
      have cT2 := HCT.out w2 HI2.out
      go_upto_region 9 with (go_at_call 63; refine cT2.mono ?_; rintro r w4 ⟨⟨v, rfl, hO⟩, hk4⟩; obtain ⟨A', c', rfl, _⟩ := hO.slice; have HO := Lib.hid hO; have HI4 := Lib.hid (HI2.out.kept hk4); have HK4 := Lib.hid (HK2.out.trans hk4); obtain ⟨r0, r1, r2, r3⟩ := tree_facts HI4.out.res; clear hk4 hO cT2)
      clear r0 r1 r2 r3 t0 t1
      have HY5 := Lib.hid (tree_set HI4.out.res (.slice A' L.length c') e.sq)
      have HK5 : Hid (Kept (fun q => q = tb + 1) w4 ((w4.setCell ⟨tb + 1, 0, none⟩ (.slice A' L.length c')).setCell ⟨tb + 1, 1, none⟩ (.int .i64 e.sq))) := Kept.tree (g := tb + 1) (S := fun q => q = tb + 1) (Kept.refl (fun q => q = tb + 1) w4) rfl _ _
      generalize (w4.setCell ⟨tb + 1, 0, none⟩ (.slice A' L.length c')).setCell ⟨tb + 1, 1, none⟩ (.int .i64 e.sq) = w5 at *
      obtain ⟨r0, r1, r2, r3⟩ := tree_facts HY5.out
      go_wp2_with fail
      refine bodyPost_ret (res_t4 rfl _ _ (tb + 1) _ e.sq rfl rfl (tree_set HY5.out _ _)) rfl ⟨⟨_, rfl, ?ho⟩, ?hk⟩
      case ho =>
        have h1 := (HO.out.keptS HK5.out (fun k hk h => by have h1 := heap_lt HI2.out.res; omega)).keptS (Kept.tree (g := tb + 1) (S := fun q => q = tb + 1) (Kept.refl (fun q => q = tb + 1) w5) rfl (.slice A' L.length c') (.int .i64 e.sq)) (fun k hk h => by have h1 := heap_lt HI2.out.res; omega)
        exact h1.mono (by have h1 := heap_lt HI2.out.res; have := HTB.out; omega)
      case hk => exact HK4.out.fresh (Kept.tree (g := tb + 1) (S := fun q => q = tb + 1) HK5.out rfl _ _) (fun b hb h => by have := HTB.out; omega)
    · obtain ⟨e', he'⟩ : ∃ e', L[k]? = some e' := ⟨_, List.getElem?_eq_getElem (by rw [HHL.out]; exact hkn)⟩
      have f1 := (HND.out k e' he' wr HIr.out).c1
      have hpe : (e'.pa == cur) = false := by rw [beq_eq_false_iff_ne]; exact HLA.out k e' (by omega) he'
      have wk : IntKind.i64.wrap ((k : Int) - 1) = ((k - 1 : Nat) : Int) := by rw [show (k : Int) - 1 = ((k - 1 : Nat) : Int) by omega]; exact IntWalk.i64_in _ ⟨by omega, by omega⟩
      clear he'
      go_upto_region 7 with fail
      clear b1 b2
      go_quiet (fail)
      go_wp2_with fail
      go_roundw
      case rel => exact ⟨k - 1, by omega, by omega, by first | rfl | go_num, HKW.out.drewN _⟩
      case measure => simp [intOf]; omega
end Go.Proofs.YthbfmdnibijapaaDoor
namespace Go.Proofs.YthbfmdnibijapaaDoor
open Go Go.RowKit

set_option maxRecDepth 100000 in
set_option maxHeartbeats 4000000 in
theorem jump_any (ad : Addr) (n c : Nat) (L : List NodeS) (cur : Int) (w : World) (hA : Ng w (some ad) n L) (hnc : n ≤ c) (hT : Tabs w) (hM : MayT L cur) (z : Int) (p : Nat) (ep : NodeS) (hi : idx L z = (p : Nat)) (hep : L[p]? = some ep) :
    Calls Tryd.prog 52 #[treeV (.slice (some ad) n c) cur, .int .i64 z] w fun r w' => (∃ v, r = .returned (.tuple #[treeV v ep.sq, .string ep.tx, .int .i64 ep.at_, .int .i64 0]) ∧ On w' w.heap.size v L) ∧ Kept (fun _ => False) w w' := by
  have hl := hA.len
  have hs := ok_srt hM.ok
  have hle := hM.le
  rw [hl] at hle
  have HK0 : Hid (Kept (fun _ => False) w ((w.alloc (treeO (.slice (some ad) n c) cur)).alloc nilT)) := ((Kept.refl _ w).alloc _).alloc _
  have HI0 := Lib.hid (tri_new (c := c) (cur := cur) hT hA (by rw [← hl]; exact hM.ge))
  have cC := fun W (h : TrI ad n c L cur w.heap.size W) => tcheck_ok (some ad) n c L cur W h.ng hnc h.tabs hM
  have cF := fun W (h : TrI ad n c L cur w.heap.size W) => nfind_any (some ad) n c L z W h.ng (by omega) hs
  have cT := fun W (h : TrI ad n c L cur w.heap.size W) => to_any (some ad) n c L cur p ep W h.ng (fun h => by cases h) (by omega) hep
  rw [hi] at cF
  obtain ⟨tb, htb⟩ : ∃ tb, w.heap.size = tb := ⟨_, rfl⟩
  have HTB := Lib.hid htb
  rw [htb] at HI0 cC cF cT
  have HCF := Lib.hid cF
  have HCT := Lib.hid cT
  have HHL := Lib.hid hl
  clear htb hA hT hM hi hl hs cF cT hep
  go_enter Tryd.func52, Tryd.ntmps52
  go_upto_region 1 with fail
  simp only [HTB.out]
  simp only [treeO, nilT] at HI0 HK0
  generalize (w.alloc _).alloc _ = w0 at *
  obtain ⟨t0, t1⟩ := HI0.out.cells
  have cC0 := cC w0 HI0.out
  go_upto_region 4 with (go_at_call 59; refine cC0.mono ?_; rintro r w1 ⟨rfl, hk1⟩; have HK1 := Lib.hid (HK0.out.trans hk1); have HI1 := Lib.hid (HI0.out.kept hk1); clear hk1 t0 t1 cC0 cC)
  obtain ⟨t0, t1⟩ := HI1.out.cells
  have b0 : decide ((p : Int) < 0) = false := decide_eq_false (by omega)
  go_upto_region 7 with (go_at_call 62; refine (HCF.out _ HI1.out).mono ?_; rintro r w2 ⟨rfl, hk2⟩; have HK2 := Lib.hid (HK1.out.trans hk2); have HI2 := Lib.hid (HI1.out.kept hk2); clear hk2 t0 t1)
  clear b0
  obtain ⟨t0, t1⟩ := HI2.out.cells
  have cT2 := HCT.out w2 HI2.out
  go_upto_region 8 with (go_at_call 63; refine cT2.mono ?_; rintro r w4 ⟨⟨v, rfl, hO⟩, hk4⟩; obtain ⟨A', c', rfl, _⟩ := hO.slice; have HO := Lib.hid hO; have HI4 := Lib.hid (HI2.out.kept hk4); have HK4 := Lib.hid (HK2.out.trans hk4); obtain ⟨r0, r1, r2, r3⟩ := tree_facts HI4.out.res; clear hk4 hO cT2)
  clear r0 r1 r2 r3 t0 t1
  have HY5 := Lib.hid (tree_set HI4.out.res (.slice A' L.length c') ep.sq)
  have HK5 : Hid (Kept (fun q => q = tb + 1) w4 ((w4.setCell ⟨tb + 1, 0, none⟩ (.slice A' L.length c')).setCell ⟨tb + 1, 1, none⟩ (.int .i64 ep.sq))) := Kept.tree (g := tb + 1) (S := fun q => q = tb + 1) (Kept.refl (fun q => q = tb + 1) w4) rfl _ _
  generalize (w4.setCell ⟨tb + 1, 0, none⟩ (.slice A' L.length c')).setCell ⟨tb + 1, 1, none⟩ (.int .i64 ep.sq) = w5 at *
  obtain ⟨r0, r1, r2, r3⟩ := tree_facts HY5.out
  go_wp2_with fail
  refine bodyPost_ret (res_t4 rfl _ _ (tb + 1) _ ep.sq rfl rfl (tree_set HY5.out _ _)) rfl ⟨⟨_, rfl, ?ho⟩, ?hk⟩
  case ho =>
    have h1 := (HO.out.keptS HK5.out (fun k hk h => by have h1 := heap_lt HI2.out.res; omega)).keptS (Kept.tree (g := tb + 1) (S := fun q => q = tb + 1) (Kept.refl (fun q => q = tb + 1) w5) rfl (.slice A' L.length c') (.int .i64 ep.sq)) (fun k hk h => by have h1 := heap_lt HI2.out.res; omega)
    exact h1.mono (by have h1 := heap_lt HI2.out.res; have := HTB.out; omega)
  case hk => exact HK4.out.fresh (Kept.tree (g := tb + 1) (S := fun q => q = tb + 1) HK5.out rfl _ _) (fun b hb h => by have := HTB.out; omega)
end Go.Proofs.YthbfmdnibijapaaDoor
namespace Go.Proofs.YthbfmdnibijapaaDoor
open Go Go.RowKit Go.ChangeShapes Go.WideShapes Go.ChangeAt

def NodeS.good (e : NodeS) : Prop := I64 e.sq ∧ I64 e.pa ∧ I64 e.at_ ∧ e.tx.size ≤ 140737488351232

theorem cells_node : Tryd.prog.cellsOf 46 = 4 := by kernel_rfl
theorem bytes_node : 0 < Tryd.prog.bytesOf 46 := by rw [show Tryd.prog.bytesOf 46 = 40 by kernel_rfl]; decide
section
variable {H : Type} {enc : TypeId × Value → H} {W : World} {base : Nat} {sp : Nat → Bool} {held : Bool}
set_option maxRecDepth 100000 in
theorem node_open {fuel : Nat} {cs : List Value} {x : DataW H × List MemPlace} (h : DataW.trod enc Tryd.prog W base sp held fuel 46 cs = some x) (hz : ∀ q ∈ x.1.weights Tryd.prog 46, q ≤ reachBytes) :
    ∃ b : NodeS, cs = b.vs ∧ b.good := by
  obtain ⟨y0, y1, y2, y3, n, rfl, hl, h0, h1, h2, h3⟩ := Joins.trod_struct4 Tryd.underlying46 h
  rw [cells_node] at hl
  match cs, hl with
  | [c0, c1, c2, c3], _ =>
    simp only [cells_int, cells_string, List.drop_zero, List.drop_succ_cons, List.take_succ_cons, List.take_zero] at h0 h1 h2 h3
    obtain ⟨z0, e0, rfl, w0⟩ := DataW.trod_int Tryd.underlying3 h0
    obtain ⟨z1, e1, rfl, w1⟩ := DataW.trod_int Tryd.underlying3 h1
    obtain ⟨z2, e2, rfl, w2⟩ := DataW.trod_int Tryd.underlying3 h2
    obtain ⟨S, e3, rfl, _⟩ := DataW.trod_string Tryd.underlying9 h3
    have hsz : S.size ≤ 140737488351232 := by
      have := hz S.data.toList.length (by
        simp only [DataW.weights, Tryd.underlying46, List.map_cons, List.map_nil, DataW.weightsEach, List.nil_append, List.append_nil, List.mem_singleton])
      rw [Array.length_toList] at this
      exact this
    simp only [List.cons.injEq, and_true] at e0 e1 e2 e3
    exact ⟨⟨z0, z1, z2, S⟩, by unfold NodeS.vs; rw [e0, e1, e2, e3], i64_of_wf w0, i64_of_wf w1, i64_of_wf w2, hsz⟩
set_option maxRecDepth 100000 in
theorem node_s_open {fuel : Nat} {cs : List Value} {x : DataW H × List MemPlace} (h : DataW.trod enc Tryd.prog W base sp held fuel 22 cs = some x) (hz : ∀ q ∈ x.1.weights Tryd.prog 22, q ≤ reachBytes) :
    ∃ (A : Option Addr) (n c : Nat) (M : List NodeS), cs = [.slice A n c] ∧ Ng W A n M ∧ (∀ e ∈ M, e.good) ∧ n ≤ 140737488351232 ∧ n ≤ c ∧ (A = none → n = 0 ∧ c = 0) := by
  rcases Deep.open_slice Tryd.underlying22 h with ⟨rfl, rfl⟩ | ⟨a, len, cap, m, fu, D, Pl, rfl, hb, hl, hm, hmm, rfl, hx⟩
  · exact ⟨none, 0, 0, [], rfl, ⟨rfl, (fun j x hj => by simp at hj)⟩, (fun r hr => by simp at hr), by omega, by omega, fun _ => ⟨rfl, rfl⟩⟩
  · have hle : len ≤ m := by rw [hmm]; split <;> omega
    have hw : DataW.weights Tryd.prog 22 (DataW.slice ((List.range len).map D) ((List.range (m - len)).map fun j => D (len + j))) =
        (((List.range len).map D).length + ((List.range (m - len)).map fun j => D (len + j)).length) * Tryd.prog.bytesOf 46 :: (DataW.weightsAll Tryd.prog 46 ((List.range len).map D) ++ DataW.weightsAll Tryd.prog 46 ((List.range (m - len)).map fun j => D (len + j))) := by
      simp only [DataW.weights, Tryd.underlying22]
    have hlen : len ≤ 140737488351232 := by
      have h1 := hz _ (by rw [hw]; exact List.mem_cons_self)
      simp only [List.length_map, List.length_range] at h1
      unfold reachBytes at h1
      have := Nat.le_mul_of_pos_right (len + (m - len)) (show 0 < Tryd.prog.bytesOf 46 from bytes_node)
      omega
    obtain ⟨q, hq⟩ := Deep.choose_lt (α := NodeS) (n := len) (p := fun k r => Nd4 W (a.add (k * 4)) r ∧ r.good) (fun i hi => by
      obtain ⟨cs', h1, h2⟩ := hx i (by omega)
      rw [cells_node] at h1
      obtain ⟨b, rfl, hN⟩ := node_open h2 (fun q hq => hz q (by
        rw [hw]
        exact List.mem_cons_of_mem _ (List.mem_append_left _ (mem_weightsAll (List.mem_map.2 ⟨i, List.mem_range.2 hi, rfl⟩) hq))))
      obtain ⟨_, _, hc⟩ := World.cells?_some h1
      have g0 := hc 0 (by omega)
      have g1 := hc 1 (by omega)
      have g2 := hc 2 (by omega)
      have g3 := hc 3 (by omega)
      rw [addr_far _ 1 (by omega)] at g1
      rw [addr_far _ 2 (by omega)] at g2
      rw [addr_far _ 3 (by omega)] at g3
      exact ⟨b, ⟨by simpa [Addr.add, NodeS.vs] using g0, g1, g2, g3⟩, hN⟩)
    refine ⟨some a, len, cap, (List.range len).map q, rfl, ⟨by simp, fun k b hk => ?_⟩, fun r hr => ?_, hlen, hl, fun h => by cases h⟩
    · have hkl : k < len := by
        by_cases hkl : k < len
        · exact hkl
        · rw [List.getElem?_eq_none (by simp; omega)] at hk; simp at hk
      rw [List.getElem?_map, List.getElem?_range hkl] at hk
      simp only [Option.map_some, Option.some.injEq] at hk
      rw [← hk]
      exact ⟨a, rfl, (hq k hkl).1⟩
    · obtain ⟨i, hi, rfl⟩ := List.mem_map.1 hr
      exact (hq i (List.mem_range.1 hi)).2
end

theorem cells_act7 : Tryd.prog.cellsOf 31 = 4 := by kernel_rfl
theorem bytes_act7 : 0 < Tryd.prog.bytesOf 31 := by rw [show Tryd.prog.bytesOf 31 = 40 by kernel_rfl]; decide
section
variable {H : Type} {enc : TypeId × Value → H} {W : World} {base : Nat} {sp : Nat → Bool} {held : Bool}
set_option maxRecDepth 100000 in
theorem act7_open {fuel : Nat} {cs : List Value} {x : DataW H × List MemPlace} (h : DataW.trod enc Tryd.prog W base sp held fuel 31 cs = some x) (hz : ∀ q ∈ x.1.weights Tryd.prog 31, q ≤ reachBytes) :
    ∃ b : NodeS, cs = b.vs ∧ b.good := by
  obtain ⟨y0, y1, y2, y3, n, rfl, hl, h0, h1, h2, h3⟩ := Joins.trod_struct4 Tryd.underlying31 h
  rw [cells_act7] at hl
  match cs, hl with
  | [c0, c1, c2, c3], _ =>
    simp only [cells_int, cells_string, List.drop_zero, List.drop_succ_cons, List.take_succ_cons, List.take_zero] at h0 h1 h2 h3
    obtain ⟨z0, e0, rfl, w0⟩ := DataW.trod_int Tryd.underlying3 h0
    obtain ⟨z1, e1, rfl, w1⟩ := DataW.trod_int Tryd.underlying3 h1
    obtain ⟨z2, e2, rfl, w2⟩ := DataW.trod_int Tryd.underlying3 h2
    obtain ⟨S, e3, rfl, _⟩ := DataW.trod_string Tryd.underlying9 h3
    have hsz : S.size ≤ 140737488351232 := by
      have := hz S.data.toList.length (by
        simp only [DataW.weights, Tryd.underlying31, List.map_cons, List.map_nil, DataW.weightsEach, List.nil_append, List.append_nil, List.mem_singleton])
      rw [Array.length_toList] at this
      exact this
    simp only [List.cons.injEq, and_true] at e0 e1 e2 e3
    exact ⟨⟨z0, z1, z2, S⟩, by unfold NodeS.vs; rw [e0, e1, e2, e3], i64_of_wf w0, i64_of_wf w1, i64_of_wf w2, hsz⟩
set_option maxRecDepth 100000 in
theorem act7_s_open {fuel : Nat} {cs : List Value} {x : DataW H × List MemPlace} (h : DataW.trod enc Tryd.prog W base sp held fuel 25 cs = some x) (hz : ∀ q ∈ x.1.weights Tryd.prog 25, q ≤ reachBytes) :
    ∃ (A : Option Addr) (n c : Nat) (M : List NodeS), cs = [.slice A n c] ∧ Ng W A n M ∧ (∀ e ∈ M, e.good) ∧ n ≤ 140737488351232 ∧ n ≤ c ∧ (A = none → n = 0 ∧ c = 0) := by
  rcases Deep.open_slice Tryd.underlying25 h with ⟨rfl, rfl⟩ | ⟨a, len, cap, m, fu, D, Pl, rfl, hb, hl, hm, hmm, rfl, hx⟩
  · exact ⟨none, 0, 0, [], rfl, ⟨rfl, (fun j x hj => by simp at hj)⟩, (fun r hr => by simp at hr), by omega, by omega, fun _ => ⟨rfl, rfl⟩⟩
  · have hle : len ≤ m := by rw [hmm]; split <;> omega
    have hw : DataW.weights Tryd.prog 25 (DataW.slice ((List.range len).map D) ((List.range (m - len)).map fun j => D (len + j))) =
        (((List.range len).map D).length + ((List.range (m - len)).map fun j => D (len + j)).length) * Tryd.prog.bytesOf 31 :: (DataW.weightsAll Tryd.prog 31 ((List.range len).map D) ++ DataW.weightsAll Tryd.prog 31 ((List.range (m - len)).map fun j => D (len + j))) := by
      simp only [DataW.weights, Tryd.underlying25]
    have hlen : len ≤ 140737488351232 := by
      have h1 := hz _ (by rw [hw]; exact List.mem_cons_self)
      simp only [List.length_map, List.length_range] at h1
      unfold reachBytes at h1
      have := Nat.le_mul_of_pos_right (len + (m - len)) (show 0 < Tryd.prog.bytesOf 31 from bytes_act7)
      omega
    obtain ⟨q, hq⟩ := Deep.choose_lt (α := NodeS) (n := len) (p := fun k r => Nd4 W (a.add (k * 4)) r ∧ r.good) (fun i hi => by
      obtain ⟨cs', h1, h2⟩ := hx i (by omega)
      rw [cells_act7] at h1
      obtain ⟨b, rfl, hN⟩ := act7_open h2 (fun q hq => hz q (by
        rw [hw]
        exact List.mem_cons_of_mem _ (List.mem_append_left _ (mem_weightsAll (List.mem_map.2 ⟨i, List.mem_range.2 hi, rfl⟩) hq))))
      obtain ⟨_, _, hc⟩ := World.cells?_some h1
      have g0 := hc 0 (by omega)
      have g1 := hc 1 (by omega)
      have g2 := hc 2 (by omega)
      have g3 := hc 3 (by omega)
      rw [addr_far _ 1 (by omega)] at g1
      rw [addr_far _ 2 (by omega)] at g2
      rw [addr_far _ 3 (by omega)] at g3
      exact ⟨b, ⟨by simpa [Addr.add, NodeS.vs] using g0, g1, g2, g3⟩, hN⟩)
    refine ⟨some a, len, cap, (List.range len).map q, rfl, ⟨by simp, fun k b hk => ?_⟩, fun r hr => ?_, hlen, hl, fun h => by cases h⟩
    · have hkl : k < len := by
        by_cases hkl : k < len
        · exact hkl
        · rw [List.getElem?_eq_none (by simp; omega)] at hk; simp at hk
      rw [List.getElem?_map, List.getElem?_range hkl] at hk
      simp only [Option.map_some, Option.some.injEq] at hk
      rw [← hk]
      exact ⟨a, rfl, (hq k hkl).1⟩
    · obtain ⟨i, hi, rfl⟩ := List.mem_map.1 hr
      exact (hq i (List.mem_range.1 hi)).2
end

theorem cells_scr7 : Tryd.prog.cellsOf 27 = 3 := by kernel_rfl
theorem cells_tree7 : Tryd.prog.cellsOf 24 = 2 := by kernel_rfl
theorem cells_nodes7 : Tryd.prog.cellsOf 22 = 1 := by kernel_rfl
theorem cells_acts7 : Tryd.prog.cellsOf 25 = 1 := by kernel_rfl
/-- A script of trees, as it lies in memory. -/
structure ScrU where
  R : Option Addr
  rn : Nat
  rc : Nat
  nodes : List NodeS
  cur : Int
  L : Option Addr
  ln : Nat
  lc : Nat
  acts : List NodeS
def ScrU.cells (p : ScrU) : Array Value := #[.slice p.R p.rn p.rc, .int .i64 p.cur, .slice p.L p.ln p.lc]
/-- It reads as it should. -/
structure ScrUOk (W : World) (p : ScrU) : Prop where
  nodes : Ng W p.R p.rn p.nodes
  ngood : ∀ e ∈ p.nodes, e.good
  rn : p.rn ≤ 140737488351232
  rc : p.rn ≤ p.rc
  cp : p.R = none → p.rn = 0 ∧ p.rc = 0
  cu : I64 p.cur
  acts : Ng W p.L p.ln p.acts
  agood : ∀ e ∈ p.acts, e.good
  ln : p.ln ≤ 140737488351232
theorem ScrUOk.kept {w w' : World} {p : ScrU} (h : ScrUOk w p) (hk : Kept (fun _ => False) w w') : ScrUOk w' p := ⟨h.nodes.kept hk (fun _ _ => id), h.ngood, h.rn, h.rc, h.cp, h.cu, h.acts.kept hk (fun _ _ => id), h.agood, h.ln⟩
section
variable {H : Type} {enc : TypeId × Value → H} {W : World} {base : Nat} {sp : Nat → Bool} {held : Bool}
set_option maxRecDepth 100000 in
/-- A parameter of that type. -/
theorem scrU_open {r : Reach} {b0 : Nat} {v : Value} {d : DataW H} {p : List MemPlace} (hv : Value.okWide Tryd.prog W r b0 27 v) (h : DataW.Trod enc Tryd.prog W base sp held 27 v d p)
    (hz : ∀ q ∈ d.weights Tryd.prog 27, q ≤ reachBytes) : ∃ a : ScrU, v = .agg a.cells ∧ ScrUOk W a := by
  obtain ⟨cs, rfl, hsz⟩ := okWide_struct Tryd.underlying27 hv
  rw [cells_scr7] at hsz
  obtain ⟨l⟩ := cs
  match l, hsz with
  | [c0, c1, c2], _ =>
    obtain ⟨fuel, hf⟩ := h
    obtain ⟨y0, y1, n, hx, _, h0, h1⟩ := trod_struct2 Tryd.underlying27 hf
    simp only [Prod.mk.injEq] at hx
    obtain ⟨rfl, rfl⟩ := hx
    simp only [Value.cells, cells_tree7, cells_acts7, List.drop_zero, List.drop_succ_cons, List.take_succ_cons, List.take_zero] at h0 h1
    obtain ⟨x0, x1, n', hx', _, g0, g1⟩ := trod_struct2 Tryd.underlying24 h0
    subst hx'
    simp only [cells_nodes7, cells_int, List.drop_zero, List.drop_succ_cons, List.take_succ_cons, List.take_zero] at g0 g1
    obtain ⟨R, rn, rc, nodes, e0, hR, hRg, hrn, hrc, hcp⟩ := node_s_open g0 (fun q hq => hz q (by
      simp only [DataW.weights, Tryd.underlying27, Tryd.underlying24, List.map_cons, List.map_nil, DataW.weightsEach, List.mem_append]
      exact Or.inl (Or.inl hq)))
    obtain ⟨z1, e1, _, w1⟩ := DataW.trod_int Tryd.underlying3 g1
    obtain ⟨L, ln, lc, acts, e2, hL, hLg, hln, _, _⟩ := act7_s_open h1 (fun q hq => hz q (by
      simp only [DataW.weights, Tryd.underlying27, List.map_cons, List.map_nil, DataW.weightsEach, List.mem_append]
      exact Or.inr (Or.inl hq)))
    simp only [List.cons.injEq, and_true] at e0 e1 e2
    exact ⟨⟨R, rn, rc, nodes, z1, L, ln, lc, acts⟩, by
      unfold ScrU.cells
      rw [e0, e1, e2], ⟨hR, hRg, hrn, hrc, hcp, i64_of_wf w1, hL, hLg, hln⟩⟩
end
/-- The block of a parameter of that type. -/
def PSu (w : World) (pb : Nat) (p : ScrU) : Prop := w.heap[pb]? = some (.cells p.cells 27 (0, 0))
theorem PSu.kept {T : Nat → Prop} {w w' : World} {pb : Nat} {p : ScrU} (h : PSu w pb p) (hk : Kept T w w') (hs : ¬ T pb) : PSu w' pb p := (hk.block pb (heap_lt h) hs).trans h
theorem PSu.c {w : World} {pb : Nat} {p : ScrU} (h : PSu w pb p) (i : Nat) : w.cell? ⟨pb, i, none⟩ = p.cells[i]? := cell_of_row w pb i _ _ _ h
set_option maxRecDepth 100000 in
set_option maxHeartbeats 1000000 in
theorem treeweight_any (A : Option Addr) (n c : Nat) (M : List NodeS) (cur : Int) (w : World) (h : Ng w A n M) (hg : ∀ e ∈ M, e.good) (hn : n ≤ 140737488351232) :
    Calls Tryd.prog 28 #[treeV (.slice A n c) cur] w fun e w' => (∃ q : Int, e = .returned (.int .i64 q) ∧ (n : Int) ≤ q ∧ q ≤ 281474978000000) ∧ Kept (fun _ => False) w w' := by
  have hk0 : Kept (fun _ => False) w (w.alloc (treeO (.slice A n c) cur)) := (Kept.refl _ w).alloc _
  have HA := Lib.hid (h.kept hk0 (fun _ _ => id))
  have hB : (w.alloc (treeO (.slice A n c) cur)).heap[w.heap.size]? = some (treeO (.slice A n c) cur) := heap_alloc_new w _
  have t0 := (tree_facts hB).1
  have HG := Lib.hid hg
  have HK0 := Lib.hid hk0
  clear h hg hk0 hB
  go_enter Tryd.func28, Tryd.ntmps28
  go_upto_region 1 with fail
  simp only [treeO] at HA HK0 t0
  generalize w.alloc _ = w0 at *
  generalize w.heap.size = tb at *
  go_wp2_with fail
  go_loop [3, 4] (fun v i => ∃ (k : Nat) (q : Int), k ≤ n ∧ i = .int .i64 k ∧ v = .int .i64 q ∧ (n : Int) ≤ q ∧ q ≤ 281474978000000) (fun _ i => n - (intOf i).toNat)
  case atStart => exact ⟨0, n, Nat.zero_le _, rfl, rfl, by omega, by omega⟩
  case round =>
    obtain ⟨k, q, hk, rfl, rfl, h1, h2⟩ := hrel
    by_cases hlt : k < n
    · have b2 : decide ((k : Int) < (n : Int)) = true := decide_eq_true (by omega)
      have b1 : decide (k < n) = true := decide_eq_true hlt
      by_cases hq : q < 1048576
      · obtain ⟨ad, b, rfl, hs, h4⟩ := HA.out.at_ hlt
        have hsz := (HG.out b (List.mem_of_getElem? hs)).2.2.2
        have c3 := h4.c3
        have t1 : (0 : Int) ≤ (k : Int) := by omega
        have t2 : (k : Int) < (n : Int) := by omega
        clear hs h4
        have bq : decide (q < 1048576) = true := by simp; omega
        go_wp2
        go_round
        case rel => exact ⟨k + 1, q + b.tx.size, by omega, by go_num, by go_num, by omega, by omega⟩
        case measure => simp [intOf]; omega
      · have bq : decide (q < 1048576) = false := by simp; omega
        go_wp2
        go_ret
        exact ⟨⟨_, rfl, h1, h2⟩, HK0.out⟩
    · obtain rfl : k = n := by omega
      have b1 : decide (k < k) = false := decide_eq_false (by omega)
      have b2 : decide ((k : Int) < (k : Int)) = false := decide_eq_false (by omega)
      go_wp2
      go_ret
      exact ⟨⟨_, rfl, h1, h2⟩, HK0.out⟩
set_option maxRecDepth 100000 in
set_option maxHeartbeats 1000000 in
theorem heavy7_any (p : ScrU) (w : World) (h : ScrUOk w p) :
    Calls Tryd.prog 5 #[.agg p.cells] w fun e w' => (∃ b : Bool, e = .returned (.bool b) ∧ (b = false → p.rn ≤ 20000)) ∧ Kept (fun _ => False) w w' := by
  have hK0 : Hid (Kept (fun _ => False) w (w.alloc (.cells p.cells 27))) := (Kept.refl _ w).alloc _
  have hP0 : Hid (PSu (w.alloc (.cells p.cells 27)) w.heap.size p) := heap_alloc_new w _
  have hA0 : Hid (ScrUOk (w.alloc (.cells p.cells 27)) p) := h.kept hK0.out
  obtain ⟨R, rn, rc, nodes, cur, L, ln, lc, acts⟩ := p
  have hmn : rn ≤ 140737488351232 := h.rn
  have hln : ln ≤ 140737488351232 := h.ln
  have HNG := Lib.hid h.ngood
  have HAG := Lib.hid h.agood
  clear h
  unfold ScrU.cells at *
  simp only at *
  go_enter Tryd.func5, Tryd.ntmps5
  go_upto_region 1 with fail
  generalize hpb : w.heap.size = pb at hP0 ⊢
  clear hpb
  generalize w.alloc (.cells #[.slice R rn rc, .int .i64 cur, .slice L ln lc] 27) = wa at *
  have p0 : wa.cell? ⟨pb, 0, none⟩ = some (.slice R rn rc) := hP0.out.c 0
  have p1 : wa.cell? ⟨pb, 1, none⟩ = some (.int .i64 cur) := hP0.out.c 1
  have p2 : wa.cell? ⟨pb, 2, none⟩ = some (.slice L ln lc) := hP0.out.c 2
  have cW := treeweight_any R rn rc nodes cur wa hA0.out.nodes HNG.out hmn
  go_wp2_with (go_at_call 28; refine cW.mono ?_; clear cW; rintro e w1 ⟨⟨q0, rfl, hq1, hq2⟩, hk1⟩; have HK1 := Lib.hid (hK0.out.trans hk1); have HA1 := Lib.hid (hA0.out.kept hk1); have HP1 := Lib.hid (hP0.out.kept hk1 id); clear hk1 p0 p1 p2)
  have p2 : w1.cell? ⟨pb, 2, none⟩ = some (.slice L ln lc) := HP1.out.c 2
  go_loop [3, 4] (fun v i => ∃ (k : Nat) (q : Int), k ≤ ln ∧ i = .int .i64 k ∧ v = .int .i64 q ∧ (rn : Int) ≤ q ∧ q ≤ 600000000000000) (fun _ i => ln - (intOf i).toNat)
  case atStart => exact ⟨0, q0, Nat.zero_le _, rfl, rfl, by omega, by omega⟩
  case round =>
    obtain ⟨k, q, hk, rfl, rfl, h1, h2⟩ := hrel
    by_cases hlt : k < ln
    · by_cases hq : q < 1048576
      · obtain ⟨ad, b, rfl, hs, h4⟩ := HA1.out.acts.at_ hlt
        have hsz := (HAG.out b (List.mem_of_getElem? hs)).2.2.2
        have c3 := h4.c3
        clear hs h4
        have bq : decide (q < 1048576) = true := by simp; omega
        go_wp2
        go_round
        case rel => exact ⟨k + 1, q + 1 + b.tx.size, by omega, by go_num, by go_num, by omega, by omega⟩
        case measure => simp [intOf]; omega
      · have bq : decide (q < 1048576) = false := by simp; omega
        have b6 : decide (20000 < q) = true := by simp; omega
        go_wp2
        go_ret
        exact ⟨.inr rfl, HK1.out⟩
    · obtain rfl : k = ln := by omega
      by_cases hq6 : 20000 < q
      · have b6 : decide (20000 < q) = true := by simp; omega
        go_wp2
        go_ret
        exact ⟨.inr rfl, HK1.out⟩
      · have b6 : decide (20000 < q) = false := by simp; omega
        have hm4 : rn ≤ 20000 := by omega
        go_wp2
        go_ret
        exact ⟨.inl rfl, HK1.out⟩
end Go.Proofs.YthbfmdnibijapaaDoor
