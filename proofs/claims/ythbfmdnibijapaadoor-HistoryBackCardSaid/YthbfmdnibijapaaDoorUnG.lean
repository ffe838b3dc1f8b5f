/-
  TREES: the way on to the latest child.
-/
import Derived.Test.YthbfmdnibijapaaDoorUnB
import Derived.BigQuiet
set_option linter.unusedVariables false
namespace Go.Proofs.YthbfmdnibijapaaDoor
open Go Go.RowKit

set_option maxRecDepth 100000 in
set_option maxHeartbeats 4000000 in
theorem again_any (ad : Addr) (n c : Nat) (L : List NodeS) (cur : Int) (w : World) (hA : Ng w (some ad) n L) (hnc : n ≤ c) (hT : Tabs w) (hM : MayT L cur) (j : Nat) (e : NodeS) (h0 : 0 < j) (he : L[j]? = some e) (hpa : e.pa = cur) (hlast : ∀ k e', j < k → L[k]? = some e' → e'.pa ≠ cur) :
    Calls Tryd.prog 47 #[treeV (.slice (some ad) n c) cur] w fun r w' => (∃ v, r = .returned (.tuple #[treeV v e.sq, .string e.tx, .int .i64 e.at_, .int .i64 0]) ∧ On w' w.heap.size v L) ∧ Kept (fun _ => False) w w' := by
  have hl := hA.len
  have hs := ok_srt hM.ok
  have hle := hM.le
  rw [hl] at hle
  have HK0 : Hid (Kept (fun _ => False) w ((w.alloc (treeO (.slice (some ad) n c) cur)).alloc nilT)) := ((Kept.refl _ w).alloc _).alloc _
  have HI0 := Lib.hid (tri_new (c := c) (cur := cur) hT hA (by rw [← hl]; exact hM.ge))
  have cC := fun W (h : TrI ad n c L cur w.heap.size W) => tcheck_ok (some ad) n c L cur W h.ng hnc h.tabs hM
  have cT := fun W (h : TrI ad n c L cur w.heap.size W) => to_any (some ad) n c L cur j e W h.ng (fun h => by cases h) (by omega) he
  have HND : Hid (∀ k e', L[k]? = some e' → ∀ W, TrI ad n c L cur w.heap.size W → Nd4 W (ad.add (k * 4)) e') := fun k e' hk W h => (h.ng.nd hk).2
  have hjn : j < n := (hA.nd he).1
  obtain ⟨tb, htb⟩ : ∃ tb, w.heap.size = tb := ⟨_, rfl⟩
  have HTB := Lib.hid htb
  rw [htb] at HI0 cC cT HND
  have HLA := Lib.hid hlast
  have HE := Lib.hid he
  have HPA := Lib.hid hpa
  have HCT := Lib.hid cT
  have HHL := Lib.hid hl
  clear htb hA hT hM hl hs cT he hpa hlast
  go_enter Tryd.func47, Tryd.ntmps47
  go_upto_region 1 with fail
  simp only [HTB.out]
  simp only [treeO, nilT] at HI0 HK0
  generalize (w.alloc _).alloc _ = w0 at *
  obtain ⟨t0, t1⟩ := HI0.out.cells
  have cC0 := cC w0 HI0.out
  go_upto_region 4 with (go_at_call 59; refine cC0.mono ?_; rintro r w1 ⟨rfl, hk1⟩; have HK1 := Lib.hid (HK0.out.trans hk1); have HI1 := Lib.hid (HI0.out.kept hk1); clear hk1 t0 t1 cC0 cC)
  obtain ⟨t0, t1⟩ := HI1.out.cells
  have wn : IntKind.i64.wrap ((n : Int) - 1) = ((n - 1 : Nat) : Int) := by rw [show (n : Int) - 1 = ((n - 1 : Nat) : Int) by omega]; exact IntWalk.i64_in _ ⟨by omega, by omega⟩
  obtain ⟨m, hm⟩ : ∃ m, n - 1 = m := ⟨_, rfl⟩
  rw [hm] at wn
  have HM := Lib.hid hm
  clear hm
  go_wp2_with fail
  clear wn t0 t1
  go_loopw [7] (fun v wr => ∃ k : Nat, j ≤ k ∧ k ≤ m ∧ v = .int .i64 k ∧ Kept (fun _ => False) w1 wr) (fun v _ => (intOf v).toNat)
  case atStart => exact ⟨m, by have := HM.out; omega, Nat.le_refl _, rfl, Kept.refl _ _⟩
  case round =>
    obtain ⟨k, hjk, hkm, rfl, hkr⟩ := hrel
    have HIr := Lib.hid (HI1.out.kept hkr)
    have HKr := Lib.hid (HK1.out.trans hkr)
    have HKW := Lib.hid hkr
    clear hkr
    have hkn : k < n := by have := HM.out; omega
    obtain ⟨t0, t1⟩ := HIr.out.cells
    have b1 : decide ((0 : Int) < (k : Int)) = true := decide_eq_true (by omega)
    have b2 : decide (0 < k) = true := decide_eq_true (by omega)
    have b3 : (0 : Int) ≤ (k : Int) := by omega
    have b4 : (k : Int) < (n : Int) := by omega
    by_cases hkj : k = j
    · subst hkj
      have f1 := (HND.out k e HE.out wr HIr.out).c1
      have hpe : (e.pa == cur) = true := by rw [HPA.out]; simp
      go_upto_region 7 with fail
      clear b1 b2
      go_quiet (fail)
      go_upto_region 8 with fail
      generalize hw2 : wr.drewN _ = w2
      have HI2 : Hid (TrI ad n c L cur tb w2) := by rw [← hw2]; exact HIr.out.kept ((Kept.refl (fun _ => False) wr).drewN _)
      have HK2 : Hid (Kept (fun _ => False) w w2) := by rw [← hw2]; exact HKr.out.drewN _
      clear hw2 t0 t1 f1 b3 b4 hpe
      obtain ⟨t0, t1⟩ := HI2.out.cells
      have cT2 := HCT.out w2 HI2.out
      go_upto_region 9 with (go_at_call 63; refine cT2.mono ?_; rintro r w4 ⟨⟨v, rfl, hO⟩, hk4⟩; obtain ⟨A', c', rfl, _⟩ := hO.slice; have HO := Lib.hid hO; have HI4 := Lib.hid (HI2.out.kept hk4); have HK4 := Lib.hid (HK2.out.trans hk4); obtain ⟨r0, r1, r2, r3⟩ := tree_facts HI4.out.res; clear hk4 hO cT2)
      clear r0 r1 r2 r3 t0 t1
      have HY5 := Lib.hid (tree_set HI4.out.res (.slice A' L.length c') e.sq)
      have HK5 : Hid (Kept (fun q => q = tb + 1) w4 ((w4.setCell ⟨tb + 1, 0, none⟩ (.slice A' L.length c')).setCell ⟨tb + 1, 1, none⟩ (.int .i64 e.sq))) := Kept.tree (g := tb + 1) (S := fun q => q = tb + 1) (Kept.refl (fun q => q = tb + 1) w4) rfl _ _
      generalize (w4.setCell ⟨tb + 1, 0, none⟩ (.slice A' L.length c')).setCell ⟨tb + 1, 1, none⟩ (.int .i64 e.sq) = w5 at *
      obtain ⟨r0, r1, r2, r3⟩ := tree_facts HY5.out
      go_wp2_with fail
      refine bodyPost_ret (res_t4 rfl _ _ (tb + 1) _ e.sq rfl rfl (tree_set HY5.out _ _)) rfl ⟨⟨_, rfl, ?ho⟩, ?hk⟩
      case ho =>
        have h1 := (HO.out.keptS HK5.out (fun k hk h => by have h1 := heap_lt HI2.out.res; omega)).keptS (Kept.tree (g := tb + 1) (S := fun q => q = tb + 1) (Kept.refl (fun q => q = tb + 1) w5) rfl (.slice A' L.length c') (.int .i64 e.sq)) (fun k hk h => by have h1 := heap_lt HI2.out.res; omega)
        exact h1.mono (by have h1 := heap_lt HI2.out.res; have := HTB.out; omega)
      case hk => exact HK4.out.fresh (Kept.tree (g := tb + 1) (S := fun q => q = tb + 1) HK5.out rfl _ _) (fun b hb h => by have := HTB.out; omega)
    · obtain ⟨e', he'⟩ : ∃ e', L[k]? = some e' := ⟨_, List.getElem?_eq_getElem (by rw [HHL.out]; exact hkn)⟩
      have f1 := (HND.out k e' he' wr HIr.out).c1
      have hpe : (e'.pa == cur) = false := by rw [beq_eq_false_iff_ne]; exact HLA.out k e' (by omega) he'
      have wk : IntKind.i64.wrap ((k : Int) - 1) = ((k - 1 : Nat) : Int) := by rw [show (k : Int) - 1 = ((k - 1 : Nat) : Int) by omega]; exact IntWalk.i64_in _ ⟨by omega, by omega⟩
      clear he'
      go_upto_region 7 with fail
      clear b1 b2
      go_quiet (fail)
      go_wp2_with fail
      go_roundw
      case rel => exact ⟨k - 1, by omega, by omega, by first | rfl | go_num, HKW.out.drewN _⟩
      case measure => simp [intOf]; omega
end Go.Proofs.YthbfmdnibijapaaDoor
