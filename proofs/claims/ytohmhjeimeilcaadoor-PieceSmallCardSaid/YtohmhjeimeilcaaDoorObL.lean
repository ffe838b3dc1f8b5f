/-
  THE LAWS' COMMON WALK: whatever an ask holds, and whichever keys: the program's pieces are the reference's.
-/
import Derived.Test.YtohmhjeimeilcaaDoorObS
set_option linter.unusedVariables false
namespace Go.Proofs.YtohmhjeimeilcaaDoor
open Go Go.RowKit

theorem btw_t {x l m : Int} (h : l ≤ x ∧ x ≤ m) (w : World) : Calls Tryd.prog 41 #[.int .i64 x, .int .i64 l, .int .i64 m] w fun e w' => e = .returned (.bool true) ∧ w' = w := by
  have b1 : decide (l ≤ x) = true := by simp; omega
  have b2 : decide (x ≤ m) = true := by simp; omega
  clear h
  go_enter Tryd.func41, Tryd.ntmps41
  go_wp2
  go_ret
  exact ⟨rfl, rfl⟩
theorem btw_f {x l m : Int} (h : ¬ (l ≤ x ∧ x ≤ m)) (w : World) : Calls Tryd.prog 41 #[.int .i64 x, .int .i64 l, .int .i64 m] w fun e w' => e = .returned (.bool false) ∧ w' = w := by
  by_cases h1 : l ≤ x
  · have b1 : decide (l ≤ x) = true := by simp; omega
    have b2 : decide (x ≤ m) = false := by simp; omega
    clear h h1
    go_enter Tryd.func41, Tryd.ntmps41
    go_wp2
    go_ret
    exact ⟨rfl, rfl⟩
  · have b1 : decide (l ≤ x) = false := by simp; omega
    clear h h1
    go_enter Tryd.func41, Tryd.ntmps41
    go_wp2
    go_ret
    exact ⟨rfl, rfl⟩
theorem robject_t {key : Int} (h : Rw.Obj key) (w : World) : Calls Tryd.prog 40 #[.int .i64 key] w fun e w' => e = .returned (.bool true) ∧ Kept (fun _ => False) w w' := by
  have c := robject_any key w
  rwa [decide_eq_true h] at c
theorem robject_f {key : Int} (h : ¬ Rw.Obj key) (w : World) : Calls Tryd.prog 40 #[.int .i64 key] w fun e w' => e = .returned (.bool false) ∧ Kept (fun _ => False) w w' := by
  have c := robject_any key w
  rwa [decide_eq_false h] at c
set_option maxRecDepth 100000 in
set_option maxHeartbeats 8000000 in
theorem pieces_any (p : AskV) (K : Option Addr) (kn kc : Nat) (keys : List Int) (w : World) (hp : AskOk w p) (hK : Nums w K kn keys) (hkn : kn ≤ 100) (hT : Tabs w) :
    Calls Tryd.prog 25 #[.agg p.cells, .slice K kn kc] w fun e w' => e = .returned (.bool true) ∧ Kept (fun _ => False) w w' := by
  have hK0 : Hid (Kept (fun _ => False) w (w.alloc (.cells p.cells 28))) := (Kept.refl _ w).alloc _
  have hH0 : Hid (Held (w.alloc (.cells p.cells 28)) w.heap.size p) := ⟨heap_alloc_new w _, hp.kept hK0.out, hT.kept hK0.out id id⟩
  have hY0 := Lib.hid (hK.kept hK0.out (fun _ _ => id))
  have cH := heavy10_any p (w.alloc (.cells p.cells 28)) hH0.out.ask
  clear hp hT hK
  obtain ⟨A, n0, c0, ss, xa, xb, xr, xc, xk, xn, xq⟩ := p
  unfold AskV.cells at *
  simp only at *
  go_enter Tryd.func25, Tryd.ntmps25
  go_wp2_with (go_at_call 14; refine cH.mono ?_; rintro e w1 ⟨⟨hv, rfl, hsm⟩, hk1⟩; have HS := Lib.hid hsm; have HKA := Lib.hid (hK0.out.trans hk1); have HHA := Lib.hid (hH0.out.kept hk1); have HYA := Lib.hid (hY0.out.kept hk1 (fun _ _ => id)); clear hsm hk1 hH0 hK0 hY0 cH)
  · exact bodyPost_ret (results_tmp rfl _ _ _) rfl ⟨rfl, HKA.out⟩
  have hv0 : hv = false := by assumption
  subst hv0
  have hss : ∀ s ∈ ss, s.size ≤ 6000 := HS.out rfl
  have HSS := Lib.hid hss
  clear hss HS
  generalize hpb : w.heap.size = pb at HHA ⊢
  clear hpb
  go_loopw [5] (fun v wr => ∃ i : Nat, i ≤ n0 ∧ i ≤ 4 ∧ v = .int .i64 i ∧ Kept (fun _ => False) w1 wr) (fun v _ => n0 - (intOf v).toNat)
  case atStart => exact ⟨0, Nat.zero_le _, Nat.zero_le _, rfl, Kept.refl _ _⟩
  case round =>
    obtain ⟨i, hi, hi4, rfl, hki⟩ := hrel
    obtain ⟨wi, hwi⟩ : ∃ wi, wi = wr := ⟨_, rfl⟩
    subst hwi
    have HKi := Lib.hid (HKA.out.trans hki)
    have HHi := Lib.hid (HHA.out.kept hki)
    have HYi := Lib.hid (HYA.out.kept hki (fun _ _ => id))
    have HKW := Lib.hid hki
    clear hki
    have p0 : wi.cell? ⟨pb, 0, none⟩ = some (.slice A n0 c0) := HHi.out.pb.c 0
    by_cases hgo : i < n0 ∧ i < 4
    · obtain ⟨g1, g2⟩ := hgo
      obtain ⟨ad, s, rfl, hs, hsc, _⟩ := HHi.out.ask.ss.cell g1
      have hsz : s.size ≤ 6000 := HSS.out s (List.mem_of_getElem? hs)
      have HSI := Lib.hid hs
      have b1 : decide (i < n0) = true := by simp; omega
      have b2 : decide (i < 4) = true := by simp; omega
      have b3 : decide ((i : Int) < 4) = true := by simp; omega
      clear hs
      have hl := rs_len s
      obtain ⟨cap, w2, hcap, hcv, hk2, hlt2, hR⟩ := conv_rs s wi (by omega)
      generalize ht : rs s = t at *
      have HT2 := Lib.hid ht
      have HK2 := Lib.hid (HKi.out.trans hk2)
      have HKW2 := Lib.hid (HKW.out.trans hk2)
      have HH2 := Lib.hid (HHi.out.kept hk2)
      have HY2 := Lib.hid (HYi.out.kept hk2 (fun _ _ => id))
      have HR := Lib.hid hR
      have q0 : w2.cell? ⟨pb, 0, none⟩ = some (.slice (some ad) n0 c0) := HH2.out.pb.c 0
      have q1 : w2.cell? ⟨pb, 1, none⟩ = some (.int .i64 xa) := HH2.out.pb.c 1
      have q2 : w2.cell? ⟨pb, 2, none⟩ = some (.int .i64 xb) := HH2.out.pb.c 2
      have q3 : w2.cell? ⟨pb, 3, none⟩ = some (.int .i64 xr) := HH2.out.pb.c 3
      have q4 : w2.cell? ⟨pb, 4, none⟩ = some (.int .i64 xc) := HH2.out.pb.c 4
      have q5 : w2.cell? ⟨pb, 5, none⟩ = some (.int .i64 xk) := HH2.out.pb.c 5
      have q6 : w2.cell? ⟨pb, 6, none⟩ = some (.int .i64 xn) := HH2.out.pb.c 6
      have q7 : w2.cell? ⟨pb, 7, none⟩ = some (.int .i64 xq) := HH2.out.pb.c 7
      clear hk2 hR ht hcap hlt2
      generalize hrb : wi.heap.size = rb at HR hcv
      clear hrb
      have cO := offsets_any ⟨some ad, n0, c0, ss, xa, xb, xr, xc, xk, xn, xq⟩ (some ⟨rb, 0, none⟩) t.length cap w2 HH2.out.ask.xa (by omega)
      unfold AskV.cells at cO
      simp only at cO
      go_wp2_with (go_at_call 26; refine cO.mono ?_; rintro e w3 ⟨hk3, B, m, c', xs, rfl, hxs, hm15, hx64⟩; have HK3 := Lib.hid (HK2.out.trans hk3); have HKW3 := Lib.hid (HKW2.out.trans hk3); have HH3 := Lib.hid (HH2.out.kept hk3); have HY3 := Lib.hid (HY2.out.kept hk3 (fun _ _ => id)); have HR3 := Lib.hid (HR.out.kept hk3 (fun _ _ => id)); have HX3 := Lib.hid hxs; clear hk3 hxs hx64 q0 q1 q2 q3 q4 q5 q6 q7 cO hcv HK2 HH2 HR HKW2 HY2 p0 hsc)
      have HTl : Hid (t.length ≤ 6000) := by show _ ≤ _; omega
      clear b1 b2 b3
      go_loopw [9] (fun v wr => ∃ j : Nat, j ≤ m ∧ v = .int .i64 j ∧ Kept (fun _ => False) w3 wr) (fun v _ => m - (intOf v).toNat)
      case atStart => exact ⟨0, Nat.zero_le _, rfl, Kept.refl _ _⟩
      case round =>
        obtain ⟨j, hj, rfl, hkj⟩ := hrel
        obtain ⟨wj, hwj⟩ : ∃ wj, wj = wr := ⟨_, rfl⟩
        subst hwj
        have HKJ := Lib.hid hkj
        have HHj := Lib.hid (HH3.out.kept hkj)
        have HYj := Lib.hid (HY3.out.kept hkj (fun _ _ => id))
        have HRj := Lib.hid (HR3.out.kept hkj (fun _ _ => id))
        have HXj := Lib.hid (HX3.out.kept hkj (fun _ _ => id))
        clear hkj
        by_cases hjm : j < m
        · obtain ⟨xad, x, rfl, hx, _⟩ := HXj.out.cell hjm
          have HXJ := Lib.hid hx
          clear hx
          have b5 : decide (j < m) = true := by simp; omega
          have b6 : decide ((j : Int) < (m : Int)) = true := decide_eq_true (by omega)
          go_wp2_with fail
          clear b5 b6
          go_loopw [10] (fun v wr => ∃ k : Nat, k ≤ kn ∧ v = .int .i64 k ∧ Kept (fun _ => False) wj wr) (fun v _ => kn - (intOf v).toNat)
          case atStart => exact ⟨0, Nat.zero_le _, rfl, Kept.refl _ _⟩
          case round =>
            obtain ⟨k, hk, rfl, hkk⟩ := hrel
            obtain ⟨wk, hwk⟩ : ∃ wk, wk = wr := ⟨_, rfl⟩
            subst hwk
            have HKK := Lib.hid hkk
            have HHk := Lib.hid (HHj.out.kept hkk)
            have HYk := Lib.hid (HYj.out.kept hkk (fun _ _ => id))
            have HRk := Lib.hid (HRj.out.kept hkk (fun _ _ => id))
            have HXk := Lib.hid (HXj.out.kept hkk (fun _ _ => id))
            clear hkk
            by_cases hk5 : k < kn
            · obtain ⟨kad, key, rfl, hkey, _⟩ := HYk.out.cell hk5
              have HKEY := Lib.hid hkey
              clear hkey
              have b6 : decide (k < kn) = true := by simp; omega
              have b7 : decide ((k : Int) < (kn : Int)) = true := decide_eq_true (by omega)
              go_wp2_with fail
              clear b6 b7
              go_loopw [11] (fun v wr => ∃ u : Nat, u ≤ 3 ∧ v = .int .i64 u ∧ Kept (fun _ => False) wk wr) (fun v _ => 3 - (intOf v).toNat)
              case atStart => exact ⟨0, Nat.zero_le _, rfl, Kept.refl _ _⟩
              case round =>
                obtain ⟨u, hu, rfl, hku⟩ := hrel
                obtain ⟨wu, hwu⟩ : ∃ wu, wu = wr := ⟨_, rfl⟩
                subst hwu
                by_cases hu3 : u < 3
                · have HKU := Lib.hid hku
                  have HHu := Lib.hid (HHk.out.kept hku)
                  have HYu := Lib.hid (HYk.out.kept hku (fun _ _ => id))
                  have HRu := Lib.hid (HRk.out.kept hku (fun _ _ => id))
                  have HXu := Lib.hid (HXk.out.kept hku (fun _ _ => id))
                  clear hku
                  have q5 : wu.cell? ⟨pb, 5, none⟩ = some (.int .i64 xk) := HHu.out.pb.c 5
                  have q6 : wu.cell? ⟨pb, 6, none⟩ = some (.int .i64 xn) := HHu.out.pb.c 6
                  have hws := nums_new wu [105, 97, xk] 3
                  obtain ⟨wad, wide, he, hwide, hwc⟩ := hws.cell hu3
                  injection he with he
                  subst he
                  rw [addr_add, Nat.zero_add] at hwc
                  have HWIDE := Lib.hid hwide
                  have b7 : decide (u < 3) = true := by simp; omega
                  have b8 : decide ((u : Int) < 3) = true := by simp; omega
                  have t5 : (0 : Int) ≤ (u : Int) := by omega
                  have t6 : (u : Int) < 3 := by omega
                  clear hws hwide
                  have hk5' : Kept (fun _ => False) wu (wu.alloc (.cells #[.int .i64 105, .int .i64 97, .int .i64 xk] 3)) := (Kept.refl _ wu).alloc _
                  have q6' := cell_kept hk5' q6 id
                  have hrem : ((j : Int)).tmod 3 = ((j % 3 : Nat) : Int) := by rw [Int.tmod_eq_emod_of_nonneg (by omega)]; omega
                  have hr3 : j % 3 < 3 := Nat.mod_lt _ (by decide)
                  obtain ⟨r, hr⟩ : ∃ r, j % 3 = r := ⟨_, rfl⟩
                  rw [hr] at hrem hr3
                  have hwr : IntKind.i64.wrap (1 + (r : Int)) = 1 + (r : Int) := wrapI rfl (by omega) (by omega)
                  clear hr
                  have hidx : ∀ h, ([Value.int .i64 105, Value.int .i64 97, Value.int .i64 xk] : List Value)[u]'h = .int .i64 wide := by
                    intro h
                    have hww := HWIDE.out
                    have : u = 0 ∨ u = 1 ∨ u = 2 := by omega
                    rcases this with rfl | rfl | rfl <;> simp at hww ⊢ <;> exact hww
                  go_upto_region 20 with fail
                  try simp only [hidx]
                  have hcs0 := nums_new (wu.alloc (.cells #[.int .i64 105, .int .i64 97, .int .i64 xk] 3)) [1, 1 + (r : Int), xn] 3
                  rw [show (wu.alloc (.cells #[.int .i64 105, .int .i64 97, .int .i64 xk] 3)).heap.size = wu.heap.size + 1 by simp] at hcs0
                  have hcs : Hid (Nums ((wu.alloc (.cells #[.int .i64 105, .int .i64 97, .int .i64 xk] 3)).alloc (.cells #[.int .i64 1, .int .i64 (1 + (r : Int)), .int .i64 xn] 3)) (some ⟨wu.heap.size + 1, 0, none⟩) 3 [1, 1 + (r : Int), xn]) := hcs0
                  have hkc : Kept (fun _ => False) wu ((wu.alloc (.cells #[.int .i64 105, .int .i64 97, .int .i64 xk] 3)).alloc (.cells #[.int .i64 1, .int .i64 (1 + (r : Int)), .int .i64 xn] 3)) := ((Kept.refl _ wu).alloc _).alloc _
                  have HKV6 := Lib.hid (HKU.out.trans hkc)
                  have HH6 := Lib.hid (HHu.out.kept hkc)
                  have HY6 := Lib.hid (HYu.out.kept hkc (fun _ _ => id))
                  have HR6 := Lib.hid (HRu.out.kept hkc (fun _ _ => id))
                  have HX6 := Lib.hid (HXu.out.kept hkc (fun _ _ => id))
                  clear hkc hcs0 hidx hk5' q6' q5 q6 hrem hwr hwc
                  generalize (wu.alloc (.cells #[.int .i64 105, .int .i64 97, .int .i64 xk] 3)).alloc (.cells #[.int .i64 1, .int .i64 (1 + (r : Int)), .int .i64 xn] 3) = w6 at *
                  generalize wu.heap.size + 1 = cb at *
                  generalize ([1, 1 + (r : Int), xn] : List Int) = cs at *
                  go_wp2_with fail
                  clear b7 b8 t5 t6
                  go_loopw [14] (fun v wr => ∃ q : Nat, q ≤ 3 ∧ v = .int .i64 q ∧ Kept (fun _ => False) w6 wr) (fun v _ => 3 - (intOf v).toNat)
                  case atStart => exact ⟨0, Nat.zero_le _, rfl, Kept.refl _ _⟩
                  case round =>
                    obtain ⟨q, hq, rfl, hkq⟩ := hrel
                    obtain ⟨wq, hwq⟩ : ∃ wq, wq = wr := ⟨_, rfl⟩
                    subst hwq
                    by_cases hq4 : q < 3
                    · obtain ⟨cad, cnt, he, hcnt, hcc⟩ := (hcs.out.kept hkq (fun _ _ => id)).cell hq4
                      injection he with he
                      subst he
                      rw [addr_add, Nat.zero_add] at hcc
                      have HKV7 := Lib.hid hkq
                      have HH7 := Lib.hid (HH6.out.kept hkq)
                      have HY7 := Lib.hid (HY6.out.kept hkq (fun _ _ => id))
                      have HR7 := Lib.hid (HR6.out.kept hkq (fun _ _ => id))
                      have HX7 := Lib.hid (HX6.out.kept hkq (fun _ _ => id))
                      clear hcnt hkq
                      have f1 : wq.cell? (xad.add j) = some (.int .i64 x) := by
                        obtain ⟨ad1, e1, h1⟩ := HX7.out.2 j x HXJ.out
                        injection e1 with e1
                        subst e1
                        exact h1
                      have f2 : wq.cell? (kad.add k) = some (.int .i64 key) := by
                        obtain ⟨ad1, e1, h1⟩ := HY7.out.2 k key HKEY.out
                        injection e1 with e1
                        subst e1
                        exact h1
                      have b7 : decide (q < 3) = true := by simp; omega
                      have b8 : decide ((q : Int) < 3) = true := by simp; omega
                      go_wp2_with fail
                      have hTd : Tabs wq.drew := HH7.out.tabs
                      have hTa : Tabs (wq.alloc (rngO 0 0 false)).drew := HH7.out.tabs.kept ((Kept.refl (fun _ => False) wq).alloc (rngO 0 0 false)).drew id id
                      have t1 : (0 : Int) ≤ (k : Int) := by omega
                      have t2 : (k : Int) < (kn : Int) := by omega
                      have t3 : (0 : Int) ≤ (q : Int) := by omega
                      have t4 : (q : Int) < 3 := by omega
                      have t5 : (0 : Int) ≤ (j : Int) := by omega
                      have t6 : (j : Int) < (m : Int) := by omega
                      have hs9 : s.size ≤ 140737488351232 := by omega
                      have HKS : Hid (∀ W, Kept (fun _ => False) wq W → W.cell? (xad.add j) = some (.int .i64 x) ∧ W.cell? (kad.add k) = some (.int .i64 key) ∧ W.cell? ⟨cb, q, none⟩ = some (.int .i64 cnt)) := fun W h => ⟨cell_kept h f1 id, cell_kept h f2 id, cell_kept h hcc id⟩
                      clear b7 b8 f1 f2 hcc
                      have KA := HKS.out _ (Kept.refl (fun _ => False) wq).drew
                      have KB := HKS.out _ ((Kept.refl (fun _ => False) wq).alloc (rngO 0 0 false)).drew
                      go_cut [15, 16] from 76 to 93 (fun s15 s16 wx => ∃ (g : Nat) (a d : Int) (l : Bool) (E : Int), s15 = .pointer (some ⟨g, 0, none⟩) ∧ s16 = .int .i64 E ∧ ToldO s x wide key cnt a d l E ∧ wq.heap.size ≤ g ∧ wx.heap[g]? = some (rngO a d l) ∧ Kept (fun _ => False) wq wx)
                      case first =>
                        go_region_held3 (fun (w' : World) => w'.cell? (xad.add j) = some (.int .i64 x) ∧ w'.cell? (kad.add k) = some (.int .i64 key) ∧ w'.cell? ⟨cb, q, none⟩ = some (.int .i64 cnt))
                          (first | with_reducible exact KC | with_reducible exact KB | with_reducible exact KA | with_reducible exact HKS.out _ (HK8.out.alloc _) | with_reducible exact HKS.out _ (HKZ.out _ _ _))
                          (first
                            | (go_at_call 27; refine (ppiece_all s x wide key cnt _ hs9 hTd).mono ?_; rintro e w8 ⟨⟨a, d, l, E, rfl, htold⟩, hk8⟩; have HTD := Lib.hid htold; have HK8 : Hid (Kept (fun _ => False) wq w8) := (Kept.refl (fun _ => False) wq).drew.trans hk8; have KC := HKS.out _ HK8.out; clear htold hk8)
                            | (go_at_call 27; refine (ppiece_all s x wide key cnt _ hs9 hTa).mono ?_; rintro e w8 ⟨⟨a, d, l, E, rfl, htold⟩, hk8⟩; have HTD := Lib.hid htold; have HK8 : Hid (Kept (fun _ => False) wq w8) := ((Kept.refl (fun _ => False) wq).alloc (rngO 0 0 false)).drew.trans hk8; have KC := HKS.out _ HK8.out; have h8 : w8.heap[wq.heap.size]? = some (rngO 0 0 false) := (hk8.block _ (by simp) id).trans (heap_alloc_new wq _); have H8 := Lib.hid h8; have HKZ : Hid (∀ u0 u1 u2, Kept (fun _ => False) wq (((w8.setCell ⟨wq.heap.size, 0, none⟩ u0).setCell ⟨wq.heap.size, 1, none⟩ u1).setCell ⟨wq.heap.size, 2, none⟩ u2)) := (fun u0 u1 u2 => HK8.out.fresh (Kept.three (Kept.refl (fun q => q = wq.heap.size) w8) rfl _ _ _) (fun b hb e => by omega)); obtain ⟨d0, d1, d2⟩ := rng_facts h8; obtain ⟨e0, e1, e2⟩ := rng_free h8; clear htold hk8 h8))
                        · go_wp2_with fail
                          go_meet
                          exact ⟨w8.heap.size, a, d, l, E, rfl, rfl, HTD.out, HK8.out.size, heap_alloc_new w8 _, HK8.out.alloc _⟩
                        · go_wp2_with fail
                          go_meet
                          exact ⟨wq.heap.size, a, d, l, E, rfl, rfl, HTD.out, Nat.le_refl _, rng_three H8.out _ _ _, HKZ.out _ _ _⟩
                      case rest =>
                        obtain ⟨g, a, d, l, E, rfl, rfl, htold, hg, hgb, hk9⟩ := hcut
                        have HTD := Lib.hid htold
                        have hkz := hk9.alloc (rngO 0 0 false)
                        have HZB0 : Hid ((wc.alloc (rngO 0 0 false)).heap[wc.heap.size]? = some (rngO 0 0 false)) := heap_alloc_new wc _
                        have HGB0 : Hid ((wc.alloc (rngO 0 0 false)).heap[g]? = some (rngO a d l)) := (heap_alloc_old wc (rngO 0 0 false) (heap_lt hgb)).trans hgb
                        have HGZ : Hid (g < wc.heap.size) := heap_lt hgb
                        have HKQ0 := Lib.hid hkz
                        have HQZ : Hid (wq.heap.size ≤ wc.heap.size) := hk9.size
                        clear htold hgb hk9 hkz hg KA KB hTd hTa
                        go_upto_region 25 with fail
                        generalize wc.alloc (rngO 0 0 false) = wz at *
                        generalize wc.heap.size = zb at *
                        have HZB := Lib.hid HZB0.out
                        have HGZ' : Hid (g ≠ zb) := by have := HGZ.out; show g ≠ zb; omega
                        have HZQ : Hid (∀ b, b < wq.heap.size → b = zb → False) := by have := HQZ.out; show ∀ b, _; intro b h1 h2; omega
                        have HGB := Lib.hid HGB0.out
                        have HKQ := Lib.hid HKQ0.out
                        clear HZB0 HGB0 HKQ0
                        obtain ⟨G, hG⟩ : ∃ G, decide (GoodO s x wide key cnt) = G := ⟨_, rfl⟩
                        have HG := Lib.hid hG
                        clear hG
                        go_cut [127] from 95 to 127 (fun v wx => v = .bool G ∧ Kept (fun _ => False) wz wx)
                        case first =>
                          have cMay := rmay_any s wz hs9 (HH7.out.kept HKQ.out).tabs
                          have hex : GoodO s x wide key cnt ↔ mayB s = true ∧ (0 ≤ x ∧ x ≤ (t.length : Int)) ∧ (wide = 105 ∨ wide = 97) ∧ Rw.Obj key ∧ 1 ≤ cnt ∧ cnt ≤ 999 := by
                            unfold GoodO GoodP
                            rw [HT2.out]
                            exact ⟨fun h => ⟨h.1.1, ⟨h.1.2.1, h.1.2.2⟩, h.2⟩, fun h => ⟨⟨h.1, h.2.1.1, h.2.1.2⟩, h.2.2⟩⟩
                          by_cases h1 : mayB s = true
                          case neg =>
                            have hGf : G = false := by rw [← HG.out]; exact decide_eq_false (fun h => h1 (hex.1 h).1)
                            rw [Bool.not_eq_true] at h1
                            rw [h1] at cMay
                            subst hGf
                            clear hex h1
                            go_wp2_with (go_at_call 15; refine cMay.mono ?_; rintro e w10 ⟨rfl, hk10⟩; have HZ10 := Lib.hid hk10; obtain ⟨r0, r1, r2⟩ := HKS.out _ (HKQ.out.trans hk10); clear hk10 cMay)
                            go_meet
                            exact ⟨rfl, HZ10.out⟩
                          rw [h1] at cMay
                          by_cases h2 : 0 ≤ x ∧ x ≤ (t.length : Int)
                          case neg =>
                            have hGf : G = false := by rw [← HG.out]; exact decide_eq_false (fun h => h2 (hex.1 h).2.1)
                            have H2 := Lib.hid h2
                            subst hGf
                            clear hex h1 h2
                            go_wp2_with (first | (go_at_call 15; refine cMay.mono ?_; rintro e w10 ⟨rfl, hk10⟩; have HZ10 := Lib.hid hk10; obtain ⟨r0, r1, r2⟩ := HKS.out _ (HKQ.out.trans hk10); clear hk10 cMay) | (go_at_call 16; refine (znum_f H2.out _).mono ?_; rintro e w' ⟨rfl, hw⟩; have hw2 := hw.symm; clear hw; subst hw2))
                            go_meet
                            exact ⟨rfl, HZ10.out⟩
                          have H2 := Lib.hid h2
                          by_cases h3 : wide = 105 ∨ wide = 97
                          case neg =>
                            have hGf : G = false := by rw [← HG.out]; exact decide_eq_false (fun h => h3 (hex.1 h).2.2.1)
                            have e1 : (wide == 105) = false := beq_eq_false_iff_ne.2 (not_or.1 h3).1
                            have e2 : (wide == 97) = false := beq_eq_false_iff_ne.2 (not_or.1 h3).2
                            subst hGf
                            clear hex h1 h2 h3
                            go_wp2_with (first | (go_at_call 15; refine cMay.mono ?_; rintro e w10 ⟨rfl, hk10⟩; have HZ10 := Lib.hid hk10; obtain ⟨r0, r1, r2⟩ := HKS.out _ (HKQ.out.trans hk10); clear hk10 cMay) | (go_at_call 16; refine (znum_t H2.out _).mono ?_; rintro e w' ⟨rfl, hw⟩; have hw2 := hw.symm; clear hw; subst hw2))
                            go_meet
                            exact ⟨rfl, HZ10.out⟩
                          have hww : (wide == 105) = true ∨ ((wide == 105) = false ∧ (wide == 97) = true) := by rcases h3 with rfl | rfl <;> simp
                          by_cases h4 : Rw.Obj key
                          case neg =>
                            have hGf : G = false := by rw [← HG.out]; exact decide_eq_false (fun h => h4 (hex.1 h).2.2.2.1)
                            have H3 := Lib.hid h4
                            subst hGf
                            clear hex h1 h2 h3 h4
                            rcases hww with e1 | ⟨e1, e2⟩
                            all_goals
                              go_wp2_with (first | (go_at_call 15; refine cMay.mono ?_; rintro e w10 ⟨rfl, hk10⟩; have HZ10 := Lib.hid hk10; obtain ⟨r0, r1, r2⟩ := HKS.out _ (HKQ.out.trans hk10); clear hk10 cMay) | (go_at_call 16; refine (znum_t H2.out _).mono ?_; rintro e w' ⟨rfl, hw⟩; have hw2 := hw.symm; clear hw; subst hw2) | (go_at_call 40; refine (robject_f H3.out _).mono ?_; rintro e w11 ⟨rfl, hk11⟩; have HZ11 := Lib.hid (HZ10.out.trans hk11); obtain ⟨s0, s1, s2⟩ := HKS.out _ (HKQ.out.trans HZ11.out); clear hk11))
                              go_meet
                              exact ⟨rfl, HZ11.out⟩
                          have H3 := Lib.hid h4
                          by_cases h5 : 1 ≤ cnt ∧ cnt ≤ 999
                          case neg =>
                            have hGf : G = false := by rw [← HG.out]; exact decide_eq_false (fun h => h5 (hex.1 h).2.2.2.2)
                            have H4 := Lib.hid h5
                            subst hGf
                            clear hex h1 h2 h3 h4 h5
                            rcases hww with e1 | ⟨e1, e2⟩
                            all_goals
                              go_wp2_with (first | (go_at_call 15; refine cMay.mono ?_; rintro e w10 ⟨rfl, hk10⟩; have HZ10 := Lib.hid hk10; obtain ⟨r0, r1, r2⟩ := HKS.out _ (HKQ.out.trans hk10); clear hk10 cMay) | (go_at_call 16; refine (znum_t H2.out _).mono ?_; rintro e w' ⟨rfl, hw⟩; have hw2 := hw.symm; clear hw; subst hw2) | (go_at_call 40; refine (robject_t H3.out _).mono ?_; rintro e w11 ⟨rfl, hk11⟩; have HZ11 := Lib.hid (HZ10.out.trans hk11); obtain ⟨s0, s1, s2⟩ := HKS.out _ (HKQ.out.trans HZ11.out); clear hk11) | (go_at_call 41; refine (btw_f H4.out _).mono ?_; rintro e w' ⟨rfl, hw⟩; have hw2 := hw.symm; clear hw; subst hw2))
                              go_meet
                              exact ⟨rfl, HZ11.out⟩
                          have hGt : G = true := by rw [← HG.out]; exact decide_eq_true (hex.2 ⟨h1, h2, h3, h4, h5⟩)
                          have H4 := Lib.hid h5
                          subst hGt
                          clear hex h1 h2 h3 h4 h5
                          rcases hww with e1 | ⟨e1, e2⟩
                          all_goals
                            go_wp2_with (first | (go_at_call 15; refine cMay.mono ?_; rintro e w10 ⟨rfl, hk10⟩; have HZ10 := Lib.hid hk10; obtain ⟨r0, r1, r2⟩ := HKS.out _ (HKQ.out.trans hk10); clear hk10 cMay) | (go_at_call 16; refine (znum_t H2.out _).mono ?_; rintro e w' ⟨rfl, hw⟩; have hw2 := hw.symm; clear hw; subst hw2) | (go_at_call 40; refine (robject_t H3.out _).mono ?_; rintro e w11 ⟨rfl, hk11⟩; have HZ11 := Lib.hid (HZ10.out.trans hk11); obtain ⟨s0, s1, s2⟩ := HKS.out _ (HKQ.out.trans HZ11.out); clear hk11) | (go_at_call 41; refine (btw_t H4.out _).mono ?_; rintro e w' ⟨rfl, hw⟩; have hw2 := hw.symm; clear hw; subst hw2))
                            go_meet
                            exact ⟨rfl, HZ11.out⟩
                        case rest =>
                          obtain ⟨rfl, hk12⟩ := hcut
                          have HZW := Lib.hid hk12
                          have HGW := Lib.hid ((hk12.block g (heap_lt HGB.out) id).trans HGB.out)
                          have HZW2 := Lib.hid ((hk12.block zb (heap_lt HZB.out) id).trans HZB.out)
                          have hgz1 : ¬ g = zb := HGZ'.out
                          have hgz2 : ¬ zb = g := fun e => HGZ'.out e.symm
                          clear hk12
                          cases G with
                          | false =>
                            obtain ⟨rfl, rfl, rfl, rfl⟩ := HTD.out.2 (of_decide_eq_false HG.out)
                            obtain ⟨y0, y1, y2⟩ := rng_facts HGW.out
                            obtain ⟨z0, z1, z2⟩ := rng_facts HZW2.out
                            go_wp2_with (go_at_call 28; refine (onum_any _ _).mono ?_; rintro e w' ⟨rfl, hw⟩; have hw2 := hw.symm; subst hw2)
                            exact ⟨⟨q + 1, by omega, by go_num, HKV7.out.trans (HKQ.out.trans HZW.out)⟩, by simp [intOf]; omega⟩
                          | true =>
                            have hgood := of_decide_eq_true HG.out
                            have hRT0 := HTD.out.1 hgood
                            obtain ⟨⟨hm, hx0, hx1⟩, hw3, hO, hc1, hc2⟩ := hgood
                            obtain ⟨kk, rfl⟩ := Int.eq_ofNat_of_zero_le hx0
                            obtain ⟨mm, rfl⟩ := Int.eq_ofNat_of_zero_le (show 0 ≤ cnt by omega)
                            have hry := rs_runey (mayB_valid hm)
                            rw [HT2.out] at hRT0 hx1 hry
                            have hRT : ansR (Rw.pce t kk wide key mm) = .tuple #[rngV a d l, .int .i64 E] := hRT0
                            have HRP := Lib.hid (fun (W : World) (hW : Rn W (some ⟨rb, 0, none⟩) t.length t) => rpiece_yes (some ⟨rb, 0, none⟩) t.length cap kk mm wide key t W hW hry HTl.out (by omega) hw3 hO (by omega) (by omega))
                            rw [hRT] at HRP
                            have hRd : Rn wc.drew (some ⟨rb, 0, none⟩) t.length t := HR7.out.kept (HKQ.out.trans HZW.out).drew (fun _ _ => id)
                            have cRp := HRP.out _ hRd
                            have KA := HKS.out _ (HKQ.out.trans HZW.out).drew
                            clear hRT hRT0 hry hm hx0 hx1 hw3 hO hc1 hc2 hRd HRP
                            go_upto_region 26 with fail
                            go_cut [17] from 128 to 145 (fun s17 wx => s17 = .int .i64 E ∧ wx.heap[zb]? = some (rngO a d l) ∧ wx.heap[g]? = some (rngO a d l) ∧ Kept (fun _ => False) wq wx)
                            case first =>
                              go_region_held3 (fun (w' : World) => w'.cell? (xad.add j) = some (.int .i64 (kk : Nat)) ∧ w'.cell? (kad.add k) = some (.int .i64 key) ∧ w'.cell? ⟨cb, q, none⟩ = some (.int .i64 (mm : Nat)))
                                (first | with_reducible exact KC | with_reducible exact KA | with_reducible exact HKS.out _ (HKZ.out _ _ _))
                                ((go_at_call 42; refine cRp.mono ?_; rintro e w13 ⟨rfl, hk13⟩; have HK13 : Hid (Kept (fun _ => False) wq w13) := (HKQ.out.trans HZW.out).drew.trans hk13; have KC := HKS.out _ HK13.out; have h8 : w13.heap[zb]? = some (rngO 0 0 false) := (hk13.block zb (heap_lt HZW2.out) id).trans HZW2.out; have h9 : w13.heap[g]? = some (rngO a d l) := (hk13.block g (heap_lt HGW.out) id).trans HGW.out; have H8 := Lib.hid h8; have H9 := Lib.hid h9; have HKZ : Hid (∀ u0 u1 u2, Kept (fun _ => False) wq (((w13.setCell ⟨zb, 0, none⟩ u0).setCell ⟨zb, 1, none⟩ u1).setCell ⟨zb, 2, none⟩ u2)) := (fun u0 u1 u2 => HK13.out.fresh (Kept.three (Kept.refl (fun q => q = zb) w13) rfl _ _ _) (fun b hb e => HZQ.out b hb e)); obtain ⟨d0, d1, d2⟩ := rng_facts h8; obtain ⟨e0, e1, e2⟩ := rng_free h8; clear hk13 h8 h9))
                              go_wp2_with fail
                              go_meet
                              exact ⟨rfl, rng_three H8.out _ _ _, (heap_far HGZ'.out _).trans ((heap_far HGZ'.out _).trans ((heap_far HGZ'.out _).trans H9.out)), HKZ.out _ _ _⟩
                            case rest =>
                              obtain ⟨rfl, hz9, hg9, hk9⟩ := hcut
                              clear KA cRp
                              obtain ⟨y0, y1, y2⟩ := rng_facts hg9
                              obtain ⟨z0, z1, z2⟩ := rng_facts hz9
                              have HK9 := Lib.hid hk9
                              clear hk9 hz9 hg9
                              go_wp2_with (go_at_call 28; refine (onum_any _ _).mono ?_; rintro e w' ⟨rfl, hw⟩; have hw2 := hw.symm; subst hw2)
                              exact ⟨⟨q + 1, by omega, by go_num, HKV7.out.trans HK9.out⟩, by simp [intOf]; omega⟩
                    · obtain rfl : q = 3 := by omega
                      go_wp2_with fail
                      go_roundw
                      case rel => exact ⟨u + 1, by omega, by go_num, HKV6.out.trans hkq⟩
                      case measure => simp [intOf]; omega
                · obtain rfl : u = 3 := by omega
                  go_wp2_with fail
                  go_roundw
                  case rel => exact ⟨k + 1, by omega, by go_num, HKK.out.trans hku⟩
                  case measure => simp [intOf]; omega
            · obtain rfl : k = kn := by omega
              have b5 : decide (k < k) = false := by simp
              go_wp2_with fail
              go_roundw
              case rel => exact ⟨j + 1, by omega, by go_num, HKJ.out.trans HKK.out⟩
              case measure => simp [intOf]; omega
        · have b5 : decide (j < m) = false := by simp; omega
          go_wp2_with fail
          go_roundw
          case rel => exact ⟨i + 1, by omega, by omega, by go_num, HKW3.out.trans HKJ.out⟩
          case measure => simp [intOf]; omega
    · have hlast : (i = n0 ∧ i < 4) ∨ (i < n0 ∧ i = 4) ∨ (i = n0 ∧ i = 4) := by omega
      have cW := owakes_any wi HHi.out.tabs
      rcases hlast with ⟨h1, h2⟩ | ⟨h1, h2⟩ | ⟨h1, h2⟩
      case' inl | inr.inr => have b1 : decide (i < n0) = false := by simp; omega
      case' inr.inl =>
        have b1 : decide (i < n0) = true := by simp; omega
        have b2 : decide (i < 4) = false := by simp; omega
        have b3 : decide ((i : Int) < 4) = false := by simp; omega
      all_goals
        clear h1 h2
        go_wp2_with (go_at_call 29; refine cW.mono ?_; rintro e w9 ⟨rfl, hk9⟩)
        go_ret
        exact ⟨rfl, HKi.out.trans hk9⟩
end Go.Proofs.YtohmhjeimeilcaaDoor
