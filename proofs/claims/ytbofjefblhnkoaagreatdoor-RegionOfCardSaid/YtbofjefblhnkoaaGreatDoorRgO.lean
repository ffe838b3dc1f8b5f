/-
  REGIONS: the region of a motion, as the program tells it.
-/
import Derived.Test.YtbofjefblhnkoaaGreatDoorRgC
set_option linter.unusedVariables false
set_option maxRecDepth 100000
namespace Go.Proofs.YtbofjefblhnkoaaGreatDoor
open Go Go.RowKit

theorem res_of {fn : Func} {p q u : Tmp} (h : fn.results = #[.cell p 41, .cell q 31, .tmp u]) (tmps : Array Value) (w : World) (g g' : Nat) (a k : Int) (l : Bool) (x y : Int) (hp : tmps.getD p undef = .pointer (some ⟨g, 0, none⟩)) (hq : tmps.getD q undef = .pointer (some ⟨g', 0, none⟩)) (hg : w.heap[g]? = some (rngO a k l)) (hg' : w.heap[g']? = some (sekO x y)) :
    (results fn tmps).run Tryz.prog w = .ok (.tuple #[rngV a k l, sekV x y, tmps.getD u undef]) w := by
  have hl : (loadVar 41 ⟨g, 0, none⟩).run Tryz.prog w = .ok (rngV a k l) w := run_loadVar_row w g _ _ _ _ _ hg Tryz.underlying41 rfl (by kernel_rfl)
  have hl' : (loadVar 31 ⟨g', 0, none⟩).run Tryz.prog w = .ok (sekV x y) w := run_loadVar_row w g' _ _ _ _ _ hg' Tryz.underlying31 rfl (by kernel_rfl)
  have hp' : tmps[p]?.getD undef = .pointer (some ⟨g, 0, none⟩) := by simpa using hp
  have hq' : tmps[q]?.getD undef = .pointer (some ⟨g', 0, none⟩) := by simpa using hq
  simp only [results, h]
  simp [Sem.run_bind, Result.andThen, asAddr, hp', hq', hl, hl']
/-- The four blocks of region.Of. -/
structure FourR (W : World) (B : Nat) (c0 c1 c2 c3 c4 c5 k1 k2 lo hi : Int) (l : Bool) (x0 x1 : Int) : Prop where
  a : W.heap[B]? = some (cmdO c0 c1 c2 c3 c4 c5)
  b : W.heap[B + 1]? = some (sekO k1 k2)
  c : W.heap[B + 1 + 1]? = some (rngO lo hi l)
  d : W.heap[B + 1 + 1 + 1]? = some (sekO x0 x1)
theorem FourR.kept {W W' : World} {B : Nat} {c0 c1 c2 c3 c4 c5 k1 k2 lo hi : Int} {l : Bool} {x0 x1 : Int} (h : FourR W B c0 c1 c2 c3 c4 c5 k1 k2 lo hi l x0 x1) (hk : Kept (fun _ => False) W W') : FourR W' B c0 c1 c2 c3 c4 c5 k1 k2 lo hi l x0 x1 :=
  ⟨(hk.block _ (heap_lt h.a) id).trans h.a, (hk.block _ (heap_lt h.b) id).trans h.b, (hk.block _ (heap_lt h.c) id).trans h.c, (hk.block _ (heap_lt h.d) id).trans h.d⟩
theorem FourR.far {W : World} {B : Nat} {c0 c1 c2 c3 c4 c5 k1 k2 lo hi : Int} {l : Bool} {x0 x1 : Int} (h : FourR W B c0 c1 c2 c3 c4 c5 k1 k2 lo hi l x0 x1) {g : Nat} (hg : B + 1 + 1 + 1 < g) (i : Nat) (v : Value) : FourR (W.setCell ⟨g, i, none⟩ v) B c0 c1 c2 c3 c4 c5 k1 k2 lo hi l x0 x1 :=
  ⟨(heap_far (by omega) v).trans h.a, (heap_far (by omega) v).trans h.b, (heap_far (by omega) v).trans h.c, (heap_far (by omega) v).trans h.d⟩
theorem FourR.setX {W : World} {B : Nat} {c0 c1 c2 c3 c4 c5 k1 k2 lo hi : Int} {l : Bool} {x0 x1 : Int} (h : FourR W B c0 c1 c2 c3 c4 c5 k1 k2 lo hi l x0 x1) (x y : Int) : FourR ((W.setCell ⟨B + 1 + 1 + 1, 0, none⟩ (.int .i64 x)).setCell ⟨B + 1 + 1 + 1, 1, none⟩ (.int .i64 y)) B c0 c1 c2 c3 c4 c5 k1 k2 lo hi l x y :=
  ⟨(heap_far (by omega) _).trans ((heap_far (by omega) _).trans h.a), (heap_far (by omega) _).trans ((heap_far (by omega) _).trans h.b), (heap_far (by omega) _).trans ((heap_far (by omega) _).trans h.c), set_two h.d _ _⟩
theorem FourR.setR {W : World} {B : Nat} {c0 c1 c2 c3 c4 c5 k1 k2 lo hi : Int} {l : Bool} {x0 x1 : Int} (h : FourR W B c0 c1 c2 c3 c4 c5 k1 k2 lo hi l x0 x1) (lo' hi' : Int) (l' : Bool) : FourR (((W.setCell ⟨B + 1 + 1, 0, none⟩ (.int .i64 lo')).setCell ⟨B + 1 + 1, 1, none⟩ (.int .i64 hi')).setCell ⟨B + 1 + 1, 2, none⟩ (.bool l')) B c0 c1 c2 c3 c4 c5 k1 k2 lo' hi' l' x0 x1 :=
  ⟨(heap_far (by omega) _).trans ((heap_far (by omega) _).trans ((heap_far (by omega) _).trans h.a)), (heap_far (by omega) _).trans ((heap_far (by omega) _).trans ((heap_far (by omega) _).trans h.b)), rng_three h.c _ _ _, (heap_far (by omega) _).trans ((heap_far (by omega) _).trans ((heap_far (by omega) _).trans h.d))⟩
theorem FourR.cmd {W : World} {B : Nat} {c0 c1 c2 c3 c4 c5 k1 k2 lo hi : Int} {l : Bool} {x0 x1 : Int} (h : FourR W B c0 c1 c2 c3 c4 c5 k1 k2 lo hi l x0 x1) : W.cell? ⟨B, 0, none⟩ = some (.int .i64 c0) ∧ W.cell? ⟨B, 1, none⟩ = some (.int .i64 c1) ∧ W.cell? ⟨B, 2, none⟩ = some (.int .i64 c2) ∧ W.cell? ⟨B, 3, none⟩ = some (.int .i64 c3) ∧ W.cell? ⟨B, 4, none⟩ = some (.int .i64 c4) ∧ W.cell? ⟨B, 5, none⟩ = some (.int .i64 c5) ∧ W.cell? ⟨B + 1, 0, none⟩ = some (.int .i64 k1) ∧ W.cell? ⟨B + 1, 1, none⟩ = some (.int .i64 k2) :=
  (⟨h.a, h.b⟩ : Par W B c0 c1 c2 c3 c4 c5 k1 k2).facts
theorem FourR.rng {W : World} {B : Nat} {c0 c1 c2 c3 c4 c5 k1 k2 lo hi : Int} {l : Bool} {x0 x1 : Int} (h : FourR W B c0 c1 c2 c3 c4 c5 k1 k2 lo hi l x0 x1) : (W.cell? ⟨B + 1 + 1, 0, none⟩ = some (.int .i64 lo) ∧ W.cell? ⟨B + 1 + 1, 1, none⟩ = some (.int .i64 hi) ∧ W.cell? ⟨B + 1 + 1, 2, none⟩ = some (.bool l)) ∧ (W.frozen? ⟨B + 1 + 1, 0, none⟩ = false ∧ W.frozen? ⟨B + 1 + 1, 1, none⟩ = false ∧ W.frozen? ⟨B + 1 + 1, 2, none⟩ = false) :=
  ⟨rng_facts h.c, rng_free h.c⟩
theorem fourR_new (w : World) (c0 c1 c2 c3 c4 c5 k1 k2 : Int) : FourR ((((w.alloc (cmdO c0 c1 c2 c3 c4 c5)).alloc (sekO k1 k2)).alloc (rngO 0 0 false)).alloc (sekO 0 0)) w.heap.size c0 c1 c2 c3 c4 c5 k1 k2 0 0 false 0 0 := by
  have hp := par_new w c0 c1 c2 c3 c4 c5 k1 k2
  have hs : ((w.alloc (cmdO c0 c1 c2 c3 c4 c5)).alloc (sekO k1 k2)).heap.size = w.heap.size + 1 + 1 := by simp
  have hc := heap_alloc_new ((w.alloc (cmdO c0 c1 c2 c3 c4 c5)).alloc (sekO k1 k2)) (rngO 0 0 false)
  rw [hs] at hc
  have hs2 : (((w.alloc (cmdO c0 c1 c2 c3 c4 c5)).alloc (sekO k1 k2)).alloc (rngO 0 0 false)).heap.size = w.heap.size + 1 + 1 + 1 := by simp
  have hd := heap_alloc_new (((w.alloc (cmdO c0 c1 c2 c3 c4 c5)).alloc (sekO k1 k2)).alloc (rngO 0 0 false)) (sekO 0 0)
  rw [hs2] at hd
  have k1' := (Kept.refl (fun _ => False) ((w.alloc (cmdO c0 c1 c2 c3 c4 c5)).alloc (sekO k1 k2))).alloc (rngO 0 0 false)
  have k2' := (Kept.refl (fun _ => False) (((w.alloc (cmdO c0 c1 c2 c3 c4 c5)).alloc (sekO k1 k2)).alloc (rngO 0 0 false))).alloc (sekO 0 0)
  have hp2 := (hp.kept k1').kept k2'
  exact ⟨hp2.a, hp2.b, (k2'.block _ (heap_lt hc) id).trans hc, hd⟩
set_option maxHeartbeats 4000000 in
theorem pof_go (s : ByteArray) (k m a : Nat) (c0 c2 c3 c5 k1 k2 kd x y : Int) (A : Option Addr) (n c : Nat) (M : List (List Int)) (w : World) (hT : Tabs w) (hA : Rws w A n 2 M) (hn : n ≤ 100000) (hm : mayB s = true) (hk : k ≤ (rs s).length) (hop : Rw.Oper c2) (hc : m ≤ 999) (hx : k1 = 0 ∨ Rw.Seek k1) (ho : Rw.mOk M) (hne : c3 ≠ c2) (hkin : Rw.kin c3 ≠ 0)
    (hgo : Rw.goM (rs s) k c3 c5 m k1 k2 M = some ((a : Int), kd, x, y)) (ha : a ≤ (rs s).length) (hkd : kd = 0 ∨ kd = 1 ∨ kd = 2) :
    Calls Tryz.prog 8 #[.string s, .int .i64 k, cmdV c0 m c2 c3 0 c5, sekV k1 k2, .slice A n c] w fun e w' => e = .returned (.tuple #[btR (Rw.bt (rs s) k a kd), sekV x y, .int .i64 0]) ∧ Kept (fun _ => False) w w' := by
  have HK0 : Hid (Kept (fun _ => False) w ((((w.alloc (cmdO c0 m c2 c3 0 c5)).alloc (sekO k1 k2)).alloc (rngO 0 0 false)).alloc (sekO 0 0))) := ((((Kept.refl _ w).alloc _).alloc _).alloc _).alloc _
  have HF0 := Lib.hid (fourR_new w c0 m c2 c3 0 c5 k1 k2)
  have cM := fun W (hk' : Kept (fun _ => False) w W) => pmay_t s k c0 m c2 c3 0 c5 k1 k2 A n c M W (hT.kept hk' id id) (hA.kept hk' (fun _ _ => id)) hn hm hk hop (by omega) hx ho (.inr (.inr ⟨rfl, .inr hkin⟩))
  have cG := fun W (hk' : Kept (fun _ => False) w W) => pgo_yes s k m c0 c2 c3 0 c5 k1 k2 A n c M W (hT.kept hk' id id) hm hk hc hx (hA.kept hk' (fun _ _ => id)) hn ho hkin
  have cB := fun W (hk' : Kept (fun _ => False) w W) => pbtw_yes s k a kd W (hT.kept hk' id id) hm hk ha hkd
  simp only [hgo] at cG
  unfold goV tgt at cG
  simp only at cG
  generalize Rw.bt (rs s) k a kd = V at *
  unfold btR
  unfold btR at cB
  obtain ⟨lo, hi, ln⟩ := V
  simp only at cB ⊢
  have b1 : (c3 == c2) = false := beq_eq_false_iff_ne.2 hne
  have HCG := Lib.hid cG
  have HCB := Lib.hid cB
  clear hT hA hm hop hx ho hne hkin hgo cG cB
  obtain ⟨B, hB⟩ : ∃ B, w.heap.size = B := ⟨_, rfl⟩
  go_enter Tryz.func8, Tryz.ntmps8
  go_upto_region 1 with fail
  have HBW := Lib.hid hB
  simp only [hB] at HF0 ⊢
  clear hB
  generalize (((w.alloc (cmdO c0 m c2 c3 0 c5)).alloc (sekO k1 k2)).alloc (rngO 0 0 false)).alloc (sekO 0 0) = W0 at *
  obtain ⟨a0, a1, a2, a3, a4, a5, a6, a7⟩ := HF0.out.cmd
  go_upto_region 4 with (go_at_call 21; refine (cM _ HK0.out).mono ?_; rintro e w1 ⟨rfl, hk1⟩; have HK1 := Lib.hid (HK0.out.trans hk1); have HF1 := Lib.hid (HF0.out.kept hk1); obtain ⟨d0, d1, d2, d3, d4, d5, d6, d7⟩ := HF1.out.cmd; clear hk1 a0 a1 a2 a3 a4 a5 a6 a7)
  obtain ⟨x1, x2, x3, x4⟩ := two_facts HF1.out.d
  go_upto_region 5 with fail
  have HF2 := Lib.hid (HF1.out.setX k1 k2)
  have HK2 := Lib.hid (HK1.out.fresh (Kept.pair (Kept.refl (fun q => q = B + 1 + 1 + 1) w1) rfl (.int .i64 k1) (.int .i64 k2)) (fun q hq e => by have := HBW.out; omega))
  clear x1 x2 x3 x4 d0 d1 d2 d3 d4 d5 d6 d7
  generalize (w1.setCell ⟨B + 1 + 1 + 1, 0, none⟩ (.int .i64 k1)).setCell ⟨B + 1 + 1 + 1, 1, none⟩ (.int .i64 k2) = W2 at *
  obtain ⟨a0, a1, a2, a3, a4, a5, a6, a7⟩ := HF2.out.cmd
  go_upto_region 6 with fail
  clear a0 a1 a2 a3 a4 a5 a6 a7
  have HT3 : Hid ((W2.alloc (tgtO 0 0)).heap[W2.heap.size]? = some (tgtO 0 0)) := heap_alloc_new W2 _
  have HF3 := Lib.hid (HF2.out.kept ((Kept.refl (fun _ => False) W2).alloc (tgtO 0 0)))
  have HK3 := Lib.hid (HK2.out.alloc (tgtO 0 0))
  have htb : B + 1 + 1 + 1 < W2.heap.size := heap_lt HF2.out.d
  generalize W2.heap.size = tb at *
  generalize W2.alloc (tgtO 0 0) = W3 at *
  obtain ⟨a0, a1, a2, a3, a4, a5, a6, a7⟩ := HF3.out.cmd
  go_upto_region 7 with (go_at_call 24; refine (HCG.out _ HK3.out).mono ?_; rintro e w4 ⟨rfl, hk4⟩; have HK4 := Lib.hid (HK3.out.trans hk4); have HF4 := Lib.hid (HF3.out.kept hk4); have HT4 := Lib.hid ((hk4.block _ (heap_lt HT3.out) id).trans HT3.out); obtain ⟨e1, e2, e3, e4⟩ := two_facts HT4.out; obtain ⟨g1, g2, g3, g4⟩ := two_facts HF4.out.d; clear hk4 a0 a1 a2 a3 a4 a5 a6 a7)
  have HT5 : Hid (((((w4.setCell ⟨tb, 0, none⟩ (.int .i64 a)).setCell ⟨tb, 1, none⟩ (.int .i64 kd)).setCell ⟨B + 1 + 1 + 1, 0, none⟩ (.int .i64 x)).setCell ⟨B + 1 + 1 + 1, 1, none⟩ (.int .i64 y)).heap[tb]? = some (tgtO a kd)) := (heap_far (by omega) _).trans ((heap_far (by omega) _).trans (set_two HT4.out _ _))
  have HF5 := Lib.hid (((HF4.out.far htb 0 (.int .i64 (a : Int))).far htb 1 (.int .i64 kd)).setX x y)
  have HK5 := Lib.hid (HK4.out.fresh (Kept.pair (Kept.pair (Kept.refl (fun q => q = tb ∨ q = B + 1 + 1 + 1) w4) (.inl rfl) (.int .i64 (a : Int)) (.int .i64 kd)) (.inr rfl) (.int .i64 x) (.int .i64 y)) (fun q hq e => by have := HBW.out; omega))
  clear e1 e2 e3 e4 g1 g2 g3 g4
  generalize (((w4.setCell ⟨tb, 0, none⟩ (.int .i64 a)).setCell ⟨tb, 1, none⟩ (.int .i64 kd)).setCell ⟨B + 1 + 1 + 1, 0, none⟩ (.int .i64 x)).setCell ⟨B + 1 + 1 + 1, 1, none⟩ (.int .i64 y) = W5 at *
  obtain ⟨e1, e2, _, _⟩ := two_facts HT5.out
  go_upto_region 13 with (go_at_call 15; refine (HCB.out _ HK5.out).mono ?_; rintro e w6 ⟨rfl, hk6⟩; have HK6 := Lib.hid (HK5.out.trans hk6); have HF6 := Lib.hid (HF5.out.kept hk6); obtain ⟨⟨g0, g1, g2⟩, ⟨f0, f1, f2⟩⟩ := HF6.out.rng; clear hk6 e1 e2)
  have HF7 := Lib.hid (HF6.out.setR lo hi ln)
  have HK7 := Lib.hid (HK6.out.fresh (Kept.three (Kept.refl (fun q => q = B + 1 + 1) w6) rfl (.int .i64 (lo : Int)) (.int .i64 (hi : Int)) (.bool ln)) (fun q hq e => by have := HBW.out; omega))
  clear g0 g1 g2 f0 f1 f2
  generalize ((w6.setCell ⟨B + 1 + 1, 0, none⟩ (.int .i64 (lo : Int))).setCell ⟨B + 1 + 1, 1, none⟩ (.int .i64 (hi : Int))).setCell ⟨B + 1 + 1, 2, none⟩ (.bool ln) = W7 at *
  go_upto_region 15 with fail
  obtain ⟨⟨g0, g1, g2⟩, ⟨f0, f1, f2⟩⟩ := HF7.out.rng
  obtain ⟨x1, x2, x3, x4⟩ := two_facts HF7.out.d
  go_region
  all_goals
    try go_wp2
    have FF := (((HF7.out.setR lo hi ln).setX x y).kept ((Kept.refl (fun _ => False) _).drew))
    have KK := (Kept.pair (g := B + 1 + 1 + 1) (Kept.three (g := B + 1 + 1) (Kept.refl (fun q => q = B + 1 + 1 ∨ q = B + 1 + 1 + 1) W7) (.inl rfl) (.int .i64 (lo : Int)) (.int .i64 (hi : Int)) (.bool ln)) (.inr rfl) (.int .i64 x) (.int .i64 y)).drew
    refine bodyPost_ret (res_of rfl _ _ (B + 1 + 1) (B + 1 + 1 + 1) lo hi ln x y rfl rfl ?_ ?_) rfl ⟨rfl, ?_⟩
    · exact FF.c
    · exact FF.d
    · exact HK7.out.fresh KK (fun q hq e => by have := HBW.out; omega)
/-- The text that wakes. -/
theorem r17num_any (x : Int) (w : World) : Calls Tryz.prog 12 #[.int .i64 x] w fun e w' => e = .returned (.int .i64 x) ∧ w' = w := by
  go_enter Tryz.func12, Tryz.ntmps12
  go_wp2
  go_ret
  exact ⟨rfl, rfl⟩
theorem abcd_one : Rw.wmv (rs abcd) 0 119 1 = some 3 := by
  rw [abcd_rs]
  rfl
theorem wakes17_any (w : World) (hT : Tabs w) : Calls Tryz.prog 14 #[] w fun e w' => e = .returned (.bool true) ∧ Kept (fun _ => False) w w' := by
  have hgo : Rw.goM (rs abcd) 0 119 0 0 0 0 [] = some (((3 : Nat) : Int), 0, 0, 0) := by
    unfold Rw.goM
    rw [if_pos (by decide), show Rw.times 0 = 1 by decide, abcd_one]
    rfl
  have cG := pof_go abcd 0 0 3 0 100 119 0 0 0 0 0 0 none 0 0 [] w hT ⟨rfl, fun i r h => by simp at h⟩ (by omega) abcd_may (by omega) (.inl rfl) (by omega) (.inl rfl) (fun i x y h => by simp at h) (by decide) (by decide) hgo (by rw [abcd_rs]; decide) (.inl rfl)
  have hb : btR (Rw.bt (rs abcd) 0 3 0) = rngV 0 3 false := by rw [abcd_rs]; rfl
  rw [hb] at cG
  unfold abcd at cG
  clear hT hgo hb
  go_enter Tryz.func14, Tryz.ntmps14
  go_wp2_with (first | (go_at_call 8; refine cG.mono ?_; rintro e w1 ⟨rfl, hk1⟩) | (go_at_call 12; refine (r17num_any _ _).mono ?_; rintro e w' ⟨rfl, hw⟩; have hw2 := hw.symm; subst hw2))
  go_ret
  exact ⟨rfl, (hk1.alloc _).alloc _⟩
end Go.Proofs.YtbofjefblhnkoaaGreatDoor
