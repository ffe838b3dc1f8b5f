/-
  OPS: the reference's comparison; how much an ask weighs; that they wake.
-/
import Derived.Test.YtpgicfbaefcbmaaDoorCdT
import Derived.Test.YtpgicfbaefcbmaaDoorAo1n
import Derived.BigQuiet
set_option linter.unusedVariables false
namespace Go.Proofs.YtpgicfbaefcbmaaDoor
open Go Go.RowKit

set_option maxRecDepth 100000 in
set_option maxHeartbeats 1000000 in
theorem eqnum_yes (A B : Option Addr) (n c c' : Nat) (xs : List Int) (w : World) (hA : Nums w A n xs) (hB : Nums w B n xs) (hn : n ≤ 17592186044416) :
    Calls Tryd.prog 31 #[.slice A n c, .slice B n c'] w fun e w' => e = .returned (.bool true) ∧ Kept (fun _ => False) w w' := by
  have HA := Lib.hid hA
  have HB := Lib.hid hB
  clear hA hB
  go_enter Tryd.func31, Tryd.ntmps31
  go_wp2_with fail
  go_loopw [5] (fun v wr => ∃ k m : Nat, k ≤ n ∧ v = .int .i64 k ∧ wr = w.drewN m) (fun v _ => n - (intOf v).toNat)
  case atStart => exact ⟨0, 0, Nat.zero_le _, rfl, rfl⟩
  case round =>
    obtain ⟨k, m, hk, rfl, rfl⟩ := hrel
    by_cases hlt : k < n
    · obtain ⟨ad, x, rfl, hr, f0⟩ := HA.out.cell hlt
      obtain ⟨bd, y, rfl, hr', g0⟩ := HB.out.cell hlt
      rw [hr] at hr'
      injection hr' with e1
      subst e1
      have f0' : (w.drewN m).cell? (ad.add k) = some (.int .i64 x) := f0
      have g0' : (w.drewN m).cell? (bd.add k) = some (.int .i64 x) := g0
      have b1 : decide (k < n) = true := decide_eq_true hlt
      have b2 : decide ((k : Int) < (n : Int)) = true := decide_eq_true (by omega)
      have t1 : (0 : Int) ≤ (k : Int) := by omega
      have t2 : (k : Int) < (n : Int) := by omega
      clear hr
      go_wp2_with fail
      try go_quiet (fail)
      try go_wp2_with fail
      go_roundw
      case rel => first | exact ⟨k + 1, _, by omega, by go_num, rfl⟩ | exact ⟨k + 1, m, by omega, by go_num, rfl⟩
      case measure => simp [intOf] <;> omega
    · obtain rfl : k = n := by omega
      have b1 : decide (k < k) = false := decide_eq_false (by omega)
      have b2 : decide ((k : Int) < (k : Int)) = false := decide_eq_false (by omega)
      go_wp2_with fail
      go_ret
      exact ⟨rfl, (Kept.refl _ w).drewN m⟩
set_option maxRecDepth 100000 in
set_option maxHeartbeats 4000000 in
theorem eqop_yes (b b' : OpS) (w : World) (hb : OpOk w b) (hb' : OpOk w b') (ho : b.o = b'.o) :
    Calls Tryd.prog 14 #[opV b, opV b'] w fun e w' => e = .returned (.bool true) ∧ Kept (fun _ => False) w w' := by
  obtain ⟨o, A, n, c⟩ := b
  obtain ⟨o', A', n', c'⟩ := b'
  simp only at ho
  subst ho
  have hnn : n = n' := hb.seen.1.symm.trans hb'.seen.1
  subst hnn
  have hK1 : Kept (fun _ => False) (w.alloc (opO ⟨o, A, n, c⟩)) ((w.alloc (opO ⟨o, A, n, c⟩)).alloc (opO ⟨o, A', n, c'⟩)) := (Kept.refl _ _).alloc _
  have hK0 : Kept (fun _ => False) w ((w.alloc (opO ⟨o, A, n, c⟩)).alloc (opO ⟨o, A', n, c'⟩)) := ((Kept.refl _ w).alloc _).alloc _
  have HO : Hid (Op9 ((w.alloc (opO ⟨o, A, n, c⟩)).alloc (opO ⟨o, A', n, c'⟩)) ⟨w.heap.size, 0, none⟩ ⟨o, A, n, c⟩) := op9_new.kept hK1 id
  have HO' : Hid (Op9 ((w.alloc (opO ⟨o, A, n, c⟩)).alloc (opO ⟨o, A', n, c'⟩)) ⟨w.heap.size + 1, 0, none⟩ ⟨o, A', n, c'⟩) := by
    have := op9_new (w := w.alloc (opO ⟨o, A, n, c⟩)) (b := ⟨o, A', n, c'⟩)
    rwa [show (w.alloc (opO ⟨o, A, n, c⟩)).heap.size = w.heap.size + 1 by simp] at this
  have cE := fun W (hk : Kept (fun _ => False) w W) => eqnum_yes A A' n c c' o.seen W (hb.seen.kept hk (fun _ _ => id)) (hb'.seen.kept hk (fun _ _ => id)) hb.n
  have HK := Lib.hid hK0
  clear hK0 hK1 hb hb'
  unfold opV
  go_enter Tryd.func14, Tryd.ntmps14
  simp only [opO] at *
  obtain ⟨c0, c1, c2, c3, c4, c5, c6, c7, c8⟩ := HO.out.cs
  obtain ⟨d0, d1, d2, d3, d4, d5, d6, d7, d8⟩ := HO'.out.cs
  simp only at c0 c1 c2 c3 c4 c5 c6 c7 c8 d0 d1 d2 d3 d4 d5 d6 d7 d8
  go_wp2_with (go_at_call 31; refine (cE _ HK.out).mono ?_; rintro e w3 ⟨rfl, hk3⟩; have HK3 := Lib.hid (HK.out.trans hk3); clear hk3)
  go_ret
  exact ⟨rfl, HK3.out⟩
theorem num25_any (x : Int) (w : World) : Calls Tryd.prog 13 #[.int .i64 x] w fun e w' => e = .returned (.int .i64 x) ∧ w' = w := by
  go_enter Tryd.func13, Tryd.ntmps13
  go_wp2
  go_ret
  exact ⟨rfl, rfl⟩
theorem opsweight_any (A : Option Addr) (n c : Nat) (al : List OpS) (w : World) (hA : OpsM w A n al) (hn : n ≤ 140737488351232) :
    Calls Tryd.prog 37 #[.slice A n c] w fun e w' => (∃ q : Int, e = .returned (.int .i64 q) ∧ (n : Int) ≤ q ∧ q ≤ 200000000000000) ∧ w' = w := by
  have HA := Lib.hid hA
  clear hA
  go_enter Tryd.func37, Tryd.ntmps37
  go_wp2
  go_loop [3, 4] (fun m i => ∃ (k : Nat) (q : Int), k ≤ n ∧ i = .int .i64 k ∧ m = .int .i64 q ∧ (n : Int) ≤ q ∧ q ≤ 160000000000000) (fun _ i => n - (intOf i).toNat)
  case atStart => exact ⟨0, n, Nat.zero_le _, rfl, rfl, by omega, by omega⟩
  case round =>
    obtain ⟨k, q, hk, rfl, rfl, h1, h2⟩ := hrel
    by_cases hlt : k < n
    · by_cases hq : q < 1048576
      · obtain ⟨ad, b, rfl, hs, h9, hok⟩ := HA.out.at_ hlt
        have c8 := h9.c8
        have hbn := hok.n
        have bq : decide (q < 1048576) = true := by simp; omega
        clear hs h9 hok
        go_wp2
        go_round
        case rel => exact ⟨k + 1, q + b.n, by omega, by go_num, by go_num, by omega, by omega⟩
        case measure => simp [intOf]; omega
      · have bq : decide (q < 1048576) = false := by simp; omega
        have bq2 : ¬ q < 1048576 := hq
        go_wp2
        go_ret
        exact ⟨⟨q, rfl, by omega, by omega⟩, rfl⟩
    · obtain rfl : k = n := by omega
      go_wp2
      go_ret
      exact ⟨⟨q, rfl, by omega, by omega⟩, rfl⟩
set_option maxRecDepth 100000 in
theorem heavy25_any (p : AskM) (w : World) (h : AskMOk w p) :
    Calls Tryd.prog 7 #[.agg p.cells] w fun e w' => (∃ b : Bool, e = .returned (.bool b) ∧ (b = false → p.m ≤ 2000 ∧ ∀ s ∈ p.ss, s.size ≤ 6000)) ∧ Kept (fun _ => False) w w' := by
  have hK0 : Hid (Kept (fun _ => False) w (w.alloc (.cells p.cells 25))) := (Kept.refl _ w).alloc _
  have hP0 : Hid (PAs (w.alloc (.cells p.cells 25)) w.heap.size p) := heap_alloc_new w _
  have hA0 : Hid (AskMOk (w.alloc (.cells p.cells 25)) p) := h.kept hK0.out
  obtain ⟨O, m, mc, ops, X, n, nc, ss⟩ := p
  have hm : m ≤ 140737488351232 := h.m
  have hn : n ≤ 8796093022208 := h.n
  clear h
  unfold AskM.cells at *
  simp only at *
  go_enter Tryd.func7, Tryd.ntmps7
  go_upto_region 1 with fail
  generalize hpb : w.heap.size = pb at hP0 ⊢
  clear hpb
  generalize w.alloc (.cells #[.slice O m mc, .slice X n nc] 25) = wa at *
  have p0 : wa.cell? ⟨pb, 0, none⟩ = some (.slice O m mc) := hP0.out.c 0
  have p1 : wa.cell? ⟨pb, 1, none⟩ = some (.slice X n nc) := hP0.out.c 1
  have cO := opsweight_any O m mc ops wa hA0.out.ops hm
  have cT := texts_any X n nc ss wa hA0.out.ss hn
  go_wp2_with (first
    | (go_at_call 37; refine cO.mono ?_; rintro e w' ⟨⟨q, rfl, hq1, hq2⟩, hw⟩; have hw2 := hw.symm; subst hw2)
    | (go_at_call 38; refine cT.mono ?_; rintro e w' ⟨⟨r, rfl, hr1, hr2, hr3⟩, hw⟩; have hw2 := hw.symm; subst hw2))
  all_goals go_ret
  · refine ⟨⟨_, rfl, fun h => ?_⟩, hK0.out⟩
    have h : (decide (2000 < q) || decide (3000 < r)) = false := h
    simp only [Bool.or_eq_false_iff, decide_eq_false_iff_not] at h
    exact ⟨by omega, fun s hs => hr3 (by omega) s hs⟩
  · exact ⟨.inr rfl, hK0.out⟩
theorem hold_of {w : World} {b : OpS} (h : OpOk w b) (ho : Cd.opOk b.o) : ∀ a, b.A = some a → a.block < w.heap.size := by
  intro a ha
  have hn : b.n = 4 := by rw [← h.seen.1]; exact ho.2.2.2.1.1
  obtain ⟨ad, x, e, _, hc⟩ := h.seen.cell (j := 0) (by omega)
  rw [ha] at e
  injection e with e
  subst e
  have := World.block_lt_of_cell? w _ hc
  rwa [show (a.add 0).block = a.block from add_blk a 0] at this
/-- The op that wakes. -/
def wkO : Cd.OpP := ⟨2, 5, 1, 0, 0, 0, 2, 3, [4, 2, 0, 0]⟩
theorem wkO_ok : Cd.opOk wkO := by decide
theorem wk_nums : ∀ x ∈ wkO.seen, I64 x := by
  intro x hx
  simp only [wkO, List.mem_cons, List.not_mem_nil, or_false] at hx
  unfold I64
  omega
theorem wk_ints : I64s wkO := by
  unfold I64s I64 wkO
  simp
theorem ptake_enc {o : Cd.OpP} (ho : Cd.opOk o) (w : World) (hT : Tabs w) :
    Calls Tryd.prog 15 #[.string (Cd.encB o)] w fun e w' => (∃ b : OpS, b.o = o ∧ e = .returned (.tuple #[opV b, .int .i64 0]) ∧ OpOk w' b ∧ ∀ a, b.A = some a → w.heap.size ≤ a.block) ∧ Kept (fun _ => False) w w' := by
  refine (ptake_any (Cd.encB o) w (Cd.encB_size ho.2.2.2.1.1) hT).mono ?_
  rintro e w' ⟨hr, hk⟩
  refine ⟨?_, hk⟩
  rw [Cd.encB_list] at hr
  unfold TakeRet at hr
  rw [Cd.dec_enc ho] at hr
  rcases hr with ⟨_, h⟩ | ⟨h, _⟩
  · exact h
  · exact absurd ho h
theorem pbytes_ok (b : OpS) (w : World) (hb : OpOk w b) (hT : Tabs w) (ho : Cd.opOk b.o) :
    Calls Tryd.prog 10 #[opV b] w fun e w' => e = .returned (.tuple #[.string (Cd.encB b.o), .int .i64 0]) ∧ Kept (fun _ => False) w w' := pbytes_yes b w hb (hold_of hb ho) hT ho
set_option maxRecDepth 100000 in
set_option maxHeartbeats 2000000 in
theorem wakes25_any (w : World) (hT : Tabs w) : Calls Tryd.prog 17 #[] w fun e w' => e = .returned (.bool true) ∧ Kept (fun _ => False) w w' := by
  have hN0 : Nums (w.alloc (.cells #[.int .i64 4, .int .i64 2, .int .i64 0, .int .i64 0] 3)) (some ⟨w.heap.size, 0, none⟩) 4 [4, 2, 0, 0] := nums_new w [4, 2, 0, 0] _
  have hK1 : Kept (fun _ => False) (w.alloc (.cells #[.int .i64 4, .int .i64 2, .int .i64 0, .int .i64 0] 3)) ((w.alloc (.cells #[.int .i64 4, .int .i64 2, .int .i64 0, .int .i64 0] 3)).alloc (opO ⟨wkO, some ⟨w.heap.size, 0, none⟩, 4, 4⟩)) := (Kept.refl _ _).alloc _
  have hK0 : Kept (fun _ => False) w ((w.alloc (.cells #[.int .i64 4, .int .i64 2, .int .i64 0, .int .i64 0] 3)).alloc (opO ⟨wkO, some ⟨w.heap.size, 0, none⟩, 4, 4⟩)) := ((Kept.refl _ w).alloc _).alloc _
  have hok : OpOk ((w.alloc (.cells #[.int .i64 4, .int .i64 2, .int .i64 0, .int .i64 0] 3)).alloc (opO ⟨wkO, some ⟨w.heap.size, 0, none⟩, 4, 4⟩)) ⟨wkO, some ⟨w.heap.size, 0, none⟩, 4, 4⟩ :=
    ⟨hN0.kept hK1 (fun _ _ => id), wk_nums, by show 4 ≤ 17592186044416; omega, Nat.le_refl _, wk_ints⟩
  have h9 : Op9 ((w.alloc (.cells #[.int .i64 4, .int .i64 2, .int .i64 0, .int .i64 0] 3)).alloc (opO ⟨wkO, some ⟨w.heap.size, 0, none⟩, 4, 4⟩)) ⟨w.heap.size + 1, 0, none⟩ ⟨wkO, some ⟨w.heap.size, 0, none⟩, 4, 4⟩ := by
    have := op9_new (w := w.alloc (.cells #[.int .i64 4, .int .i64 2, .int .i64 0, .int .i64 0] 3)) (b := ⟨wkO, some ⟨w.heap.size, 0, none⟩, 4, 4⟩)
    rwa [show (w.alloc (.cells #[.int .i64 4, .int .i64 2, .int .i64 0, .int .i64 0] 3)).heap.size = w.heap.size + 1 by simp] at this
  have HT := Lib.hid (hT.kept hK0 id id)
  have HK0 := Lib.hid hK0
  have HOK := Lib.hid hok
  have H9 := Lib.hid h9
  clear hT hN0 hK1 hK0 hok h9
  go_enter Tryd.func17, Tryd.ntmps17
  go_upto_region 2 with fail
  simp only [opO, wkO] at HT HK0 HOK H9
  generalize (w.alloc (.cells #[.int .i64 4, .int .i64 2, .int .i64 0, .int .i64 0] 3)).alloc (.cells #[.int .i64 2, .int .i64 5, .int .i64 1, .int .i64 0, .int .i64 0, .int .i64 0, .int .i64 2, .int .i64 3, .slice (some ⟨w.heap.size, 0, none⟩) 4 4] 32) = w1 at *
  generalize hsb : w.heap.size = sb at *
  clear hsb
  obtain ⟨c0, c1, c2, c3, c4, c5, c6, c7, c8⟩ := H9.out.cs
  simp only at c0 c1 c2 c3 c4 c5 c6 c7 c8
  have cB := pbytes_ok _ w1 HOK.out HT.out wkO_ok
  unfold opV at cB
  simp only at cB
  have hsz : (Cd.encB ⟨2, 5, 1, 0, 0, 0, 2, 3, [4, 2, 0, 0]⟩).size = 21 := Cd.encB_size rfl
  have cT := fun W (h : Tabs W) => ptake_enc wkO_ok W h
  unfold wkO at cT
  generalize Cd.encB ⟨2, 5, 1, 0, 0, 0, 2, 3, [4, 2, 0, 0]⟩ = S at *
  go_upto_region 3 with (go_at_call 10; refine cB.mono ?_; rintro e w2 ⟨rfl, hk2⟩; have HK2 := Lib.hid hk2; clear hk2)
  clear cB
  have hT2 := HT.out.kept HK2.out id id
  go_upto_region 4 with (go_at_call 15; refine (cT _ hT2).mono ?_; unfold opV; rintro e w3 ⟨⟨b', ho', rfl, hok', _⟩, hk3⟩; have HK3 := Lib.hid hk3; have HOK3 := Lib.hid hok'; have HO3 := Lib.hid ho'; clear hk3 hok' ho')
  clear cT hT2 c0 c1 c2 c3 c4 c5 c6 c7 c8
  have hk4 : Kept (fun _ => False) w3 (w3.alloc (opO b')) := (Kept.refl _ _).alloc _
  have h9b := op9_new (w := w3) (b := b')
  have h9a := H9.out.kept (HK2.out.trans (HK3.out.trans hk4)) id
  have cE := eqop_yes b' _ _ (HOK3.out.kept hk4 (fun _ _ => id)) (HOK.out.kept (HK2.out.trans (HK3.out.trans hk4)) (fun _ _ => id)) HO3.out
  have HKF := Lib.hid (HK0.out.trans (HK2.out.trans (HK3.out.trans hk4)))
  unfold opV at cE
  simp only [opO] at h9b h9a cE HKF
  generalize w3.alloc (.cells #[.int .i64 b'.o.kd, .int .i64 b'.o.t, .int .i64 b'.o.si, .int .i64 b'.o.t0, .int .i64 b'.o.s0, .int .i64 b'.o.rn, .int .i64 b'.o.st, .int .i64 b'.o.nn, .slice b'.A b'.n b'.c] 32) = w4 at *
  generalize w3.heap.size = ob at *
  obtain ⟨c0, c1, c2, c3, c4, c5, c6, c7, c8⟩ := h9a.cs
  obtain ⟨d0, d1, d2, d3, d4, d5, d6, d7, d8⟩ := h9b.cs
  simp only at c0 c1 c2 c3 c4 c5 c6 c7 c8
  clear h9a h9b hk4
  have b21 : ((S.size : Int) == 21) = true := by rw [hsz]; rfl
  clear hsz
  go_wp2_with (first | (go_at_call 13; refine (num25_any _ _).mono ?_; rintro e w' ⟨rfl, hw⟩; have hw2 := hw.symm; subst hw2) | (go_at_call 14; refine cE.mono ?_; rintro e w5 ⟨rfl, hk5⟩; have HK5 := Lib.hid (HKF.out.trans hk5); clear hk5))
  go_ret
  exact ⟨rfl, HK5.out⟩
end Go.Proofs.YtpgicfbaefcbmaaDoor
