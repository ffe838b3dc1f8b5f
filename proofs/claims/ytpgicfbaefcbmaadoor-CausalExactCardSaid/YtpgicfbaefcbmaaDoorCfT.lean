/-
  OPS: the op that bytes are, as the reference tells it.
-/
import Derived.Test.YtpgicfbaefcbmaaDoorCfN
set_option linter.unusedVariables false
namespace Go.Proofs.YtpgicfbaefcbmaaDoor
open Go Go.RowKit

set_option maxRecDepth 100000 in
set_option maxHeartbeats 1000000 in
theorem rpart_any (s : ByteArray) (a m : Nat) (A X : Int) (w : World) (hA : A = (a : Int)) (hX : X = (m : Int)) (hm : m ≤ 3) (hs : a + m ≤ s.size) (hs2 : s.size ≤ 100) :
    Calls Tryd.prog 47 #[.string s, .int .i64 A, .int .i64 X] w fun e w' => e = .returned (.int .i64 (Cd.de ((s.data.toList.drop a).take m))) ∧ w' = w := by
  subst hA hX
  go_enter Tryd.func47, Tryd.ntmps47
  go_wp2_with fail
  go_loop [7, 8] (fun v i => ∃ k : Nat, k ≤ m ∧ i = .int .i64 k ∧ v = .int .i64 (Cd.de ((s.data.toList.drop a).take k))) (fun _ i => m - (intOf i).toNat)
  case atStart => exact ⟨0, Nat.zero_le _, rfl, rfl⟩
  case round =>
    obtain ⟨k, hk, rfl, rfl⟩ := hrel
    by_cases hkn : k < m
    · have hkl : a + k < s.data.toList.length := by rw [ba_len]; omega
      obtain ⟨b, hb⟩ : ∃ b, s.data.toList[a + k]? = some b := ⟨_, List.getElem?_eq_getElem hkl⟩
      have hd := de_take (l := s.data.toList.drop a) (k := k) (by rw [List.getElem?_drop]; exact hb)
      have h0 := de_nonneg ((s.data.toList.drop a).take k)
      have h1 := de_lt (l := (s.data.toList.drop a).take k) (by rw [List.length_take]; omega)
      obtain ⟨q, hq⟩ : ∃ q, Cd.de ((s.data.toList.drop a).take k) = q := ⟨_, rfl⟩
      rw [hq] at hd h0 h1
      rw [hq]
      have hbl := Cd.u8_lt b
      have ho := or8 q b.toNat h0 (by omega) (by omega) hbl
      have ew : IntKind.i64.wrap (q * 256) = q * 256 := IntWalk.i64_in _ ⟨by omega, by omega⟩
      have hg : s[a + k]'(by rw [ba_len] at hkl; exact hkl) = b := by
        have : s.data.toList[a + k] = b := by rw [List.getElem?_eq_getElem hkl] at hb; injection hb
        rw [← this]; rfl
      have b1 : decide (k < m) = true := decide_eq_true hkn
      have b2 : decide ((k : Int) < (m : Int)) = true := decide_eq_true (by omega)
      have es : IntKind.i64.wrap ((a : Int) + (k : Int)) = ((a + k : Nat) : Int) := by rw [IntWalk.i64_in _ ⟨by omega, by omega⟩]; omega
      have t1 : (0 : Int) ≤ ((a + k : Nat) : Int) := by omega
      have t2 : ((a + k : Nat) : Int) < (s.size : Int) := by rw [ba_len] at hkl; omega
      have HD := Lib.hid hd
      clear hd hb hq
      go_wp2_with fail
      go_round
      case rel => exact ⟨k + 1, by omega, by go_num, by rw [HD.out]⟩
      case measure => simp [intOf]; omega
    · obtain rfl : k = m := by omega
      have b1 : decide (k < k) = false := decide_eq_false (by omega)
      have b2 : decide ((k : Int) < (k : Int)) = false := decide_eq_false (by omega)
      go_wp2_with fail
      go_ret
      exact ⟨rfl, rfl⟩
/-- What the reference's Take holds while it reads. -/
structure RkS (W0 w : World) (rb ob : Nat) (cs : Array Value) : Prop where
  r : w.heap[rb]? = some (.cells zOp 32 (0, 0))
  o : w.heap[ob]? = some (.cells cs 32 (0, 0))
  kept : Kept (Own rb) W0 w
  ro : rb < ob
theorem RkS.set {W0 w : World} {rb ob : Nat} {cs : Array Value} (h : RkS W0 w rb ob cs) (i : Nat) (u : Value) : RkS W0 (w.setCell ⟨ob, i, none⟩ u) rb ob (cs.setIfInBounds i u) := by
  have h3 := h.ro
  exact ⟨(heap_far (by omega) u).trans h.r, heap_set h.o u, h.kept.setCell (p := ⟨ob, i, none⟩) (by show rb ≤ ob; omega) u, h3⟩
theorem RkS.drew {W0 w : World} {rb ob : Nat} {cs : Array Value} (h : RkS W0 w rb ob cs) : RkS W0 w.drew rb ob cs := ⟨h.r, h.o, h.kept.drew, h.ro⟩
theorem RkS.grow {W0 w w' : World} {rb ob : Nat} {cs : Array Value} {row : Option Nat} (h : RkS W0 w rb ob cs) (hg : w.grownBy w' row) (hr : ∀ k, row = some k → ob < k) : RkS W0 w' rb ob cs := by
  have h3 := h.ro
  have hb : ∀ k, k < w.heap.size → k ≤ ob → w'.heap[k]? = w.heap[k]? := fun k hk hko => hg.block k hk (fun e => by have := hr k e.symm; omega)
  exact ⟨(hb rb (heap_lt h.r) (by omega)).trans h.r, (hb ob (heap_lt h.o) (by omega)).trans h.o, h.kept.own hg (fun k e => by have := hr k e; omega), h3⟩
theorem RkS.alloc {W0 w : World} {rb ob : Nat} {cs : Array Value} (h : RkS W0 w rb ob cs) (o : Obj) : RkS W0 (w.alloc o) rb ob cs :=
  ⟨(Below.heap_alloc _ _ _ (heap_lt h.r)).trans h.r, (Below.heap_alloc _ _ _ (heap_lt h.o)).trans h.o, h.kept.alloc o, h.ro⟩
theorem RkS.keep {W0 w w' : World} {rb ob : Nat} {cs : Array Value} (h : RkS W0 w rb ob cs) (hk : Kept (fun _ => False) w w') : RkS W0 w' rb ob cs :=
  ⟨(hk.block _ (heap_lt h.r) id).trans h.r, (hk.block _ (heap_lt h.o) id).trans h.o, h.kept.trans hk.any, h.ro⟩
theorem RkS.cell {W0 w : World} {rb ob : Nat} {cs : Array Value} (h : RkS W0 w rb ob cs) (i : Nat) : w.cell? ⟨ob, i, none⟩ = cs[i]? := cell_of_row w ob i _ _ _ h.o
theorem RkS.c8 {W0 w : World} {rb ob : Nat} {d0 d1 d2 d3 d4 d5 d6 d7 : Int} {v : Value} (h : RkS W0 w rb ob (cOp d0 d1 d2 d3 d4 d5 d6 d7 v)) : w.cell? ⟨ob, 8, none⟩ = some v ∧ w.frozen? ⟨ob, 8, none⟩ = false := ⟨h.cell 8, frozen_of h.o⟩
theorem RkS.cs {W0 w : World} {rb ob : Nat} {d0 d1 d2 d3 d4 d5 d6 d7 : Int} {v : Value} (h : RkS W0 w rb ob (cOp d0 d1 d2 d3 d4 d5 d6 d7 v)) : w.cell? ⟨ob, 0, none⟩ = some (.int .i64 d0) ∧ w.cell? ⟨ob, 1, none⟩ = some (.int .i64 d1) ∧ w.cell? ⟨ob, 2, none⟩ = some (.int .i64 d2) ∧
    w.cell? ⟨ob, 3, none⟩ = some (.int .i64 d3) ∧ w.cell? ⟨ob, 4, none⟩ = some (.int .i64 d4) ∧ w.cell? ⟨ob, 5, none⟩ = some (.int .i64 d5) ∧ w.cell? ⟨ob, 6, none⟩ = some (.int .i64 d6) ∧ w.cell? ⟨ob, 7, none⟩ = some (.int .i64 d7) ∧ w.cell? ⟨ob, 8, none⟩ = some v :=
  ⟨h.cell 0, h.cell 1, h.cell 2, h.cell 3, h.cell 4, h.cell 5, h.cell 6, h.cell 7, h.cell 8⟩
theorem rk_new (w : World) (cs : Array Value) : RkS w ((w.alloc (.cells zOp 32)).alloc (.cells cs 32)) w.heap.size (w.heap.size + 1) cs := by
  have s1 : (w.alloc (.cells zOp 32)).heap.size = w.heap.size + 1 := by simp
  refine ⟨?_, ?_, ((Kept.refl _ w).alloc _).alloc _, by omega⟩
  · rw [Below.heap_alloc _ _ _ (by omega)]
    exact heap_alloc_new w _
  · rw [← s1]
    exact heap_alloc_new _ _
set_option maxRecDepth 100000 in
set_option maxHeartbeats 2000000 in
theorem rtake_len (s : ByteArray) (w : World) (hs : s.size ≤ 140737488351232) (h : s.size ≠ 21) :
    Calls Tryd.prog 16 #[.string s] w fun e w' => e = .returned (.tuple #[.agg zOp, .bool false]) ∧ Kept (fun _ => False) w w' := by
  have b : ((s.size : Int) != 21) = true := by simp; omega
  clear h
  go_enter Tryd.func16, Tryd.ntmps16
  go_wp2_with fail
  exact bodyPost_ret (res_op rfl _ _ w.heap.size 0 0 0 0 0 0 0 0 none 0 0 (0, 0) rfl (heap_alloc_new w _)) rfl ⟨rfl, (Kept.refl _ w).alloc _⟩
/-- What the reference's Take tells of bytes as many as an op has. -/
def RakeRet (L : List UInt8) (e : Ending) (w' : World) : Prop :=
  (Cd.opOk (Cd.dec L) ∧ ∃ b : OpS, b.o = Cd.dec L ∧ e = .returned (.tuple #[opV b, .bool true]) ∧ OpOk w' b) ∨ (¬ Cd.opOk (Cd.dec L) ∧ e = .returned (.tuple #[.agg zOp, .bool false]))
theorem part_at (s : ByteArray) (a m : Nat) (A X : Int) (w : World) (hA : A = (a : Int)) (hX : X = (m : Int)) (hm : m ≤ 3) (hs : a + m ≤ 21) (h21 : s.size = 21) :
    Calls Tryd.prog 47 #[.string s, .int .i64 A, .int .i64 X] w fun e w' => (∃ D : Int, D = Cd.de ((s.data.toList.drop a).take m) ∧ e = .returned (.int .i64 D)) ∧ w' = w := by
  refine (rpart_any s a m A X w hA hX hm (by omega) (by omega)).mono ?_
  rintro e w' ⟨rfl, rfl⟩
  exact ⟨⟨_, rfl, rfl⟩, rfl⟩
set_option maxRecDepth 100000 in
set_option maxHeartbeats 8000000 in
theorem rtake_any (s : ByteArray) (w : World) (h : s.size = 21) :
    Calls Tryd.prog 16 #[.string s] w fun e w' => RakeRet s.data.toList e w' ∧ Kept (fun _ => False) w w' := by
  have b : ((s.size : Int) != 21) = false := by simp; omega
  have H21 := Lib.hid h
  have cP := fun a m A X W hA hX hm hs => part_at s a m A X W hA hX hm hs h
  have HT0 := Lib.hid (rk_new w)
  obtain ⟨L, hL⟩ : ∃ L, s.data.toList = L := ⟨_, rfl⟩
  rw [hL] at cP ⊢
  clear h hL
  go_enter Tryd.func16, Tryd.ntmps16
  have q6 := fun W => cP 0 1 0 1 W rfl rfl (by omega) (by omega)
  have q8 := fun W => cP 1 2 1 2 W rfl rfl (by omega) (by omega)
  have q9 := fun W => cP 3 1 3 1 W rfl rfl (by omega) (by omega)
  have q11 := fun W => cP 4 2 4 2 W rfl rfl (by omega) (by omega)
  have q12 := fun W => cP 6 1 6 1 W rfl rfl (by omega) (by omega)
  have q14 := fun W => cP 7 3 7 3 W rfl rfl (by omega) (by omega)
  have q16 := fun W => cP 10 1 10 1 W rfl rfl (by omega) (by omega)
  have q18 := fun W => cP 11 2 11 2 W rfl rfl (by omega) (by omega)
  go_upto_region 4 with (first
    | (go_at_call 47; refine (q6 _).mono ?_; clear q6; rintro e w' ⟨⟨D6, hD6, rfl⟩, hw⟩; have HD6 := Lib.hid hD6; clear hD6; have hw2 := hw.symm; subst hw2)
    | (go_at_call 47; refine (q8 _).mono ?_; clear q8; rintro e w' ⟨⟨D8, hD8, rfl⟩, hw⟩; have HD8 := Lib.hid hD8; clear hD8; have hw2 := hw.symm; subst hw2)
    | (go_at_call 47; refine (q9 _).mono ?_; clear q9; rintro e w' ⟨⟨D9, hD9, rfl⟩, hw⟩; have HD9 := Lib.hid hD9; clear hD9; have hw2 := hw.symm; subst hw2)
    | (go_at_call 47; refine (q11 _).mono ?_; clear q11; rintro e w' ⟨⟨D11, hD11, rfl⟩, hw⟩; have HD11 := Lib.hid hD11; clear hD11; have hw2 := hw.symm; subst hw2)
    | (go_at_call 47; refine (q12 _).mono ?_; clear q12; rintro e w' ⟨⟨D12, hD12, rfl⟩, hw⟩; have HD12 := Lib.hid hD12; clear hD12; have hw2 := hw.symm; subst hw2)
    | (go_at_call 47; refine (q14 _).mono ?_; clear q14; rintro e w' ⟨⟨D14, hD14, rfl⟩, hw⟩; have HD14 := Lib.hid hD14; clear hD14; have hw2 := hw.symm; subst hw2)
    | (go_at_call 47; refine (q16 _).mono ?_; clear q16; rintro e w' ⟨⟨D16, hD16, rfl⟩, hw⟩; have HD16 := Lib.hid hD16; clear hD16; have hw2 := hw.symm; subst hw2)
    | (go_at_call 47; refine (q18 _).mono ?_; clear q18; rintro e w' ⟨⟨D18, hD18, rfl⟩, hw⟩; have HD18 := Lib.hid hD18; clear hD18; have hw2 := hw.symm; subst hw2))
  have H19 := Lib.hid (HT0.out (cOp D6 D8 D9 D11 D12 D14 D16 D18 (.slice none 0 0)))
  clear HT0
  unfold zOp cOp at H19
  generalize (w.alloc (.cells #[.int .i64 0, .int .i64 0, .int .i64 0, .int .i64 0, .int .i64 0, .int .i64 0, .int .i64 0, .int .i64 0, .slice none 0 0] 32)).alloc (.cells #[.int .i64 D6, .int .i64 D8, .int .i64 D9, .int .i64 D11, .int .i64 D12, .int .i64 D14, .int .i64 D16, .int .i64 D18, .slice none 0 0] 32) = w19 at *
  generalize hob : w.heap.size + 1 = ob at *
  generalize hrb : w.heap.size = rb at *
  have HN := Lib.hid (And.intro hrb hob)
  clear hrb hob b
  go_wp2_with fail
  go_loopw [5] (fun i wr => ∃ (k : Nat) (v : Value), k ≤ 4 ∧ i = .int .i64 k ∧ RkS w wr rb ob (cOp D6 D8 D9 D11 D12 D14 D16 D18 v) ∧ wr.ownsRow (ob + 1) 3 1 v k ((sn L k).map (.int .i64))) (fun i _ => 4 - (intOf i).toNat)
  case atStart => exact ⟨0, _, Nat.zero_le _, rfl, H19.out, World.ownsRow_nil _ _ _ _⟩
  case round =>
    obtain ⟨k, v, hk, rfl, hT, hown⟩ := hrel
    by_cases hkn : k < 4
    · have b1 : decide (k < 4) = true := decide_eq_true hkn
      have b2 : decide ((k : Int) < 4) = true := decide_eq_true (by omega)
      have HTD := Lib.hid hT.drew
      have HOD := Lib.hid hown.drew
      obtain ⟨k8, f8⟩ := HTD.out.c8
      have k8a := fun o => ((hT.alloc o).c8).1
      have HSN := Lib.hid (sn_succ L k)
      generalize (sn L k).map (Value.int .i64) = xs at *
      have em : IntKind.i64.wrap (2 * (k : Int)) = 2 * (k : Int) := IntWalk.i64_in _ ⟨by omega, by omega⟩
      have ea : IntKind.i64.wrap (13 + 2 * (k : Int)) = ((13 + 2 * k : Nat) : Int) := by rw [IntWalk.i64_in _ ⟨by omega, by omega⟩]; omega
      have cQ := fun A W (hA : A = ((13 + 2 * k : Nat) : Int)) => cP (13 + 2 * k) 2 A 2 W hA rfl (by omega) (by omega)
      clear hT hown
      go_wp2_with fail
      go_region_law (first
          | (go_simp; go_at_call 47; refine (cQ _ _ (by first | rfl | omega)).mono ?_; rintro e w' ⟨⟨D21, hD21, rfl⟩, hw⟩; have HD21 := Lib.hid hD21; clear hD21; have hw2 := hw.symm; subst hw2)
          | (refine step_append_one rfl (.tmp 34) (.tmp 40) rfl (ob + 1) _ k xs rfl (HOD.out.alloc _) ⟨_, 0, none⟩ D21 rfl one_cells (by omega) (by have := heap_lt (HTD.out.o); simp at this ⊢; omega) ?_; intro v7 w7 hown7 hgrow7; obtain ⟨g7, c7, rfl⟩ := own_form hown7; have HO7 := Lib.hid hown7; have hT7 := (HTD.out.alloc _).grow hgrow7 (fun b hb => (HOD.out.lt b hb).1); have H7 := Lib.hid hT7; obtain ⟨k10, f10⟩ := hT7.c8; clear hown7 hgrow7 hT7))
      all_goals
        go_wp2_with fail
        go_roundw
        case rel => exact ⟨k + 1, _, by omega, by go_num, H7.out.set 8 _, by rw [HSN.out, ← HD21.out]; exact ownsRow_kept HO7.out ((Kept.refl (fun q => q = ob) w7).setCell (p := ⟨ob, 8, none⟩) rfl _) (fun g hg e => by have := (HO7.out.lt g hg).1; have e : g = ob := e; omega)⟩
        case measure => simp [intOf] <;> omega
    · have hk4 : k = 4 := by omega
      rw [hk4] at hown
      have HDEC : Hid (Cd.dec L = ⟨D6, D8, D9, D11, D12, D14, D16, D18, sn L 4⟩) := by
        show _ = _
        rw [HD6.out, HD8.out, HD9.out, HD11.out, HD12.out, HD14.out, HD16.out, HD18.out]
        rfl
      obtain ⟨g, c, rfl, hb, hopn, hopc⟩ := own_nums hown (sn_len L 4)
      have HKF : Hid (Kept (fun _ => False) w wr) := (Kept.refl (fun _ => False) w).fresh hT.kept (fun q hq h => by have h : rb ≤ q := h; have := HN.out.1; omega)
      have hok : OpOk wr ⟨⟨D6, D8, D9, D11, D12, D14, D16, D18, sn L 4⟩, some ⟨g, 0, none⟩, 4, c⟩ :=
        ⟨hopn, sn_i64 L 4, by show 4 ≤ 17592186044416; omega, hopc, de_i64 HD6.out, de_i64 HD8.out, de_i64 HD9.out, de_i64 HD11.out, de_i64 HD12.out, de_i64 HD14.out, de_i64 HD16.out, de_i64 HD18.out⟩
      have cM := rop_any _ wr hok
      have HOK := Lib.hid hok
      have HNR : Hid (w.heap.size ≤ rb ∧ rb < g) := by show _ ∧ _; have := HN.out.1; have := HN.out.2; have := hT.ro; omega
      have HTK := Lib.hid hT
      obtain ⟨c0, c1, c2, c3, c4, c5, c6, c7, c8⟩ := hT.cs
      have b1 : decide ((k : Int) < 4) = false := decide_eq_false (by omega)
      have b2 : decide (k < 4) = false := decide_eq_false (by omega)
      clear hT hown hok hb hopn hopc hk4 hkn hk cP
      unfold opV at cM
      simp only at cM
      by_cases ho : Cd.opOk ⟨D6, D8, D9, D11, D12, D14, D16, D18, sn L 4⟩
      · rw [decide_eq_true ho] at cM
        have HO := Lib.hid ho
        clear ho
        go_upto_region 10 with (go_at_call 11; refine cM.mono ?_; rintro e w30 ⟨rfl, hk30⟩; have HK30 := Lib.hid hk30; clear hk30)
        have hT30 := HTK.out.keep HK30.out
        have HR30 := Lib.hid hT30.r
        have HOK30 := Lib.hid (HOK.out.kept HK30.out (fun _ _ => id))
        have HKF30 := Lib.hid (HKF.out.trans HK30.out)
        clear c0 c1 c2 c3 c4 c5 c6 c7 c8
        obtain ⟨c0, c1, c2, c3, c4, c5, c6, c7, c8⟩ := hT30.cs
        obtain ⟨⟨d0, d1, d2, d3, d4, d5, d6, d7, d8⟩, e0, e1, e2, e3, e4, e5, e6, e7, e8⟩ := zcs HR30.out
        clear hT30
        go_wp2_with fail
        refine bodyPost_ret (res_op rfl _ _ rb D6 D8 D9 D11 D12 D14 D16 D18 (some ⟨g, 0, none⟩) 4 c (0, 0) rfl (nine HR30.out _ _ _ _ _ _ _ _ _)) rfl ⟨.inl ⟨by rw [HDEC.out]; exact HO.out, ⟨⟨D6, D8, D9, D11, D12, D14, D16, D18, sn L 4⟩, some ⟨g, 0, none⟩, 4, c⟩, HDEC.out.symm, rfl, HOK30.out.kept (Kept.nine (Kept.refl (fun q => q = rb) w30) rfl _ _ _ _ _ _ _ _ _) (fun a ha e => ?_)⟩, HKF30.out.fresh (Kept.nine (Kept.refl (fun q => q = rb) w30) rfl _ _ _ _ _ _ _ _ _) (fun q hq e => ?_)⟩
        · injection ha with ha
          subst ha
          have e : g = rb := e
          have := HNR.out
          omega
        · have e : q = rb := e
          have := HNR.out
          omega
      · rw [decide_eq_false ho] at cM
        have HO := Lib.hid ho
        clear ho
        go_upto_region 9 with (go_at_call 11; refine cM.mono ?_; rintro e w30 ⟨rfl, hk30⟩; have HK30 := Lib.hid hk30; clear hk30)
        have hT30 := HTK.out.keep HK30.out
        have HR30 := Lib.hid hT30.r
        have HOK30 := Lib.hid (HOK.out.kept HK30.out (fun _ _ => id))
        have HKF30 := Lib.hid (HKF.out.trans HK30.out)
        clear c0 c1 c2 c3 c4 c5 c6 c7 c8
        obtain ⟨c0, c1, c2, c3, c4, c5, c6, c7, c8⟩ := hT30.cs
        obtain ⟨⟨d0, d1, d2, d3, d4, d5, d6, d7, d8⟩, e0, e1, e2, e3, e4, e5, e6, e7, e8⟩ := zcs HR30.out
        clear hT30
        go_wp2_with fail
        refine bodyPost_ret (res_op rfl _ _ rb 0 0 0 0 0 0 0 0 none 0 0 (0, 0) rfl (nine HR30.out _ _ _ _ _ _ _ _ _)) rfl ⟨.inr ⟨by rw [HDEC.out]; exact HO.out, rfl⟩, HKF30.out.fresh (Kept.nine (Kept.refl (fun q => q = rb) w30) rfl _ _ _ _ _ _ _ _ _) (fun q hq e => ?_)⟩
        have e : q = rb := e
        have := HNR.out
        omega
end Go.Proofs.YtpgicfbaefcbmaaDoor
