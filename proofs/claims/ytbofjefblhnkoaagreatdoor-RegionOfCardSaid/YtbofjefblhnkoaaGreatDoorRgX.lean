/-
  REGIONS: what an operator works on, of the reference.
-/
import Derived.Test.YtbofjefblhnkoaaGreatDoorRgT
import Derived.Deep.RegionWith
set_option linter.unusedVariables false
set_option maxRecDepth 100000
namespace Go.Proofs.YtbofjefblhnkoaaGreatDoor
open Go Go.RowKit Pk

set_option maxHeartbeats 4000000 in
theorem rof_wide (TA : Option Addr) (tc : Nat) (t : List Int) (k m : Nat) (c0 c2 c3 c4 c5 k1 k2 : Int) (A : Option Addr) (n c : Nat) (lo hi : Int) (ln : Bool) (er : Int) (w : World) (hc : m ≤ 999) (hw : c4 ≠ 0) (cX : ∀ W, Kept (fun _ => False) w W → Calls Tryz.prog 31 #[.slice TA t.length tc, .int .i64 k, .int .i64 c4, .int .i64 c3, .int .i64 (Rw.times m : Nat)] W fun e w' => e = .returned (.tuple #[rngV lo hi ln, .int .i64 er]) ∧ Kept (fun _ => False) W w') :
    Calls Tryz.prog 11 #[.slice TA t.length tc, .int .i64 k, cmdV c0 m c2 c3 c4 c5, sekV k1 k2, .slice A n c] w fun e w' => e = .returned (if er = 0 then .tuple #[rngV lo hi ln, sekV k1 k2, .int .i64 0] else .tuple #[rngV 0 0 false, sekV 0 0, .int .i64 er]) ∧ Kept (fun _ => False) w w' := by
  have b0 : (c4 == 0) = false := beq_eq_false_iff_ne.2 hw
  have b0' : (c4 != 0) = true := by simpa using hw
  clear hw
  have HK0 : Hid (Kept (fun _ => False) w ((((w.alloc (cmdO c0 m c2 c3 c4 c5)).alloc (sekO k1 k2)).alloc (rngO 0 0 false)).alloc (sekO 0 0))) := ((((Kept.refl _ w).alloc _).alloc _).alloc _).alloc _
  have HF0 := Lib.hid (fourR_new w c0 m c2 c3 c4 c5 k1 k2)
  have hq : max 1 (m : Int) = ((Rw.times m : Nat) : Int) := by unfold Rw.times; omega
  generalize Rw.times m = q at *
  by_cases her : er = 0
  · rw [if_pos her]
    subst her
    obtain ⟨B, hB⟩ : ∃ B, w.heap.size = B := ⟨_, rfl⟩
    go_enter Tryz.func11, Tryz.ntmps11
    go_upto_region 1 with fail
    have HBW := Lib.hid hB
    simp only [hB] at HF0 ⊢
    clear hB
    generalize (((w.alloc (cmdO c0 m c2 c3 c4 c5)).alloc (sekO k1 k2)).alloc (rngO 0 0 false)).alloc (sekO 0 0) = W0 at *
    obtain ⟨a0, a1, a2, a3, a4, a5, a6, a7⟩ := HF0.out.cmd
    go_upto_region 4 with (go_at_call 31; refine (cX _ HK0.out).mono ?_; rintro e w1 ⟨rfl, hk1⟩; have HK1 := Lib.hid (HK0.out.trans hk1); have HF1 := Lib.hid (HF0.out.kept hk1); clear hk1 a0 a1 a2 a3 a4 a5 a6 a7 cX)
    have HX1 : Hid (Kept (fun _ => False) w1 (w1.alloc (rngO lo hi ln))) := ((Kept.refl (fun _ => False) w1).alloc (rngO lo hi ln))
    have htb : B + 1 + 1 + 1 < w1.heap.size := heap_lt HF1.out.d
    have HG1 : Hid ((w1.alloc (rngO lo hi ln)).heap[w1.heap.size]? = some (rngO lo hi ln)) := heap_alloc_new w1 _
    have HF2 := Lib.hid (HF1.out.kept HX1.out)
    have HK2 := Lib.hid (HK1.out.trans HX1.out)
    clear HX1
    generalize w1.heap.size = gb at *
    generalize w1.alloc (rngO lo hi ln) = W2 at *
    go_upto_region 6 with fail
    obtain ⟨⟨g0, g1, g2⟩, ⟨f0, f1, f2⟩⟩ := HF2.out.rng
    obtain ⟨x1, x2, x3, x4⟩ := two_facts HF2.out.d
    obtain ⟨a0, a1, a2, a3, a4, a5, a6, a7⟩ := HF2.out.cmd
    obtain ⟨u0, u1, u2⟩ := rng_facts HG1.out
    go_region
    all_goals
      try go_wp2
      have FF := (((HF2.out.setR lo hi ln).setX k1 k2).kept ((Kept.refl (fun _ => False) _).drew))
      have KK := (Kept.pair (g := B + 1 + 1 + 1) (Kept.three (g := B + 1 + 1) (Kept.refl (fun q => q = B + 1 + 1 ∨ q = B + 1 + 1 + 1) W2) (.inl rfl) (.int .i64 lo) (.int .i64 hi) (.bool ln)) (.inr rfl) (.int .i64 k1) (.int .i64 k2)).drew
      refine bodyPost_ret (res_of rfl _ _ (B + 1 + 1) (B + 1 + 1 + 1) lo hi ln k1 k2 rfl rfl ?_ ?_) rfl ⟨rfl, ?_⟩
      · exact FF.c
      · exact FF.d
      · exact HK2.out.fresh KK (fun q hq e => by have := HBW.out; omega)
  · rw [if_neg her]
    have bE : (er == 0) = false := beq_eq_false_iff_ne.2 her
    have bE' : (er != 0) = true := by simpa using her
    clear her
    obtain ⟨B, hB⟩ : ∃ B, w.heap.size = B := ⟨_, rfl⟩
    go_enter Tryz.func11, Tryz.ntmps11
    go_upto_region 1 with fail
    have HBW := Lib.hid hB
    simp only [hB] at HF0 ⊢
    clear hB
    generalize (((w.alloc (cmdO c0 m c2 c3 c4 c5)).alloc (sekO k1 k2)).alloc (rngO 0 0 false)).alloc (sekO 0 0) = W0 at *
    obtain ⟨a0, a1, a2, a3, a4, a5, a6, a7⟩ := HF0.out.cmd
    go_upto_region 4 with (go_at_call 31; refine (cX _ HK0.out).mono ?_; rintro e w1 ⟨rfl, hk1⟩; have HK1 := Lib.hid (HK0.out.trans hk1); have HF1 := Lib.hid (HF0.out.kept hk1); clear hk1 a0 a1 a2 a3 a4 a5 a6 a7 cX)
    have HX1 : Hid (Kept (fun _ => False) w1 (w1.alloc (rngO lo hi ln))) := ((Kept.refl (fun _ => False) w1).alloc (rngO lo hi ln))
    have htb : B + 1 + 1 + 1 < w1.heap.size := heap_lt HF1.out.d
    have HG1 : Hid ((w1.alloc (rngO lo hi ln)).heap[w1.heap.size]? = some (rngO lo hi ln)) := heap_alloc_new w1 _
    have HF2 := Lib.hid (HF1.out.kept HX1.out)
    have HK2 := Lib.hid (HK1.out.trans HX1.out)
    clear HX1
    generalize w1.heap.size = gb at *
    generalize w1.alloc (rngO lo hi ln) = W2 at *
    obtain ⟨⟨g0, g1, g2⟩, ⟨f0, f1, f2⟩⟩ := HF2.out.rng
    obtain ⟨x1, x2, x3, x4⟩ := two_facts HF2.out.d
    obtain ⟨a0, a1, a2, a3, a4, a5, a6, a7⟩ := HF2.out.cmd
    go_wp2_with fail
    have FF := ((HF2.out.setR 0 0 false).setX 0 0)
    have KK := (Kept.pair (g := B + 1 + 1 + 1) (Kept.three (g := B + 1 + 1) (Kept.refl (fun q => q = B + 1 + 1 ∨ q = B + 1 + 1 + 1) W2) (.inl rfl) (.int .i64 0) (.int .i64 0) (.bool false)) (.inr rfl) (.int .i64 0) (.int .i64 0))
    refine bodyPost_ret (res_of rfl _ _ (B + 1 + 1) (B + 1 + 1 + 1) 0 0 false 0 0 rfl rfl ?_ ?_) rfl ⟨rfl, ?_⟩
    · exact FF.c
    · exact FF.d
    · exact HK2.out.fresh KK (fun q hq e => by have := HBW.out; omega)
set_option maxHeartbeats 4000000 in
theorem rof_rows0 (TA : Option Addr) (tc : Nat) (t : List Int) (k m : Nat) (c0 c2 c3 c4 c5 k1 k2 : Int) (A : Option Addr) (n c : Nat) (w : World) (hc : m ≤ 999) (cX : ∀ W, Kept (fun _ => False) w W → Calls Tryz.prog 32 #[.slice TA t.length tc, .int .i64 k, .int .i64 95, .int .i64 (Rw.times m : Nat)] W fun e w' => e = .returned (.tuple #[.agg #[.int .i64 0, .int .i64 0], .int .i64 6]) ∧ Kept (fun _ => False) W w') :
    Calls Tryz.prog 11 #[.slice TA t.length tc, .int .i64 k, cmdV c0 m c3 c3 0 c5, sekV k1 k2, .slice A n c] w fun e w' => e = .returned (.tuple #[rngV 0 0 false, sekV 0 0, .int .i64 6]) ∧ Kept (fun _ => False) w w' := by
  have HK0 : Hid (Kept (fun _ => False) w ((((w.alloc (cmdO c0 m c3 c3 0 c5)).alloc (sekO k1 k2)).alloc (rngO 0 0 false)).alloc (sekO 0 0))) := ((((Kept.refl _ w).alloc _).alloc _).alloc _).alloc _
  have HF0 := Lib.hid (fourR_new w c0 m c3 c3 0 c5 k1 k2)
  have hq : max 1 (m : Int) = ((Rw.times m : Nat) : Int) := by unfold Rw.times; omega
  generalize Rw.times m = q at *
  obtain ⟨B, hB⟩ : ∃ B, w.heap.size = B := ⟨_, rfl⟩
  go_enter Tryz.func11, Tryz.ntmps11
  go_upto_region 1 with fail
  have HBW := Lib.hid hB
  simp only [hB] at HF0 ⊢
  clear hB
  generalize (((w.alloc (cmdO c0 m c3 c3 0 c5)).alloc (sekO k1 k2)).alloc (rngO 0 0 false)).alloc (sekO 0 0) = W0 at *
  obtain ⟨a0, a1, a2, a3, a4, a5, a6, a7⟩ := HF0.out.cmd
  go_upto_region 9 with (go_at_call 32; refine (cX _ HK0.out).mono ?_; rintro e w1 ⟨rfl, hk1⟩; have HK1 := Lib.hid (HK0.out.trans hk1); have HF1 := Lib.hid (HF0.out.kept hk1); clear hk1 a0 a1 a2 a3 a4 a5 a6 a7 cX)
  have HX1 : Hid (Kept (fun _ => False) w1 (w1.alloc (tgtO 0 0))) := ((Kept.refl (fun _ => False) w1).alloc (tgtO 0 0))
  have htb : B + 1 + 1 + 1 < w1.heap.size := heap_lt HF1.out.d
  have HG1 : Hid ((w1.alloc (tgtO 0 0)).heap[w1.heap.size]? = some (tgtO 0 0)) := heap_alloc_new w1 _
  have HF2 := Lib.hid (HF1.out.kept HX1.out)
  have HK2 := Lib.hid (HK1.out.trans HX1.out)
  clear HX1
  generalize w1.heap.size = gb at *
  generalize w1.alloc (tgtO 0 0) = W2 at *
  obtain ⟨⟨g0, g1, g2⟩, ⟨f0, f1, f2⟩⟩ := HF2.out.rng
  obtain ⟨x1, x2, x3, x4⟩ := two_facts HF2.out.d
  obtain ⟨a0, a1, a2, a3, a4, a5, a6, a7⟩ := HF2.out.cmd
  go_wp2_with fail
  have FF := ((HF2.out.setR 0 0 false).setX 0 0)
  have KK := (Kept.pair (g := B + 1 + 1 + 1) (Kept.three (g := B + 1 + 1) (Kept.refl (fun q => q = B + 1 + 1 ∨ q = B + 1 + 1 + 1) W2) (.inl rfl) (.int .i64 0) (.int .i64 0) (.bool false)) (.inr rfl) (.int .i64 0) (.int .i64 0))
  refine bodyPost_ret (res_of rfl _ _ (B + 1 + 1) (B + 1 + 1 + 1) 0 0 false 0 0 rfl rfl ?_ ?_) rfl ⟨rfl, ?_⟩
  · exact FF.c
  · exact FF.d
  · exact HK2.out.fresh KK (fun q hq e => by have := HBW.out; omega)
set_option maxHeartbeats 4000000 in
theorem rof_rows1 (TA : Option Addr) (tc : Nat) (t : List Int) (k m : Nat) (c0 c2 c3 c4 c5 k1 k2 : Int) (A : Option Addr) (n c : Nat) (a : Nat) (w : World) (hR : Rn w TA t.length t) (hl : t.length ≤ 6000) (hk : k ≤ t.length) (ha : a ≤ t.length) (hc : m ≤ 999) (cX : ∀ W, Kept (fun _ => False) w W → Calls Tryz.prog 32 #[.slice TA t.length tc, .int .i64 k, .int .i64 95, .int .i64 (Rw.times m : Nat)] W fun e w' => e = .returned (.tuple #[.agg #[.int .i64 a, .int .i64 2], .int .i64 0]) ∧ Kept (fun _ => False) W w') :
    Calls Tryz.prog 11 #[.slice TA t.length tc, .int .i64 k, cmdV c0 m c3 c3 0 c5, sekV k1 k2, .slice A n c] w fun e w' => e = .returned (.tuple #[rngV (Rw.btI (Rw.bt t k a 2)).1 (Rw.btI (Rw.bt t k a 2)).2.1 (Rw.btI (Rw.bt t k a 2)).2.2, sekV k1 k2, .int .i64 0]) ∧ Kept (fun _ => False) w w' := by
  have HK0 : Hid (Kept (fun _ => False) w ((((w.alloc (cmdO c0 m c3 c3 0 c5)).alloc (sekO k1 k2)).alloc (rngO 0 0 false)).alloc (sekO 0 0))) := ((((Kept.refl _ w).alloc _).alloc _).alloc _).alloc _
  have HF0 := Lib.hid (fourR_new w c0 m c3 c3 0 c5 k1 k2)
  have hq : max 1 (m : Int) = ((Rw.times m : Nat) : Int) := by unfold Rw.times; omega
  generalize Rw.times m = q at *
  have cB := fun W (hk' : Kept (fun _ => False) w W) => rbtw_yes TA t.length tc t k a 2 W (hR.kept hk' (fun _ _ => id)) hk ha hl (by omega)
  generalize Rw.bt t k a 2 = V at *
  unfold Rw.btI
  unfold btR at cB
  obtain ⟨lo, hi, ln⟩ := V
  simp only at cB ⊢
  have HCB := Lib.hid cB
  clear cB hR
  obtain ⟨B, hB⟩ : ∃ B, w.heap.size = B := ⟨_, rfl⟩
  go_enter Tryz.func11, Tryz.ntmps11
  go_upto_region 1 with fail
  have HBW := Lib.hid hB
  simp only [hB] at HF0 ⊢
  clear hB
  generalize (((w.alloc (cmdO c0 m c3 c3 0 c5)).alloc (sekO k1 k2)).alloc (rngO 0 0 false)).alloc (sekO 0 0) = W0 at *
  obtain ⟨a0, a1, a2, a3, a4, a5, a6, a7⟩ := HF0.out.cmd
  go_upto_region 9 with (go_at_call 32; refine (cX _ HK0.out).mono ?_; rintro e w1 ⟨rfl, hk1⟩; have HK1 := Lib.hid (HK0.out.trans hk1); have HF1 := Lib.hid (HF0.out.kept hk1); clear hk1 a0 a1 a2 a3 a4 a5 a6 a7 cX)
  have HX1 : Hid (Kept (fun _ => False) w1 (w1.alloc (tgtO a 2))) := ((Kept.refl (fun _ => False) w1).alloc (tgtO a 2))
  have htb : B + 1 + 1 + 1 < w1.heap.size := heap_lt HF1.out.d
  have HG1 : Hid ((w1.alloc (tgtO a 2)).heap[w1.heap.size]? = some (tgtO a 2)) := heap_alloc_new w1 _
  have HF2 := Lib.hid (HF1.out.kept HX1.out)
  have HK2 := Lib.hid (HK1.out.trans HX1.out)
  clear HX1
  generalize w1.heap.size = gb at *
  generalize w1.alloc (tgtO a 2) = W2 at *
  go_upto_region 11 with fail
  obtain ⟨⟨g0, g1, g2⟩, ⟨f0, f1, f2⟩⟩ := HF2.out.rng
  obtain ⟨x1, x2, x3, x4⟩ := two_facts HF2.out.d
  obtain ⟨a0, a1, a2, a3, a4, a5, a6, a7⟩ := HF2.out.cmd
  obtain ⟨u1, u2, _, _⟩ := two_facts HG1.out
  obtain ⟨v1, v2, _, _⟩ := two_facts HF2.out.b
  have HKd : Hid (Kept (fun _ => False) w W2.drew) := HK2.out.drew
  have HFd := Lib.hid (HF2.out.kept (Kept.refl (fun _ => False) W2).drew)
  have HSd := Lib.hid (((Kept.refl (fun _ => False) W2).drew.block _ (heap_lt HF2.out.b) id).trans HF2.out.b)
  have HKs := Lib.hid (HK2.out.fresh (Kept.pair (g := B + 1 + 1 + 1) (Kept.refl (fun q => q = B + 1 + 1 + 1) W2) rfl (.int .i64 k1) (.int .i64 k2)).drew (fun q hq e => by have := HBW.out; omega))
  have HFs := Lib.hid ((HF2.out.setX k1 k2).kept (Kept.refl (fun _ => False) _).drew)
  go_region_with (first
    | (go_at_call 18; refine (HCB.out _ HKd.out).mono ?_; rintro e w6 ⟨rfl, hk6⟩; have HK6 := Lib.hid (HKd.out.trans hk6); have HF6 := Lib.hid (HFd.out.kept hk6); obtain ⟨⟨g0, g1, g2⟩, ⟨f0, f1, f2⟩⟩ := HF6.out.rng; obtain ⟨x1, x2, x3, x4⟩ := two_facts HF6.out.d; obtain ⟨v1, v2, _, _⟩ := two_facts ((hk6.block _ (heap_lt HSd.out) id).trans HSd.out); clear hk6)
    | (go_at_call 18; refine (HCB.out _ HKs.out).mono ?_; rintro e w6 ⟨rfl, hk6⟩; have HK6 := Lib.hid (HKs.out.trans hk6); have HF6 := Lib.hid (HFs.out.kept hk6); obtain ⟨⟨g0, g1, g2⟩, ⟨f0, f1, f2⟩⟩ := HF6.out.rng; clear hk6))
  all_goals
    try go_wp2
    first
      | (have FF := ((HF6.out.setR lo hi ln).setX k1 k2)
         refine bodyPost_ret (res_of rfl _ _ (B + 1 + 1) (B + 1 + 1 + 1) lo hi ln k1 k2 rfl rfl ?_ ?_) rfl ⟨rfl, ?_⟩
         · exact FF.c
         · exact FF.d
         · exact HK6.out.fresh (Kept.pair (g := B + 1 + 1 + 1) (Kept.three (g := B + 1 + 1) (Kept.refl (fun q => q = B + 1 + 1 ∨ q = B + 1 + 1 + 1) w6) (.inl rfl) (.int .i64 lo) (.int .i64 hi) (.bool ln)) (.inr rfl) (.int .i64 k1) (.int .i64 k2)) (fun q hq e => by have := HBW.out; omega))
      | (have FF := ((HF6.out.setX k1 k2).setR lo hi ln)
         refine bodyPost_ret (res_of rfl _ _ (B + 1 + 1) (B + 1 + 1 + 1) lo hi ln k1 k2 rfl rfl ?_ ?_) rfl ⟨rfl, ?_⟩
         · exact FF.c
         · exact FF.d
         · exact HK6.out.fresh (Kept.three (g := B + 1 + 1) (Kept.pair (g := B + 1 + 1 + 1) (Kept.refl (fun q => q = B + 1 + 1 ∨ q = B + 1 + 1 + 1) w6) (.inr rfl) (.int .i64 k1) (.int .i64 k2)) (.inl rfl) (.int .i64 lo) (.int .i64 hi) (.bool ln)) (fun q hq e => by have := HBW.out; omega))
      | (have FF := (HF6.out.setR lo hi ln)
         refine bodyPost_ret (res_of rfl _ _ (B + 1 + 1) (B + 1 + 1 + 1) lo hi ln k1 k2 rfl rfl ?_ ?_) rfl ⟨rfl, ?_⟩
         · exact FF.c
         · exact FF.d
         · exact HK6.out.fresh (Kept.three (g := B + 1 + 1) (Kept.refl (fun q => q = B + 1 + 1) w6) rfl (.int .i64 lo) (.int .i64 hi) (.bool ln)) (fun q hq e => by have := HBW.out; omega))
set_option maxHeartbeats 4000000 in
theorem rof_go0 (TA : Option Addr) (tc : Nat) (t : List Int) (k m : Nat) (c0 c2 c3 c4 c5 k1 k2 : Int) (A : Option Addr) (n c : Nat) (w : World) (hne : c3 ≠ c2) (hc : m ≤ 999) (cX : ∀ W, Kept (fun _ => False) w W → Calls Tryz.prog 33 #[.slice TA t.length tc, .int .i64 k, cmdV c0 m c2 c3 0 c5, sekV k1 k2, .slice A n c] W fun e w' => e = .returned (.tuple #[.agg #[.int .i64 0, .int .i64 0], sekV 0 0, .int .i64 6]) ∧ Kept (fun _ => False) W w') :
    Calls Tryz.prog 11 #[.slice TA t.length tc, .int .i64 k, cmdV c0 m c2 c3 0 c5, sekV k1 k2, .slice A n c] w fun e w' => e = .returned (.tuple #[rngV 0 0 false, sekV 0 0, .int .i64 6]) ∧ Kept (fun _ => False) w w' := by
  have HK0 : Hid (Kept (fun _ => False) w ((((w.alloc (cmdO c0 m c2 c3 0 c5)).alloc (sekO k1 k2)).alloc (rngO 0 0 false)).alloc (sekO 0 0))) := ((((Kept.refl _ w).alloc _).alloc _).alloc _).alloc _
  have HF0 := Lib.hid (fourR_new w c0 m c2 c3 0 c5 k1 k2)
  have hq : max 1 (m : Int) = ((Rw.times m : Nat) : Int) := by unfold Rw.times; omega
  generalize Rw.times m = q at *
  have b1 : (c3 == c2) = false := beq_eq_false_iff_ne.2 hne
  clear hne
  obtain ⟨B, hB⟩ : ∃ B, w.heap.size = B := ⟨_, rfl⟩
  go_enter Tryz.func11, Tryz.ntmps11
  go_upto_region 1 with fail
  have HBW := Lib.hid hB
  simp only [hB] at HF0 ⊢
  clear hB
  generalize (((w.alloc (cmdO c0 m c2 c3 0 c5)).alloc (sekO k1 k2)).alloc (rngO 0 0 false)).alloc (sekO 0 0) = W0 at *
  obtain ⟨a0, a1, a2, a3, a4, a5, a6, a7⟩ := HF0.out.cmd
  go_upto_region 13 with (go_at_call 33; refine (cX _ HK0.out).mono ?_; rintro e w1 ⟨rfl, hk1⟩; have HK1 := Lib.hid (HK0.out.trans hk1); have HF1 := Lib.hid (HF0.out.kept hk1); clear hk1 a0 a1 a2 a3 a4 a5 a6 a7 cX)
  have HX1 : Hid (Kept (fun _ => False) w1 ((w1.alloc (tgtO 0 0)).alloc (sekO 0 0))) := (((Kept.refl (fun _ => False) w1).alloc (tgtO 0 0)).alloc (sekO 0 0))
  have htb : B + 1 + 1 + 1 < w1.heap.size := heap_lt HF1.out.d
  have HG1 : Hid (((w1.alloc (tgtO 0 0)).alloc (sekO 0 0)).heap[w1.heap.size]? = some (tgtO 0 0)) := (heap_alloc_old (w1.alloc (tgtO 0 0)) _ (heap_lt (heap_alloc_new w1 _))).trans (heap_alloc_new w1 _)
  have HG2 : Hid (((w1.alloc (tgtO 0 0)).alloc (sekO 0 0)).heap[w1.heap.size + 1]? = some (sekO 0 0)) := by show _ = _; have := heap_alloc_new (w1.alloc (tgtO 0 0)) (sekO 0 0); simpa using this
  have HF2 := Lib.hid (HF1.out.kept HX1.out)
  have HK2 := Lib.hid (HK1.out.trans HX1.out)
  clear HX1
  generalize w1.heap.size = gb at *
  generalize (w1.alloc (tgtO 0 0)).alloc (sekO 0 0) = W2 at *
  obtain ⟨⟨g0, g1, g2⟩, ⟨f0, f1, f2⟩⟩ := HF2.out.rng
  obtain ⟨x1, x2, x3, x4⟩ := two_facts HF2.out.d
  obtain ⟨a0, a1, a2, a3, a4, a5, a6, a7⟩ := HF2.out.cmd
  go_wp2_with fail
  have FF := ((HF2.out.setR 0 0 false).setX 0 0)
  have KK := (Kept.pair (g := B + 1 + 1 + 1) (Kept.three (g := B + 1 + 1) (Kept.refl (fun q => q = B + 1 + 1 ∨ q = B + 1 + 1 + 1) W2) (.inl rfl) (.int .i64 0) (.int .i64 0) (.bool false)) (.inr rfl) (.int .i64 0) (.int .i64 0))
  refine bodyPost_ret (res_of rfl _ _ (B + 1 + 1) (B + 1 + 1 + 1) 0 0 false 0 0 rfl rfl ?_ ?_) rfl ⟨rfl, ?_⟩
  · exact FF.c
  · exact FF.d
  · exact HK2.out.fresh KK (fun q hq e => by have := HBW.out; omega)
set_option maxHeartbeats 4000000 in
theorem rof_go1 (TA : Option Addr) (tc : Nat) (t : List Int) (k m : Nat) (c0 c2 c3 c4 c5 k1 k2 : Int) (A : Option Addr) (n c : Nat) (a : Nat) (kd x y : Int) (w : World) (hR : Rn w TA t.length t) (hl : t.length ≤ 6000) (hk : k ≤ t.length) (ha : a ≤ t.length) (hkd : kd = 0 ∨ kd = 1 ∨ kd = 2) (hne : c3 ≠ c2) (hc : m ≤ 999) (cX : ∀ W, Kept (fun _ => False) w W → Calls Tryz.prog 33 #[.slice TA t.length tc, .int .i64 k, cmdV c0 m c2 c3 0 c5, sekV k1 k2, .slice A n c] W fun e w' => e = .returned (.tuple #[.agg #[.int .i64 a, .int .i64 kd], sekV x y, .int .i64 0]) ∧ Kept (fun _ => False) W w') :
    Calls Tryz.prog 11 #[.slice TA t.length tc, .int .i64 k, cmdV c0 m c2 c3 0 c5, sekV k1 k2, .slice A n c] w fun e w' => e = .returned (.tuple #[rngV (Rw.btI (Rw.bt t k a kd)).1 (Rw.btI (Rw.bt t k a kd)).2.1 (Rw.btI (Rw.bt t k a kd)).2.2, sekV x y, .int .i64 0]) ∧ Kept (fun _ => False) w w' := by
  have HK0 : Hid (Kept (fun _ => False) w ((((w.alloc (cmdO c0 m c2 c3 0 c5)).alloc (sekO k1 k2)).alloc (rngO 0 0 false)).alloc (sekO 0 0))) := ((((Kept.refl _ w).alloc _).alloc _).alloc _).alloc _
  have HF0 := Lib.hid (fourR_new w c0 m c2 c3 0 c5 k1 k2)
  have hq : max 1 (m : Int) = ((Rw.times m : Nat) : Int) := by unfold Rw.times; omega
  generalize Rw.times m = q at *
  have b1 : (c3 == c2) = false := beq_eq_false_iff_ne.2 hne
  clear hne
  have cB := fun W (hk' : Kept (fun _ => False) w W) => rbtw_yes TA t.length tc t k a kd W (hR.kept hk' (fun _ _ => id)) hk ha hl hkd
  generalize Rw.bt t k a kd = V at *
  unfold Rw.btI
  unfold btR at cB
  obtain ⟨lo, hi, ln⟩ := V
  simp only at cB ⊢
  have HCB := Lib.hid cB
  clear cB hR
  obtain ⟨B, hB⟩ : ∃ B, w.heap.size = B := ⟨_, rfl⟩
  go_enter Tryz.func11, Tryz.ntmps11
  go_upto_region 1 with fail
  have HBW := Lib.hid hB
  simp only [hB] at HF0 ⊢
  clear hB
  generalize (((w.alloc (cmdO c0 m c2 c3 0 c5)).alloc (sekO k1 k2)).alloc (rngO 0 0 false)).alloc (sekO 0 0) = W0 at *
  obtain ⟨a0, a1, a2, a3, a4, a5, a6, a7⟩ := HF0.out.cmd
  go_upto_region 13 with (go_at_call 33; refine (cX _ HK0.out).mono ?_; rintro e w1 ⟨rfl, hk1⟩; have HK1 := Lib.hid (HK0.out.trans hk1); have HF1 := Lib.hid (HF0.out.kept hk1); clear hk1 a0 a1 a2 a3 a4 a5 a6 a7 cX)
  have HX1 : Hid (Kept (fun _ => False) w1 ((w1.alloc (tgtO a kd)).alloc (sekO x y))) := (((Kept.refl (fun _ => False) w1).alloc (tgtO a kd)).alloc (sekO x y))
  have htb : B + 1 + 1 + 1 < w1.heap.size := heap_lt HF1.out.d
  have HG1 : Hid (((w1.alloc (tgtO a kd)).alloc (sekO x y)).heap[w1.heap.size]? = some (tgtO a kd)) := (heap_alloc_old (w1.alloc (tgtO a kd)) _ (heap_lt (heap_alloc_new w1 _))).trans (heap_alloc_new w1 _)
  have HG2 : Hid (((w1.alloc (tgtO a kd)).alloc (sekO x y)).heap[w1.heap.size + 1]? = some (sekO x y)) := by show _ = _; have := heap_alloc_new (w1.alloc (tgtO a kd)) (sekO x y); simpa using this
  have HF2 := Lib.hid (HF1.out.kept HX1.out)
  have HK2 := Lib.hid (HK1.out.trans HX1.out)
  clear HX1
  generalize w1.heap.size = gb at *
  generalize (w1.alloc (tgtO a kd)).alloc (sekO x y) = W2 at *
  go_upto_region 15 with fail
  obtain ⟨⟨g0, g1, g2⟩, ⟨f0, f1, f2⟩⟩ := HF2.out.rng
  obtain ⟨x1, x2, x3, x4⟩ := two_facts HF2.out.d
  obtain ⟨a0, a1, a2, a3, a4, a5, a6, a7⟩ := HF2.out.cmd
  obtain ⟨u1, u2, _, _⟩ := two_facts HG1.out
  obtain ⟨v1, v2, _, _⟩ := two_facts HG2.out
  have HKd : Hid (Kept (fun _ => False) w W2.drew) := HK2.out.drew
  have HFd := Lib.hid (HF2.out.kept (Kept.refl (fun _ => False) W2).drew)
  have HSd := Lib.hid (((Kept.refl (fun _ => False) W2).drew.block _ (heap_lt HG2.out) id).trans HG2.out)
  have HKs := Lib.hid (HK2.out.fresh (Kept.pair (g := B + 1 + 1 + 1) (Kept.refl (fun q => q = B + 1 + 1 + 1) W2) rfl (.int .i64 x) (.int .i64 y)).drew (fun q hq e => by have := HBW.out; omega))
  have HFs := Lib.hid ((HF2.out.setX x y).kept (Kept.refl (fun _ => False) _).drew)
  go_region_with (first
    | (go_at_call 18; refine (HCB.out _ HKd.out).mono ?_; rintro e w6 ⟨rfl, hk6⟩; have HK6 := Lib.hid (HKd.out.trans hk6); have HF6 := Lib.hid (HFd.out.kept hk6); obtain ⟨⟨g0, g1, g2⟩, ⟨f0, f1, f2⟩⟩ := HF6.out.rng; obtain ⟨x1, x2, x3, x4⟩ := two_facts HF6.out.d; obtain ⟨v1, v2, _, _⟩ := two_facts ((hk6.block _ (heap_lt HSd.out) id).trans HSd.out); clear hk6)
    | (go_at_call 18; refine (HCB.out _ HKs.out).mono ?_; rintro e w6 ⟨rfl, hk6⟩; have HK6 := Lib.hid (HKs.out.trans hk6); have HF6 := Lib.hid (HFs.out.kept hk6); obtain ⟨⟨g0, g1, g2⟩, ⟨f0, f1, f2⟩⟩ := HF6.out.rng; clear hk6))
  all_goals
    try go_wp2
    first
      | (have FF := ((HF6.out.setR lo hi ln).setX x y)
         refine bodyPost_ret (res_of rfl _ _ (B + 1 + 1) (B + 1 + 1 + 1) lo hi ln x y rfl rfl ?_ ?_) rfl ⟨rfl, ?_⟩
         · exact FF.c
         · exact FF.d
         · exact HK6.out.fresh (Kept.pair (g := B + 1 + 1 + 1) (Kept.three (g := B + 1 + 1) (Kept.refl (fun q => q = B + 1 + 1 ∨ q = B + 1 + 1 + 1) w6) (.inl rfl) (.int .i64 lo) (.int .i64 hi) (.bool ln)) (.inr rfl) (.int .i64 x) (.int .i64 y)) (fun q hq e => by have := HBW.out; omega))
      | (have FF := ((HF6.out.setX x y).setR lo hi ln)
         refine bodyPost_ret (res_of rfl _ _ (B + 1 + 1) (B + 1 + 1 + 1) lo hi ln x y rfl rfl ?_ ?_) rfl ⟨rfl, ?_⟩
         · exact FF.c
         · exact FF.d
         · exact HK6.out.fresh (Kept.three (g := B + 1 + 1) (Kept.pair (g := B + 1 + 1 + 1) (Kept.refl (fun q => q = B + 1 + 1 ∨ q = B + 1 + 1 + 1) w6) (.inr rfl) (.int .i64 x) (.int .i64 y)) (.inl rfl) (.int .i64 lo) (.int .i64 hi) (.bool ln)) (fun q hq e => by have := HBW.out; omega))
      | (have FF := (HF6.out.setR lo hi ln)
         refine bodyPost_ret (res_of rfl _ _ (B + 1 + 1) (B + 1 + 1 + 1) lo hi ln x y rfl rfl ?_ ?_) rfl ⟨rfl, ?_⟩
         · exact FF.c
         · exact FF.d
         · exact HK6.out.fresh (Kept.three (g := B + 1 + 1) (Kept.refl (fun q => q = B + 1 + 1) w6) rfl (.int .i64 lo) (.int .i64 hi) (.bool ln)) (fun q hq e => by have := HBW.out; omega))
end Go.Proofs.YtbofjefblhnkoaaGreatDoor
