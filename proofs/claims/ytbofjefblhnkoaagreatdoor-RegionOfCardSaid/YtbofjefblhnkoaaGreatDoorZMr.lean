/-
  MOTIONS: the reference's Go, by pairs.
  MOTIONS: the reference's Go, by a mark.
  MOTIONS: the reference's Go, by a search again.
-/
import Derived.Test.YtbofjefblhnkoaaGreatDoorZMl
import Derived.Test.YtbofjefblhnkoaaGreatDoorZMp
set_option linter.unusedVariables false
namespace Go.Proofs.YtbofjefblhnkoaaGreatDoor
open Go Go.RowKit

set_option maxRecDepth 100000 in
set_option maxHeartbeats 1000000 in
theorem rgo_pair (TA : Option Addr) (tc : Nat) (t : List Int) (k m : Nat) (c0 c2 c3 c4 c5 k1 k2 : Int) (A : Option Addr) (n c : Nat) (M : List (List Int)) (w : World) (hR : Rn w TA t.length t) (hr : Runey t) (hl : t.length ≤ 6000) (hk : k ≤ t.length) (hc : m ≤ 999) (hx : k1 = 0 ∨ Rw.Seek k1) (hA : Rws w A n 2 M) (hn : n ≤ 100000) (ho : Rw.mOk M) (hkey : Rw.kin c3 = 6) :
    Calls Tryz.prog 33 #[.slice TA t.length tc, .int .i64 k, cmdV c0 m c2 c3 c4 c5, sekV k1 k2, .slice A n c] w fun e w' => e = .returned (goV (Rw.goM t k c3 c5 m k1 k2 M)) ∧ Kept (fun _ => False) w w' := by
  have HK0 : Hid (Kept (fun _ => False) w ((((w.alloc (cmdO c0 m c2 c3 c4 c5)).alloc (sekO k1 k2)).alloc (tgtO 0 0)).alloc (sekO 0 0))) := ((((Kept.refl _ w).alloc _).alloc _).alloc _).alloc _
  have HF0 := Lib.hid (four_new w c0 m c2 c3 c4 c5 k1 k2)
  have hq : max 1 (m : Int) = ((Rw.times m : Nat) : Int) := by unfold Rw.times; omega
  have hq1 : 1 ≤ Rw.times m ∧ Rw.times m ≤ 999 := by unfold Rw.times; omega
  have hgo : Rw.goM t k c3 c5 m k1 k2 M = (Rw.pair t k).map fun (a : Nat) => ((a : Int), 1, k1, k2) := by
    unfold Rw.goM
    rw [if_neg (by rw [hkey]; decide), if_neg (by rw [hkey]; decide), if_neg (by rw [hkey]; decide), if_neg (by rw [hkey]; decide), if_pos hkey]
  rw [hgo]
  have hkk := Rw.by_pair.1 hkey
  subst hkk
  have cWd := fun W => word_f (show ¬ Rw.Word 37 by unfold Rw.Word; omega) W
  have cSk := fun W => Sk.seek_f (show ¬ Rw.Seek 37 by unfold Rw.Seek; omega) W
  have cW := fun W (hk' : Kept (fun _ => False) w W) => Pk.rpair_any TA t.length tc k t W (hR.kept hk' (fun _ _ => id)) hl hk
  obtain ⟨o, hoo⟩ : ∃ o, Rw.pair t k = o := ⟨_, rfl⟩
  rw [hoo]
  simp only [hoo] at cW
  clear hR hr hgo hoo hA ho hkey hx
  generalize Rw.times m = q at *
  cases o with
  | none =>
    simp only [oI] at cW
    · go_enter Tryz.func33, Tryz.ntmps33
      go_wp2_with (first
        | (go_at_call 61; refine (cWd _).mono ?_; rintro e w1 ⟨rfl, hk1⟩; have HK1 := Lib.hid (HK0.out.trans hk1); have HF1 := Lib.hid (HF0.out.kept hk1); obtain ⟨xa1, xb1, xc1, ⟨xd1, xe1, xf1, xg1⟩, ⟨xh1, xi1, xj1, xk1⟩, ⟨xl1, xm1, xn1, xo1⟩⟩ := HF1.out.facts; clear hk1)
        | (go_at_call 27; refine (cSk _).mono ?_; rintro e w2 ⟨rfl, hk2⟩; have HK2 := Lib.hid (HK1.out.trans hk2); have HF2 := Lib.hid (HF1.out.kept hk2); obtain ⟨xa2, xb2, xc2, ⟨xd2, xe2, xf2, xg2⟩, ⟨xh2, xi2, xj2, xk2⟩, ⟨xl2, xm2, xn2, xo2⟩⟩ := HF2.out.facts; clear hk2)
        | (go_at_call 73; refine (cW _ HK2.out).mono ?_; rintro e w3 ⟨rfl, hk3⟩; have HK3 := Lib.hid (HK2.out.trans hk3); have HF3 := Lib.hid (HF2.out.kept hk3); obtain ⟨xa3, xb3, xc3, ⟨xd3, xe3, xf3, xg3⟩, ⟨xh3, xi3, xj3, xk3⟩, ⟨xl3, xm3, xn3, xo3⟩⟩ := HF3.out.facts; clear hk3))
      have FF := ((HF3.out.setT 0 0).setX 0 0)
      have KK := (Kept.pair (g := w.heap.size + 1 + 1 + 1) (Kept.pair (g := w.heap.size + 1 + 1) (Kept.refl (fun q => q = w.heap.size + 1 ∨ q = w.heap.size + 1 + 1 ∨ q = w.heap.size + 1 + 1 + 1) w3) (.inr (.inl rfl)) (.int .i64 0) (.int .i64 0)) (.inr (.inr rfl)) (.int .i64 0) (.int .i64 0))
      refine bodyPost_ret (res_go rfl _ _ (w.heap.size + 1 + 1) (w.heap.size + 1 + 1 + 1) 0 0 0 0 rfl rfl ?_ ?_) rfl ⟨rfl, ?_⟩
      · exact FF.c
      · exact FF.d
      · exact HK3.out.fresh KK (fun q hq e => by omega)
  | some a =>
    simp only [oI] at cW
    have z1 : decide ((a : Int) < 0) = false := by simp
    · go_enter Tryz.func33, Tryz.ntmps33
      go_wp2_with (first
        | (go_at_call 61; refine (cWd _).mono ?_; rintro e w1 ⟨rfl, hk1⟩; have HK1 := Lib.hid (HK0.out.trans hk1); have HF1 := Lib.hid (HF0.out.kept hk1); obtain ⟨xa1, xb1, xc1, ⟨xd1, xe1, xf1, xg1⟩, ⟨xh1, xi1, xj1, xk1⟩, ⟨xl1, xm1, xn1, xo1⟩⟩ := HF1.out.facts; clear hk1)
        | (go_at_call 27; refine (cSk _).mono ?_; rintro e w2 ⟨rfl, hk2⟩; have HK2 := Lib.hid (HK1.out.trans hk2); have HF2 := Lib.hid (HF1.out.kept hk2); obtain ⟨xa2, xb2, xc2, ⟨xd2, xe2, xf2, xg2⟩, ⟨xh2, xi2, xj2, xk2⟩, ⟨xl2, xm2, xn2, xo2⟩⟩ := HF2.out.facts; clear hk2)
        | (go_at_call 73; refine (cW _ HK2.out).mono ?_; rintro e w3 ⟨rfl, hk3⟩; have HK3 := Lib.hid (HK2.out.trans hk3); have HF3 := Lib.hid (HF2.out.kept hk3); obtain ⟨xa3, xb3, xc3, ⟨xd3, xe3, xf3, xg3⟩, ⟨xh3, xi3, xj3, xk3⟩, ⟨xl3, xm3, xn3, xo3⟩⟩ := HF3.out.facts; clear hk3))
      go_region
      all_goals
        try go_wp2
        have FF := (((HF3.out.setT a 1).setX k1 k2).kept ((Kept.refl (fun _ => False) _).drew))
        have KK := (Kept.pair (g := w.heap.size + 1 + 1 + 1) (Kept.pair (g := w.heap.size + 1 + 1) (Kept.refl (fun q => q = w.heap.size + 1 ∨ q = w.heap.size + 1 + 1 ∨ q = w.heap.size + 1 + 1 + 1) w3) (.inr (.inl rfl)) (.int .i64 a) (.int .i64 1)) (.inr (.inr rfl)) (.int .i64 k1) (.int .i64 k2)).drew
        refine bodyPost_ret (res_go rfl _ _ (w.heap.size + 1 + 1) (w.heap.size + 1 + 1 + 1) a 1 k1 k2 rfl rfl ?_ ?_) rfl ⟨rfl, ?_⟩
        · exact FF.c
        · exact FF.d
        · exact HK3.out.fresh KK (fun q hq e => by omega)
end Go.Proofs.YtbofjefblhnkoaaGreatDoor
namespace Go.Proofs.YtbofjefblhnkoaaGreatDoor
open Go Go.RowKit

set_option maxRecDepth 100000 in
set_option maxHeartbeats 1000000 in
theorem rgo_mark (TA : Option Addr) (tc : Nat) (t : List Int) (k m : Nat) (c0 c2 c3 c4 c5 k1 k2 : Int) (A : Option Addr) (n c : Nat) (M : List (List Int)) (w : World) (hR : Rn w TA t.length t) (hr : Runey t) (hl : t.length ≤ 6000) (hk : k ≤ t.length) (hc : m ≤ 999) (hx : k1 = 0 ∨ Rw.Seek k1) (hA : Rws w A n 2 M) (hn : n ≤ 100000) (ho : Rw.mOk M) (hkey : Rw.kin c3 = 7) :
    Calls Tryz.prog 33 #[.slice TA t.length tc, .int .i64 k, cmdV c0 m c2 c3 c4 c5, sekV k1 k2, .slice A n c] w fun e w' => e = .returned (goV (Rw.goM t k c3 c5 m k1 k2 M)) ∧ Kept (fun _ => False) w w' := by
  have HK0 : Hid (Kept (fun _ => False) w ((((w.alloc (cmdO c0 m c2 c3 c4 c5)).alloc (sekO k1 k2)).alloc (tgtO 0 0)).alloc (sekO 0 0))) := ((((Kept.refl _ w).alloc _).alloc _).alloc _).alloc _
  have HF0 := Lib.hid (four_new w c0 m c2 c3 c4 c5 k1 k2)
  have hq : max 1 (m : Int) = ((Rw.times m : Nat) : Int) := by unfold Rw.times; omega
  have hq1 : 1 ≤ Rw.times m ∧ Rw.times m ≤ 999 := by unfold Rw.times; omega
  have hgo : Rw.goM t k c3 c5 m k1 k2 M = Rw.goMark t c3 c5 k1 k2 M := by
    unfold Rw.goM
    rw [if_neg (by rw [hkey]; decide), if_neg (by rw [hkey]; decide), if_neg (by rw [hkey]; decide), if_neg (by rw [hkey]; decide), if_neg (by rw [hkey]; decide), if_pos hkey]
  rw [hgo]
  have hkk := Rw.by_mark.1 hkey
  have cWd := fun W => word_f (show ¬ Rw.Word c3 by unfold Rw.Word; omega) W
  have cSk := fun W => Sk.seek_f (show ¬ Rw.Seek c3 by unfold Rw.Seek; omega) W
  have cG := fun W (hk' : Kept (fun _ => False) w W) => rget_any A n c M c5 W (hA.kept hk' (fun _ _ => id)) hn
  have hrange := fun (y : Int) (hy : Rw.mget M c5 = some y) => ho.range hy
  clear hgo hA ho hkey hx
  generalize Rw.times m = q at *
  unfold Rw.goMark
  cases hg : Rw.mget M c5 with
  | none =>
    simp only [hg, getV] at cG
    clear hg hrange hR hr
    rcases hkk with rfl | rfl
    · go_enter Tryz.func33, Tryz.ntmps33
      go_wp2_with (first
        | (go_at_call 61; refine (cWd _).mono ?_; rintro e w1 ⟨rfl, hk1⟩; have HK1 := Lib.hid (HK0.out.trans hk1); have HF1 := Lib.hid (HF0.out.kept hk1); obtain ⟨xa1, xb1, xc1, ⟨xd1, xe1, xf1, xg1⟩, ⟨xh1, xi1, xj1, xk1⟩, ⟨xl1, xm1, xn1, xo1⟩⟩ := HF1.out.facts; clear hk1)
        | (go_at_call 27; refine (cSk _).mono ?_; rintro e w2 ⟨rfl, hk2⟩; have HK2 := Lib.hid (HK1.out.trans hk2); have HF2 := Lib.hid (HF1.out.kept hk2); obtain ⟨xa2, xb2, xc2, ⟨xd2, xe2, xf2, xg2⟩, ⟨xh2, xi2, xj2, xk2⟩, ⟨xl2, xm2, xn2, xo2⟩⟩ := HF2.out.facts; clear hk2)
        | (go_at_call 74; refine (cG _ HK2.out).mono ?_; rintro e w9 ⟨rfl, hw⟩; have hw2 := hw.symm; subst hw2))
      have FF := ((HF2.out.setT 0 0).setX 0 0)
      have KK := (Kept.pair (g := w.heap.size + 1 + 1 + 1) (Kept.pair (g := w.heap.size + 1 + 1) (Kept.refl (fun q => q = w.heap.size + 1 ∨ q = w.heap.size + 1 + 1 ∨ q = w.heap.size + 1 + 1 + 1) w2) (.inr (.inl rfl)) (.int .i64 0) (.int .i64 0)) (.inr (.inr rfl)) (.int .i64 0) (.int .i64 0))
      refine bodyPost_ret (res_go rfl _ _ (w.heap.size + 1 + 1) (w.heap.size + 1 + 1 + 1) 0 0 0 0 rfl rfl ?_ ?_) rfl ⟨rfl, ?_⟩
      · exact FF.c
      · exact FF.d
      · exact HK2.out.fresh KK (fun q hq e => by omega)
    · go_enter Tryz.func33, Tryz.ntmps33
      go_wp2_with (first
        | (go_at_call 61; refine (cWd _).mono ?_; rintro e w1 ⟨rfl, hk1⟩; have HK1 := Lib.hid (HK0.out.trans hk1); have HF1 := Lib.hid (HF0.out.kept hk1); obtain ⟨xa1, xb1, xc1, ⟨xd1, xe1, xf1, xg1⟩, ⟨xh1, xi1, xj1, xk1⟩, ⟨xl1, xm1, xn1, xo1⟩⟩ := HF1.out.facts; clear hk1)
        | (go_at_call 27; refine (cSk _).mono ?_; rintro e w2 ⟨rfl, hk2⟩; have HK2 := Lib.hid (HK1.out.trans hk2); have HF2 := Lib.hid (HF1.out.kept hk2); obtain ⟨xa2, xb2, xc2, ⟨xd2, xe2, xf2, xg2⟩, ⟨xh2, xi2, xj2, xk2⟩, ⟨xl2, xm2, xn2, xo2⟩⟩ := HF2.out.facts; clear hk2)
        | (go_at_call 74; refine (cG _ HK2.out).mono ?_; rintro e w9 ⟨rfl, hw⟩; have hw2 := hw.symm; subst hw2))
      have FF := ((HF2.out.setT 0 0).setX 0 0)
      have KK := (Kept.pair (g := w.heap.size + 1 + 1 + 1) (Kept.pair (g := w.heap.size + 1 + 1) (Kept.refl (fun q => q = w.heap.size + 1 ∨ q = w.heap.size + 1 + 1 ∨ q = w.heap.size + 1 + 1 + 1) w2) (.inr (.inl rfl)) (.int .i64 0) (.int .i64 0)) (.inr (.inr rfl)) (.int .i64 0) (.int .i64 0))
      refine bodyPost_ret (res_go rfl _ _ (w.heap.size + 1 + 1) (w.heap.size + 1 + 1 + 1) 0 0 0 0 rfl rfl ?_ ?_) rfl ⟨rfl, ?_⟩
      · exact FF.c
      · exact FF.d
      · exact HK2.out.fresh KK (fun q hq e => by omega)
  | some a =>
    obtain ⟨ha0, ha1⟩ := hrange a hg
    obtain ⟨a, rfl⟩ := Int.eq_ofNat_of_zero_le ha0
    simp only [hg, getV] at cG
    clear hg hrange
    have z1 : decide ((a : Int) < 0) = false := by simp
    simp only
    by_cases hle : a ≤ t.length
    · have z2 : decide ((t.length : Int) < (a : Int)) = false := decide_eq_false (by omega)
      have z3 : decide (t.length < a) = false := decide_eq_false (by omega)
      rw [if_pos (by omega)]
      rcases hkk with rfl | rfl
      · rw [if_pos rfl, Int.toNat_natCast]
        have cFst := fun W (hk' : Kept (fun _ => False) w W) => rfirst_any TA t.length tc t a W (hR.kept hk' (fun _ _ => id)) hr hle (by omega)
        generalize Rw.fst t a = r at *
        clear hR hr
        go_enter Tryz.func33, Tryz.ntmps33
        go_wp2_with (first
          | (go_at_call 61; refine (cWd _).mono ?_; rintro e w1 ⟨rfl, hk1⟩; have HK1 := Lib.hid (HK0.out.trans hk1); have HF1 := Lib.hid (HF0.out.kept hk1); obtain ⟨xa1, xb1, xc1, ⟨xd1, xe1, xf1, xg1⟩, ⟨xh1, xi1, xj1, xk1⟩, ⟨xl1, xm1, xn1, xo1⟩⟩ := HF1.out.facts; clear hk1)
          | (go_at_call 27; refine (cSk _).mono ?_; rintro e w2 ⟨rfl, hk2⟩; have HK2 := Lib.hid (HK1.out.trans hk2); have HF2 := Lib.hid (HF1.out.kept hk2); obtain ⟨xa2, xb2, xc2, ⟨xd2, xe2, xf2, xg2⟩, ⟨xh2, xi2, xj2, xk2⟩, ⟨xl2, xm2, xn2, xo2⟩⟩ := HF2.out.facts; clear hk2)
          | (go_at_call 74; refine (cG _ HK2.out).mono ?_; rintro e w9 ⟨rfl, hw⟩; have hw2 := hw.symm; subst hw2)
          | (go_at_call 67; refine (cFst _ HK2.out).mono ?_; rintro e w9 ⟨rfl, hw⟩; have hw2 := hw.symm; subst hw2))
        go_region
        all_goals
          try go_wp2
          have FF := (((HF2.out.setT r 2).setX k1 k2).kept ((Kept.refl (fun _ => False) _).drew))
          have KK := (Kept.pair (g := w.heap.size + 1 + 1 + 1) (Kept.pair (g := w.heap.size + 1 + 1) (Kept.refl (fun q => q = w.heap.size + 1 ∨ q = w.heap.size + 1 + 1 ∨ q = w.heap.size + 1 + 1 + 1) w2) (.inr (.inl rfl)) (.int .i64 r) (.int .i64 2)) (.inr (.inr rfl)) (.int .i64 k1) (.int .i64 k2)).drew
          refine bodyPost_ret (res_go rfl _ _ (w.heap.size + 1 + 1) (w.heap.size + 1 + 1 + 1) r 2 k1 k2 rfl rfl ?_ ?_) rfl ⟨rfl, ?_⟩
          · exact FF.c
          · exact FF.d
          · exact HK2.out.fresh KK (fun q hq e => by omega)
      · rw [if_neg (by decide)]
        go_enter Tryz.func33, Tryz.ntmps33
        go_wp2_with (first
          | (go_at_call 61; refine (cWd _).mono ?_; rintro e w1 ⟨rfl, hk1⟩; have HK1 := Lib.hid (HK0.out.trans hk1); have HF1 := Lib.hid (HF0.out.kept hk1); obtain ⟨xa1, xb1, xc1, ⟨xd1, xe1, xf1, xg1⟩, ⟨xh1, xi1, xj1, xk1⟩, ⟨xl1, xm1, xn1, xo1⟩⟩ := HF1.out.facts; clear hk1)
          | (go_at_call 27; refine (cSk _).mono ?_; rintro e w2 ⟨rfl, hk2⟩; have HK2 := Lib.hid (HK1.out.trans hk2); have HF2 := Lib.hid (HF1.out.kept hk2); obtain ⟨xa2, xb2, xc2, ⟨xd2, xe2, xf2, xg2⟩, ⟨xh2, xi2, xj2, xk2⟩, ⟨xl2, xm2, xn2, xo2⟩⟩ := HF2.out.facts; clear hk2)
          | (go_at_call 74; refine (cG _ HK2.out).mono ?_; rintro e w9 ⟨rfl, hw⟩; have hw2 := hw.symm; subst hw2))
        go_region
        all_goals
          try go_wp2
          have FF := (((HF2.out.setT a 0).setX k1 k2).kept ((Kept.refl (fun _ => False) _).drew))
          have KK := (Kept.pair (g := w.heap.size + 1 + 1 + 1) (Kept.pair (g := w.heap.size + 1 + 1) (Kept.refl (fun q => q = w.heap.size + 1 ∨ q = w.heap.size + 1 + 1 ∨ q = w.heap.size + 1 + 1 + 1) w2) (.inr (.inl rfl)) (.int .i64 a) (.int .i64 0)) (.inr (.inr rfl)) (.int .i64 k1) (.int .i64 k2)).drew
          refine bodyPost_ret (res_go rfl _ _ (w.heap.size + 1 + 1) (w.heap.size + 1 + 1 + 1) a 0 k1 k2 rfl rfl ?_ ?_) rfl ⟨rfl, ?_⟩
          · exact FF.c
          · exact FF.d
          · exact HK2.out.fresh KK (fun q hq e => by omega)
    · have z2 : decide ((t.length : Int) < (a : Int)) = true := decide_eq_true (by omega)
      have z3 : decide (t.length < a) = true := decide_eq_true (by omega)
      rw [if_neg (by omega)]
      rcases hkk with rfl | rfl
      · go_enter Tryz.func33, Tryz.ntmps33
        go_wp2_with (first
          | (go_at_call 61; refine (cWd _).mono ?_; rintro e w1 ⟨rfl, hk1⟩; have HK1 := Lib.hid (HK0.out.trans hk1); have HF1 := Lib.hid (HF0.out.kept hk1); obtain ⟨xa1, xb1, xc1, ⟨xd1, xe1, xf1, xg1⟩, ⟨xh1, xi1, xj1, xk1⟩, ⟨xl1, xm1, xn1, xo1⟩⟩ := HF1.out.facts; clear hk1)
          | (go_at_call 27; refine (cSk _).mono ?_; rintro e w2 ⟨rfl, hk2⟩; have HK2 := Lib.hid (HK1.out.trans hk2); have HF2 := Lib.hid (HF1.out.kept hk2); obtain ⟨xa2, xb2, xc2, ⟨xd2, xe2, xf2, xg2⟩, ⟨xh2, xi2, xj2, xk2⟩, ⟨xl2, xm2, xn2, xo2⟩⟩ := HF2.out.facts; clear hk2)
          | (go_at_call 74; refine (cG _ HK2.out).mono ?_; rintro e w9 ⟨rfl, hw⟩; have hw2 := hw.symm; subst hw2))
        have FF := ((HF2.out.setT 0 0).setX 0 0)
        have KK := (Kept.pair (g := w.heap.size + 1 + 1 + 1) (Kept.pair (g := w.heap.size + 1 + 1) (Kept.refl (fun q => q = w.heap.size + 1 ∨ q = w.heap.size + 1 + 1 ∨ q = w.heap.size + 1 + 1 + 1) w2) (.inr (.inl rfl)) (.int .i64 0) (.int .i64 0)) (.inr (.inr rfl)) (.int .i64 0) (.int .i64 0))
        refine bodyPost_ret (res_go rfl _ _ (w.heap.size + 1 + 1) (w.heap.size + 1 + 1 + 1) 0 0 0 0 rfl rfl ?_ ?_) rfl ⟨rfl, ?_⟩
        · exact FF.c
        · exact FF.d
        · exact HK2.out.fresh KK (fun q hq e => by omega)
      · go_enter Tryz.func33, Tryz.ntmps33
        go_wp2_with (first
          | (go_at_call 61; refine (cWd _).mono ?_; rintro e w1 ⟨rfl, hk1⟩; have HK1 := Lib.hid (HK0.out.trans hk1); have HF1 := Lib.hid (HF0.out.kept hk1); obtain ⟨xa1, xb1, xc1, ⟨xd1, xe1, xf1, xg1⟩, ⟨xh1, xi1, xj1, xk1⟩, ⟨xl1, xm1, xn1, xo1⟩⟩ := HF1.out.facts; clear hk1)
          | (go_at_call 27; refine (cSk _).mono ?_; rintro e w2 ⟨rfl, hk2⟩; have HK2 := Lib.hid (HK1.out.trans hk2); have HF2 := Lib.hid (HF1.out.kept hk2); obtain ⟨xa2, xb2, xc2, ⟨xd2, xe2, xf2, xg2⟩, ⟨xh2, xi2, xj2, xk2⟩, ⟨xl2, xm2, xn2, xo2⟩⟩ := HF2.out.facts; clear hk2)
          | (go_at_call 74; refine (cG _ HK2.out).mono ?_; rintro e w9 ⟨rfl, hw⟩; have hw2 := hw.symm; subst hw2))
        have FF := ((HF2.out.setT 0 0).setX 0 0)
        have KK := (Kept.pair (g := w.heap.size + 1 + 1 + 1) (Kept.pair (g := w.heap.size + 1 + 1) (Kept.refl (fun q => q = w.heap.size + 1 ∨ q = w.heap.size + 1 + 1 ∨ q = w.heap.size + 1 + 1 + 1) w2) (.inr (.inl rfl)) (.int .i64 0) (.int .i64 0)) (.inr (.inr rfl)) (.int .i64 0) (.int .i64 0))
        refine bodyPost_ret (res_go rfl _ _ (w.heap.size + 1 + 1) (w.heap.size + 1 + 1 + 1) 0 0 0 0 rfl rfl ?_ ?_) rfl ⟨rfl, ?_⟩
        · exact FF.c
        · exact FF.d
        · exact HK2.out.fresh KK (fun q hq e => by omega)
end Go.Proofs.YtbofjefblhnkoaaGreatDoor
namespace Go.Proofs.YtbofjefblhnkoaaGreatDoor
open Go Go.RowKit

set_option maxRecDepth 100000 in
set_option maxHeartbeats 1000000 in
theorem rgo_again (TA : Option Addr) (tc : Nat) (t : List Int) (k m : Nat) (c0 c2 c3 c4 c5 k1 k2 : Int) (A : Option Addr) (n c : Nat) (M : List (List Int)) (w : World) (hR : Rn w TA t.length t) (hr : Runey t) (hl : t.length ≤ 6000) (hk : k ≤ t.length) (hc : m ≤ 999) (hx : k1 = 0 ∨ Rw.Seek k1) (hA : Rws w A n 2 M) (hn : n ≤ 100000) (ho : Rw.mOk M) (hkey : Rw.kin c3 = 4) :
    Calls Tryz.prog 33 #[.slice TA t.length tc, .int .i64 k, cmdV c0 m c2 c3 c4 c5, sekV k1 k2, .slice A n c] w fun e w' => e = .returned (goV (Rw.goM t k c3 c5 m k1 k2 M)) ∧ Kept (fun _ => False) w w' := by
  have HK0 : Hid (Kept (fun _ => False) w ((((w.alloc (cmdO c0 m c2 c3 c4 c5)).alloc (sekO k1 k2)).alloc (tgtO 0 0)).alloc (sekO 0 0))) := ((((Kept.refl _ w).alloc _).alloc _).alloc _).alloc _
  have HF0 := Lib.hid (four_new w c0 m c2 c3 c4 c5 k1 k2)
  have hq : max 1 (m : Int) = ((Rw.times m : Nat) : Int) := by unfold Rw.times; omega
  have hq1 : 1 ≤ Rw.times m ∧ Rw.times m ≤ 999 := by unfold Rw.times; omega
  have hkk := Rw.by_again.1 hkey
  have cWd := fun W => word_f (show ¬ Rw.Word c3 by unfold Rw.Word; omega) W
  have cSk := fun W => Sk.seek_f (show ¬ Rw.Seek c3 by unfold Rw.Seek; omega) W
  have hgo : Rw.goM t k c3 c5 m k1 k2 M = (if k1 = 0 then none else Rw.goSeek t k (if c3 = 44 then Rw.turn k1 else k1) k2 (Rw.times m) k1 k2) := by
    unfold Rw.goM
    rw [if_neg (by rw [hkey]; decide), if_neg (by rw [hkey]; decide), if_pos hkey]
  rw [hgo]
  clear hgo hkey hA ho
  by_cases h0 : k1 = 0
  · subst h0
    rw [if_pos rfl]
    generalize Rw.times m = q at *
    rcases hkk with rfl | rfl
    · go_enter Tryz.func33, Tryz.ntmps33
      go_wp2_with (first
        | (go_at_call 61; refine (cWd _).mono ?_; rintro e w1 ⟨rfl, h0⟩; have HK1 := Lib.hid (HK0.out.trans h0); have HF1 := Lib.hid (HF0.out.kept h0); obtain ⟨xa1, xb1, xc1, ⟨xd1, xe1, xf1, xg1⟩, ⟨xh1, xi1, xj1, x0⟩, ⟨xl1, xm1, xn1, xo1⟩⟩ := HF1.out.facts; clear h0)
        | (go_at_call 27; refine (cSk _).mono ?_; rintro e w2 ⟨rfl, hk2⟩; have HK2 := Lib.hid (HK1.out.trans hk2); have HF2 := Lib.hid (HF1.out.kept hk2); obtain ⟨xa2, xb2, xc2, ⟨xd2, xe2, xf2, xg2⟩, ⟨xh2, xi2, xj2, xk2⟩, ⟨xl2, xm2, xn2, xo2⟩⟩ := HF2.out.facts; clear hk2))
      go_quiet (fail)
      go_wp2_with (first
        | (go_at_call 27; refine (cSk _).mono ?_; rintro e w3 ⟨rfl, hk3⟩; have HK3 := Lib.hid ((HK2.out.drewN _).trans hk3); have HF3 := Lib.hid ((HF2.out.kept ((Kept.refl (fun _ => False) w2).drewN _)).kept hk3); obtain ⟨xa3, xb3, xc3, ⟨xd3, xe3, xf3, xg3⟩, ⟨xh3, xi3, xj3, xk3⟩, ⟨xl3, xm3, xn3, xo3⟩⟩ := HF3.out.facts; clear hk3))
      have FF := ((HF3.out.setT 0 0).setX 0 0)
      have KK := (Kept.pair (g := w.heap.size + 1 + 1 + 1) (Kept.pair (g := w.heap.size + 1 + 1) (Kept.refl (fun q => q = w.heap.size + 1 ∨ q = w.heap.size + 1 + 1 ∨ q = w.heap.size + 1 + 1 + 1) w3) (.inr (.inl rfl)) (.int .i64 0) (.int .i64 0)) (.inr (.inr rfl)) (.int .i64 0) (.int .i64 0))
      refine bodyPost_ret (res_go rfl _ _ (w.heap.size + 1 + 1) (w.heap.size + 1 + 1 + 1) 0 0 0 0 rfl rfl ?_ ?_) rfl ⟨rfl, ?_⟩
      · exact FF.c
      · exact FF.d
      · exact HK3.out.fresh KK (fun q hq e => by omega)
    · go_enter Tryz.func33, Tryz.ntmps33
      go_wp2_with (first
        | (go_at_call 61; refine (cWd _).mono ?_; rintro e w1 ⟨rfl, h0⟩; have HK1 := Lib.hid (HK0.out.trans h0); have HF1 := Lib.hid (HF0.out.kept h0); obtain ⟨xa1, xb1, xc1, ⟨xd1, xe1, xf1, xg1⟩, ⟨xh1, xi1, xj1, x0⟩, ⟨xl1, xm1, xn1, xo1⟩⟩ := HF1.out.facts; clear h0)
        | (go_at_call 27; refine (cSk _).mono ?_; rintro e w2 ⟨rfl, hk2⟩; have HK2 := Lib.hid (HK1.out.trans hk2); have HF2 := Lib.hid (HF1.out.kept hk2); obtain ⟨xa2, xb2, xc2, ⟨xd2, xe2, xf2, xg2⟩, ⟨xh2, xi2, xj2, xk2⟩, ⟨xl2, xm2, xn2, xo2⟩⟩ := HF2.out.facts; clear hk2))
      go_quiet (fail)
      go_wp2_with (first
        | (go_at_call 27; refine (cSk _).mono ?_; rintro e w3 ⟨rfl, hk3⟩; have HK3 := Lib.hid ((HK2.out.drewN _).trans hk3); have HF3 := Lib.hid ((HF2.out.kept ((Kept.refl (fun _ => False) w2).drewN _)).kept hk3); obtain ⟨xa3, xb3, xc3, ⟨xd3, xe3, xf3, xg3⟩, ⟨xh3, xi3, xj3, xk3⟩, ⟨xl3, xm3, xn3, xo3⟩⟩ := HF3.out.facts; clear hk3))
      have FF := ((HF3.out.setT 0 0).setX 0 0)
      have KK := (Kept.pair (g := w.heap.size + 1 + 1 + 1) (Kept.pair (g := w.heap.size + 1 + 1) (Kept.refl (fun q => q = w.heap.size + 1 ∨ q = w.heap.size + 1 + 1 ∨ q = w.heap.size + 1 + 1 + 1) w3) (.inr (.inl rfl)) (.int .i64 0) (.int .i64 0)) (.inr (.inr rfl)) (.int .i64 0) (.int .i64 0))
      refine bodyPost_ret (res_go rfl _ _ (w.heap.size + 1 + 1) (w.heap.size + 1 + 1 + 1) 0 0 0 0 rfl rfl ?_ ?_) rfl ⟨rfl, ?_⟩
      · exact FF.c
      · exact FF.d
      · exact HK3.out.fresh KK (fun q hq e => by omega)
  · have hs : Rw.Seek k1 := hx.resolve_left h0
    rw [if_neg h0]
    have z0 : (k1 == 0) = false := beq_eq_false_iff_ne.2 h0
    have cT := fun W => rturned_yes hs W
    clear hx h0
    rcases hkk with rfl | rfl
    · rw [if_neg (by decide)]
      have cW := fun W (hk' : Kept (fun _ => False) w W) => Sk.rf_yes TA t.length tc t k (Rw.times m) k1 k2 W (hR.kept hk' (fun _ _ => id)) hr hk (by omega) hq1.1 hq1.2 hs
      have hgs : Rw.goSeek t k k1 k2 (Rw.times m) k1 k2 = (Rw.find t k k1 k2 (Rw.times m)).map fun a => (a, kon k1, k1, k2) := rfl
      rw [hgs]
      obtain ⟨o, hoo⟩ : ∃ o, Rw.find t k k1 k2 (Rw.times m) = o := ⟨_, rfl⟩
      rw [hoo]
      simp only [hoo] at cW
      clear hoo hgs hR hr hs
      generalize Rw.times m = q at *
      obtain ⟨K, hK⟩ : ∃ K : Int, kon k1 = K := ⟨_, rfl⟩
      rw [hK]
      have hcs : ((k1 == 102) = true ∧ K = 1) ∨ ((k1 == 102) = false ∧ (k1 == 116) = true ∧ K = 1) ∨ ((k1 == 102) = false ∧ (k1 == 116) = false ∧ K = 0) := by
        unfold kon at hK
        by_cases e1 : k1 = 102
        · exact .inl ⟨by simp [e1], by rw [← hK, if_pos (.inl e1)]⟩
        · by_cases e2 : k1 = 116
          · exact .inr (.inl ⟨by simp [e1], by simp [e2], by rw [← hK, if_pos (.inr e2)]⟩)
          · exact .inr (.inr ⟨by simp [e1], by simp [e2], by rw [← hK, if_neg (fun h => h.elim e1 e2)]⟩)
      clear hK
      cases o with
      | none =>
        unfold ansI at cW
        simp only at cW
        rcases hcs with ⟨z1, rfl⟩ | ⟨z1, z2, rfl⟩ | ⟨z1, z2, rfl⟩
        · go_enter Tryz.func33, Tryz.ntmps33
          go_wp2_with (first
            | (go_at_call 61; refine (cWd _).mono ?_; rintro e w1 ⟨rfl, hk1⟩; have HK1 := Lib.hid (HK0.out.trans hk1); have HF1 := Lib.hid (HF0.out.kept hk1); obtain ⟨xa1, xb1, xc1, ⟨xd1, xe1, xf1, xg1⟩, ⟨xh1, xi1, xj1, xk1⟩, ⟨xl1, xm1, xn1, xo1⟩⟩ := HF1.out.facts; clear hk1)
            | (go_at_call 27; refine (cSk _).mono ?_; rintro e w2 ⟨rfl, hk2⟩; have HK2 := Lib.hid (HK1.out.trans hk2); have HF2 := Lib.hid (HF1.out.kept hk2); obtain ⟨xa2, xb2, xc2, ⟨xd2, xe2, xf2, xg2⟩, ⟨xh2, xi2, xj2, xk2⟩, ⟨xl2, xm2, xn2, xo2⟩⟩ := HF2.out.facts; clear hk2))
          go_quiet (fail)
          go_wp2_with (first
            | (go_at_call 27; refine (cSk _).mono ?_; rintro e w3 ⟨rfl, hk3⟩; have HK3 := Lib.hid ((HK2.out.drewN _).trans hk3); have HF3 := Lib.hid ((HF2.out.kept ((Kept.refl (fun _ => False) w2).drewN _)).kept hk3); obtain ⟨xa3, xb3, xc3, ⟨xd3, xe3, xf3, xg3⟩, ⟨xh3, xi3, xj3, xk3⟩, ⟨xl3, xm3, xn3, xo3⟩⟩ := HF3.out.facts; clear hk3))
          go_quiet (fail)
          have HKZ := Lib.hid (fun (j : Nat) => HK3.out.drewN j)
          go_wp2_with (first
            | (go_at_call 71; refine (cW _ (HKZ.out _)).mono ?_; rintro e w9 ⟨rfl, hw⟩; have hw2 := hw.symm; subst hw2))
          have FF := (((HF3.out.kept ((Kept.refl (fun _ => False) w3).drewN nq)).setT 0 0).setX 0 0)
          have KK := (Kept.pair (g := w.heap.size + 1 + 1 + 1) (Kept.pair (g := w.heap.size + 1 + 1) (Kept.refl (fun q => q = w.heap.size + 1 ∨ q = w.heap.size + 1 + 1 ∨ q = w.heap.size + 1 + 1 + 1) (w3.drewN nq)) (.inr (.inl rfl)) (.int .i64 0) (.int .i64 0)) (.inr (.inr rfl)) (.int .i64 0) (.int .i64 0))
          refine bodyPost_ret (res_go rfl _ _ (w.heap.size + 1 + 1) (w.heap.size + 1 + 1 + 1) 0 0 0 0 rfl rfl ?_ ?_) rfl ⟨rfl, ?_⟩
          · exact FF.c
          · exact FF.d
          · exact (HK3.out.drewN nq).fresh KK (fun q hq e => by omega)
        · go_enter Tryz.func33, Tryz.ntmps33
          go_wp2_with (first
            | (go_at_call 61; refine (cWd _).mono ?_; rintro e w1 ⟨rfl, hk1⟩; have HK1 := Lib.hid (HK0.out.trans hk1); have HF1 := Lib.hid (HF0.out.kept hk1); obtain ⟨xa1, xb1, xc1, ⟨xd1, xe1, xf1, xg1⟩, ⟨xh1, xi1, xj1, xk1⟩, ⟨xl1, xm1, xn1, xo1⟩⟩ := HF1.out.facts; clear hk1)
            | (go_at_call 27; refine (cSk _).mono ?_; rintro e w2 ⟨rfl, hk2⟩; have HK2 := Lib.hid (HK1.out.trans hk2); have HF2 := Lib.hid (HF1.out.kept hk2); obtain ⟨xa2, xb2, xc2, ⟨xd2, xe2, xf2, xg2⟩, ⟨xh2, xi2, xj2, xk2⟩, ⟨xl2, xm2, xn2, xo2⟩⟩ := HF2.out.facts; clear hk2))
          go_quiet (fail)
          go_wp2_with (first
            | (go_at_call 27; refine (cSk _).mono ?_; rintro e w3 ⟨rfl, hk3⟩; have HK3 := Lib.hid ((HK2.out.drewN _).trans hk3); have HF3 := Lib.hid ((HF2.out.kept ((Kept.refl (fun _ => False) w2).drewN _)).kept hk3); obtain ⟨xa3, xb3, xc3, ⟨xd3, xe3, xf3, xg3⟩, ⟨xh3, xi3, xj3, xk3⟩, ⟨xl3, xm3, xn3, xo3⟩⟩ := HF3.out.facts; clear hk3))
          go_quiet (fail)
          have HKZ := Lib.hid (fun (j : Nat) => HK3.out.drewN j)
          go_wp2_with (first
            | (go_at_call 71; refine (cW _ (HKZ.out _)).mono ?_; rintro e w9 ⟨rfl, hw⟩; have hw2 := hw.symm; subst hw2))
          have FF := (((HF3.out.kept ((Kept.refl (fun _ => False) w3).drewN nq)).setT 0 0).setX 0 0)
          have KK := (Kept.pair (g := w.heap.size + 1 + 1 + 1) (Kept.pair (g := w.heap.size + 1 + 1) (Kept.refl (fun q => q = w.heap.size + 1 ∨ q = w.heap.size + 1 + 1 ∨ q = w.heap.size + 1 + 1 + 1) (w3.drewN nq)) (.inr (.inl rfl)) (.int .i64 0) (.int .i64 0)) (.inr (.inr rfl)) (.int .i64 0) (.int .i64 0))
          refine bodyPost_ret (res_go rfl _ _ (w.heap.size + 1 + 1) (w.heap.size + 1 + 1 + 1) 0 0 0 0 rfl rfl ?_ ?_) rfl ⟨rfl, ?_⟩
          · exact FF.c
          · exact FF.d
          · exact (HK3.out.drewN nq).fresh KK (fun q hq e => by omega)
        · go_enter Tryz.func33, Tryz.ntmps33
          go_wp2_with (first
            | (go_at_call 61; refine (cWd _).mono ?_; rintro e w1 ⟨rfl, hk1⟩; have HK1 := Lib.hid (HK0.out.trans hk1); have HF1 := Lib.hid (HF0.out.kept hk1); obtain ⟨xa1, xb1, xc1, ⟨xd1, xe1, xf1, xg1⟩, ⟨xh1, xi1, xj1, xk1⟩, ⟨xl1, xm1, xn1, xo1⟩⟩ := HF1.out.facts; clear hk1)
            | (go_at_call 27; refine (cSk _).mono ?_; rintro e w2 ⟨rfl, hk2⟩; have HK2 := Lib.hid (HK1.out.trans hk2); have HF2 := Lib.hid (HF1.out.kept hk2); obtain ⟨xa2, xb2, xc2, ⟨xd2, xe2, xf2, xg2⟩, ⟨xh2, xi2, xj2, xk2⟩, ⟨xl2, xm2, xn2, xo2⟩⟩ := HF2.out.facts; clear hk2))
          go_quiet (fail)
          go_wp2_with (first
            | (go_at_call 27; refine (cSk _).mono ?_; rintro e w3 ⟨rfl, hk3⟩; have HK3 := Lib.hid ((HK2.out.drewN _).trans hk3); have HF3 := Lib.hid ((HF2.out.kept ((Kept.refl (fun _ => False) w2).drewN _)).kept hk3); obtain ⟨xa3, xb3, xc3, ⟨xd3, xe3, xf3, xg3⟩, ⟨xh3, xi3, xj3, xk3⟩, ⟨xl3, xm3, xn3, xo3⟩⟩ := HF3.out.facts; clear hk3))
          go_quiet (fail)
          have HKZ := Lib.hid (fun (j : Nat) => HK3.out.drewN j)
          go_wp2_with (first
            | (go_at_call 71; refine (cW _ (HKZ.out _)).mono ?_; rintro e w9 ⟨rfl, hw⟩; have hw2 := hw.symm; subst hw2))
          have FF := (((HF3.out.kept ((Kept.refl (fun _ => False) w3).drewN nq)).setT 0 0).setX 0 0)
          have KK := (Kept.pair (g := w.heap.size + 1 + 1 + 1) (Kept.pair (g := w.heap.size + 1 + 1) (Kept.refl (fun q => q = w.heap.size + 1 ∨ q = w.heap.size + 1 + 1 ∨ q = w.heap.size + 1 + 1 + 1) (w3.drewN nq)) (.inr (.inl rfl)) (.int .i64 0) (.int .i64 0)) (.inr (.inr rfl)) (.int .i64 0) (.int .i64 0))
          refine bodyPost_ret (res_go rfl _ _ (w.heap.size + 1 + 1) (w.heap.size + 1 + 1 + 1) 0 0 0 0 rfl rfl ?_ ?_) rfl ⟨rfl, ?_⟩
          · exact FF.c
          · exact FF.d
          · exact (HK3.out.drewN nq).fresh KK (fun q hq e => by omega)
      | some a =>
        unfold ansI at cW
        simp only at cW
        rcases hcs with ⟨z1, rfl⟩ | ⟨z1, z2, rfl⟩ | ⟨z1, z2, rfl⟩
        · go_enter Tryz.func33, Tryz.ntmps33
          go_wp2_with (first
            | (go_at_call 61; refine (cWd _).mono ?_; rintro e w1 ⟨rfl, hk1⟩; have HK1 := Lib.hid (HK0.out.trans hk1); have HF1 := Lib.hid (HF0.out.kept hk1); obtain ⟨xa1, xb1, xc1, ⟨xd1, xe1, xf1, xg1⟩, ⟨xh1, xi1, xj1, xk1⟩, ⟨xl1, xm1, xn1, xo1⟩⟩ := HF1.out.facts; clear hk1)
            | (go_at_call 27; refine (cSk _).mono ?_; rintro e w2 ⟨rfl, hk2⟩; have HK2 := Lib.hid (HK1.out.trans hk2); have HF2 := Lib.hid (HF1.out.kept hk2); obtain ⟨xa2, xb2, xc2, ⟨xd2, xe2, xf2, xg2⟩, ⟨xh2, xi2, xj2, xk2⟩, ⟨xl2, xm2, xn2, xo2⟩⟩ := HF2.out.facts; clear hk2))
          go_quiet (fail)
          go_wp2_with (first
            | (go_at_call 27; refine (cSk _).mono ?_; rintro e w3 ⟨rfl, hk3⟩; have HK3 := Lib.hid ((HK2.out.drewN _).trans hk3); have HF3 := Lib.hid ((HF2.out.kept ((Kept.refl (fun _ => False) w2).drewN _)).kept hk3); obtain ⟨xa3, xb3, xc3, ⟨xd3, xe3, xf3, xg3⟩, ⟨xh3, xi3, xj3, xk3⟩, ⟨xl3, xm3, xn3, xo3⟩⟩ := HF3.out.facts; clear hk3))
          go_quiet (fail)
          have HKZ := Lib.hid (fun (j : Nat) => HK3.out.drewN j)
          go_wp2_with (first
            | (go_at_call 71; refine (cW _ (HKZ.out _)).mono ?_; rintro e w9 ⟨rfl, hw⟩; have hw2 := hw.symm; subst hw2))
          go_region
          all_goals
            try go_wp2
            have FF := (((HF3.out.kept ((Kept.refl (fun _ => False) w3).drewN (nq + 1))).setT a 1).setX k1 k2)
            have KK := (Kept.pair (g := w.heap.size + 1 + 1 + 1) (Kept.pair (g := w.heap.size + 1 + 1) (Kept.refl (fun q => q = w.heap.size + 1 ∨ q = w.heap.size + 1 + 1 ∨ q = w.heap.size + 1 + 1 + 1) (w3.drewN (nq + 1))) (.inr (.inl rfl)) (.int .i64 a) (.int .i64 1)) (.inr (.inr rfl)) (.int .i64 k1) (.int .i64 k2))
            refine bodyPost_ret (res_go rfl _ _ (w.heap.size + 1 + 1) (w.heap.size + 1 + 1 + 1) a 1 k1 k2 rfl rfl ?_ ?_) rfl ⟨rfl, ?_⟩
            · exact FF.c
            · exact FF.d
            · exact (HK3.out.drewN (nq + 1)).fresh KK (fun q hq e => by omega)
        · go_enter Tryz.func33, Tryz.ntmps33
          go_wp2_with (first
            | (go_at_call 61; refine (cWd _).mono ?_; rintro e w1 ⟨rfl, hk1⟩; have HK1 := Lib.hid (HK0.out.trans hk1); have HF1 := Lib.hid (HF0.out.kept hk1); obtain ⟨xa1, xb1, xc1, ⟨xd1, xe1, xf1, xg1⟩, ⟨xh1, xi1, xj1, xk1⟩, ⟨xl1, xm1, xn1, xo1⟩⟩ := HF1.out.facts; clear hk1)
            | (go_at_call 27; refine (cSk _).mono ?_; rintro e w2 ⟨rfl, hk2⟩; have HK2 := Lib.hid (HK1.out.trans hk2); have HF2 := Lib.hid (HF1.out.kept hk2); obtain ⟨xa2, xb2, xc2, ⟨xd2, xe2, xf2, xg2⟩, ⟨xh2, xi2, xj2, xk2⟩, ⟨xl2, xm2, xn2, xo2⟩⟩ := HF2.out.facts; clear hk2))
          go_quiet (fail)
          go_wp2_with (first
            | (go_at_call 27; refine (cSk _).mono ?_; rintro e w3 ⟨rfl, hk3⟩; have HK3 := Lib.hid ((HK2.out.drewN _).trans hk3); have HF3 := Lib.hid ((HF2.out.kept ((Kept.refl (fun _ => False) w2).drewN _)).kept hk3); obtain ⟨xa3, xb3, xc3, ⟨xd3, xe3, xf3, xg3⟩, ⟨xh3, xi3, xj3, xk3⟩, ⟨xl3, xm3, xn3, xo3⟩⟩ := HF3.out.facts; clear hk3))
          go_quiet (fail)
          have HKZ := Lib.hid (fun (j : Nat) => HK3.out.drewN j)
          go_wp2_with (first
            | (go_at_call 71; refine (cW _ (HKZ.out _)).mono ?_; rintro e w9 ⟨rfl, hw⟩; have hw2 := hw.symm; subst hw2))
          go_region
          all_goals
            try go_wp2
            have FF := (((HF3.out.kept ((Kept.refl (fun _ => False) w3).drewN (nq + 1))).setT a 1).setX k1 k2)
            have KK := (Kept.pair (g := w.heap.size + 1 + 1 + 1) (Kept.pair (g := w.heap.size + 1 + 1) (Kept.refl (fun q => q = w.heap.size + 1 ∨ q = w.heap.size + 1 + 1 ∨ q = w.heap.size + 1 + 1 + 1) (w3.drewN (nq + 1))) (.inr (.inl rfl)) (.int .i64 a) (.int .i64 1)) (.inr (.inr rfl)) (.int .i64 k1) (.int .i64 k2))
            refine bodyPost_ret (res_go rfl _ _ (w.heap.size + 1 + 1) (w.heap.size + 1 + 1 + 1) a 1 k1 k2 rfl rfl ?_ ?_) rfl ⟨rfl, ?_⟩
            · exact FF.c
            · exact FF.d
            · exact (HK3.out.drewN (nq + 1)).fresh KK (fun q hq e => by omega)
        · go_enter Tryz.func33, Tryz.ntmps33
          go_wp2_with (first
            | (go_at_call 61; refine (cWd _).mono ?_; rintro e w1 ⟨rfl, hk1⟩; have HK1 := Lib.hid (HK0.out.trans hk1); have HF1 := Lib.hid (HF0.out.kept hk1); obtain ⟨xa1, xb1, xc1, ⟨xd1, xe1, xf1, xg1⟩, ⟨xh1, xi1, xj1, xk1⟩, ⟨xl1, xm1, xn1, xo1⟩⟩ := HF1.out.facts; clear hk1)
            | (go_at_call 27; refine (cSk _).mono ?_; rintro e w2 ⟨rfl, hk2⟩; have HK2 := Lib.hid (HK1.out.trans hk2); have HF2 := Lib.hid (HF1.out.kept hk2); obtain ⟨xa2, xb2, xc2, ⟨xd2, xe2, xf2, xg2⟩, ⟨xh2, xi2, xj2, xk2⟩, ⟨xl2, xm2, xn2, xo2⟩⟩ := HF2.out.facts; clear hk2))
          go_quiet (fail)
          go_wp2_with (first
            | (go_at_call 27; refine (cSk _).mono ?_; rintro e w3 ⟨rfl, hk3⟩; have HK3 := Lib.hid ((HK2.out.drewN _).trans hk3); have HF3 := Lib.hid ((HF2.out.kept ((Kept.refl (fun _ => False) w2).drewN _)).kept hk3); obtain ⟨xa3, xb3, xc3, ⟨xd3, xe3, xf3, xg3⟩, ⟨xh3, xi3, xj3, xk3⟩, ⟨xl3, xm3, xn3, xo3⟩⟩ := HF3.out.facts; clear hk3))
          go_quiet (fail)
          have HKZ := Lib.hid (fun (j : Nat) => HK3.out.drewN j)
          go_wp2_with (first
            | (go_at_call 71; refine (cW _ (HKZ.out _)).mono ?_; rintro e w9 ⟨rfl, hw⟩; have hw2 := hw.symm; subst hw2))
          go_region
          all_goals
            try go_wp2
            have FF := (((HF3.out.kept ((Kept.refl (fun _ => False) w3).drewN (nq + 1))).setT a 0).setX k1 k2)
            have KK := (Kept.pair (g := w.heap.size + 1 + 1 + 1) (Kept.pair (g := w.heap.size + 1 + 1) (Kept.refl (fun q => q = w.heap.size + 1 ∨ q = w.heap.size + 1 + 1 ∨ q = w.heap.size + 1 + 1 + 1) (w3.drewN (nq + 1))) (.inr (.inl rfl)) (.int .i64 a) (.int .i64 0)) (.inr (.inr rfl)) (.int .i64 k1) (.int .i64 k2))
            refine bodyPost_ret (res_go rfl _ _ (w.heap.size + 1 + 1) (w.heap.size + 1 + 1 + 1) a 0 k1 k2 rfl rfl ?_ ?_) rfl ⟨rfl, ?_⟩
            · exact FF.c
            · exact FF.d
            · exact (HK3.out.drewN (nq + 1)).fresh KK (fun q hq e => by omega)
    · rw [if_pos rfl]
      have cW := fun W (hk' : Kept (fun _ => False) w W) => Sk.rf_yes TA t.length tc t k (Rw.times m) (Rw.turn k1) k2 W (hR.kept hk' (fun _ _ => id)) hr hk (by omega) hq1.1 hq1.2 (Rw.turn_seek k1)
      have hgs : Rw.goSeek t k (Rw.turn k1) k2 (Rw.times m) k1 k2 = (Rw.find t k (Rw.turn k1) k2 (Rw.times m)).map fun a => (a, kon (Rw.turn k1), k1, k2) := rfl
      rw [hgs]
      obtain ⟨o, hoo⟩ : ∃ o, Rw.find t k (Rw.turn k1) k2 (Rw.times m) = o := ⟨_, rfl⟩
      rw [hoo]
      simp only [hoo] at cW
      clear hoo hgs hR hr hs
      generalize Rw.times m = q at *
      generalize Rw.turn k1 = kk at *
      obtain ⟨K, hK⟩ : ∃ K : Int, kon kk = K := ⟨_, rfl⟩
      rw [hK]
      have hcs : ((kk == 102) = true ∧ K = 1) ∨ ((kk == 102) = false ∧ (kk == 116) = true ∧ K = 1) ∨ ((kk == 102) = false ∧ (kk == 116) = false ∧ K = 0) := by
        unfold kon at hK
        by_cases e1 : kk = 102
        · exact .inl ⟨by simp [e1], by rw [← hK, if_pos (.inl e1)]⟩
        · by_cases e2 : kk = 116
          · exact .inr (.inl ⟨by simp [e1], by simp [e2], by rw [← hK, if_pos (.inr e2)]⟩)
          · exact .inr (.inr ⟨by simp [e1], by simp [e2], by rw [← hK, if_neg (fun h => h.elim e1 e2)]⟩)
      clear hK
      cases o with
      | none =>
        unfold ansI at cW
        simp only at cW
        rcases hcs with ⟨z1, rfl⟩ | ⟨z1, z2, rfl⟩ | ⟨z1, z2, rfl⟩
        · go_enter Tryz.func33, Tryz.ntmps33
          go_wp2_with (first
            | (go_at_call 61; refine (cWd _).mono ?_; rintro e w1 ⟨rfl, hk1⟩; have HK1 := Lib.hid (HK0.out.trans hk1); have HF1 := Lib.hid (HF0.out.kept hk1); obtain ⟨xa1, xb1, xc1, ⟨xd1, xe1, xf1, xg1⟩, ⟨xh1, xi1, xj1, xk1⟩, ⟨xl1, xm1, xn1, xo1⟩⟩ := HF1.out.facts; clear hk1)
            | (go_at_call 27; refine (cSk _).mono ?_; rintro e w2 ⟨rfl, hk2⟩; have HK2 := Lib.hid (HK1.out.trans hk2); have HF2 := Lib.hid (HF1.out.kept hk2); obtain ⟨xa2, xb2, xc2, ⟨xd2, xe2, xf2, xg2⟩, ⟨xh2, xi2, xj2, xk2⟩, ⟨xl2, xm2, xn2, xo2⟩⟩ := HF2.out.facts; clear hk2))
          go_quiet (fail)
          go_wp2_with (first
            | (go_at_call 27; refine (cSk _).mono ?_; rintro e w3 ⟨rfl, hk3⟩; have HK3 := Lib.hid ((HK2.out.drewN _).trans hk3); have HF3 := Lib.hid ((HF2.out.kept ((Kept.refl (fun _ => False) w2).drewN _)).kept hk3); obtain ⟨xa3, xb3, xc3, ⟨xd3, xe3, xf3, xg3⟩, ⟨xh3, xi3, xj3, xk3⟩, ⟨xl3, xm3, xn3, xo3⟩⟩ := HF3.out.facts; clear hk3))
          go_quiet (fail)
          have HKZ := Lib.hid (fun (j : Nat) => HK3.out.drewN j)
          go_wp2_with (first
            | (go_at_call 70; refine (cT _).mono ?_; rintro e w9 ⟨rfl, hw⟩; have hw2 := hw.symm; subst hw2)
            | (go_at_call 71; refine (cW _ (HKZ.out _)).mono ?_; rintro e w9 ⟨rfl, hw⟩; have hw2 := hw.symm; subst hw2))
          have FF := (((HF3.out.kept ((Kept.refl (fun _ => False) w3).drewN nq)).setT 0 0).setX 0 0)
          have KK := (Kept.pair (g := w.heap.size + 1 + 1 + 1) (Kept.pair (g := w.heap.size + 1 + 1) (Kept.refl (fun q => q = w.heap.size + 1 ∨ q = w.heap.size + 1 + 1 ∨ q = w.heap.size + 1 + 1 + 1) (w3.drewN nq)) (.inr (.inl rfl)) (.int .i64 0) (.int .i64 0)) (.inr (.inr rfl)) (.int .i64 0) (.int .i64 0))
          refine bodyPost_ret (res_go rfl _ _ (w.heap.size + 1 + 1) (w.heap.size + 1 + 1 + 1) 0 0 0 0 rfl rfl ?_ ?_) rfl ⟨rfl, ?_⟩
          · exact FF.c
          · exact FF.d
          · exact (HK3.out.drewN nq).fresh KK (fun q hq e => by omega)
        · go_enter Tryz.func33, Tryz.ntmps33
          go_wp2_with (first
            | (go_at_call 61; refine (cWd _).mono ?_; rintro e w1 ⟨rfl, hk1⟩; have HK1 := Lib.hid (HK0.out.trans hk1); have HF1 := Lib.hid (HF0.out.kept hk1); obtain ⟨xa1, xb1, xc1, ⟨xd1, xe1, xf1, xg1⟩, ⟨xh1, xi1, xj1, xk1⟩, ⟨xl1, xm1, xn1, xo1⟩⟩ := HF1.out.facts; clear hk1)
            | (go_at_call 27; refine (cSk _).mono ?_; rintro e w2 ⟨rfl, hk2⟩; have HK2 := Lib.hid (HK1.out.trans hk2); have HF2 := Lib.hid (HF1.out.kept hk2); obtain ⟨xa2, xb2, xc2, ⟨xd2, xe2, xf2, xg2⟩, ⟨xh2, xi2, xj2, xk2⟩, ⟨xl2, xm2, xn2, xo2⟩⟩ := HF2.out.facts; clear hk2))
          go_quiet (fail)
          go_wp2_with (first
            | (go_at_call 27; refine (cSk _).mono ?_; rintro e w3 ⟨rfl, hk3⟩; have HK3 := Lib.hid ((HK2.out.drewN _).trans hk3); have HF3 := Lib.hid ((HF2.out.kept ((Kept.refl (fun _ => False) w2).drewN _)).kept hk3); obtain ⟨xa3, xb3, xc3, ⟨xd3, xe3, xf3, xg3⟩, ⟨xh3, xi3, xj3, xk3⟩, ⟨xl3, xm3, xn3, xo3⟩⟩ := HF3.out.facts; clear hk3))
          go_quiet (fail)
          have HKZ := Lib.hid (fun (j : Nat) => HK3.out.drewN j)
          go_wp2_with (first
            | (go_at_call 70; refine (cT _).mono ?_; rintro e w9 ⟨rfl, hw⟩; have hw2 := hw.symm; subst hw2)
            | (go_at_call 71; refine (cW _ (HKZ.out _)).mono ?_; rintro e w9 ⟨rfl, hw⟩; have hw2 := hw.symm; subst hw2))
          have FF := (((HF3.out.kept ((Kept.refl (fun _ => False) w3).drewN nq)).setT 0 0).setX 0 0)
          have KK := (Kept.pair (g := w.heap.size + 1 + 1 + 1) (Kept.pair (g := w.heap.size + 1 + 1) (Kept.refl (fun q => q = w.heap.size + 1 ∨ q = w.heap.size + 1 + 1 ∨ q = w.heap.size + 1 + 1 + 1) (w3.drewN nq)) (.inr (.inl rfl)) (.int .i64 0) (.int .i64 0)) (.inr (.inr rfl)) (.int .i64 0) (.int .i64 0))
          refine bodyPost_ret (res_go rfl _ _ (w.heap.size + 1 + 1) (w.heap.size + 1 + 1 + 1) 0 0 0 0 rfl rfl ?_ ?_) rfl ⟨rfl, ?_⟩
          · exact FF.c
          · exact FF.d
          · exact (HK3.out.drewN nq).fresh KK (fun q hq e => by omega)
        · go_enter Tryz.func33, Tryz.ntmps33
          go_wp2_with (first
            | (go_at_call 61; refine (cWd _).mono ?_; rintro e w1 ⟨rfl, hk1⟩; have HK1 := Lib.hid (HK0.out.trans hk1); have HF1 := Lib.hid (HF0.out.kept hk1); obtain ⟨xa1, xb1, xc1, ⟨xd1, xe1, xf1, xg1⟩, ⟨xh1, xi1, xj1, xk1⟩, ⟨xl1, xm1, xn1, xo1⟩⟩ := HF1.out.facts; clear hk1)
            | (go_at_call 27; refine (cSk _).mono ?_; rintro e w2 ⟨rfl, hk2⟩; have HK2 := Lib.hid (HK1.out.trans hk2); have HF2 := Lib.hid (HF1.out.kept hk2); obtain ⟨xa2, xb2, xc2, ⟨xd2, xe2, xf2, xg2⟩, ⟨xh2, xi2, xj2, xk2⟩, ⟨xl2, xm2, xn2, xo2⟩⟩ := HF2.out.facts; clear hk2))
          go_quiet (fail)
          go_wp2_with (first
            | (go_at_call 27; refine (cSk _).mono ?_; rintro e w3 ⟨rfl, hk3⟩; have HK3 := Lib.hid ((HK2.out.drewN _).trans hk3); have HF3 := Lib.hid ((HF2.out.kept ((Kept.refl (fun _ => False) w2).drewN _)).kept hk3); obtain ⟨xa3, xb3, xc3, ⟨xd3, xe3, xf3, xg3⟩, ⟨xh3, xi3, xj3, xk3⟩, ⟨xl3, xm3, xn3, xo3⟩⟩ := HF3.out.facts; clear hk3))
          go_quiet (fail)
          have HKZ := Lib.hid (fun (j : Nat) => HK3.out.drewN j)
          go_wp2_with (first
            | (go_at_call 70; refine (cT _).mono ?_; rintro e w9 ⟨rfl, hw⟩; have hw2 := hw.symm; subst hw2)
            | (go_at_call 71; refine (cW _ (HKZ.out _)).mono ?_; rintro e w9 ⟨rfl, hw⟩; have hw2 := hw.symm; subst hw2))
          have FF := (((HF3.out.kept ((Kept.refl (fun _ => False) w3).drewN nq)).setT 0 0).setX 0 0)
          have KK := (Kept.pair (g := w.heap.size + 1 + 1 + 1) (Kept.pair (g := w.heap.size + 1 + 1) (Kept.refl (fun q => q = w.heap.size + 1 ∨ q = w.heap.size + 1 + 1 ∨ q = w.heap.size + 1 + 1 + 1) (w3.drewN nq)) (.inr (.inl rfl)) (.int .i64 0) (.int .i64 0)) (.inr (.inr rfl)) (.int .i64 0) (.int .i64 0))
          refine bodyPost_ret (res_go rfl _ _ (w.heap.size + 1 + 1) (w.heap.size + 1 + 1 + 1) 0 0 0 0 rfl rfl ?_ ?_) rfl ⟨rfl, ?_⟩
          · exact FF.c
          · exact FF.d
          · exact (HK3.out.drewN nq).fresh KK (fun q hq e => by omega)
      | some a =>
        unfold ansI at cW
        simp only at cW
        rcases hcs with ⟨z1, rfl⟩ | ⟨z1, z2, rfl⟩ | ⟨z1, z2, rfl⟩
        · go_enter Tryz.func33, Tryz.ntmps33
          go_wp2_with (first
            | (go_at_call 61; refine (cWd _).mono ?_; rintro e w1 ⟨rfl, hk1⟩; have HK1 := Lib.hid (HK0.out.trans hk1); have HF1 := Lib.hid (HF0.out.kept hk1); obtain ⟨xa1, xb1, xc1, ⟨xd1, xe1, xf1, xg1⟩, ⟨xh1, xi1, xj1, xk1⟩, ⟨xl1, xm1, xn1, xo1⟩⟩ := HF1.out.facts; clear hk1)
            | (go_at_call 27; refine (cSk _).mono ?_; rintro e w2 ⟨rfl, hk2⟩; have HK2 := Lib.hid (HK1.out.trans hk2); have HF2 := Lib.hid (HF1.out.kept hk2); obtain ⟨xa2, xb2, xc2, ⟨xd2, xe2, xf2, xg2⟩, ⟨xh2, xi2, xj2, xk2⟩, ⟨xl2, xm2, xn2, xo2⟩⟩ := HF2.out.facts; clear hk2))
          go_quiet (fail)
          go_wp2_with (first
            | (go_at_call 27; refine (cSk _).mono ?_; rintro e w3 ⟨rfl, hk3⟩; have HK3 := Lib.hid ((HK2.out.drewN _).trans hk3); have HF3 := Lib.hid ((HF2.out.kept ((Kept.refl (fun _ => False) w2).drewN _)).kept hk3); obtain ⟨xa3, xb3, xc3, ⟨xd3, xe3, xf3, xg3⟩, ⟨xh3, xi3, xj3, xk3⟩, ⟨xl3, xm3, xn3, xo3⟩⟩ := HF3.out.facts; clear hk3))
          go_quiet (fail)
          have HKZ := Lib.hid (fun (j : Nat) => HK3.out.drewN j)
          go_wp2_with (first
            | (go_at_call 70; refine (cT _).mono ?_; rintro e w9 ⟨rfl, hw⟩; have hw2 := hw.symm; subst hw2)
            | (go_at_call 71; refine (cW _ (HKZ.out _)).mono ?_; rintro e w9 ⟨rfl, hw⟩; have hw2 := hw.symm; subst hw2))
          go_region
          all_goals
            try go_wp2
            have FF := (((HF3.out.kept ((Kept.refl (fun _ => False) w3).drewN (nq + 1))).setT a 1).setX k1 k2)
            have KK := (Kept.pair (g := w.heap.size + 1 + 1 + 1) (Kept.pair (g := w.heap.size + 1 + 1) (Kept.refl (fun q => q = w.heap.size + 1 ∨ q = w.heap.size + 1 + 1 ∨ q = w.heap.size + 1 + 1 + 1) (w3.drewN (nq + 1))) (.inr (.inl rfl)) (.int .i64 a) (.int .i64 1)) (.inr (.inr rfl)) (.int .i64 k1) (.int .i64 k2))
            refine bodyPost_ret (res_go rfl _ _ (w.heap.size + 1 + 1) (w.heap.size + 1 + 1 + 1) a 1 k1 k2 rfl rfl ?_ ?_) rfl ⟨rfl, ?_⟩
            · exact FF.c
            · exact FF.d
            · exact (HK3.out.drewN (nq + 1)).fresh KK (fun q hq e => by omega)
        · go_enter Tryz.func33, Tryz.ntmps33
          go_wp2_with (first
            | (go_at_call 61; refine (cWd _).mono ?_; rintro e w1 ⟨rfl, hk1⟩; have HK1 := Lib.hid (HK0.out.trans hk1); have HF1 := Lib.hid (HF0.out.kept hk1); obtain ⟨xa1, xb1, xc1, ⟨xd1, xe1, xf1, xg1⟩, ⟨xh1, xi1, xj1, xk1⟩, ⟨xl1, xm1, xn1, xo1⟩⟩ := HF1.out.facts; clear hk1)
            | (go_at_call 27; refine (cSk _).mono ?_; rintro e w2 ⟨rfl, hk2⟩; have HK2 := Lib.hid (HK1.out.trans hk2); have HF2 := Lib.hid (HF1.out.kept hk2); obtain ⟨xa2, xb2, xc2, ⟨xd2, xe2, xf2, xg2⟩, ⟨xh2, xi2, xj2, xk2⟩, ⟨xl2, xm2, xn2, xo2⟩⟩ := HF2.out.facts; clear hk2))
          go_quiet (fail)
          go_wp2_with (first
            | (go_at_call 27; refine (cSk _).mono ?_; rintro e w3 ⟨rfl, hk3⟩; have HK3 := Lib.hid ((HK2.out.drewN _).trans hk3); have HF3 := Lib.hid ((HF2.out.kept ((Kept.refl (fun _ => False) w2).drewN _)).kept hk3); obtain ⟨xa3, xb3, xc3, ⟨xd3, xe3, xf3, xg3⟩, ⟨xh3, xi3, xj3, xk3⟩, ⟨xl3, xm3, xn3, xo3⟩⟩ := HF3.out.facts; clear hk3))
          go_quiet (fail)
          have HKZ := Lib.hid (fun (j : Nat) => HK3.out.drewN j)
          go_wp2_with (first
            | (go_at_call 70; refine (cT _).mono ?_; rintro e w9 ⟨rfl, hw⟩; have hw2 := hw.symm; subst hw2)
            | (go_at_call 71; refine (cW _ (HKZ.out _)).mono ?_; rintro e w9 ⟨rfl, hw⟩; have hw2 := hw.symm; subst hw2))
          go_region
          all_goals
            try go_wp2
            have FF := (((HF3.out.kept ((Kept.refl (fun _ => False) w3).drewN (nq + 1))).setT a 1).setX k1 k2)
            have KK := (Kept.pair (g := w.heap.size + 1 + 1 + 1) (Kept.pair (g := w.heap.size + 1 + 1) (Kept.refl (fun q => q = w.heap.size + 1 ∨ q = w.heap.size + 1 + 1 ∨ q = w.heap.size + 1 + 1 + 1) (w3.drewN (nq + 1))) (.inr (.inl rfl)) (.int .i64 a) (.int .i64 1)) (.inr (.inr rfl)) (.int .i64 k1) (.int .i64 k2))
            refine bodyPost_ret (res_go rfl _ _ (w.heap.size + 1 + 1) (w.heap.size + 1 + 1 + 1) a 1 k1 k2 rfl rfl ?_ ?_) rfl ⟨rfl, ?_⟩
            · exact FF.c
            · exact FF.d
            · exact (HK3.out.drewN (nq + 1)).fresh KK (fun q hq e => by omega)
        · go_enter Tryz.func33, Tryz.ntmps33
          go_wp2_with (first
            | (go_at_call 61; refine (cWd _).mono ?_; rintro e w1 ⟨rfl, hk1⟩; have HK1 := Lib.hid (HK0.out.trans hk1); have HF1 := Lib.hid (HF0.out.kept hk1); obtain ⟨xa1, xb1, xc1, ⟨xd1, xe1, xf1, xg1⟩, ⟨xh1, xi1, xj1, xk1⟩, ⟨xl1, xm1, xn1, xo1⟩⟩ := HF1.out.facts; clear hk1)
            | (go_at_call 27; refine (cSk _).mono ?_; rintro e w2 ⟨rfl, hk2⟩; have HK2 := Lib.hid (HK1.out.trans hk2); have HF2 := Lib.hid (HF1.out.kept hk2); obtain ⟨xa2, xb2, xc2, ⟨xd2, xe2, xf2, xg2⟩, ⟨xh2, xi2, xj2, xk2⟩, ⟨xl2, xm2, xn2, xo2⟩⟩ := HF2.out.facts; clear hk2))
          go_quiet (fail)
          go_wp2_with (first
            | (go_at_call 27; refine (cSk _).mono ?_; rintro e w3 ⟨rfl, hk3⟩; have HK3 := Lib.hid ((HK2.out.drewN _).trans hk3); have HF3 := Lib.hid ((HF2.out.kept ((Kept.refl (fun _ => False) w2).drewN _)).kept hk3); obtain ⟨xa3, xb3, xc3, ⟨xd3, xe3, xf3, xg3⟩, ⟨xh3, xi3, xj3, xk3⟩, ⟨xl3, xm3, xn3, xo3⟩⟩ := HF3.out.facts; clear hk3))
          go_quiet (fail)
          have HKZ := Lib.hid (fun (j : Nat) => HK3.out.drewN j)
          go_wp2_with (first
            | (go_at_call 70; refine (cT _).mono ?_; rintro e w9 ⟨rfl, hw⟩; have hw2 := hw.symm; subst hw2)
            | (go_at_call 71; refine (cW _ (HKZ.out _)).mono ?_; rintro e w9 ⟨rfl, hw⟩; have hw2 := hw.symm; subst hw2))
          go_region
          all_goals
            try go_wp2
            have FF := (((HF3.out.kept ((Kept.refl (fun _ => False) w3).drewN (nq + 1))).setT a 0).setX k1 k2)
            have KK := (Kept.pair (g := w.heap.size + 1 + 1 + 1) (Kept.pair (g := w.heap.size + 1 + 1) (Kept.refl (fun q => q = w.heap.size + 1 ∨ q = w.heap.size + 1 + 1 ∨ q = w.heap.size + 1 + 1 + 1) (w3.drewN (nq + 1))) (.inr (.inl rfl)) (.int .i64 a) (.int .i64 0)) (.inr (.inr rfl)) (.int .i64 k1) (.int .i64 k2))
            refine bodyPost_ret (res_go rfl _ _ (w.heap.size + 1 + 1) (w.heap.size + 1 + 1 + 1) a 0 k1 k2 rfl rfl ?_ ?_) rfl ⟨rfl, ?_⟩
            · exact FF.c
            · exact FF.d
            · exact (HK3.out.drewN (nq + 1)).fresh KK (fun q hq e => by omega)
end Go.Proofs.YtbofjefblhnkoaaGreatDoor
