/-
  MOTIONS: the reference's Go, by words.
  MOTIONS: the reference's Go, by a search.
  MOTIONS: the reference's Go, by paragraphs.
-/
import Derived.Test.YtbofjefblhnkoaaGreatDoorZMl
import Derived.Test.YtbofjefblhnkoaaGreatDoorZMn
set_option linter.unusedVariables false
namespace Go.Proofs.YtbofjefblhnkoaaGreatDoor
open Go Go.RowKit

set_option maxRecDepth 100000 in
set_option maxHeartbeats 1000000 in
theorem rgo_word (TA : Option Addr) (tc : Nat) (t : List Int) (k m : Nat) (c0 c2 c3 c4 c5 k1 k2 : Int) (A : Option Addr) (n c : Nat) (M : List (List Int)) (w : World) (hR : Rn w TA t.length t) (hr : Runey t) (hl : t.length ≤ 6000) (hk : k ≤ t.length) (hc : m ≤ 999) (hx : k1 = 0 ∨ Rw.Seek k1) (hA : Rws w A n 2 M) (hn : n ≤ 100000) (ho : Rw.mOk M) (hkey : Rw.kin c3 = 2) :
    Calls Tryz.prog 33 #[.slice TA t.length tc, .int .i64 k, cmdV c0 m c2 c3 c4 c5, sekV k1 k2, .slice A n c] w fun e w' => e = .returned (goV (Rw.goM t k c3 c5 m k1 k2 M)) ∧ Kept (fun _ => False) w w' := by
  have HK0 : Hid (Kept (fun _ => False) w ((((w.alloc (cmdO c0 m c2 c3 c4 c5)).alloc (sekO k1 k2)).alloc (tgtO 0 0)).alloc (sekO 0 0))) := ((((Kept.refl _ w).alloc _).alloc _).alloc _).alloc _
  have HF0 := Lib.hid (four_new w c0 m c2 c3 c4 c5 k1 k2)
  have hq : max 1 (m : Int) = ((Rw.times m : Nat) : Int) := by unfold Rw.times; omega
  have hq1 : 1 ≤ Rw.times m ∧ Rw.times m ≤ 999 := by unfold Rw.times; omega
  have hw : Rw.Word c3 := Rw.by_word.1 hkey
  have hgo : Rw.goM t k c3 c5 m k1 k2 M = (Rw.wmv t k c3 (Rw.times m)).map fun a => (a, if c3 = 101 ∨ c3 = 69 then 1 else 0, k1, k2) := by
    unfold Rw.goM
    rw [if_pos hkey]
  rw [hgo]
  have cWd := fun W => word_t hw W
  have cW := fun W (hk' : Kept (fun _ => False) w W) => rword_yes TA tc k (Rw.times m) t c3 W (hR.kept hk' (fun _ _ => id)) hr hl hk hq1.2 hw
  obtain ⟨o, hoo⟩ : ∃ o, Rw.wmv t k c3 (Rw.times m) = o := ⟨_, rfl⟩
  rw [hoo]
  simp only [hoo] at cW
  obtain ⟨K, hK⟩ : ∃ K : Int, (if c3 = 101 ∨ c3 = 69 then 1 else 0) = K := ⟨_, rfl⟩
  rw [hK]
  have hcs : ((c3 == 101) = true ∧ K = 1) ∨ ((c3 == 101) = false ∧ (c3 == 69) = true ∧ K = 1) ∨ ((c3 == 101) = false ∧ (c3 == 69) = false ∧ K = 0) := by
    by_cases e1 : c3 = 101
    · exact .inl ⟨by simp [e1], by rw [← hK, if_pos (.inl e1)]⟩
    · by_cases e2 : c3 = 69
      · exact .inr (.inl ⟨by simp [e1], by simp [e2], by rw [← hK, if_pos (.inr e2)]⟩)
      · exact .inr (.inr ⟨by simp [e1], by simp [e2], by rw [← hK, if_neg (fun h => h.elim e1 e2)]⟩)
  clear hR hr hw hgo hoo hK hA ho hkey hx
  generalize Rw.times m = q at *
  cases o with
  | none =>
    unfold ansW at cW
    simp only at cW
    rcases hcs with ⟨z1, rfl⟩ | ⟨z1, z2, rfl⟩ | ⟨z1, z2, rfl⟩
    · go_enter Tryz.func33, Tryz.ntmps33
      go_wp2_with (first
        | (go_at_call 61; refine (cWd _).mono ?_; rintro e w1 ⟨rfl, hk1⟩; have HK1 := Lib.hid (HK0.out.trans hk1); have HF1 := Lib.hid (HF0.out.kept hk1); obtain ⟨xa1, xb1, xc1, ⟨xd1, xe1, xf1, xg1⟩, ⟨xh1, xi1, xj1, xk1⟩, ⟨xl1, xm1, xn1, xo1⟩⟩ := HF1.out.facts; clear hk1)
        | (go_at_call 69; refine (cW _ HK1.out).mono ?_; rintro e w2 ⟨hk2, rfl⟩; have HK2 := Lib.hid (HK1.out.trans hk2); have HF2 := Lib.hid (HF1.out.kept hk2); obtain ⟨xa2, xb2, xc2, ⟨xd2, xe2, xf2, xg2⟩, ⟨xh2, xi2, xj2, xk2⟩, ⟨xl2, xm2, xn2, xo2⟩⟩ := HF2.out.facts; clear hk2))
      have FF := ((HF2.out.setT 0 0).setX 0 0)
      have KK := (Kept.pair (g := w.heap.size + 1 + 1 + 1) (Kept.pair (g := w.heap.size + 1 + 1) (Kept.refl (fun q => q = w.heap.size + 1 ∨ q = w.heap.size + 1 + 1 ∨ q = w.heap.size + 1 + 1 + 1) w2) (.inr (.inl rfl)) (.int .i64 0) (.int .i64 0)) (.inr (.inr rfl)) (.int .i64 0) (.int .i64 0))
      refine bodyPost_ret (res_go rfl _ _ (w.heap.size + 1 + 1) (w.heap.size + 1 + 1 + 1) 0 0 0 0 rfl rfl ?_ ?_) rfl ⟨rfl, ?_⟩
      · exact FF.c
      · exact FF.d
      · exact HK2.out.fresh KK (fun q hq e => by omega)
    · go_enter Tryz.func33, Tryz.ntmps33
      go_wp2_with (first
        | (go_at_call 61; refine (cWd _).mono ?_; rintro e w1 ⟨rfl, hk1⟩; have HK1 := Lib.hid (HK0.out.trans hk1); have HF1 := Lib.hid (HF0.out.kept hk1); obtain ⟨xa1, xb1, xc1, ⟨xd1, xe1, xf1, xg1⟩, ⟨xh1, xi1, xj1, xk1⟩, ⟨xl1, xm1, xn1, xo1⟩⟩ := HF1.out.facts; clear hk1)
        | (go_at_call 69; refine (cW _ HK1.out).mono ?_; rintro e w2 ⟨hk2, rfl⟩; have HK2 := Lib.hid (HK1.out.trans hk2); have HF2 := Lib.hid (HF1.out.kept hk2); obtain ⟨xa2, xb2, xc2, ⟨xd2, xe2, xf2, xg2⟩, ⟨xh2, xi2, xj2, xk2⟩, ⟨xl2, xm2, xn2, xo2⟩⟩ := HF2.out.facts; clear hk2))
      have FF := ((HF2.out.setT 0 0).setX 0 0)
      have KK := (Kept.pair (g := w.heap.size + 1 + 1 + 1) (Kept.pair (g := w.heap.size + 1 + 1) (Kept.refl (fun q => q = w.heap.size + 1 ∨ q = w.heap.size + 1 + 1 ∨ q = w.heap.size + 1 + 1 + 1) w2) (.inr (.inl rfl)) (.int .i64 0) (.int .i64 0)) (.inr (.inr rfl)) (.int .i64 0) (.int .i64 0))
      refine bodyPost_ret (res_go rfl _ _ (w.heap.size + 1 + 1) (w.heap.size + 1 + 1 + 1) 0 0 0 0 rfl rfl ?_ ?_) rfl ⟨rfl, ?_⟩
      · exact FF.c
      · exact FF.d
      · exact HK2.out.fresh KK (fun q hq e => by omega)
    · go_enter Tryz.func33, Tryz.ntmps33
      go_wp2_with (first
        | (go_at_call 61; refine (cWd _).mono ?_; rintro e w1 ⟨rfl, hk1⟩; have HK1 := Lib.hid (HK0.out.trans hk1); have HF1 := Lib.hid (HF0.out.kept hk1); obtain ⟨xa1, xb1, xc1, ⟨xd1, xe1, xf1, xg1⟩, ⟨xh1, xi1, xj1, xk1⟩, ⟨xl1, xm1, xn1, xo1⟩⟩ := HF1.out.facts; clear hk1)
        | (go_at_call 69; refine (cW _ HK1.out).mono ?_; rintro e w2 ⟨hk2, rfl⟩; have HK2 := Lib.hid (HK1.out.trans hk2); have HF2 := Lib.hid (HF1.out.kept hk2); obtain ⟨xa2, xb2, xc2, ⟨xd2, xe2, xf2, xg2⟩, ⟨xh2, xi2, xj2, xk2⟩, ⟨xl2, xm2, xn2, xo2⟩⟩ := HF2.out.facts; clear hk2))
      have FF := ((HF2.out.setT 0 0).setX 0 0)
      have KK := (Kept.pair (g := w.heap.size + 1 + 1 + 1) (Kept.pair (g := w.heap.size + 1 + 1) (Kept.refl (fun q => q = w.heap.size + 1 ∨ q = w.heap.size + 1 + 1 ∨ q = w.heap.size + 1 + 1 + 1) w2) (.inr (.inl rfl)) (.int .i64 0) (.int .i64 0)) (.inr (.inr rfl)) (.int .i64 0) (.int .i64 0))
      refine bodyPost_ret (res_go rfl _ _ (w.heap.size + 1 + 1) (w.heap.size + 1 + 1 + 1) 0 0 0 0 rfl rfl ?_ ?_) rfl ⟨rfl, ?_⟩
      · exact FF.c
      · exact FF.d
      · exact HK2.out.fresh KK (fun q hq e => by omega)
  | some a =>
    unfold ansW at cW
    simp only at cW
    rcases hcs with ⟨z1, rfl⟩ | ⟨z1, z2, rfl⟩ | ⟨z1, z2, rfl⟩
    · go_enter Tryz.func33, Tryz.ntmps33
      go_wp2_with (first
        | (go_at_call 61; refine (cWd _).mono ?_; rintro e w1 ⟨rfl, hk1⟩; have HK1 := Lib.hid (HK0.out.trans hk1); have HF1 := Lib.hid (HF0.out.kept hk1); obtain ⟨xa1, xb1, xc1, ⟨xd1, xe1, xf1, xg1⟩, ⟨xh1, xi1, xj1, xk1⟩, ⟨xl1, xm1, xn1, xo1⟩⟩ := HF1.out.facts; clear hk1)
        | (go_at_call 69; refine (cW _ HK1.out).mono ?_; rintro e w2 ⟨hk2, rfl⟩; have HK2 := Lib.hid (HK1.out.trans hk2); have HF2 := Lib.hid (HF1.out.kept hk2); obtain ⟨xa2, xb2, xc2, ⟨xd2, xe2, xf2, xg2⟩, ⟨xh2, xi2, xj2, xk2⟩, ⟨xl2, xm2, xn2, xo2⟩⟩ := HF2.out.facts; clear hk2))
      go_region
      all_goals
        try go_wp2
        have FF := (((HF2.out.setT a 1).setX k1 k2).kept ((Kept.refl (fun _ => False) _).drew))
        have KK := (Kept.pair (g := w.heap.size + 1 + 1 + 1) (Kept.pair (g := w.heap.size + 1 + 1) (Kept.refl (fun q => q = w.heap.size + 1 ∨ q = w.heap.size + 1 + 1 ∨ q = w.heap.size + 1 + 1 + 1) w2) (.inr (.inl rfl)) (.int .i64 a) (.int .i64 1)) (.inr (.inr rfl)) (.int .i64 k1) (.int .i64 k2)).drew
        refine bodyPost_ret (res_go rfl _ _ (w.heap.size + 1 + 1) (w.heap.size + 1 + 1 + 1) a 1 k1 k2 rfl rfl ?_ ?_) rfl ⟨rfl, ?_⟩
        · exact FF.c
        · exact FF.d
        · exact HK2.out.fresh KK (fun q hq e => by omega)
    · go_enter Tryz.func33, Tryz.ntmps33
      go_wp2_with (first
        | (go_at_call 61; refine (cWd _).mono ?_; rintro e w1 ⟨rfl, hk1⟩; have HK1 := Lib.hid (HK0.out.trans hk1); have HF1 := Lib.hid (HF0.out.kept hk1); obtain ⟨xa1, xb1, xc1, ⟨xd1, xe1, xf1, xg1⟩, ⟨xh1, xi1, xj1, xk1⟩, ⟨xl1, xm1, xn1, xo1⟩⟩ := HF1.out.facts; clear hk1)
        | (go_at_call 69; refine (cW _ HK1.out).mono ?_; rintro e w2 ⟨hk2, rfl⟩; have HK2 := Lib.hid (HK1.out.trans hk2); have HF2 := Lib.hid (HF1.out.kept hk2); obtain ⟨xa2, xb2, xc2, ⟨xd2, xe2, xf2, xg2⟩, ⟨xh2, xi2, xj2, xk2⟩, ⟨xl2, xm2, xn2, xo2⟩⟩ := HF2.out.facts; clear hk2))
      go_region
      all_goals
        try go_wp2
        have FF := (((HF2.out.setT a 1).setX k1 k2).kept ((Kept.refl (fun _ => False) _).drew))
        have KK := (Kept.pair (g := w.heap.size + 1 + 1 + 1) (Kept.pair (g := w.heap.size + 1 + 1) (Kept.refl (fun q => q = w.heap.size + 1 ∨ q = w.heap.size + 1 + 1 ∨ q = w.heap.size + 1 + 1 + 1) w2) (.inr (.inl rfl)) (.int .i64 a) (.int .i64 1)) (.inr (.inr rfl)) (.int .i64 k1) (.int .i64 k2)).drew
        refine bodyPost_ret (res_go rfl _ _ (w.heap.size + 1 + 1) (w.heap.size + 1 + 1 + 1) a 1 k1 k2 rfl rfl ?_ ?_) rfl ⟨rfl, ?_⟩
        · exact FF.c
        · exact FF.d
        · exact HK2.out.fresh KK (fun q hq e => by omega)
    · go_enter Tryz.func33, Tryz.ntmps33
      go_wp2_with (first
        | (go_at_call 61; refine (cWd _).mono ?_; rintro e w1 ⟨rfl, hk1⟩; have HK1 := Lib.hid (HK0.out.trans hk1); have HF1 := Lib.hid (HF0.out.kept hk1); obtain ⟨xa1, xb1, xc1, ⟨xd1, xe1, xf1, xg1⟩, ⟨xh1, xi1, xj1, xk1⟩, ⟨xl1, xm1, xn1, xo1⟩⟩ := HF1.out.facts; clear hk1)
        | (go_at_call 69; refine (cW _ HK1.out).mono ?_; rintro e w2 ⟨hk2, rfl⟩; have HK2 := Lib.hid (HK1.out.trans hk2); have HF2 := Lib.hid (HF1.out.kept hk2); obtain ⟨xa2, xb2, xc2, ⟨xd2, xe2, xf2, xg2⟩, ⟨xh2, xi2, xj2, xk2⟩, ⟨xl2, xm2, xn2, xo2⟩⟩ := HF2.out.facts; clear hk2))
      go_region
      all_goals
        try go_wp2
        have FF := (((HF2.out.setT a 0).setX k1 k2).kept ((Kept.refl (fun _ => False) _).drew))
        have KK := (Kept.pair (g := w.heap.size + 1 + 1 + 1) (Kept.pair (g := w.heap.size + 1 + 1) (Kept.refl (fun q => q = w.heap.size + 1 ∨ q = w.heap.size + 1 + 1 ∨ q = w.heap.size + 1 + 1 + 1) w2) (.inr (.inl rfl)) (.int .i64 a) (.int .i64 0)) (.inr (.inr rfl)) (.int .i64 k1) (.int .i64 k2)).drew
        refine bodyPost_ret (res_go rfl _ _ (w.heap.size + 1 + 1) (w.heap.size + 1 + 1 + 1) a 0 k1 k2 rfl rfl ?_ ?_) rfl ⟨rfl, ?_⟩
        · exact FF.c
        · exact FF.d
        · exact HK2.out.fresh KK (fun q hq e => by omega)
end Go.Proofs.YtbofjefblhnkoaaGreatDoor
namespace Go.Proofs.YtbofjefblhnkoaaGreatDoor
open Go Go.RowKit

set_option maxRecDepth 100000 in
set_option maxHeartbeats 1000000 in
theorem rgo_seek (TA : Option Addr) (tc : Nat) (t : List Int) (k m : Nat) (c0 c2 c3 c4 c5 k1 k2 : Int) (A : Option Addr) (n c : Nat) (M : List (List Int)) (w : World) (hR : Rn w TA t.length t) (hr : Runey t) (hl : t.length ≤ 6000) (hk : k ≤ t.length) (hc : m ≤ 999) (hx : k1 = 0 ∨ Rw.Seek k1) (hA : Rws w A n 2 M) (hn : n ≤ 100000) (ho : Rw.mOk M) (hkey : Rw.kin c3 = 3) :
    Calls Tryz.prog 33 #[.slice TA t.length tc, .int .i64 k, cmdV c0 m c2 c3 c4 c5, sekV k1 k2, .slice A n c] w fun e w' => e = .returned (goV (Rw.goM t k c3 c5 m k1 k2 M)) ∧ Kept (fun _ => False) w w' := by
  have HK0 : Hid (Kept (fun _ => False) w ((((w.alloc (cmdO c0 m c2 c3 c4 c5)).alloc (sekO k1 k2)).alloc (tgtO 0 0)).alloc (sekO 0 0))) := ((((Kept.refl _ w).alloc _).alloc _).alloc _).alloc _
  have HF0 := Lib.hid (four_new w c0 m c2 c3 c4 c5 k1 k2)
  have hq : max 1 (m : Int) = ((Rw.times m : Nat) : Int) := by unfold Rw.times; omega
  have hq1 : 1 ≤ Rw.times m ∧ Rw.times m ≤ 999 := by unfold Rw.times; omega
  have hw : Rw.Seek c3 := Rw.by_seek.1 hkey
  have hnw : ¬ Rw.Word c3 := by unfold Rw.Word; unfold Rw.Seek at hw; omega
  have hgo : Rw.goM t k c3 c5 m k1 k2 M = (Rw.find t k c3 c5 (Rw.times m)).map fun a => (a, kon c3, c3, c5) := by
    unfold Rw.goM
    rw [if_neg (by rw [hkey]; decide), if_pos hkey]
    unfold Rw.goSeek
    rfl
  rw [hgo]
  have cWd := fun W => word_f hnw W
  have cSk := fun W => Sk.seek_t hw W
  have cW := fun W (hk' : Kept (fun _ => False) w W) => Sk.rf_yes TA t.length tc t k (Rw.times m) c3 c5 W (hR.kept hk' (fun _ _ => id)) hr hk (by omega) hq1.1 hq1.2 hw
  obtain ⟨o, hoo⟩ : ∃ o, Rw.find t k c3 c5 (Rw.times m) = o := ⟨_, rfl⟩
  rw [hoo]
  simp only [hoo] at cW
  obtain ⟨K, hK⟩ : ∃ K : Int, kon c3 = K := ⟨_, rfl⟩
  rw [hK]
  have hcs : ((c3 == 102) = true ∧ K = 1) ∨ ((c3 == 102) = false ∧ (c3 == 116) = true ∧ K = 1) ∨ ((c3 == 102) = false ∧ (c3 == 116) = false ∧ K = 0) := by
    unfold kon at hK
    by_cases e1 : c3 = 102
    · exact .inl ⟨by simp [e1], by rw [← hK, if_pos (.inl e1)]⟩
    · by_cases e2 : c3 = 116
      · exact .inr (.inl ⟨by simp [e1], by simp [e2], by rw [← hK, if_pos (.inr e2)]⟩)
      · exact .inr (.inr ⟨by simp [e1], by simp [e2], by rw [← hK, if_neg (fun h => h.elim e1 e2)]⟩)
  clear hR hr hw hnw hgo hoo hK hA ho hkey hx
  generalize Rw.times m = q at *
  cases o with
  | none =>
    unfold ansI at cW
    simp only at cW
    rcases hcs with ⟨z1, rfl⟩ | ⟨z1, z2, rfl⟩ | ⟨z1, z2, rfl⟩
    · go_enter Tryz.func33, Tryz.ntmps33
      go_wp2_with (first
        | (go_at_call 61; refine (cWd _).mono ?_; rintro e w1 ⟨rfl, hk1⟩; have HK1 := Lib.hid (HK0.out.trans hk1); have HF1 := Lib.hid (HF0.out.kept hk1); obtain ⟨xa1, xb1, xc1, ⟨xd1, xe1, xf1, xg1⟩, ⟨xh1, xi1, xj1, xk1⟩, ⟨xl1, xm1, xn1, xo1⟩⟩ := HF1.out.facts; clear hk1)
        | (go_at_call 27; refine (cSk _).mono ?_; rintro e w2 ⟨rfl, hk2⟩; have HK2 := Lib.hid (HK1.out.trans hk2); have HF2 := Lib.hid (HF1.out.kept hk2); obtain ⟨xa2, xb2, xc2, ⟨xd2, xe2, xf2, xg2⟩, ⟨xh2, xi2, xj2, xk2⟩, ⟨xl2, xm2, xn2, xo2⟩⟩ := HF2.out.facts; clear hk2))
      go_quiet (fail)
      go_wp2_with (first
        | (go_at_call 27; refine (cSk _).mono ?_; rintro e w3 ⟨rfl, hk3⟩; have HK3 := Lib.hid ((HK2.out.drewN _).trans hk3); have HF3 := Lib.hid ((HF2.out.kept ((Kept.refl (fun _ => False) w2).drewN _)).kept hk3); obtain ⟨xa3, xb3, xc3, ⟨xd3, xe3, xf3, xg3⟩, ⟨xh3, xi3, xj3, xk3⟩, ⟨xl3, xm3, xn3, xo3⟩⟩ := HF3.out.facts; clear hk3; have HK4 := Lib.hid (HK3.out.fresh (Kept.pair (Kept.refl (fun q => q = w.heap.size + 1) w3) rfl (.int .i64 c3) (.int .i64 c5)) (fun q hq e => by omega)); obtain ⟨_, _, _, ⟨V1, V2, _, _⟩, _, _⟩ := (HF3.out.setS c3 c5).facts)
        | (go_at_call 71; refine (cW _ HK4.out).mono ?_; rintro e w9 ⟨rfl, hw⟩; have hw2 := hw.symm; subst hw2))
      have FF := (((HF3.out.setS c3 c5).setT 0 0).setX 0 0)
      have KK := (Kept.pair (g := w.heap.size + 1 + 1 + 1) (Kept.pair (g := w.heap.size + 1 + 1) (Kept.pair (g := w.heap.size + 1) (Kept.refl (fun q => q = w.heap.size + 1 ∨ q = w.heap.size + 1 + 1 ∨ q = w.heap.size + 1 + 1 + 1) w3) (.inl rfl) (.int .i64 c3) (.int .i64 c5)) (.inr (.inl rfl)) (.int .i64 0) (.int .i64 0)) (.inr (.inr rfl)) (.int .i64 0) (.int .i64 0))
      refine bodyPost_ret (res_go rfl _ _ (w.heap.size + 1 + 1) (w.heap.size + 1 + 1 + 1) 0 0 0 0 rfl rfl ?_ ?_) rfl ⟨rfl, ?_⟩
      · exact FF.c
      · exact FF.d
      · exact HK3.out.fresh KK (fun q hq e => by omega)
    · go_enter Tryz.func33, Tryz.ntmps33
      go_wp2_with (first
        | (go_at_call 61; refine (cWd _).mono ?_; rintro e w1 ⟨rfl, hk1⟩; have HK1 := Lib.hid (HK0.out.trans hk1); have HF1 := Lib.hid (HF0.out.kept hk1); obtain ⟨xa1, xb1, xc1, ⟨xd1, xe1, xf1, xg1⟩, ⟨xh1, xi1, xj1, xk1⟩, ⟨xl1, xm1, xn1, xo1⟩⟩ := HF1.out.facts; clear hk1)
        | (go_at_call 27; refine (cSk _).mono ?_; rintro e w2 ⟨rfl, hk2⟩; have HK2 := Lib.hid (HK1.out.trans hk2); have HF2 := Lib.hid (HF1.out.kept hk2); obtain ⟨xa2, xb2, xc2, ⟨xd2, xe2, xf2, xg2⟩, ⟨xh2, xi2, xj2, xk2⟩, ⟨xl2, xm2, xn2, xo2⟩⟩ := HF2.out.facts; clear hk2))
      go_quiet (fail)
      go_wp2_with (first
        | (go_at_call 27; refine (cSk _).mono ?_; rintro e w3 ⟨rfl, hk3⟩; have HK3 := Lib.hid ((HK2.out.drewN _).trans hk3); have HF3 := Lib.hid ((HF2.out.kept ((Kept.refl (fun _ => False) w2).drewN _)).kept hk3); obtain ⟨xa3, xb3, xc3, ⟨xd3, xe3, xf3, xg3⟩, ⟨xh3, xi3, xj3, xk3⟩, ⟨xl3, xm3, xn3, xo3⟩⟩ := HF3.out.facts; clear hk3; have HK4 := Lib.hid (HK3.out.fresh (Kept.pair (Kept.refl (fun q => q = w.heap.size + 1) w3) rfl (.int .i64 c3) (.int .i64 c5)) (fun q hq e => by omega)); obtain ⟨_, _, _, ⟨V1, V2, _, _⟩, _, _⟩ := (HF3.out.setS c3 c5).facts)
        | (go_at_call 71; refine (cW _ HK4.out).mono ?_; rintro e w9 ⟨rfl, hw⟩; have hw2 := hw.symm; subst hw2))
      have FF := (((HF3.out.setS c3 c5).setT 0 0).setX 0 0)
      have KK := (Kept.pair (g := w.heap.size + 1 + 1 + 1) (Kept.pair (g := w.heap.size + 1 + 1) (Kept.pair (g := w.heap.size + 1) (Kept.refl (fun q => q = w.heap.size + 1 ∨ q = w.heap.size + 1 + 1 ∨ q = w.heap.size + 1 + 1 + 1) w3) (.inl rfl) (.int .i64 c3) (.int .i64 c5)) (.inr (.inl rfl)) (.int .i64 0) (.int .i64 0)) (.inr (.inr rfl)) (.int .i64 0) (.int .i64 0))
      refine bodyPost_ret (res_go rfl _ _ (w.heap.size + 1 + 1) (w.heap.size + 1 + 1 + 1) 0 0 0 0 rfl rfl ?_ ?_) rfl ⟨rfl, ?_⟩
      · exact FF.c
      · exact FF.d
      · exact HK3.out.fresh KK (fun q hq e => by omega)
    · go_enter Tryz.func33, Tryz.ntmps33
      go_wp2_with (first
        | (go_at_call 61; refine (cWd _).mono ?_; rintro e w1 ⟨rfl, hk1⟩; have HK1 := Lib.hid (HK0.out.trans hk1); have HF1 := Lib.hid (HF0.out.kept hk1); obtain ⟨xa1, xb1, xc1, ⟨xd1, xe1, xf1, xg1⟩, ⟨xh1, xi1, xj1, xk1⟩, ⟨xl1, xm1, xn1, xo1⟩⟩ := HF1.out.facts; clear hk1)
        | (go_at_call 27; refine (cSk _).mono ?_; rintro e w2 ⟨rfl, hk2⟩; have HK2 := Lib.hid (HK1.out.trans hk2); have HF2 := Lib.hid (HF1.out.kept hk2); obtain ⟨xa2, xb2, xc2, ⟨xd2, xe2, xf2, xg2⟩, ⟨xh2, xi2, xj2, xk2⟩, ⟨xl2, xm2, xn2, xo2⟩⟩ := HF2.out.facts; clear hk2))
      go_quiet (fail)
      go_wp2_with (first
        | (go_at_call 27; refine (cSk _).mono ?_; rintro e w3 ⟨rfl, hk3⟩; have HK3 := Lib.hid ((HK2.out.drewN _).trans hk3); have HF3 := Lib.hid ((HF2.out.kept ((Kept.refl (fun _ => False) w2).drewN _)).kept hk3); obtain ⟨xa3, xb3, xc3, ⟨xd3, xe3, xf3, xg3⟩, ⟨xh3, xi3, xj3, xk3⟩, ⟨xl3, xm3, xn3, xo3⟩⟩ := HF3.out.facts; clear hk3; have HK4 := Lib.hid (HK3.out.fresh (Kept.pair (Kept.refl (fun q => q = w.heap.size + 1) w3) rfl (.int .i64 c3) (.int .i64 c5)) (fun q hq e => by omega)); obtain ⟨_, _, _, ⟨V1, V2, _, _⟩, _, _⟩ := (HF3.out.setS c3 c5).facts)
        | (go_at_call 71; refine (cW _ HK4.out).mono ?_; rintro e w9 ⟨rfl, hw⟩; have hw2 := hw.symm; subst hw2))
      have FF := (((HF3.out.setS c3 c5).setT 0 0).setX 0 0)
      have KK := (Kept.pair (g := w.heap.size + 1 + 1 + 1) (Kept.pair (g := w.heap.size + 1 + 1) (Kept.pair (g := w.heap.size + 1) (Kept.refl (fun q => q = w.heap.size + 1 ∨ q = w.heap.size + 1 + 1 ∨ q = w.heap.size + 1 + 1 + 1) w3) (.inl rfl) (.int .i64 c3) (.int .i64 c5)) (.inr (.inl rfl)) (.int .i64 0) (.int .i64 0)) (.inr (.inr rfl)) (.int .i64 0) (.int .i64 0))
      refine bodyPost_ret (res_go rfl _ _ (w.heap.size + 1 + 1) (w.heap.size + 1 + 1 + 1) 0 0 0 0 rfl rfl ?_ ?_) rfl ⟨rfl, ?_⟩
      · exact FF.c
      · exact FF.d
      · exact HK3.out.fresh KK (fun q hq e => by omega)
  | some a =>
    unfold ansI at cW
    simp only at cW
    rcases hcs with ⟨z1, rfl⟩ | ⟨z1, z2, rfl⟩ | ⟨z1, z2, rfl⟩
    · go_enter Tryz.func33, Tryz.ntmps33
      go_wp2_with (first
        | (go_at_call 61; refine (cWd _).mono ?_; rintro e w1 ⟨rfl, hk1⟩; have HK1 := Lib.hid (HK0.out.trans hk1); have HF1 := Lib.hid (HF0.out.kept hk1); obtain ⟨xa1, xb1, xc1, ⟨xd1, xe1, xf1, xg1⟩, ⟨xh1, xi1, xj1, xk1⟩, ⟨xl1, xm1, xn1, xo1⟩⟩ := HF1.out.facts; clear hk1)
        | (go_at_call 27; refine (cSk _).mono ?_; rintro e w2 ⟨rfl, hk2⟩; have HK2 := Lib.hid (HK1.out.trans hk2); have HF2 := Lib.hid (HF1.out.kept hk2); obtain ⟨xa2, xb2, xc2, ⟨xd2, xe2, xf2, xg2⟩, ⟨xh2, xi2, xj2, xk2⟩, ⟨xl2, xm2, xn2, xo2⟩⟩ := HF2.out.facts; clear hk2))
      go_quiet (fail)
      go_wp2_with (first
        | (go_at_call 27; refine (cSk _).mono ?_; rintro e w3 ⟨rfl, hk3⟩; have HK3 := Lib.hid ((HK2.out.drewN _).trans hk3); have HF3 := Lib.hid ((HF2.out.kept ((Kept.refl (fun _ => False) w2).drewN _)).kept hk3); obtain ⟨xa3, xb3, xc3, ⟨xd3, xe3, xf3, xg3⟩, ⟨xh3, xi3, xj3, xk3⟩, ⟨xl3, xm3, xn3, xo3⟩⟩ := HF3.out.facts; clear hk3; have HK4 := Lib.hid (HK3.out.fresh (Kept.pair (Kept.refl (fun q => q = w.heap.size + 1) w3) rfl (.int .i64 c3) (.int .i64 c5)) (fun q hq e => by omega)); obtain ⟨_, _, _, ⟨V1, V2, _, _⟩, _, _⟩ := (HF3.out.setS c3 c5).facts)
        | (go_at_call 71; refine (cW _ HK4.out).mono ?_; rintro e w9 ⟨rfl, hw⟩; have hw2 := hw.symm; subst hw2))
      go_region
      all_goals
        try go_wp2
        have FF := ((((HF3.out.setS c3 c5).setT a 1).setX c3 c5).kept ((Kept.refl (fun _ => False) _).drew))
        have KK := (Kept.pair (g := w.heap.size + 1 + 1 + 1) (Kept.pair (g := w.heap.size + 1 + 1) (Kept.pair (g := w.heap.size + 1) (Kept.refl (fun q => q = w.heap.size + 1 ∨ q = w.heap.size + 1 + 1 ∨ q = w.heap.size + 1 + 1 + 1) w3) (.inl rfl) (.int .i64 c3) (.int .i64 c5)) (.inr (.inl rfl)) (.int .i64 a) (.int .i64 1)) (.inr (.inr rfl)) (.int .i64 c3) (.int .i64 c5)).drew
        refine bodyPost_ret (res_go rfl _ _ (w.heap.size + 1 + 1) (w.heap.size + 1 + 1 + 1) a 1 c3 c5 rfl rfl ?_ ?_) rfl ⟨rfl, ?_⟩
        · exact FF.c
        · exact FF.d
        · exact HK3.out.fresh KK (fun q hq e => by omega)
    · go_enter Tryz.func33, Tryz.ntmps33
      go_wp2_with (first
        | (go_at_call 61; refine (cWd _).mono ?_; rintro e w1 ⟨rfl, hk1⟩; have HK1 := Lib.hid (HK0.out.trans hk1); have HF1 := Lib.hid (HF0.out.kept hk1); obtain ⟨xa1, xb1, xc1, ⟨xd1, xe1, xf1, xg1⟩, ⟨xh1, xi1, xj1, xk1⟩, ⟨xl1, xm1, xn1, xo1⟩⟩ := HF1.out.facts; clear hk1)
        | (go_at_call 27; refine (cSk _).mono ?_; rintro e w2 ⟨rfl, hk2⟩; have HK2 := Lib.hid (HK1.out.trans hk2); have HF2 := Lib.hid (HF1.out.kept hk2); obtain ⟨xa2, xb2, xc2, ⟨xd2, xe2, xf2, xg2⟩, ⟨xh2, xi2, xj2, xk2⟩, ⟨xl2, xm2, xn2, xo2⟩⟩ := HF2.out.facts; clear hk2))
      go_quiet (fail)
      go_wp2_with (first
        | (go_at_call 27; refine (cSk _).mono ?_; rintro e w3 ⟨rfl, hk3⟩; have HK3 := Lib.hid ((HK2.out.drewN _).trans hk3); have HF3 := Lib.hid ((HF2.out.kept ((Kept.refl (fun _ => False) w2).drewN _)).kept hk3); obtain ⟨xa3, xb3, xc3, ⟨xd3, xe3, xf3, xg3⟩, ⟨xh3, xi3, xj3, xk3⟩, ⟨xl3, xm3, xn3, xo3⟩⟩ := HF3.out.facts; clear hk3; have HK4 := Lib.hid (HK3.out.fresh (Kept.pair (Kept.refl (fun q => q = w.heap.size + 1) w3) rfl (.int .i64 c3) (.int .i64 c5)) (fun q hq e => by omega)); obtain ⟨_, _, _, ⟨V1, V2, _, _⟩, _, _⟩ := (HF3.out.setS c3 c5).facts)
        | (go_at_call 71; refine (cW _ HK4.out).mono ?_; rintro e w9 ⟨rfl, hw⟩; have hw2 := hw.symm; subst hw2))
      go_region
      all_goals
        try go_wp2
        have FF := ((((HF3.out.setS c3 c5).setT a 1).setX c3 c5).kept ((Kept.refl (fun _ => False) _).drew))
        have KK := (Kept.pair (g := w.heap.size + 1 + 1 + 1) (Kept.pair (g := w.heap.size + 1 + 1) (Kept.pair (g := w.heap.size + 1) (Kept.refl (fun q => q = w.heap.size + 1 ∨ q = w.heap.size + 1 + 1 ∨ q = w.heap.size + 1 + 1 + 1) w3) (.inl rfl) (.int .i64 c3) (.int .i64 c5)) (.inr (.inl rfl)) (.int .i64 a) (.int .i64 1)) (.inr (.inr rfl)) (.int .i64 c3) (.int .i64 c5)).drew
        refine bodyPost_ret (res_go rfl _ _ (w.heap.size + 1 + 1) (w.heap.size + 1 + 1 + 1) a 1 c3 c5 rfl rfl ?_ ?_) rfl ⟨rfl, ?_⟩
        · exact FF.c
        · exact FF.d
        · exact HK3.out.fresh KK (fun q hq e => by omega)
    · go_enter Tryz.func33, Tryz.ntmps33
      go_wp2_with (first
        | (go_at_call 61; refine (cWd _).mono ?_; rintro e w1 ⟨rfl, hk1⟩; have HK1 := Lib.hid (HK0.out.trans hk1); have HF1 := Lib.hid (HF0.out.kept hk1); obtain ⟨xa1, xb1, xc1, ⟨xd1, xe1, xf1, xg1⟩, ⟨xh1, xi1, xj1, xk1⟩, ⟨xl1, xm1, xn1, xo1⟩⟩ := HF1.out.facts; clear hk1)
        | (go_at_call 27; refine (cSk _).mono ?_; rintro e w2 ⟨rfl, hk2⟩; have HK2 := Lib.hid (HK1.out.trans hk2); have HF2 := Lib.hid (HF1.out.kept hk2); obtain ⟨xa2, xb2, xc2, ⟨xd2, xe2, xf2, xg2⟩, ⟨xh2, xi2, xj2, xk2⟩, ⟨xl2, xm2, xn2, xo2⟩⟩ := HF2.out.facts; clear hk2))
      go_quiet (fail)
      go_wp2_with (first
        | (go_at_call 27; refine (cSk _).mono ?_; rintro e w3 ⟨rfl, hk3⟩; have HK3 := Lib.hid ((HK2.out.drewN _).trans hk3); have HF3 := Lib.hid ((HF2.out.kept ((Kept.refl (fun _ => False) w2).drewN _)).kept hk3); obtain ⟨xa3, xb3, xc3, ⟨xd3, xe3, xf3, xg3⟩, ⟨xh3, xi3, xj3, xk3⟩, ⟨xl3, xm3, xn3, xo3⟩⟩ := HF3.out.facts; clear hk3; have HK4 := Lib.hid (HK3.out.fresh (Kept.pair (Kept.refl (fun q => q = w.heap.size + 1) w3) rfl (.int .i64 c3) (.int .i64 c5)) (fun q hq e => by omega)); obtain ⟨_, _, _, ⟨V1, V2, _, _⟩, _, _⟩ := (HF3.out.setS c3 c5).facts)
        | (go_at_call 71; refine (cW _ HK4.out).mono ?_; rintro e w9 ⟨rfl, hw⟩; have hw2 := hw.symm; subst hw2))
      go_region
      all_goals
        try go_wp2
        have FF := ((((HF3.out.setS c3 c5).setT a 0).setX c3 c5).kept ((Kept.refl (fun _ => False) _).drew))
        have KK := (Kept.pair (g := w.heap.size + 1 + 1 + 1) (Kept.pair (g := w.heap.size + 1 + 1) (Kept.pair (g := w.heap.size + 1) (Kept.refl (fun q => q = w.heap.size + 1 ∨ q = w.heap.size + 1 + 1 ∨ q = w.heap.size + 1 + 1 + 1) w3) (.inl rfl) (.int .i64 c3) (.int .i64 c5)) (.inr (.inl rfl)) (.int .i64 a) (.int .i64 0)) (.inr (.inr rfl)) (.int .i64 c3) (.int .i64 c5)).drew
        refine bodyPost_ret (res_go rfl _ _ (w.heap.size + 1 + 1) (w.heap.size + 1 + 1 + 1) a 0 c3 c5 rfl rfl ?_ ?_) rfl ⟨rfl, ?_⟩
        · exact FF.c
        · exact FF.d
        · exact HK3.out.fresh KK (fun q hq e => by omega)
end Go.Proofs.YtbofjefblhnkoaaGreatDoor
namespace Go.Proofs.YtbofjefblhnkoaaGreatDoor
open Go Go.RowKit

set_option maxRecDepth 100000 in
set_option maxHeartbeats 1000000 in
theorem rgo_para (TA : Option Addr) (tc : Nat) (t : List Int) (k m : Nat) (c0 c2 c3 c4 c5 k1 k2 : Int) (A : Option Addr) (n c : Nat) (M : List (List Int)) (w : World) (hR : Rn w TA t.length t) (hr : Runey t) (hl : t.length ≤ 6000) (hk : k ≤ t.length) (hc : m ≤ 999) (hx : k1 = 0 ∨ Rw.Seek k1) (hA : Rws w A n 2 M) (hn : n ≤ 100000) (ho : Rw.mOk M) (hkey : Rw.kin c3 = 5) :
    Calls Tryz.prog 33 #[.slice TA t.length tc, .int .i64 k, cmdV c0 m c2 c3 c4 c5, sekV k1 k2, .slice A n c] w fun e w' => e = .returned (goV (Rw.goM t k c3 c5 m k1 k2 M)) ∧ Kept (fun _ => False) w w' := by
  have HK0 : Hid (Kept (fun _ => False) w ((((w.alloc (cmdO c0 m c2 c3 c4 c5)).alloc (sekO k1 k2)).alloc (tgtO 0 0)).alloc (sekO 0 0))) := ((((Kept.refl _ w).alloc _).alloc _).alloc _).alloc _
  have HF0 := Lib.hid (four_new w c0 m c2 c3 c4 c5 k1 k2)
  have hq : max 1 (m : Int) = ((Rw.times m : Nat) : Int) := by unfold Rw.times; omega
  have hq1 : 1 ≤ Rw.times m ∧ Rw.times m ≤ 999 := by unfold Rw.times; omega
  obtain ⟨o, hav, hag⟩ := ansN_go (Rw.pmv t (Rw.pst t c3) (Rw.times m) k) k k1 k2
  have hgo : Rw.goM t k c3 c5 m k1 k2 M = o.map fun a => (a, 0, k1, k2) := by
    unfold Rw.goM
    rw [if_neg (by rw [hkey]; decide), if_neg (by rw [hkey]; decide), if_neg (by rw [hkey]; decide), if_pos hkey, hag]
  rw [hgo]
  have hkk := Rw.by_paras.1 hkey
  have cWd := fun W => word_f (show ¬ Rw.Word c3 by unfold Rw.Word; omega) W
  have cSk := fun W => Sk.seek_f (show ¬ Rw.Seek c3 by unfold Rw.Seek; omega) W
  have cW : ∀ W (hk' : Kept (fun _ => False) w W), Calls Tryz.prog 72 #[.slice TA t.length tc, .int .i64 k, .int .i64 c3, .int .i64 (Rw.times m)] W fun e w' => e = .returned (Pa.ansN (Rw.pmv t (Rw.pst t c3) (Rw.times m) k) k) ∧ w' = W := by
    rcases hkk with rfl | rfl
    · exact fun W hk' => Pa.rp123_any TA t.length tc t k (Rw.times m) W (hR.kept hk' (fun _ _ => id)) hk (by omega) hq1.1 hq1.2
    · exact fun W hk' => Pa.rp125_any TA t.length tc t k (Rw.times m) W (hR.kept hk' (fun _ _ => id)) hk (by omega) hq1.1 hq1.2
  simp only [hav] at cW
  clear hR hr hgo hav hag hA ho hkey hx
  generalize Rw.times m = q at *
  rcases hkk with rfl | rfl
  · cases o with
    | none =>
      simp only at cW
      · go_enter Tryz.func33, Tryz.ntmps33
        go_wp2_with (first
          | (go_at_call 61; refine (cWd _).mono ?_; rintro e w1 ⟨rfl, hk1⟩; have HK1 := Lib.hid (HK0.out.trans hk1); have HF1 := Lib.hid (HF0.out.kept hk1); obtain ⟨xa1, xb1, xc1, ⟨xd1, xe1, xf1, xg1⟩, ⟨xh1, xi1, xj1, xk1⟩, ⟨xl1, xm1, xn1, xo1⟩⟩ := HF1.out.facts; clear hk1)
          | (go_at_call 27; refine (cSk _).mono ?_; rintro e w2 ⟨rfl, hk2⟩; have HK2 := Lib.hid (HK1.out.trans hk2); have HF2 := Lib.hid (HF1.out.kept hk2); obtain ⟨xa2, xb2, xc2, ⟨xd2, xe2, xf2, xg2⟩, ⟨xh2, xi2, xj2, xk2⟩, ⟨xl2, xm2, xn2, xo2⟩⟩ := HF2.out.facts; clear hk2)
          | (go_at_call 72; refine (cW _ HK2.out).mono ?_; rintro e w9 ⟨rfl, hw⟩; have hw2 := hw.symm; subst hw2))
        have FF := ((HF2.out.setT 0 0).setX 0 0)
        have KK := (Kept.pair (g := w.heap.size + 1 + 1 + 1) (Kept.pair (g := w.heap.size + 1 + 1) (Kept.refl (fun q => q = w.heap.size + 1 ∨ q = w.heap.size + 1 + 1 ∨ q = w.heap.size + 1 + 1 + 1) w2) (.inr (.inl rfl)) (.int .i64 0) (.int .i64 0)) (.inr (.inr rfl)) (.int .i64 0) (.int .i64 0))
        refine bodyPost_ret (res_go rfl _ _ (w.heap.size + 1 + 1) (w.heap.size + 1 + 1 + 1) 0 0 0 0 rfl rfl ?_ ?_) rfl ⟨rfl, ?_⟩
        · exact FF.c
        · exact FF.d
        · exact HK2.out.fresh KK (fun q hq e => by omega)
    | some a =>
      simp only at cW
      · go_enter Tryz.func33, Tryz.ntmps33
        go_wp2_with (first
          | (go_at_call 61; refine (cWd _).mono ?_; rintro e w1 ⟨rfl, hk1⟩; have HK1 := Lib.hid (HK0.out.trans hk1); have HF1 := Lib.hid (HF0.out.kept hk1); obtain ⟨xa1, xb1, xc1, ⟨xd1, xe1, xf1, xg1⟩, ⟨xh1, xi1, xj1, xk1⟩, ⟨xl1, xm1, xn1, xo1⟩⟩ := HF1.out.facts; clear hk1)
          | (go_at_call 27; refine (cSk _).mono ?_; rintro e w2 ⟨rfl, hk2⟩; have HK2 := Lib.hid (HK1.out.trans hk2); have HF2 := Lib.hid (HF1.out.kept hk2); obtain ⟨xa2, xb2, xc2, ⟨xd2, xe2, xf2, xg2⟩, ⟨xh2, xi2, xj2, xk2⟩, ⟨xl2, xm2, xn2, xo2⟩⟩ := HF2.out.facts; clear hk2)
          | (go_at_call 72; refine (cW _ HK2.out).mono ?_; rintro e w9 ⟨rfl, hw⟩; have hw2 := hw.symm; subst hw2))
        go_region
        all_goals
          try go_wp2
          have FF := (((HF2.out.setT a 0).setX k1 k2).kept ((Kept.refl (fun _ => False) _).drew))
          have KK := (Kept.pair (g := w.heap.size + 1 + 1 + 1) (Kept.pair (g := w.heap.size + 1 + 1) (Kept.refl (fun q => q = w.heap.size + 1 ∨ q = w.heap.size + 1 + 1 ∨ q = w.heap.size + 1 + 1 + 1) w2) (.inr (.inl rfl)) (.int .i64 a) (.int .i64 0)) (.inr (.inr rfl)) (.int .i64 k1) (.int .i64 k2)).drew
          refine bodyPost_ret (res_go rfl _ _ (w.heap.size + 1 + 1) (w.heap.size + 1 + 1 + 1) a 0 k1 k2 rfl rfl ?_ ?_) rfl ⟨rfl, ?_⟩
          · exact FF.c
          · exact FF.d
          · exact HK2.out.fresh KK (fun q hq e => by omega)
  · cases o with
    | none =>
      simp only at cW
      · go_enter Tryz.func33, Tryz.ntmps33
        go_wp2_with (first
          | (go_at_call 61; refine (cWd _).mono ?_; rintro e w1 ⟨rfl, hk1⟩; have HK1 := Lib.hid (HK0.out.trans hk1); have HF1 := Lib.hid (HF0.out.kept hk1); obtain ⟨xa1, xb1, xc1, ⟨xd1, xe1, xf1, xg1⟩, ⟨xh1, xi1, xj1, xk1⟩, ⟨xl1, xm1, xn1, xo1⟩⟩ := HF1.out.facts; clear hk1)
          | (go_at_call 27; refine (cSk _).mono ?_; rintro e w2 ⟨rfl, hk2⟩; have HK2 := Lib.hid (HK1.out.trans hk2); have HF2 := Lib.hid (HF1.out.kept hk2); obtain ⟨xa2, xb2, xc2, ⟨xd2, xe2, xf2, xg2⟩, ⟨xh2, xi2, xj2, xk2⟩, ⟨xl2, xm2, xn2, xo2⟩⟩ := HF2.out.facts; clear hk2)
          | (go_at_call 72; refine (cW _ HK2.out).mono ?_; rintro e w9 ⟨rfl, hw⟩; have hw2 := hw.symm; subst hw2))
        have FF := ((HF2.out.setT 0 0).setX 0 0)
        have KK := (Kept.pair (g := w.heap.size + 1 + 1 + 1) (Kept.pair (g := w.heap.size + 1 + 1) (Kept.refl (fun q => q = w.heap.size + 1 ∨ q = w.heap.size + 1 + 1 ∨ q = w.heap.size + 1 + 1 + 1) w2) (.inr (.inl rfl)) (.int .i64 0) (.int .i64 0)) (.inr (.inr rfl)) (.int .i64 0) (.int .i64 0))
        refine bodyPost_ret (res_go rfl _ _ (w.heap.size + 1 + 1) (w.heap.size + 1 + 1 + 1) 0 0 0 0 rfl rfl ?_ ?_) rfl ⟨rfl, ?_⟩
        · exact FF.c
        · exact FF.d
        · exact HK2.out.fresh KK (fun q hq e => by omega)
    | some a =>
      simp only at cW
      · go_enter Tryz.func33, Tryz.ntmps33
        go_wp2_with (first
          | (go_at_call 61; refine (cWd _).mono ?_; rintro e w1 ⟨rfl, hk1⟩; have HK1 := Lib.hid (HK0.out.trans hk1); have HF1 := Lib.hid (HF0.out.kept hk1); obtain ⟨xa1, xb1, xc1, ⟨xd1, xe1, xf1, xg1⟩, ⟨xh1, xi1, xj1, xk1⟩, ⟨xl1, xm1, xn1, xo1⟩⟩ := HF1.out.facts; clear hk1)
          | (go_at_call 27; refine (cSk _).mono ?_; rintro e w2 ⟨rfl, hk2⟩; have HK2 := Lib.hid (HK1.out.trans hk2); have HF2 := Lib.hid (HF1.out.kept hk2); obtain ⟨xa2, xb2, xc2, ⟨xd2, xe2, xf2, xg2⟩, ⟨xh2, xi2, xj2, xk2⟩, ⟨xl2, xm2, xn2, xo2⟩⟩ := HF2.out.facts; clear hk2)
          | (go_at_call 72; refine (cW _ HK2.out).mono ?_; rintro e w9 ⟨rfl, hw⟩; have hw2 := hw.symm; subst hw2))
        go_region
        all_goals
          try go_wp2
          have FF := (((HF2.out.setT a 0).setX k1 k2).kept ((Kept.refl (fun _ => False) _).drew))
          have KK := (Kept.pair (g := w.heap.size + 1 + 1 + 1) (Kept.pair (g := w.heap.size + 1 + 1) (Kept.refl (fun q => q = w.heap.size + 1 ∨ q = w.heap.size + 1 + 1 ∨ q = w.heap.size + 1 + 1 + 1) w2) (.inr (.inl rfl)) (.int .i64 a) (.int .i64 0)) (.inr (.inr rfl)) (.int .i64 k1) (.int .i64 k2)).drew
          refine bodyPost_ret (res_go rfl _ _ (w.heap.size + 1 + 1) (w.heap.size + 1 + 1 + 1) a 0 k1 k2 rfl rfl ?_ ?_) rfl ⟨rfl, ?_⟩
          · exact FF.c
          · exact FF.d
          · exact HK2.out.fresh KK (fun q hq e => by omega)
end Go.Proofs.YtbofjefblhnkoaaGreatDoor
