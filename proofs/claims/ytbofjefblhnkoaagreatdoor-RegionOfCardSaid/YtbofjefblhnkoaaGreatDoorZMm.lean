/-
  MOTIONS: Go, by words.
  MOTIONS: Go, by a search.
  MOTIONS: Go, by a search again, where nothing was sought.
  MOTIONS: Go, by a search again.
-/
import Derived.Test.YtbofjefblhnkoaaGreatDoorZMi
import Derived.Test.YtbofjefblhnkoaaGreatDoorZMk
set_option linter.unusedVariables false
namespace Go.Proofs.YtbofjefblhnkoaaGreatDoor
open Go Go.RowKit

set_option maxRecDepth 100000 in
set_option maxHeartbeats 1000000 in
theorem pgo_word (s : ByteArray) (k m : Nat) (c0 c2 c3 c4 c5 k1 k2 : Int) (A : Option Addr) (n c : Nat) (M : List (List Int)) (w : World) (hT : Tabs w) (hm : mayB s = true) (hk : k ≤ (rs s).length) (hc : m ≤ 999) (hx : k1 = 0 ∨ Rw.Seek k1) (hA : Rws w A n 2 M) (hn : n ≤ 100000) (ho : Rw.mOk M) (hkey : Rw.kin c3 = 2) :
    Calls Tryz.prog 24 #[.string s, .int .i64 k, cmdV c0 m c2 c3 c4 c5, sekV k1 k2, .slice A n c] w fun e w' => e = .returned (goV (Rw.goM (rs s) k c3 c5 m k1 k2 M)) ∧ Kept (fun _ => False) w w' := by
  have HK0 : Hid (Kept (fun _ => False) w ((((w.alloc (cmdO c0 m c2 c3 c4 c5)).alloc (sekO k1 k2)).alloc (tgtO 0 0)).alloc (sekO 0 0))) := ((((Kept.refl _ w).alloc _).alloc _).alloc _).alloc _
  have HF0 := Lib.hid (four_new w c0 m c2 c3 c4 c5 k1 k2)
  have cK := fun W => kindOf_any c3 W
  rw [hkey] at cK
  have cP := fun W (hk' : Kept (fun _ => False) w W) => place_yes s k W (hT.kept hk' id id) hm hk
  have cS := fun W => mayseek_any k1 k2 W
  rw [decide_eq_true hx] at cS
  have cC := fun W (hk' : Kept (fun _ => False) w W) => pcheck_any A n c M W (hA.kept hk' (fun _ _ => id)) hn
  have HO := Lib.hid ho
  have b1 : decide ((m : Int) < 0) = false := by simp
  have b2 : decide (999 < (m : Int)) = false := by simp; omega
  have b3 : decide (999 < m) = false := by simp; omega
  have hq : max (m : Int) 1 = ((Rw.times m : Nat) : Int) := by unfold Rw.times; omega
  have hq1 : 1 ≤ Rw.times m ∧ Rw.times m ≤ 999 := by unfold Rw.times; omega
  have hw : Rw.Word c3 := Rw.by_word.1 hkey
  have hgo : Rw.goM (rs s) k c3 c5 m k1 k2 M = (Rw.wmv (rs s) k c3 (Rw.times m)).map fun a => (a, if c3 = 101 ∨ c3 = 69 then 1 else 0, k1, k2) := by
    unfold Rw.goM
    rw [if_pos hkey]
  rw [hgo]
  have cW := fun W (hk' : Kept (fun _ => False) w W) => wmove_yes s k (Rw.times m) c3 W (hT.kept hk' id id) hm hk hq1.1 hq1.2 hw
  obtain ⟨o, hoo⟩ : ∃ o, Rw.wmv (rs s) k c3 (Rw.times m) = o := ⟨_, rfl⟩
  rw [hoo]
  simp only [hoo] at cW
  obtain ⟨K, hK⟩ : ∃ K : Int, (if c3 = 101 ∨ c3 = 69 then 1 else 0) = K := ⟨_, rfl⟩
  rw [hK]
  have hcs : ((c3 == 101) = true ∧ K = 1) ∨ ((c3 == 101) = false ∧ (c3 == 69) = true ∧ K = 1) ∨ ((c3 == 101) = false ∧ (c3 == 69) = false ∧ K = 0) := by
    by_cases e1 : c3 = 101
    · exact .inl ⟨by simp [e1], by rw [← hK, if_pos (.inl e1)]⟩
    · by_cases e2 : c3 = 69
      · exact .inr (.inl ⟨by simp [e1], by simp [e2], by rw [← hK, if_pos (.inr e2)]⟩)
      · exact .inr (.inr ⟨by simp [e1], by simp [e2], by rw [← hK, if_neg (fun h => h.elim e1 e2)]⟩)
  clear hT hw hgo hoo hK hA ho
  generalize Rw.times m = q at *
  generalize Rw.nl (rs s) k = p0 at *
  generalize k - Rw.beg (rs s) k = p1 at *
  clear hkey hx
  cases o with
  | none =>
    unfold ansW at cW
    simp only at cW
    rcases hcs with ⟨f1, rfl⟩ | ⟨f1, f2, rfl⟩ | ⟨f1, f2, rfl⟩
    · go_enter Tryz.func24, Tryz.ntmps24
      go_wp2_with (first
        | (go_at_call 49; refine (cK _).mono ?_; rintro e w' ⟨rfl, hw⟩; have hw2 := hw.symm; subst hw2)
        | (go_at_call 39; refine (cP _ HK0.out).mono ?_; rintro e w1 ⟨rfl, hk1⟩; have HK1 := Lib.hid (HK0.out.trans hk1); have HF1 := Lib.hid (HF0.out.kept hk1); have HX1 : Hid (Kept (fun _ => False) w1 (w1.alloc (.cells #[.int .i64 p0, .int .i64 p1] 24))) := (Kept.refl (fun _ => False) w1).alloc _; obtain ⟨a1, a2, a3, ⟨d1, d2, d3, d4⟩, ⟨e1, e2, e3, e4⟩, ⟨g1, g2, g3, g4⟩⟩ := (HF1.out.kept HX1.out).facts; clear hk1)
        | (go_at_call 50; refine (cS _).mono ?_; rintro e w2 ⟨rfl, hk2⟩; have HK2 := Lib.hid ((HK1.out.alloc _).trans hk2); have HF2 := Lib.hid (HF1.out.kept (((Kept.refl (fun _ => False) w1).alloc _).trans hk2)); clear hk2)
        | (go_at_call 42; refine (cC _ HK2.out).mono ?_; rintro e w3 ⟨⟨E3, rfl, _, hE⟩, hk3⟩; obtain rfl : E3 = 0 := hE.2 HO.out; have HK3 := Lib.hid (HK2.out.trans hk3); have HF3 := Lib.hid (HF2.out.kept hk3); obtain ⟨A1, A2, A3, ⟨D1, D2, D3, D4⟩, ⟨E1, E2, E3, E4⟩, ⟨G1, G2, G3, G4⟩⟩ := HF3.out.facts; clear hk3 hE)
        | (go_at_call 51; have HK4 := Lib.hid (HK3.out.fresh (Kept.pair (Kept.refl (fun q => q = w.heap.size + 1 + 1 + 1) w3) rfl (.int .i64 k1) (.int .i64 k2)) (fun q hq e => by omega)); have HF4 := Lib.hid (HF3.out.setX k1 k2); refine (cW _ HK4.out).mono ?_; rintro e w5 ⟨hk5, rfl⟩; have HK5 := Lib.hid (HK4.out.trans hk5); have HF5 := Lib.hid (HF4.out.kept hk5); obtain ⟨x1, x2, x3, ⟨y1, y2, y3, y4⟩, ⟨z1, z2, z3, z4⟩, ⟨v1, v2, v3, v4⟩⟩ := HF5.out.facts; clear hk5))
      have FF := ((((HF5.out.setT0 0).setT1 1).setT 0 0).setX 0 0)
      have KK := (Kept.pair (g := w.heap.size + 1 + 1 + 1) (Kept.pair (g := w.heap.size + 1 + 1) (((Kept.refl (fun q => q = w.heap.size + 1 + 1 ∨ q = w.heap.size + 1 + 1 + 1) w5).setCell (p := ⟨w.heap.size + 1 + 1, 0, none⟩) (.inl rfl) (.int .i64 0)).setCell (p := ⟨w.heap.size + 1 + 1, 1, none⟩) (.inl rfl) (.int .i64 1)) (.inl rfl) (.int .i64 0) (.int .i64 0)) (.inr rfl) (.int .i64 0) (.int .i64 0))
      refine bodyPost_ret (res_go rfl _ _ (w.heap.size + 1 + 1) (w.heap.size + 1 + 1 + 1) 0 0 0 0 rfl rfl ?_ ?_) rfl ⟨rfl, ?_⟩
      · exact FF.c
      · exact FF.d
      · exact HK5.out.fresh KK (fun q hq e => by omega)
    · go_enter Tryz.func24, Tryz.ntmps24
      go_wp2_with (first
        | (go_at_call 49; refine (cK _).mono ?_; rintro e w' ⟨rfl, hw⟩; have hw2 := hw.symm; subst hw2)
        | (go_at_call 39; refine (cP _ HK0.out).mono ?_; rintro e w1 ⟨rfl, hk1⟩; have HK1 := Lib.hid (HK0.out.trans hk1); have HF1 := Lib.hid (HF0.out.kept hk1); have HX1 : Hid (Kept (fun _ => False) w1 (w1.alloc (.cells #[.int .i64 p0, .int .i64 p1] 24))) := (Kept.refl (fun _ => False) w1).alloc _; obtain ⟨a1, a2, a3, ⟨d1, d2, d3, d4⟩, ⟨e1, e2, e3, e4⟩, ⟨g1, g2, g3, g4⟩⟩ := (HF1.out.kept HX1.out).facts; clear hk1)
        | (go_at_call 50; refine (cS _).mono ?_; rintro e w2 ⟨rfl, hk2⟩; have HK2 := Lib.hid ((HK1.out.alloc _).trans hk2); have HF2 := Lib.hid (HF1.out.kept (((Kept.refl (fun _ => False) w1).alloc _).trans hk2)); clear hk2)
        | (go_at_call 42; refine (cC _ HK2.out).mono ?_; rintro e w3 ⟨⟨E3, rfl, _, hE⟩, hk3⟩; obtain rfl : E3 = 0 := hE.2 HO.out; have HK3 := Lib.hid (HK2.out.trans hk3); have HF3 := Lib.hid (HF2.out.kept hk3); obtain ⟨A1, A2, A3, ⟨D1, D2, D3, D4⟩, ⟨E1, E2, E3, E4⟩, ⟨G1, G2, G3, G4⟩⟩ := HF3.out.facts; clear hk3 hE)
        | (go_at_call 51; have HK4 := Lib.hid (HK3.out.fresh (Kept.pair (Kept.refl (fun q => q = w.heap.size + 1 + 1 + 1) w3) rfl (.int .i64 k1) (.int .i64 k2)) (fun q hq e => by omega)); have HF4 := Lib.hid (HF3.out.setX k1 k2); refine (cW _ HK4.out).mono ?_; rintro e w5 ⟨hk5, rfl⟩; have HK5 := Lib.hid (HK4.out.trans hk5); have HF5 := Lib.hid (HF4.out.kept hk5); obtain ⟨x1, x2, x3, ⟨y1, y2, y3, y4⟩, ⟨z1, z2, z3, z4⟩, ⟨v1, v2, v3, v4⟩⟩ := HF5.out.facts; clear hk5))
      have FF := ((((HF5.out.setT0 0).setT1 1).setT 0 0).setX 0 0)
      have KK := (Kept.pair (g := w.heap.size + 1 + 1 + 1) (Kept.pair (g := w.heap.size + 1 + 1) (((Kept.refl (fun q => q = w.heap.size + 1 + 1 ∨ q = w.heap.size + 1 + 1 + 1) w5).setCell (p := ⟨w.heap.size + 1 + 1, 0, none⟩) (.inl rfl) (.int .i64 0)).setCell (p := ⟨w.heap.size + 1 + 1, 1, none⟩) (.inl rfl) (.int .i64 1)) (.inl rfl) (.int .i64 0) (.int .i64 0)) (.inr rfl) (.int .i64 0) (.int .i64 0))
      refine bodyPost_ret (res_go rfl _ _ (w.heap.size + 1 + 1) (w.heap.size + 1 + 1 + 1) 0 0 0 0 rfl rfl ?_ ?_) rfl ⟨rfl, ?_⟩
      · exact FF.c
      · exact FF.d
      · exact HK5.out.fresh KK (fun q hq e => by omega)
    · go_enter Tryz.func24, Tryz.ntmps24
      go_wp2_with (first
        | (go_at_call 49; refine (cK _).mono ?_; rintro e w' ⟨rfl, hw⟩; have hw2 := hw.symm; subst hw2)
        | (go_at_call 39; refine (cP _ HK0.out).mono ?_; rintro e w1 ⟨rfl, hk1⟩; have HK1 := Lib.hid (HK0.out.trans hk1); have HF1 := Lib.hid (HF0.out.kept hk1); have HX1 : Hid (Kept (fun _ => False) w1 (w1.alloc (.cells #[.int .i64 p0, .int .i64 p1] 24))) := (Kept.refl (fun _ => False) w1).alloc _; obtain ⟨a1, a2, a3, ⟨d1, d2, d3, d4⟩, ⟨e1, e2, e3, e4⟩, ⟨g1, g2, g3, g4⟩⟩ := (HF1.out.kept HX1.out).facts; clear hk1)
        | (go_at_call 50; refine (cS _).mono ?_; rintro e w2 ⟨rfl, hk2⟩; have HK2 := Lib.hid ((HK1.out.alloc _).trans hk2); have HF2 := Lib.hid (HF1.out.kept (((Kept.refl (fun _ => False) w1).alloc _).trans hk2)); clear hk2)
        | (go_at_call 42; refine (cC _ HK2.out).mono ?_; rintro e w3 ⟨⟨E3, rfl, _, hE⟩, hk3⟩; obtain rfl : E3 = 0 := hE.2 HO.out; have HK3 := Lib.hid (HK2.out.trans hk3); have HF3 := Lib.hid (HF2.out.kept hk3); obtain ⟨A1, A2, A3, ⟨D1, D2, D3, D4⟩, ⟨E1, E2, E3, E4⟩, ⟨G1, G2, G3, G4⟩⟩ := HF3.out.facts; clear hk3 hE)
        | (go_at_call 51; have HK4 := Lib.hid (HK3.out.fresh (Kept.pair (Kept.refl (fun q => q = w.heap.size + 1 + 1 + 1) w3) rfl (.int .i64 k1) (.int .i64 k2)) (fun q hq e => by omega)); have HF4 := Lib.hid (HF3.out.setX k1 k2); refine (cW _ HK4.out).mono ?_; rintro e w5 ⟨hk5, rfl⟩; have HK5 := Lib.hid (HK4.out.trans hk5); have HF5 := Lib.hid (HF4.out.kept hk5); obtain ⟨x1, x2, x3, ⟨y1, y2, y3, y4⟩, ⟨z1, z2, z3, z4⟩, ⟨v1, v2, v3, v4⟩⟩ := HF5.out.facts; clear hk5))
      have FF := (((HF5.out.setT0 0).setT 0 0).setX 0 0)
      have KK := (Kept.pair (g := w.heap.size + 1 + 1 + 1) (Kept.pair (g := w.heap.size + 1 + 1) ((Kept.refl (fun q => q = w.heap.size + 1 + 1 ∨ q = w.heap.size + 1 + 1 + 1) w5).setCell (p := ⟨w.heap.size + 1 + 1, 0, none⟩) (.inl rfl) (.int .i64 0)) (.inl rfl) (.int .i64 0) (.int .i64 0)) (.inr rfl) (.int .i64 0) (.int .i64 0))
      refine bodyPost_ret (res_go rfl _ _ (w.heap.size + 1 + 1) (w.heap.size + 1 + 1 + 1) 0 0 0 0 rfl rfl ?_ ?_) rfl ⟨rfl, ?_⟩
      · exact FF.c
      · exact FF.d
      · exact HK5.out.fresh KK (fun q hq e => by omega)
  | some a =>
    unfold ansW at cW
    simp only at cW
    rcases hcs with ⟨f1, rfl⟩ | ⟨f1, f2, rfl⟩ | ⟨f1, f2, rfl⟩
    · go_enter Tryz.func24, Tryz.ntmps24
      go_wp2_with (first
        | (go_at_call 49; refine (cK _).mono ?_; rintro e w' ⟨rfl, hw⟩; have hw2 := hw.symm; subst hw2)
        | (go_at_call 39; refine (cP _ HK0.out).mono ?_; rintro e w1 ⟨rfl, hk1⟩; have HK1 := Lib.hid (HK0.out.trans hk1); have HF1 := Lib.hid (HF0.out.kept hk1); have HX1 : Hid (Kept (fun _ => False) w1 (w1.alloc (.cells #[.int .i64 p0, .int .i64 p1] 24))) := (Kept.refl (fun _ => False) w1).alloc _; obtain ⟨a1, a2, a3, ⟨d1, d2, d3, d4⟩, ⟨e1, e2, e3, e4⟩, ⟨g1, g2, g3, g4⟩⟩ := (HF1.out.kept HX1.out).facts; clear hk1)
        | (go_at_call 50; refine (cS _).mono ?_; rintro e w2 ⟨rfl, hk2⟩; have HK2 := Lib.hid ((HK1.out.alloc _).trans hk2); have HF2 := Lib.hid (HF1.out.kept (((Kept.refl (fun _ => False) w1).alloc _).trans hk2)); clear hk2)
        | (go_at_call 42; refine (cC _ HK2.out).mono ?_; rintro e w3 ⟨⟨E3, rfl, _, hE⟩, hk3⟩; obtain rfl : E3 = 0 := hE.2 HO.out; have HK3 := Lib.hid (HK2.out.trans hk3); have HF3 := Lib.hid (HF2.out.kept hk3); obtain ⟨A1, A2, A3, ⟨D1, D2, D3, D4⟩, ⟨E1, E2, E3, E4⟩, ⟨G1, G2, G3, G4⟩⟩ := HF3.out.facts; clear hk3 hE)
        | (go_at_call 51; have HK4 := Lib.hid (HK3.out.fresh (Kept.pair (Kept.refl (fun q => q = w.heap.size + 1 + 1 + 1) w3) rfl (.int .i64 k1) (.int .i64 k2)) (fun q hq e => by omega)); have HF4 := Lib.hid (HF3.out.setX k1 k2); refine (cW _ HK4.out).mono ?_; rintro e w5 ⟨hk5, rfl⟩; have HK5 := Lib.hid (HK4.out.trans hk5); have HF5 := Lib.hid (HF4.out.kept hk5); obtain ⟨x1, x2, x3, ⟨y1, y2, y3, y4⟩, ⟨z1, z2, z3, z4⟩, ⟨v1, v2, v3, v4⟩⟩ := HF5.out.facts; clear hk5))
      go_region
      all_goals
        try go_wp2
        have FF := (((((HF5.out.setT0 a).setT1 1).setT a 1).setX k1 k2).kept ((Kept.refl (fun _ => False) _).drew))
        have KK := (Kept.pair (g := w.heap.size + 1 + 1 + 1) (Kept.pair (g := w.heap.size + 1 + 1) (((Kept.refl (fun q => q = w.heap.size + 1 + 1 ∨ q = w.heap.size + 1 + 1 + 1) w5).setCell (p := ⟨w.heap.size + 1 + 1, 0, none⟩) (.inl rfl) (.int .i64 a)).setCell (p := ⟨w.heap.size + 1 + 1, 1, none⟩) (.inl rfl) (.int .i64 1)) (.inl rfl) (.int .i64 a) (.int .i64 1)) (.inr rfl) (.int .i64 k1) (.int .i64 k2)).drew
        refine bodyPost_ret (res_go rfl _ _ (w.heap.size + 1 + 1) (w.heap.size + 1 + 1 + 1) a 1 k1 k2 rfl rfl ?_ ?_) rfl ⟨rfl, ?_⟩
        · exact FF.c
        · exact FF.d
        · exact HK5.out.fresh KK (fun q hq e => by omega)
    · go_enter Tryz.func24, Tryz.ntmps24
      go_wp2_with (first
        | (go_at_call 49; refine (cK _).mono ?_; rintro e w' ⟨rfl, hw⟩; have hw2 := hw.symm; subst hw2)
        | (go_at_call 39; refine (cP _ HK0.out).mono ?_; rintro e w1 ⟨rfl, hk1⟩; have HK1 := Lib.hid (HK0.out.trans hk1); have HF1 := Lib.hid (HF0.out.kept hk1); have HX1 : Hid (Kept (fun _ => False) w1 (w1.alloc (.cells #[.int .i64 p0, .int .i64 p1] 24))) := (Kept.refl (fun _ => False) w1).alloc _; obtain ⟨a1, a2, a3, ⟨d1, d2, d3, d4⟩, ⟨e1, e2, e3, e4⟩, ⟨g1, g2, g3, g4⟩⟩ := (HF1.out.kept HX1.out).facts; clear hk1)
        | (go_at_call 50; refine (cS _).mono ?_; rintro e w2 ⟨rfl, hk2⟩; have HK2 := Lib.hid ((HK1.out.alloc _).trans hk2); have HF2 := Lib.hid (HF1.out.kept (((Kept.refl (fun _ => False) w1).alloc _).trans hk2)); clear hk2)
        | (go_at_call 42; refine (cC _ HK2.out).mono ?_; rintro e w3 ⟨⟨E3, rfl, _, hE⟩, hk3⟩; obtain rfl : E3 = 0 := hE.2 HO.out; have HK3 := Lib.hid (HK2.out.trans hk3); have HF3 := Lib.hid (HF2.out.kept hk3); obtain ⟨A1, A2, A3, ⟨D1, D2, D3, D4⟩, ⟨E1, E2, E3, E4⟩, ⟨G1, G2, G3, G4⟩⟩ := HF3.out.facts; clear hk3 hE)
        | (go_at_call 51; have HK4 := Lib.hid (HK3.out.fresh (Kept.pair (Kept.refl (fun q => q = w.heap.size + 1 + 1 + 1) w3) rfl (.int .i64 k1) (.int .i64 k2)) (fun q hq e => by omega)); have HF4 := Lib.hid (HF3.out.setX k1 k2); refine (cW _ HK4.out).mono ?_; rintro e w5 ⟨hk5, rfl⟩; have HK5 := Lib.hid (HK4.out.trans hk5); have HF5 := Lib.hid (HF4.out.kept hk5); obtain ⟨x1, x2, x3, ⟨y1, y2, y3, y4⟩, ⟨z1, z2, z3, z4⟩, ⟨v1, v2, v3, v4⟩⟩ := HF5.out.facts; clear hk5))
      go_region
      all_goals
        try go_wp2
        have FF := (((((HF5.out.setT0 a).setT1 1).setT a 1).setX k1 k2).kept ((Kept.refl (fun _ => False) _).drew))
        have KK := (Kept.pair (g := w.heap.size + 1 + 1 + 1) (Kept.pair (g := w.heap.size + 1 + 1) (((Kept.refl (fun q => q = w.heap.size + 1 + 1 ∨ q = w.heap.size + 1 + 1 + 1) w5).setCell (p := ⟨w.heap.size + 1 + 1, 0, none⟩) (.inl rfl) (.int .i64 a)).setCell (p := ⟨w.heap.size + 1 + 1, 1, none⟩) (.inl rfl) (.int .i64 1)) (.inl rfl) (.int .i64 a) (.int .i64 1)) (.inr rfl) (.int .i64 k1) (.int .i64 k2)).drew
        refine bodyPost_ret (res_go rfl _ _ (w.heap.size + 1 + 1) (w.heap.size + 1 + 1 + 1) a 1 k1 k2 rfl rfl ?_ ?_) rfl ⟨rfl, ?_⟩
        · exact FF.c
        · exact FF.d
        · exact HK5.out.fresh KK (fun q hq e => by omega)
    · go_enter Tryz.func24, Tryz.ntmps24
      go_wp2_with (first
        | (go_at_call 49; refine (cK _).mono ?_; rintro e w' ⟨rfl, hw⟩; have hw2 := hw.symm; subst hw2)
        | (go_at_call 39; refine (cP _ HK0.out).mono ?_; rintro e w1 ⟨rfl, hk1⟩; have HK1 := Lib.hid (HK0.out.trans hk1); have HF1 := Lib.hid (HF0.out.kept hk1); have HX1 : Hid (Kept (fun _ => False) w1 (w1.alloc (.cells #[.int .i64 p0, .int .i64 p1] 24))) := (Kept.refl (fun _ => False) w1).alloc _; obtain ⟨a1, a2, a3, ⟨d1, d2, d3, d4⟩, ⟨e1, e2, e3, e4⟩, ⟨g1, g2, g3, g4⟩⟩ := (HF1.out.kept HX1.out).facts; clear hk1)
        | (go_at_call 50; refine (cS _).mono ?_; rintro e w2 ⟨rfl, hk2⟩; have HK2 := Lib.hid ((HK1.out.alloc _).trans hk2); have HF2 := Lib.hid (HF1.out.kept (((Kept.refl (fun _ => False) w1).alloc _).trans hk2)); clear hk2)
        | (go_at_call 42; refine (cC _ HK2.out).mono ?_; rintro e w3 ⟨⟨E3, rfl, _, hE⟩, hk3⟩; obtain rfl : E3 = 0 := hE.2 HO.out; have HK3 := Lib.hid (HK2.out.trans hk3); have HF3 := Lib.hid (HF2.out.kept hk3); obtain ⟨A1, A2, A3, ⟨D1, D2, D3, D4⟩, ⟨E1, E2, E3, E4⟩, ⟨G1, G2, G3, G4⟩⟩ := HF3.out.facts; clear hk3 hE)
        | (go_at_call 51; have HK4 := Lib.hid (HK3.out.fresh (Kept.pair (Kept.refl (fun q => q = w.heap.size + 1 + 1 + 1) w3) rfl (.int .i64 k1) (.int .i64 k2)) (fun q hq e => by omega)); have HF4 := Lib.hid (HF3.out.setX k1 k2); refine (cW _ HK4.out).mono ?_; rintro e w5 ⟨hk5, rfl⟩; have HK5 := Lib.hid (HK4.out.trans hk5); have HF5 := Lib.hid (HF4.out.kept hk5); obtain ⟨x1, x2, x3, ⟨y1, y2, y3, y4⟩, ⟨z1, z2, z3, z4⟩, ⟨v1, v2, v3, v4⟩⟩ := HF5.out.facts; clear hk5))
      go_region
      all_goals
        try go_wp2
        have FF := ((((HF5.out.setT0 a).setT a 0).setX k1 k2).kept ((Kept.refl (fun _ => False) _).drew))
        have KK := (Kept.pair (g := w.heap.size + 1 + 1 + 1) (Kept.pair (g := w.heap.size + 1 + 1) ((Kept.refl (fun q => q = w.heap.size + 1 + 1 ∨ q = w.heap.size + 1 + 1 + 1) w5).setCell (p := ⟨w.heap.size + 1 + 1, 0, none⟩) (.inl rfl) (.int .i64 a)) (.inl rfl) (.int .i64 a) (.int .i64 0)) (.inr rfl) (.int .i64 k1) (.int .i64 k2)).drew
        refine bodyPost_ret (res_go rfl _ _ (w.heap.size + 1 + 1) (w.heap.size + 1 + 1 + 1) a 0 k1 k2 rfl rfl ?_ ?_) rfl ⟨rfl, ?_⟩
        · exact FF.c
        · exact FF.d
        · exact HK5.out.fresh KK (fun q hq e => by omega)
end Go.Proofs.YtbofjefblhnkoaaGreatDoor
namespace Go.Proofs.YtbofjefblhnkoaaGreatDoor
open Go Go.RowKit

set_option maxRecDepth 100000 in
set_option maxHeartbeats 1000000 in
theorem pgo_seek (s : ByteArray) (k m : Nat) (c0 c2 c3 c4 c5 k1 k2 : Int) (A : Option Addr) (n c : Nat) (M : List (List Int)) (w : World) (hT : Tabs w) (hm : mayB s = true) (hk : k ≤ (rs s).length) (hc : m ≤ 999) (hx : k1 = 0 ∨ Rw.Seek k1) (hA : Rws w A n 2 M) (hn : n ≤ 100000) (ho : Rw.mOk M) (hkey : Rw.kin c3 = 3) :
    Calls Tryz.prog 24 #[.string s, .int .i64 k, cmdV c0 m c2 c3 c4 c5, sekV k1 k2, .slice A n c] w fun e w' => e = .returned (goV (Rw.goM (rs s) k c3 c5 m k1 k2 M)) ∧ Kept (fun _ => False) w w' := by
  have HK0 : Hid (Kept (fun _ => False) w ((((w.alloc (cmdO c0 m c2 c3 c4 c5)).alloc (sekO k1 k2)).alloc (tgtO 0 0)).alloc (sekO 0 0))) := ((((Kept.refl _ w).alloc _).alloc _).alloc _).alloc _
  have HF0 := Lib.hid (four_new w c0 m c2 c3 c4 c5 k1 k2)
  have cK := fun W => kindOf_any c3 W
  rw [hkey] at cK
  have cP := fun W (hk' : Kept (fun _ => False) w W) => place_yes s k W (hT.kept hk' id id) hm hk
  have cS := fun W => mayseek_any k1 k2 W
  rw [decide_eq_true hx] at cS
  have cC := fun W (hk' : Kept (fun _ => False) w W) => pcheck_any A n c M W (hA.kept hk' (fun _ _ => id)) hn
  have HO := Lib.hid ho
  have b1 : decide ((m : Int) < 0) = false := by simp
  have b2 : decide (999 < (m : Int)) = false := by simp; omega
  have b3 : decide (999 < m) = false := by simp; omega
  have hq : max (m : Int) 1 = ((Rw.times m : Nat) : Int) := by unfold Rw.times; omega
  have hq1 : 1 ≤ Rw.times m ∧ Rw.times m ≤ 999 := by unfold Rw.times; omega
  have hw : Rw.Seek c3 := Rw.by_seek.1 hkey
  have hgo : Rw.goM (rs s) k c3 c5 m k1 k2 M = ((Rw.find (rs s) k c3 c5 (Rw.times m)).map fun a => (a, kon c3)).map fun p => (p.1, p.2, c3, c5) := by
    unfold Rw.goM
    rw [if_neg (by rw [hkey]; decide), if_pos hkey]
    unfold Rw.goSeek
    cases Rw.find (rs s) k c3 c5 (Rw.times m) <;> rfl
  have cW := fun W (hk' : Kept (fun _ => False) w W) => mvfind_yes s k (Rw.times m) c3 c5 W (hT.kept hk' id id) hm hk hq1.1 hq1.2 hw
  simp only [fndV_wh] at cW
  rw [hgo]
  obtain ⟨o, hoo⟩ : ∃ o, ((Rw.find (rs s) k c3 c5 (Rw.times m)).map fun a => (a, kon c3)) = o := ⟨_, rfl⟩
  rw [hoo]
  simp only [hoo] at cW
  clear hT hw hgo hoo hA ho
  generalize kon c3 = Z at *
  generalize Rw.times m = q at *
  generalize Rw.nl (rs s) k = p0 at *
  generalize k - Rw.beg (rs s) k = p1 at *
  clear hkey hx
  cases o with
  | none =>
    unfold whV tgt at cW
    simp only at cW
    · go_enter Tryz.func24, Tryz.ntmps24
      go_wp2_with (first
        | (go_at_call 49; refine (cK _).mono ?_; rintro e w' ⟨rfl, hw⟩; have hw2 := hw.symm; subst hw2)
        | (go_at_call 39; refine (cP _ HK0.out).mono ?_; rintro e w1 ⟨rfl, hk1⟩; have HK1 := Lib.hid (HK0.out.trans hk1); have HF1 := Lib.hid (HF0.out.kept hk1); have HX1 : Hid (Kept (fun _ => False) w1 (w1.alloc (.cells #[.int .i64 p0, .int .i64 p1] 24))) := (Kept.refl (fun _ => False) w1).alloc _; obtain ⟨a1, a2, a3, ⟨d1, d2, d3, d4⟩, ⟨e1, e2, e3, e4⟩, ⟨g1, g2, g3, g4⟩⟩ := (HF1.out.kept HX1.out).facts; clear hk1)
        | (go_at_call 50; refine (cS _).mono ?_; rintro e w2 ⟨rfl, hk2⟩; have HK2 := Lib.hid ((HK1.out.alloc _).trans hk2); have HF2 := Lib.hid (HF1.out.kept (((Kept.refl (fun _ => False) w1).alloc _).trans hk2)); clear hk2)
        | (go_at_call 42; refine (cC _ HK2.out).mono ?_; rintro e w3 ⟨⟨E3, rfl, _, hE⟩, hk3⟩; obtain rfl : E3 = 0 := hE.2 HO.out; have HK3 := Lib.hid (HK2.out.trans hk3); have HF3 := Lib.hid (HF2.out.kept hk3); obtain ⟨A1, A2, A3, ⟨D1, D2, D3, D4⟩, ⟨E1, E2, E3, E4⟩, ⟨G1, G2, G3, G4⟩⟩ := HF3.out.facts; obtain ⟨_, _, _, _, _, ⟨V1, V2, _, _⟩⟩ := ((HF3.out.setX k1 k2).setX c3 c5).facts; clear hk3 hE)
        | (go_at_call 52; have HK4 := Lib.hid (HK3.out.fresh (Kept.pair (g := w.heap.size + 1 + 1 + 1) (Kept.pair (g := w.heap.size + 1 + 1 + 1) (Kept.refl (fun q => q = w.heap.size + 1 + 1 + 1) w3) rfl (.int .i64 k1) (.int .i64 k2)) rfl (.int .i64 c3) (.int .i64 c5)) (fun q hq e => by omega)); have HF4 := Lib.hid ((HF3.out.setX k1 k2).setX c3 c5); refine (cW _ HK4.out).mono ?_; rintro e w5 ⟨rfl, hk5⟩; have HK5 := Lib.hid (HK4.out.trans hk5); have HF5 := Lib.hid (HF4.out.kept hk5); obtain ⟨x1, x2, x3, ⟨y1, y2, y3, y4⟩, ⟨z1, z2, z3, z4⟩, ⟨v1, v2, v3, v4⟩⟩ := HF5.out.facts; clear hk5))
      have FF := (((HF5.out.setT 0 Z).setT 0 0).setX 0 0)
      have KK := (Kept.pair (g := w.heap.size + 1 + 1 + 1) (Kept.pair (g := w.heap.size + 1 + 1) (Kept.pair (g := w.heap.size + 1 + 1) (Kept.refl (fun q => q = w.heap.size + 1 + 1 ∨ q = w.heap.size + 1 + 1 + 1) w5) (.inl rfl) (.int .i64 0) (.int .i64 Z)) (.inl rfl) (.int .i64 0) (.int .i64 0)) (.inr rfl) (.int .i64 0) (.int .i64 0))
      refine bodyPost_ret (res_go rfl _ _ (w.heap.size + 1 + 1) (w.heap.size + 1 + 1 + 1) 0 0 0 0 rfl rfl ?_ ?_) rfl ⟨rfl, ?_⟩
      · exact FF.c
      · exact FF.d
      · exact HK5.out.fresh KK (fun q hq e => by omega)
  | some p =>
    obtain ⟨a, K⟩ := p
    unfold whV tgt at cW
    simp only at cW
    · go_enter Tryz.func24, Tryz.ntmps24
      go_wp2_with (first
        | (go_at_call 49; refine (cK _).mono ?_; rintro e w' ⟨rfl, hw⟩; have hw2 := hw.symm; subst hw2)
        | (go_at_call 39; refine (cP _ HK0.out).mono ?_; rintro e w1 ⟨rfl, hk1⟩; have HK1 := Lib.hid (HK0.out.trans hk1); have HF1 := Lib.hid (HF0.out.kept hk1); have HX1 : Hid (Kept (fun _ => False) w1 (w1.alloc (.cells #[.int .i64 p0, .int .i64 p1] 24))) := (Kept.refl (fun _ => False) w1).alloc _; obtain ⟨a1, a2, a3, ⟨d1, d2, d3, d4⟩, ⟨e1, e2, e3, e4⟩, ⟨g1, g2, g3, g4⟩⟩ := (HF1.out.kept HX1.out).facts; clear hk1)
        | (go_at_call 50; refine (cS _).mono ?_; rintro e w2 ⟨rfl, hk2⟩; have HK2 := Lib.hid ((HK1.out.alloc _).trans hk2); have HF2 := Lib.hid (HF1.out.kept (((Kept.refl (fun _ => False) w1).alloc _).trans hk2)); clear hk2)
        | (go_at_call 42; refine (cC _ HK2.out).mono ?_; rintro e w3 ⟨⟨E3, rfl, _, hE⟩, hk3⟩; obtain rfl : E3 = 0 := hE.2 HO.out; have HK3 := Lib.hid (HK2.out.trans hk3); have HF3 := Lib.hid (HF2.out.kept hk3); obtain ⟨A1, A2, A3, ⟨D1, D2, D3, D4⟩, ⟨E1, E2, E3, E4⟩, ⟨G1, G2, G3, G4⟩⟩ := HF3.out.facts; obtain ⟨_, _, _, _, _, ⟨V1, V2, _, _⟩⟩ := ((HF3.out.setX k1 k2).setX c3 c5).facts; clear hk3 hE)
        | (go_at_call 52; have HK4 := Lib.hid (HK3.out.fresh (Kept.pair (g := w.heap.size + 1 + 1 + 1) (Kept.pair (g := w.heap.size + 1 + 1 + 1) (Kept.refl (fun q => q = w.heap.size + 1 + 1 + 1) w3) rfl (.int .i64 k1) (.int .i64 k2)) rfl (.int .i64 c3) (.int .i64 c5)) (fun q hq e => by omega)); have HF4 := Lib.hid ((HF3.out.setX k1 k2).setX c3 c5); refine (cW _ HK4.out).mono ?_; rintro e w5 ⟨rfl, hk5⟩; have HK5 := Lib.hid (HK4.out.trans hk5); have HF5 := Lib.hid (HF4.out.kept hk5); obtain ⟨x1, x2, x3, ⟨y1, y2, y3, y4⟩, ⟨z1, z2, z3, z4⟩, ⟨v1, v2, v3, v4⟩⟩ := HF5.out.facts; clear hk5))
      go_region
      all_goals
        try go_wp2
        have FF := ((((HF5.out.setT a K).setT a K).setX c3 c5).kept ((Kept.refl (fun _ => False) _).drew))
        have KK := (Kept.pair (g := w.heap.size + 1 + 1 + 1) (Kept.pair (g := w.heap.size + 1 + 1) (Kept.pair (g := w.heap.size + 1 + 1) (Kept.refl (fun q => q = w.heap.size + 1 + 1 ∨ q = w.heap.size + 1 + 1 + 1) w5) (.inl rfl) (.int .i64 a) (.int .i64 K)) (.inl rfl) (.int .i64 a) (.int .i64 K)) (.inr rfl) (.int .i64 c3) (.int .i64 c5)).drew
        refine bodyPost_ret (res_go rfl _ _ (w.heap.size + 1 + 1) (w.heap.size + 1 + 1 + 1) a K c3 c5 rfl rfl ?_ ?_) rfl ⟨rfl, ?_⟩
        · exact FF.c
        · exact FF.d
        · exact HK5.out.fresh KK (fun q hq e => by omega)
end Go.Proofs.YtbofjefblhnkoaaGreatDoor
namespace Go.Proofs.YtbofjefblhnkoaaGreatDoor
open Go Go.RowKit

set_option maxRecDepth 100000 in
set_option maxHeartbeats 1000000 in
theorem pgo_again0 (s : ByteArray) (k m : Nat) (c0 c2 c3 c4 c5 k1 k2 : Int) (A : Option Addr) (n c : Nat) (M : List (List Int)) (w : World) (hT : Tabs w) (hm : mayB s = true) (hk : k ≤ (rs s).length) (hc : m ≤ 999) (hx : k1 = 0 ∨ Rw.Seek k1) (hA : Rws w A n 2 M) (hn : n ≤ 100000) (ho : Rw.mOk M) (hkey : Rw.kin c3 = 4) (h0 : k1 = 0) :
    Calls Tryz.prog 24 #[.string s, .int .i64 k, cmdV c0 m c2 c3 c4 c5, sekV k1 k2, .slice A n c] w fun e w' => e = .returned (goV (Rw.goM (rs s) k c3 c5 m k1 k2 M)) ∧ Kept (fun _ => False) w w' := by
  have HK0 : Hid (Kept (fun _ => False) w ((((w.alloc (cmdO c0 m c2 c3 c4 c5)).alloc (sekO k1 k2)).alloc (tgtO 0 0)).alloc (sekO 0 0))) := ((((Kept.refl _ w).alloc _).alloc _).alloc _).alloc _
  have HF0 := Lib.hid (four_new w c0 m c2 c3 c4 c5 k1 k2)
  have cK := fun W => kindOf_any c3 W
  rw [hkey] at cK
  have cP := fun W (hk' : Kept (fun _ => False) w W) => place_yes s k W (hT.kept hk' id id) hm hk
  have cS := fun W => mayseek_any k1 k2 W
  rw [decide_eq_true hx] at cS
  have cC := fun W (hk' : Kept (fun _ => False) w W) => pcheck_any A n c M W (hA.kept hk' (fun _ _ => id)) hn
  have HO := Lib.hid ho
  have b1 : decide ((m : Int) < 0) = false := by simp
  have b2 : decide (999 < (m : Int)) = false := by simp; omega
  have b3 : decide (999 < m) = false := by simp; omega
  have hq : max (m : Int) 1 = ((Rw.times m : Nat) : Int) := by unfold Rw.times; omega
  have hq1 : 1 ≤ Rw.times m ∧ Rw.times m ≤ 999 := by unfold Rw.times; omega
  subst h0
  have hgo : Rw.goM (rs s) k c3 c5 m 0 k2 M = none := by
    unfold Rw.goM
    rw [if_neg (by rw [hkey]; decide), if_neg (by rw [hkey]; decide), if_pos hkey, if_pos rfl]
  have cW := fun W (hk' : Kept (fun _ => False) w W) => again_yes s k (Rw.times m) c3 0 k2 W (hT.kept hk' id id) hm hk hq1.1 hq1.2 (.inl rfl)
  have hag : agnV (rs s) k c3 0 k2 (Rw.times m) = .tuple #[tgt 0 0, .int .i64 6] := if_pos rfl
  simp only [hag] at cW
  rw [hgo]
  clear hT hgo hag hA ho
  generalize Rw.times m = q at *
  generalize Rw.nl (rs s) k = p0 at *
  generalize k - Rw.beg (rs s) k = p1 at *
  clear hkey hx
  unfold tgt at cW
  · go_enter Tryz.func24, Tryz.ntmps24
    go_wp2_with (first
      | (go_at_call 49; refine (cK _).mono ?_; rintro e w' ⟨rfl, hw⟩; have hw2 := hw.symm; subst hw2)
      | (go_at_call 39; refine (cP _ HK0.out).mono ?_; rintro e w1 ⟨rfl, h0⟩; have HK1 := Lib.hid (HK0.out.trans h0); have HF1 := Lib.hid (HF0.out.kept h0); have HX1 : Hid (Kept (fun _ => False) w1 (w1.alloc (.cells #[.int .i64 p0, .int .i64 p1] 24))) := (Kept.refl (fun _ => False) w1).alloc _; obtain ⟨a1, a2, a3, ⟨d1, d2, d3, d4⟩, ⟨e1, e2, e3, e4⟩, ⟨g1, g2, g3, g4⟩⟩ := (HF1.out.kept HX1.out).facts; clear h0)
      | (go_at_call 50; refine (cS _).mono ?_; rintro e w2 ⟨rfl, hk2⟩; have HK2 := Lib.hid ((HK1.out.alloc _).trans hk2); have HF2 := Lib.hid (HF1.out.kept (((Kept.refl (fun _ => False) w1).alloc _).trans hk2)); clear hk2)
      | (go_at_call 42; refine (cC _ HK2.out).mono ?_; rintro e w3 ⟨⟨E3, rfl, _, hE⟩, hk3⟩; obtain rfl : E3 = 0 := hE.2 HO.out; have HK3 := Lib.hid (HK2.out.trans hk3); have HF3 := Lib.hid (HF2.out.kept hk3); obtain ⟨A1, A2, A3, ⟨D1, D2, D3, D4⟩, ⟨E1, E2, E3, E4⟩, ⟨G1, G2, G3, G4⟩⟩ := HF3.out.facts; clear hk3 hE)
      | (go_at_call 53; have HK4 := Lib.hid (HK3.out.fresh (Kept.pair (Kept.refl (fun q => q = w.heap.size + 1 + 1 + 1) w3) rfl (.int .i64 0) (.int .i64 k2)) (fun q hq e => by omega)); have HF4 := Lib.hid (HF3.out.setX 0 k2); refine (cW _ HK4.out).mono ?_; rintro e w5 ⟨rfl, hk5⟩; have HK5 := Lib.hid (HK4.out.trans hk5); have HF5 := Lib.hid (HF4.out.kept hk5); obtain ⟨x1, x2, x3, ⟨y1, y2, y3, y4⟩, ⟨z1, z2, z3, z4⟩, ⟨v1, v2, v3, v4⟩⟩ := HF5.out.facts; clear hk5))
    have FF := (((HF5.out.setT 0 0).setT 0 0).setX 0 0)
    have KK := (Kept.pair (g := w.heap.size + 1 + 1 + 1) (Kept.pair (g := w.heap.size + 1 + 1) (Kept.pair (g := w.heap.size + 1 + 1) (Kept.refl (fun q => q = w.heap.size + 1 + 1 ∨ q = w.heap.size + 1 + 1 + 1) w5) (.inl rfl) (.int .i64 0) (.int .i64 0)) (.inl rfl) (.int .i64 0) (.int .i64 0)) (.inr rfl) (.int .i64 0) (.int .i64 0))
    refine bodyPost_ret (res_go rfl _ _ (w.heap.size + 1 + 1) (w.heap.size + 1 + 1 + 1) 0 0 0 0 rfl rfl ?_ ?_) rfl ⟨rfl, ?_⟩
    · exact FF.c
    · exact FF.d
    · exact HK5.out.fresh KK (fun q hq e => by omega)
end Go.Proofs.YtbofjefblhnkoaaGreatDoor
namespace Go.Proofs.YtbofjefblhnkoaaGreatDoor
open Go Go.RowKit

set_option maxRecDepth 100000 in
set_option maxHeartbeats 1000000 in
theorem pgo_again1 (s : ByteArray) (k m : Nat) (c0 c2 c3 c4 c5 k1 k2 : Int) (A : Option Addr) (n c : Nat) (M : List (List Int)) (w : World) (hT : Tabs w) (hm : mayB s = true) (hk : k ≤ (rs s).length) (hc : m ≤ 999) (hx : k1 = 0 ∨ Rw.Seek k1) (hA : Rws w A n 2 M) (hn : n ≤ 100000) (ho : Rw.mOk M) (hkey : Rw.kin c3 = 4) (h0 : k1 ≠ 0) :
    Calls Tryz.prog 24 #[.string s, .int .i64 k, cmdV c0 m c2 c3 c4 c5, sekV k1 k2, .slice A n c] w fun e w' => e = .returned (goV (Rw.goM (rs s) k c3 c5 m k1 k2 M)) ∧ Kept (fun _ => False) w w' := by
  have HK0 : Hid (Kept (fun _ => False) w ((((w.alloc (cmdO c0 m c2 c3 c4 c5)).alloc (sekO k1 k2)).alloc (tgtO 0 0)).alloc (sekO 0 0))) := ((((Kept.refl _ w).alloc _).alloc _).alloc _).alloc _
  have HF0 := Lib.hid (four_new w c0 m c2 c3 c4 c5 k1 k2)
  have cK := fun W => kindOf_any c3 W
  rw [hkey] at cK
  have cP := fun W (hk' : Kept (fun _ => False) w W) => place_yes s k W (hT.kept hk' id id) hm hk
  have cS := fun W => mayseek_any k1 k2 W
  rw [decide_eq_true hx] at cS
  have cC := fun W (hk' : Kept (fun _ => False) w W) => pcheck_any A n c M W (hA.kept hk' (fun _ _ => id)) hn
  have HO := Lib.hid ho
  have b1 : decide ((m : Int) < 0) = false := by simp
  have b2 : decide (999 < (m : Int)) = false := by simp; omega
  have b3 : decide (999 < m) = false := by simp; omega
  have hq : max (m : Int) 1 = ((Rw.times m : Nat) : Int) := by unfold Rw.times; omega
  have hq1 : 1 ≤ Rw.times m ∧ Rw.times m ≤ 999 := by unfold Rw.times; omega
  have hs : Rw.Seek k1 := hx.resolve_left h0
  obtain ⟨x', hx'⟩ : ∃ x', (if c3 = 44 then Rw.turn k1 else k1) = x' := ⟨_, rfl⟩
  have hgo : Rw.goM (rs s) k c3 c5 m k1 k2 M = ((Rw.find (rs s) k x' k2 (Rw.times m)).map fun a => (a, kon x')).map fun p => (p.1, p.2, k1, k2) := by
    unfold Rw.goM
    rw [if_neg (by rw [hkey]; decide), if_neg (by rw [hkey]; decide), if_pos hkey, if_neg h0, hx']
    unfold Rw.goSeek
    cases Rw.find (rs s) k x' k2 (Rw.times m) <;> rfl
  have cW := fun W (hk' : Kept (fun _ => False) w W) => again_yes s k (Rw.times m) c3 k1 k2 W (hT.kept hk' id id) hm hk hq1.1 hq1.2 hx
  have hag : agnV (rs s) k c3 k1 k2 (Rw.times m) = fndV (Rw.find (rs s) k x' k2 (Rw.times m)) x' := by unfold agnV; rw [if_neg h0, hx']
  simp only [hag, fndV_wh] at cW
  rw [hgo]
  obtain ⟨o, hoo⟩ : ∃ o, ((Rw.find (rs s) k x' k2 (Rw.times m)).map fun a => (a, kon x')) = o := ⟨_, rfl⟩
  rw [hoo]
  simp only [hoo] at cW
  clear hT hs hgo hoo hag hA ho hx' h0
  generalize kon x' = Z at *
  generalize Rw.times m = q at *
  generalize Rw.nl (rs s) k = p0 at *
  generalize k - Rw.beg (rs s) k = p1 at *
  clear hkey hx
  cases o with
  | none =>
    unfold whV tgt at cW
    simp only at cW
    · go_enter Tryz.func24, Tryz.ntmps24
      go_wp2_with (first
        | (go_at_call 49; refine (cK _).mono ?_; rintro e w' ⟨rfl, hw⟩; have hw2 := hw.symm; subst hw2)
        | (go_at_call 39; refine (cP _ HK0.out).mono ?_; rintro e w1 ⟨rfl, hk1⟩; have HK1 := Lib.hid (HK0.out.trans hk1); have HF1 := Lib.hid (HF0.out.kept hk1); have HX1 : Hid (Kept (fun _ => False) w1 (w1.alloc (.cells #[.int .i64 p0, .int .i64 p1] 24))) := (Kept.refl (fun _ => False) w1).alloc _; obtain ⟨a1, a2, a3, ⟨d1, d2, d3, d4⟩, ⟨e1, e2, e3, e4⟩, ⟨g1, g2, g3, g4⟩⟩ := (HF1.out.kept HX1.out).facts; clear hk1)
        | (go_at_call 50; refine (cS _).mono ?_; rintro e w2 ⟨rfl, hk2⟩; have HK2 := Lib.hid ((HK1.out.alloc _).trans hk2); have HF2 := Lib.hid (HF1.out.kept (((Kept.refl (fun _ => False) w1).alloc _).trans hk2)); clear hk2)
        | (go_at_call 42; refine (cC _ HK2.out).mono ?_; rintro e w3 ⟨⟨E3, rfl, _, hE⟩, hk3⟩; obtain rfl : E3 = 0 := hE.2 HO.out; have HK3 := Lib.hid (HK2.out.trans hk3); have HF3 := Lib.hid (HF2.out.kept hk3); obtain ⟨A1, A2, A3, ⟨D1, D2, D3, D4⟩, ⟨E1, E2, E3, E4⟩, ⟨G1, G2, G3, G4⟩⟩ := HF3.out.facts; clear hk3 hE)
        | (go_at_call 53; have HK4 := Lib.hid (HK3.out.fresh (Kept.pair (Kept.refl (fun q => q = w.heap.size + 1 + 1 + 1) w3) rfl (.int .i64 k1) (.int .i64 k2)) (fun q hq e => by omega)); have HF4 := Lib.hid (HF3.out.setX k1 k2); refine (cW _ HK4.out).mono ?_; rintro e w5 ⟨rfl, hk5⟩; have HK5 := Lib.hid (HK4.out.trans hk5); have HF5 := Lib.hid (HF4.out.kept hk5); obtain ⟨x1, x2, x3, ⟨y1, y2, y3, y4⟩, ⟨z1, z2, z3, z4⟩, ⟨v1, v2, v3, v4⟩⟩ := HF5.out.facts; clear hk5))
      have FF := (((HF5.out.setT 0 Z).setT 0 0).setX 0 0)
      have KK := (Kept.pair (g := w.heap.size + 1 + 1 + 1) (Kept.pair (g := w.heap.size + 1 + 1) (Kept.pair (g := w.heap.size + 1 + 1) (Kept.refl (fun q => q = w.heap.size + 1 + 1 ∨ q = w.heap.size + 1 + 1 + 1) w5) (.inl rfl) (.int .i64 0) (.int .i64 Z)) (.inl rfl) (.int .i64 0) (.int .i64 0)) (.inr rfl) (.int .i64 0) (.int .i64 0))
      refine bodyPost_ret (res_go rfl _ _ (w.heap.size + 1 + 1) (w.heap.size + 1 + 1 + 1) 0 0 0 0 rfl rfl ?_ ?_) rfl ⟨rfl, ?_⟩
      · exact FF.c
      · exact FF.d
      · exact HK5.out.fresh KK (fun q hq e => by omega)
  | some p =>
    obtain ⟨a, K⟩ := p
    unfold whV tgt at cW
    simp only at cW
    · go_enter Tryz.func24, Tryz.ntmps24
      go_wp2_with (first
        | (go_at_call 49; refine (cK _).mono ?_; rintro e w' ⟨rfl, hw⟩; have hw2 := hw.symm; subst hw2)
        | (go_at_call 39; refine (cP _ HK0.out).mono ?_; rintro e w1 ⟨rfl, hk1⟩; have HK1 := Lib.hid (HK0.out.trans hk1); have HF1 := Lib.hid (HF0.out.kept hk1); have HX1 : Hid (Kept (fun _ => False) w1 (w1.alloc (.cells #[.int .i64 p0, .int .i64 p1] 24))) := (Kept.refl (fun _ => False) w1).alloc _; obtain ⟨a1, a2, a3, ⟨d1, d2, d3, d4⟩, ⟨e1, e2, e3, e4⟩, ⟨g1, g2, g3, g4⟩⟩ := (HF1.out.kept HX1.out).facts; clear hk1)
        | (go_at_call 50; refine (cS _).mono ?_; rintro e w2 ⟨rfl, hk2⟩; have HK2 := Lib.hid ((HK1.out.alloc _).trans hk2); have HF2 := Lib.hid (HF1.out.kept (((Kept.refl (fun _ => False) w1).alloc _).trans hk2)); clear hk2)
        | (go_at_call 42; refine (cC _ HK2.out).mono ?_; rintro e w3 ⟨⟨E3, rfl, _, hE⟩, hk3⟩; obtain rfl : E3 = 0 := hE.2 HO.out; have HK3 := Lib.hid (HK2.out.trans hk3); have HF3 := Lib.hid (HF2.out.kept hk3); obtain ⟨A1, A2, A3, ⟨D1, D2, D3, D4⟩, ⟨E1, E2, E3, E4⟩, ⟨G1, G2, G3, G4⟩⟩ := HF3.out.facts; clear hk3 hE)
        | (go_at_call 53; have HK4 := Lib.hid (HK3.out.fresh (Kept.pair (Kept.refl (fun q => q = w.heap.size + 1 + 1 + 1) w3) rfl (.int .i64 k1) (.int .i64 k2)) (fun q hq e => by omega)); have HF4 := Lib.hid (HF3.out.setX k1 k2); refine (cW _ HK4.out).mono ?_; rintro e w5 ⟨rfl, hk5⟩; have HK5 := Lib.hid (HK4.out.trans hk5); have HF5 := Lib.hid (HF4.out.kept hk5); obtain ⟨x1, x2, x3, ⟨y1, y2, y3, y4⟩, ⟨z1, z2, z3, z4⟩, ⟨v1, v2, v3, v4⟩⟩ := HF5.out.facts; clear hk5))
      go_region
      all_goals
        try go_wp2
        have FF := ((((HF5.out.setT a K).setT a K).setX k1 k2).kept ((Kept.refl (fun _ => False) _).drew))
        have KK := (Kept.pair (g := w.heap.size + 1 + 1 + 1) (Kept.pair (g := w.heap.size + 1 + 1) (Kept.pair (g := w.heap.size + 1 + 1) (Kept.refl (fun q => q = w.heap.size + 1 + 1 ∨ q = w.heap.size + 1 + 1 + 1) w5) (.inl rfl) (.int .i64 a) (.int .i64 K)) (.inl rfl) (.int .i64 a) (.int .i64 K)) (.inr rfl) (.int .i64 k1) (.int .i64 k2)).drew
        refine bodyPost_ret (res_go rfl _ _ (w.heap.size + 1 + 1) (w.heap.size + 1 + 1 + 1) a K k1 k2 rfl rfl ?_ ?_) rfl ⟨rfl, ?_⟩
        · exact FF.c
        · exact FF.d
        · exact HK5.out.fresh KK (fun q hq e => by omega)
end Go.Proofs.YtbofjefblhnkoaaGreatDoor
