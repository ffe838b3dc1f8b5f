/-
  MOTIONS: Go, by a mark.
  MOTIONS: Go, by rows.
  MOTIONS BY PARAGRAPHS: below, above and Move of the program; bare of the reference.
  MOTIONS BY PARAGRAPHS: Move of the program.
  MOTIONS BY PARAGRAPHS: the reference's.
  MOTIONS BY PARAGRAPHS: the reference's, upwards.
  MOTIONS BY PARAGRAPHS: Move of whatever arguments; what the law's loops hold.
  MOTIONS: Go, by paragraphs.
-/
import Derived.Test.YtbofjefblhnkoaaGreatDoorZMi
import Derived.Test.YtbofjefblhnkoaaGreatDoorZMg
import Derived.Test.YtbofjefblhnkoaaGreatDoorZMh
import Derived.Test.YtbofjefblhnkoaaGreatDoorZM0
import Derived.Test.YtbofjefblhnkoaaGreatDoorZMc
import Derived.Deep.RegionHeld3
import Derived.Deep.CutRange
set_option linter.unusedVariables false
namespace Go.Proofs.YtbofjefblhnkoaaGreatDoor
open Go Go.RowKit

set_option maxRecDepth 100000 in
set_option maxHeartbeats 1000000 in
theorem pgo_mark (s : ByteArray) (k m : Nat) (c0 c2 c3 c4 c5 k1 k2 : Int) (A : Option Addr) (n c : Nat) (M : List (List Int)) (w : World) (hT : Tabs w) (hm : mayB s = true) (hk : k ≤ (rs s).length) (hc : m ≤ 999) (hx : k1 = 0 ∨ Rw.Seek k1) (hA : Rws w A n 2 M) (hn : n ≤ 100000) (ho : Rw.mOk M) (hkey : Rw.kin c3 = 7) :
    Calls Tryz.prog 24 #[.string s, .int .i64 k, cmdV c0 m c2 c3 c4 c5, sekV k1 k2, .slice A n c] w fun e w' => e = .returned (goV (Rw.goM (rs s) k c3 c5 m k1 k2 M)) ∧ Kept (fun _ => False) w w' := by
  have HK0 : Hid (Kept (fun _ => False) w ((((w.alloc (cmdO c0 m c2 c3 c4 c5)).alloc (sekO k1 k2)).alloc (tgtO 0 0)).alloc (sekO 0 0))) := ((((Kept.refl _ w).alloc _).alloc _).alloc _).alloc _
  have HF0 := Lib.hid (four_new w c0 m c2 c3 c4 c5 k1 k2)
  have cK := fun W => kindOf_any c3 W
  rw [hkey] at cK
  have cP := fun W (hk' : Kept (fun _ => False) w W) => place_yes s k W (hT.kept hk' id id) hm hk
  have cS := fun W => mayseek_any k1 k2 W
  rw [decide_eq_true hx] at cS
  have cC := fun W (hk' : Kept (fun _ => False) w W) => pcheck_any A n c M W (hA.kept hk' (fun _ _ => id)) hn
  have HO := Lib.hid ho
  have b1 : decide ((m : Int) < 0) = false := by simp
  have b2 : decide (999 < (m : Int)) = false := by simp; omega
  have b3 : decide (999 < m) = false := by simp; omega
  have hq : max (m : Int) 1 = ((Rw.times m : Nat) : Int) := by unfold Rw.times; omega
  have hq1 : 1 ≤ Rw.times m ∧ Rw.times m ≤ 999 := by unfold Rw.times; omega
  have hw := Rw.by_mark.1 hkey
  obtain ⟨o, hmv, hmg⟩ := mrk_go (rs s) c3 c5 k1 k2 M
  have hgo : Rw.goM (rs s) k c3 c5 m k1 k2 M = o.map fun p => (p.1, p.2, k1, k2) := by
    unfold Rw.goM
    rw [if_neg (by rw [hkey]; decide), if_neg (by rw [hkey]; decide), if_neg (by rw [hkey]; decide), if_neg (by rw [hkey]; decide), if_neg (by rw [hkey]; decide), if_pos hkey, hmg]
  have cW := fun W (hk' : Kept (fun _ => False) w W) => tomark_yes s c0 m c2 c3 c4 c5 A n c M W (hT.kept hk' id id) hm (hA.kept hk' (fun _ _ => id)) hn ho hw
  simp only [hmv] at cW
  rw [hgo]
  clear hT hw hgo hmv hmg hA ho
  generalize Rw.times m = q at *
  generalize Rw.nl (rs s) k = p0 at *
  generalize k - Rw.beg (rs s) k = p1 at *
  clear hkey hx
  cases o with
  | none =>
    unfold whV tgt at cW
    simp only at cW
    · go_enter Tryz.func24, Tryz.ntmps24
      go_wp2_with (first
        | (go_at_call 49; refine (cK _).mono ?_; rintro e w' ⟨rfl, hw⟩; have hw2 := hw.symm; subst hw2)
        | (go_at_call 39; refine (cP _ HK0.out).mono ?_; rintro e w1 ⟨rfl, hk1⟩; have HK1 := Lib.hid (HK0.out.trans hk1); have HF1 := Lib.hid (HF0.out.kept hk1); have HX1 : Hid (Kept (fun _ => False) w1 (w1.alloc (.cells #[.int .i64 p0, .int .i64 p1] 24))) := (Kept.refl (fun _ => False) w1).alloc _; obtain ⟨a1, a2, a3, ⟨d1, d2, d3, d4⟩, ⟨e1, e2, e3, e4⟩, ⟨g1, g2, g3, g4⟩⟩ := (HF1.out.kept HX1.out).facts; clear hk1)
        | (go_at_call 50; refine (cS _).mono ?_; rintro e w2 ⟨rfl, hk2⟩; have HK2 := Lib.hid ((HK1.out.alloc _).trans hk2); have HF2 := Lib.hid (HF1.out.kept (((Kept.refl (fun _ => False) w1).alloc _).trans hk2)); clear hk2)
        | (go_at_call 42; refine (cC _ HK2.out).mono ?_; rintro e w3 ⟨⟨E3, rfl, _, hE⟩, hk3⟩; obtain rfl : E3 = 0 := hE.2 HO.out; have HK3 := Lib.hid (HK2.out.trans hk3); have HF3 := Lib.hid (HF2.out.kept hk3); obtain ⟨A1, A2, A3, ⟨D1, D2, D3, D4⟩, ⟨E1, E2, E3, E4⟩, ⟨G1, G2, G3, G4⟩⟩ := HF3.out.facts; obtain ⟨U1, U2, U3⟩ := HF3.out.cmd; clear hk3 hE)
        | (go_at_call 56; have HK4 := Lib.hid (HK3.out.fresh (Kept.pair (Kept.refl (fun q => q = w.heap.size + 1 + 1 + 1) w3) rfl (.int .i64 k1) (.int .i64 k2)) (fun q hq e => by omega)); have HF4 := Lib.hid (HF3.out.setX k1 k2); refine (cW _ HK4.out).mono ?_; rintro e w5 ⟨rfl, hk5⟩; have HK5 := Lib.hid (HK4.out.trans hk5); have HF5 := Lib.hid (HF4.out.kept hk5); obtain ⟨x1, x2, x3, ⟨y1, y2, y3, y4⟩, ⟨z1, z2, z3, z4⟩, ⟨v1, v2, v3, v4⟩⟩ := HF5.out.facts; clear hk5))
      have FF := (((HF5.out.setT 0 0).setT 0 0).setX 0 0)
      have KK := (Kept.pair (g := w.heap.size + 1 + 1 + 1) (Kept.pair (g := w.heap.size + 1 + 1) (Kept.pair (g := w.heap.size + 1 + 1) (Kept.refl (fun q => q = w.heap.size + 1 + 1 ∨ q = w.heap.size + 1 + 1 + 1) w5) (.inl rfl) (.int .i64 0) (.int .i64 0)) (.inl rfl) (.int .i64 0) (.int .i64 0)) (.inr rfl) (.int .i64 0) (.int .i64 0))
      refine bodyPost_ret (res_go rfl _ _ (w.heap.size + 1 + 1) (w.heap.size + 1 + 1 + 1) 0 0 0 0 rfl rfl ?_ ?_) rfl ⟨rfl, ?_⟩
      · exact FF.c
      · exact FF.d
      · exact HK5.out.fresh KK (fun q hq e => by omega)
  | some p =>
    obtain ⟨a, K⟩ := p
    unfold whV tgt at cW
    simp only at cW
    · go_enter Tryz.func24, Tryz.ntmps24
      go_wp2_with (first
        | (go_at_call 49; refine (cK _).mono ?_; rintro e w' ⟨rfl, hw⟩; have hw2 := hw.symm; subst hw2)
        | (go_at_call 39; refine (cP _ HK0.out).mono ?_; rintro e w1 ⟨rfl, hk1⟩; have HK1 := Lib.hid (HK0.out.trans hk1); have HF1 := Lib.hid (HF0.out.kept hk1); have HX1 : Hid (Kept (fun _ => False) w1 (w1.alloc (.cells #[.int .i64 p0, .int .i64 p1] 24))) := (Kept.refl (fun _ => False) w1).alloc _; obtain ⟨a1, a2, a3, ⟨d1, d2, d3, d4⟩, ⟨e1, e2, e3, e4⟩, ⟨g1, g2, g3, g4⟩⟩ := (HF1.out.kept HX1.out).facts; clear hk1)
        | (go_at_call 50; refine (cS _).mono ?_; rintro e w2 ⟨rfl, hk2⟩; have HK2 := Lib.hid ((HK1.out.alloc _).trans hk2); have HF2 := Lib.hid (HF1.out.kept (((Kept.refl (fun _ => False) w1).alloc _).trans hk2)); clear hk2)
        | (go_at_call 42; refine (cC _ HK2.out).mono ?_; rintro e w3 ⟨⟨E3, rfl, _, hE⟩, hk3⟩; obtain rfl : E3 = 0 := hE.2 HO.out; have HK3 := Lib.hid (HK2.out.trans hk3); have HF3 := Lib.hid (HF2.out.kept hk3); obtain ⟨A1, A2, A3, ⟨D1, D2, D3, D4⟩, ⟨E1, E2, E3, E4⟩, ⟨G1, G2, G3, G4⟩⟩ := HF3.out.facts; obtain ⟨U1, U2, U3⟩ := HF3.out.cmd; clear hk3 hE)
        | (go_at_call 56; have HK4 := Lib.hid (HK3.out.fresh (Kept.pair (Kept.refl (fun q => q = w.heap.size + 1 + 1 + 1) w3) rfl (.int .i64 k1) (.int .i64 k2)) (fun q hq e => by omega)); have HF4 := Lib.hid (HF3.out.setX k1 k2); refine (cW _ HK4.out).mono ?_; rintro e w5 ⟨rfl, hk5⟩; have HK5 := Lib.hid (HK4.out.trans hk5); have HF5 := Lib.hid (HF4.out.kept hk5); obtain ⟨x1, x2, x3, ⟨y1, y2, y3, y4⟩, ⟨z1, z2, z3, z4⟩, ⟨v1, v2, v3, v4⟩⟩ := HF5.out.facts; clear hk5))
      go_region
      all_goals
        try go_wp2
        have FF := ((((HF5.out.setT a K).setT a K).setX k1 k2).kept ((Kept.refl (fun _ => False) _).drew))
        have KK := (Kept.pair (g := w.heap.size + 1 + 1 + 1) (Kept.pair (g := w.heap.size + 1 + 1) (Kept.pair (g := w.heap.size + 1 + 1) (Kept.refl (fun q => q = w.heap.size + 1 + 1 ∨ q = w.heap.size + 1 + 1 + 1) w5) (.inl rfl) (.int .i64 a) (.int .i64 K)) (.inl rfl) (.int .i64 a) (.int .i64 K)) (.inr rfl) (.int .i64 k1) (.int .i64 k2)).drew
        refine bodyPost_ret (res_go rfl _ _ (w.heap.size + 1 + 1) (w.heap.size + 1 + 1 + 1) a K k1 k2 rfl rfl ?_ ?_) rfl ⟨rfl, ?_⟩
        · exact FF.c
        · exact FF.d
        · exact HK5.out.fresh KK (fun q hq e => by omega)
end Go.Proofs.YtbofjefblhnkoaaGreatDoor
namespace Go.Proofs.YtbofjefblhnkoaaGreatDoor
open Go Go.RowKit

set_option maxRecDepth 100000 in
set_option maxHeartbeats 1000000 in
theorem pgo_line (s : ByteArray) (k m : Nat) (c0 c2 c3 c4 c5 k1 k2 : Int) (A : Option Addr) (n c : Nat) (M : List (List Int)) (w : World) (hT : Tabs w) (hm : mayB s = true) (hk : k ≤ (rs s).length) (hc : m ≤ 999) (hx : k1 = 0 ∨ Rw.Seek k1) (hA : Rws w A n 2 M) (hn : n ≤ 100000) (ho : Rw.mOk M) (hkey : Rw.kin c3 = 1) :
    Calls Tryz.prog 24 #[.string s, .int .i64 k, cmdV c0 m c2 c3 c4 c5, sekV k1 k2, .slice A n c] w fun e w' => e = .returned (goV (Rw.goM (rs s) k c3 c5 m k1 k2 M)) ∧ Kept (fun _ => False) w w' := by
  have HK0 : Hid (Kept (fun _ => False) w ((((w.alloc (cmdO c0 m c2 c3 c4 c5)).alloc (sekO k1 k2)).alloc (tgtO 0 0)).alloc (sekO 0 0))) := ((((Kept.refl _ w).alloc _).alloc _).alloc _).alloc _
  have HF0 := Lib.hid (four_new w c0 m c2 c3 c4 c5 k1 k2)
  have cK := fun W => kindOf_any c3 W
  rw [hkey] at cK
  have cP := fun W (hk' : Kept (fun _ => False) w W) => place_yes s k W (hT.kept hk' id id) hm hk
  have cS := fun W => mayseek_any k1 k2 W
  rw [decide_eq_true hx] at cS
  have cC := fun W (hk' : Kept (fun _ => False) w W) => pcheck_any A n c M W (hA.kept hk' (fun _ _ => id)) hn
  have HO := Lib.hid ho
  have b1 : decide ((m : Int) < 0) = false := by simp
  have b2 : decide (999 < (m : Int)) = false := by simp; omega
  have b3 : decide (999 < m) = false := by simp; omega
  have hq : max (m : Int) 1 = ((Rw.times m : Nat) : Int) := by unfold Rw.times; omega
  have hq1 : 1 ≤ Rw.times m ∧ Rw.times m ≤ 999 := by unfold Rw.times; omega
  have hw : Rw.Line c3 := Rw.by_line.1 hkey
  have hgo : Rw.goM (rs s) k c3 c5 m k1 k2 M = ((Rw.to (rs s) k c3 m).map fun (a : Nat) => ((a : Int), Rw.kd c3)).map fun p => (p.1, p.2, k1, k2) := by
    unfold Rw.goM
    rw [if_neg (by rw [hkey]; decide), if_neg (by rw [hkey]; decide), if_neg (by rw [hkey]; decide), if_neg (by rw [hkey]; decide), if_neg (by rw [hkey]; decide), if_neg (by rw [hkey]; decide)]
    cases Rw.to (rs s) k c3 m <;> rfl
  have cW := fun W (hk' : Kept (fun _ => False) w W) => move_yes s k m c3 W (hT.kept hk' id id) hm hk hc hw
  simp only [ans_wh] at cW
  rw [hgo]
  obtain ⟨o, hoo⟩ : ∃ o, ((Rw.to (rs s) k c3 m).map fun (a : Nat) => ((a : Int), Rw.kd c3)) = o := ⟨_, rfl⟩
  rw [hoo]
  simp only [hoo] at cW
  clear hT hw hgo hoo hA ho
  generalize Rw.times m = q at *
  generalize Rw.nl (rs s) k = p0 at *
  generalize k - Rw.beg (rs s) k = p1 at *
  clear hkey hx
  cases o with
  | none =>
    unfold whV tgt at cW
    simp only at cW
    · go_enter Tryz.func24, Tryz.ntmps24
      go_wp2_with (first
        | (go_at_call 49; refine (cK _).mono ?_; rintro e w' ⟨rfl, hw⟩; have hw2 := hw.symm; subst hw2)
        | (go_at_call 39; refine (cP _ HK0.out).mono ?_; rintro e w1 ⟨rfl, hk1⟩; have HK1 := Lib.hid (HK0.out.trans hk1); have HF1 := Lib.hid (HF0.out.kept hk1); have HX1 : Hid (Kept (fun _ => False) w1 (w1.alloc (.cells #[.int .i64 p0, .int .i64 p1] 24))) := (Kept.refl (fun _ => False) w1).alloc _; obtain ⟨a1, a2, a3, ⟨d1, d2, d3, d4⟩, ⟨e1, e2, e3, e4⟩, ⟨g1, g2, g3, g4⟩⟩ := (HF1.out.kept HX1.out).facts; clear hk1)
        | (go_at_call 50; refine (cS _).mono ?_; rintro e w2 ⟨rfl, hk2⟩; have HK2 := Lib.hid ((HK1.out.alloc _).trans hk2); have HF2 := Lib.hid (HF1.out.kept (((Kept.refl (fun _ => False) w1).alloc _).trans hk2)); clear hk2)
        | (go_at_call 42; refine (cC _ HK2.out).mono ?_; rintro e w3 ⟨⟨E3, rfl, _, hE⟩, hk3⟩; obtain rfl : E3 = 0 := hE.2 HO.out; have HK3 := Lib.hid (HK2.out.trans hk3); have HF3 := Lib.hid (HF2.out.kept hk3); obtain ⟨A1, A2, A3, ⟨D1, D2, D3, D4⟩, ⟨E1, E2, E3, E4⟩, ⟨G1, G2, G3, G4⟩⟩ := HF3.out.facts; clear hk3 hE)
        | (go_at_call 57; have HK4 := Lib.hid (HK3.out.fresh (Kept.pair (Kept.refl (fun q => q = w.heap.size + 1 + 1 + 1) w3) rfl (.int .i64 k1) (.int .i64 k2)) (fun q hq e => by omega)); have HF4 := Lib.hid (HF3.out.setX k1 k2); refine (cW _ HK4.out).mono ?_; rintro e w5 ⟨rfl, hk5⟩; have HK5 := Lib.hid (HK4.out.trans hk5); have HF5 := Lib.hid (HF4.out.kept hk5); obtain ⟨x1, x2, x3, ⟨y1, y2, y3, y4⟩, ⟨z1, z2, z3, z4⟩, ⟨v1, v2, v3, v4⟩⟩ := HF5.out.facts; clear hk5))
      have FF := (((HF5.out.setT 0 0).setT 0 0).setX 0 0)
      have KK := (Kept.pair (g := w.heap.size + 1 + 1 + 1) (Kept.pair (g := w.heap.size + 1 + 1) (Kept.pair (g := w.heap.size + 1 + 1) (Kept.refl (fun q => q = w.heap.size + 1 + 1 ∨ q = w.heap.size + 1 + 1 + 1) w5) (.inl rfl) (.int .i64 0) (.int .i64 0)) (.inl rfl) (.int .i64 0) (.int .i64 0)) (.inr rfl) (.int .i64 0) (.int .i64 0))
      refine bodyPost_ret (res_go rfl _ _ (w.heap.size + 1 + 1) (w.heap.size + 1 + 1 + 1) 0 0 0 0 rfl rfl ?_ ?_) rfl ⟨rfl, ?_⟩
      · exact FF.c
      · exact FF.d
      · exact HK5.out.fresh KK (fun q hq e => by omega)
  | some p =>
    obtain ⟨a, K⟩ := p
    unfold whV tgt at cW
    simp only at cW
    · go_enter Tryz.func24, Tryz.ntmps24
      go_wp2_with (first
        | (go_at_call 49; refine (cK _).mono ?_; rintro e w' ⟨rfl, hw⟩; have hw2 := hw.symm; subst hw2)
        | (go_at_call 39; refine (cP _ HK0.out).mono ?_; rintro e w1 ⟨rfl, hk1⟩; have HK1 := Lib.hid (HK0.out.trans hk1); have HF1 := Lib.hid (HF0.out.kept hk1); have HX1 : Hid (Kept (fun _ => False) w1 (w1.alloc (.cells #[.int .i64 p0, .int .i64 p1] 24))) := (Kept.refl (fun _ => False) w1).alloc _; obtain ⟨a1, a2, a3, ⟨d1, d2, d3, d4⟩, ⟨e1, e2, e3, e4⟩, ⟨g1, g2, g3, g4⟩⟩ := (HF1.out.kept HX1.out).facts; clear hk1)
        | (go_at_call 50; refine (cS _).mono ?_; rintro e w2 ⟨rfl, hk2⟩; have HK2 := Lib.hid ((HK1.out.alloc _).trans hk2); have HF2 := Lib.hid (HF1.out.kept (((Kept.refl (fun _ => False) w1).alloc _).trans hk2)); clear hk2)
        | (go_at_call 42; refine (cC _ HK2.out).mono ?_; rintro e w3 ⟨⟨E3, rfl, _, hE⟩, hk3⟩; obtain rfl : E3 = 0 := hE.2 HO.out; have HK3 := Lib.hid (HK2.out.trans hk3); have HF3 := Lib.hid (HF2.out.kept hk3); obtain ⟨A1, A2, A3, ⟨D1, D2, D3, D4⟩, ⟨E1, E2, E3, E4⟩, ⟨G1, G2, G3, G4⟩⟩ := HF3.out.facts; clear hk3 hE)
        | (go_at_call 57; have HK4 := Lib.hid (HK3.out.fresh (Kept.pair (Kept.refl (fun q => q = w.heap.size + 1 + 1 + 1) w3) rfl (.int .i64 k1) (.int .i64 k2)) (fun q hq e => by omega)); have HF4 := Lib.hid (HF3.out.setX k1 k2); refine (cW _ HK4.out).mono ?_; rintro e w5 ⟨rfl, hk5⟩; have HK5 := Lib.hid (HK4.out.trans hk5); have HF5 := Lib.hid (HF4.out.kept hk5); obtain ⟨x1, x2, x3, ⟨y1, y2, y3, y4⟩, ⟨z1, z2, z3, z4⟩, ⟨v1, v2, v3, v4⟩⟩ := HF5.out.facts; clear hk5))
      go_region
      all_goals
        try go_wp2
        have FF := ((((HF5.out.setT a K).setT a K).setX k1 k2).kept ((Kept.refl (fun _ => False) _).drew))
        have KK := (Kept.pair (g := w.heap.size + 1 + 1 + 1) (Kept.pair (g := w.heap.size + 1 + 1) (Kept.pair (g := w.heap.size + 1 + 1) (Kept.refl (fun q => q = w.heap.size + 1 + 1 ∨ q = w.heap.size + 1 + 1 + 1) w5) (.inl rfl) (.int .i64 a) (.int .i64 K)) (.inl rfl) (.int .i64 a) (.int .i64 K)) (.inr rfl) (.int .i64 k1) (.int .i64 k2)).drew
        refine bodyPost_ret (res_go rfl _ _ (w.heap.size + 1 + 1) (w.heap.size + 1 + 1 + 1) a K k1 k2 rfl rfl ?_ ?_) rfl ⟨rfl, ?_⟩
        · exact FF.c
        · exact FF.d
        · exact HK5.out.fresh KK (fun q hq e => by omega)
end Go.Proofs.YtbofjefblhnkoaaGreatDoor
namespace Go.Proofs.YtbofjefblhnkoaaGreatDoor
open Go Go.RowKit

theorem below_any (A : Option Addr) (n c : Nat) (t : List Int) (k : Nat) (w : World) (hA : Rn w A n t) (hk : k ≤ n) (hn : n ≤ 100000) :
    Calls Tryz.prog 92 #[.slice A n c, .int .i64 k] w fun e w' => e = .returned (.int .i64 (Rw.pdn t (n + 1) k : Nat)) ∧ w' = w := by
  have HA := Lib.hid hA
  have cR := fun (x : Nat) (hx : x ≤ n) => row_any A n c t x w hA hx hn
  have hl := hA.1
  have HL := Lib.hid hl
  clear hA hl
  have cR0 := cR k hk
  generalize hD : Rw.pdn t (n + 1) k = D
  have HD := Lib.hid hD
  clear hD
  go_enter Tryz.func92, Tryz.ntmps92
  go_wp2_with (go_at_call 35; refine cR0.mono ?_; rintro e w' ⟨rfl, rfl⟩; clear cR0)
  go_loop [5, 6] (fun v u => ∃ (x F : Nat), x ≤ n ∧ n + 1 ≤ F + x ∧ v = .int .i64 (Rw.beg t x : Nat) ∧ u = .int .i64 (Rw.en t x : Nat) ∧ Rw.pdn t F x = D) (fun _ u => n - (intOf u).toNat)
  case atStart => exact ⟨k, n + 1, hk, by omega, rfl, rfl, HD.out⟩
  case round =>
    obtain ⟨x, F, hx, hF, rfl, rfl, hd⟩ := hrel
    obtain ⟨f, rfl⟩ : ∃ f, F = f + 1 := ⟨F - 1, by omega⟩
    have HX := Lib.hid hd
    clear hd
    have hle := Rw.en_le t x (by rw [HL.out]; exact hx)
    rw [HL.out] at hle
    have hge := Rw.en_ge t x
    have hbe := Rw.beg_le t x
    by_cases he : Rw.en t x = n
    · have HE : Hid (D = n) := by show _ = _; rw [← HX.out, Rw.pdn_end (by rw [HL.out]; exact he), HL.out]
      have d1 : decide (Rw.en t x < n) = false := by simp; omega
      generalize Rw.en t x = e0 at *
      generalize Rw.beg t x = b0 at *
      clear he cR
      go_wp2
      go_ret
      rw [HE.out]
      exact ⟨rfl, rfl⟩
    · have hlt : Rw.en t x < n := by omega
      have d1 : decide (Rw.en t x < n) = true := by simp; omega
      have hle2 := Rw.en_le t (Rw.en t x + 1) (by rw [HL.out]; omega)
      rw [HL.out] at hle2
      have hge2 := Rw.en_ge t (Rw.en t x + 1)
      have hby : Rw.beg t (Rw.en t x + 1) = Rw.en t x + 1 := Rw.beg_stop (Rw.en_at t x (by rw [HL.out]; exact hlt))
      have cX := cR (Rw.en t x + 1) (by omega)
      have hHit : Hid (Rw.beg t x < Rw.en t x → Rw.en t (Rw.en t x + 1) = Rw.en t x + 1 → D = Rw.en t x + 1) := fun h1 h2 => by rw [← HX.out, Rw.pdn_hit (by rw [HL.out]; exact he) h1 h2]
      have hNext : Hid (¬ (Rw.beg t x < Rw.en t x ∧ Rw.en t (Rw.en t x + 1) = Rw.en t x + 1) → Rw.pdn t f (Rw.en t x + 1) = D) := fun h => by rw [← HX.out, Rw.pdn_next (by rw [HL.out]; exact he) h]
      have hrel2 : Hid (∀ e1, e1 = Rw.en t (Rw.en t x + 1) → (Rw.pdn t f (Rw.en t x + 1) = D) → ∃ (x' F' : Nat), x' ≤ n ∧ n + 1 ≤ F' + x' ∧ Value.int .i64 ((Rw.en t x : Int) + 1) = .int .i64 (Rw.beg t x' : Nat) ∧ Value.int .i64 (e1 : Nat) = .int .i64 (Rw.en t x' : Nat) ∧ Rw.pdn t F' x' = D) := fun e1 h1 h2 => ⟨Rw.en t x + 1, f, by omega, by omega, by rw [hby, show ((Rw.en t x + 1 : Nat) : Int) = (Rw.en t x : Int) + 1 by omega], by rw [h1], h2⟩
      rw [hby] at cX
      clear cR he hby
      generalize hee : Rw.en t (Rw.en t x + 1) = e1 at *
      have HEE := Lib.hid hee.symm
      clear hee
      generalize Rw.beg t x = b0 at *
      by_cases h1 : b0 < Rw.en t x
      · have d2 : decide (b0 < Rw.en t x) = true := by simp; omega
        by_cases h2 : e1 = Rw.en t x + 1
        · have HE : Hid (D = Rw.en t x + 1) := hHit.out h1 h2
          clear hHit hNext hrel2 HX
          subst h2
          clear HEE
          generalize Rw.en t x = e0 at *
          go_wp2_with (go_at_call 35; refine cX.mono ?_; rintro e w' ⟨rfl, rfl⟩)
          go_ret
          rw [HE.out]
          exact ⟨rfl, rfl⟩
        · have HR := Lib.hid (hrel2.out e1 rfl (hNext.out (by omega)))
          have d3 : ((Rw.en t x + 1 : Nat) == e1) = false := by rw [beq_eq_false_iff_ne]; omega
          have d4 : (((Rw.en t x : Int) + 1) == (e1 : Int)) = false := by rw [beq_eq_false_iff_ne]; omega
          clear hHit hNext hrel2 HX HEE
          generalize Rw.en t x = e0 at *
          go_wp2_with (go_at_call 35; refine cX.mono ?_; rintro e w' ⟨rfl, rfl⟩)
          go_round
          case rel => exact HR.out
          case measure => simp [intOf]; omega
      · have d2 : decide (b0 < Rw.en t x) = false := by simp; omega
        have HR := Lib.hid (hrel2.out e1 rfl (hNext.out (by omega)))
        clear hHit hNext hrel2 HX HEE
        generalize Rw.en t x = e0 at *
        go_wp2_with (go_at_call 35; refine cX.mono ?_; rintro e w' ⟨rfl, rfl⟩)
        go_round
        case rel => exact HR.out
        case measure => simp [intOf]; omega
theorem above_any (A : Option Addr) (n c : Nat) (t : List Int) (k : Nat) (w : World) (hA : Rn w A n t) (hk : k ≤ n) (hn : n ≤ 100000) :
    Calls Tryz.prog 93 #[.slice A n c, .int .i64 k] w fun e w' => e = .returned (.int .i64 (Rw.pup t (n + 1) k : Nat)) ∧ w' = w := by
  have HA := Lib.hid hA
  have cR := fun (x : Nat) (hx : x ≤ n) => row_any A n c t x w hA hx hn
  clear hA
  have cR0 := cR k hk
  generalize hD : Rw.pup t (n + 1) k = D
  have HD := Lib.hid hD
  clear hD
  go_enter Tryz.func93, Tryz.ntmps93
  go_wp2_with (go_at_call 35; refine cR0.mono ?_; rintro e w' ⟨rfl, rfl⟩; clear cR0)
  go_loop [5, 6] (fun v u => ∃ (x F : Nat), x ≤ n ∧ x + 1 ≤ F ∧ v = .int .i64 (Rw.beg t x : Nat) ∧ u = .int .i64 (Rw.en t x : Nat) ∧ Rw.pup t F x = D) (fun v _ => (intOf v).toNat)
  case atStart => exact ⟨k, n + 1, hk, by omega, rfl, rfl, HD.out⟩
  case round =>
    obtain ⟨x, F, hx, hF, rfl, rfl, hd⟩ := hrel
    obtain ⟨f, rfl⟩ : ∃ f, F = f + 1 := ⟨F - 1, by omega⟩
    have HX := Lib.hid hd
    clear hd
    have hge := Rw.en_ge t x
    have hbe := Rw.beg_le t x
    by_cases he : Rw.beg t x = 0
    · have HE : Hid (D = 0) := by show _ = _; rw [← HX.out, Rw.pup_end he]
      clear cR
      rw [he]
      clear he
      go_wp2
      go_ret
      rw [HE.out]
      exact ⟨rfl, rfl⟩
    · have cX := cR (Rw.beg t x - 1) (by omega)
      have hen := Rw.en_above he
      have hbl := Rw.beg_le t (Rw.beg t x - 1)
      rw [hen] at cX
      have hHit : Hid (Rw.beg t x < Rw.en t x → Rw.beg t (Rw.beg t x - 1) = Rw.beg t x - 1 → D = Rw.beg t x - 1) := fun h1 h2 => by rw [← HX.out, Rw.pup_hit he h1 h2]
      have hNext : Hid (¬ (Rw.beg t x < Rw.en t x ∧ Rw.beg t (Rw.beg t x - 1) = Rw.beg t x - 1) → Rw.pup t f (Rw.beg t x - 1) = D) := fun h => by rw [← HX.out, Rw.pup_next he h]
      have hrel2 : Hid (∀ b1, b1 = Rw.beg t (Rw.beg t x - 1) → Rw.pup t f (Rw.beg t x - 1) = D → ∃ (x' F' : Nat), x' ≤ n ∧ x' + 1 ≤ F' ∧ Value.int .i64 (b1 : Nat) = .int .i64 (Rw.beg t x' : Nat) ∧ Value.int .i64 (Rw.beg t x - 1 : Nat) = .int .i64 (Rw.en t x' : Nat) ∧ Rw.pup t F' x' = D) := fun b1 h1 h2 => ⟨Rw.beg t x - 1, f, by omega, by omega, by rw [h1], by rw [hen], h2⟩
      clear cR hen
      generalize hbb : Rw.beg t (Rw.beg t x - 1) = b1 at *
      have HBB := Lib.hid hbb.symm
      clear hbb
      generalize Rw.en t x = e0 at *
      generalize Rw.beg t x = bb at *
      obtain ⟨b0, rfl⟩ : ∃ b0, bb = b0 + 1 := ⟨bb - 1, by omega⟩
      simp only [Nat.add_sub_cancel] at *
      clear he
      by_cases h1 : b0 + 1 < e0
      · have d2 : decide (b0 + 1 < e0) = true := by simp; omega
        have d5 : decide ((b0 : Int) + 1 < (e0 : Int)) = true := by simp; omega
        by_cases h2 : b1 = b0
        · have HE : Hid (D = b0) := hHit.out h1 h2
          clear hHit hNext hrel2 HX HBB
          subst h2
          go_wp2_with (go_at_call 35; refine cX.mono ?_; rintro e w' ⟨rfl, rfl⟩)
          go_ret
          rw [HE.out]
          exact ⟨rfl, rfl⟩
        · have HR := Lib.hid (hrel2.out b1 rfl (hNext.out (by omega)))
          have d3 : (b1 == b0) = false := by rw [beq_eq_false_iff_ne]; omega
          have d4 : ((b1 : Int) == (b0 : Int)) = false := by rw [beq_eq_false_iff_ne]; omega
          clear hHit hNext hrel2 HX HBB
          go_wp2_with (go_at_call 35; refine cX.mono ?_; rintro e w' ⟨rfl, rfl⟩)
          go_round
          case rel => exact HR.out
          case measure => simp [intOf]; omega
      · have d2 : decide (b0 + 1 < e0) = false := by simp; omega
        have d5 : decide ((b0 : Int) + 1 < (e0 : Int)) = false := by simp; omega
        have HR := Lib.hid (hrel2.out b1 rfl (hNext.out (by omega)))
        clear hHit hNext hrel2 HX HBB
        go_wp2_with (go_at_call 35; refine cX.mono ?_; rintro e w' ⟨rfl, rfl⟩)
        go_round
        case rel => exact HR.out
        case measure => simp [intOf]; omega
theorem bare_any (A : Option Addr) (n c : Nat) (t : List Int) (k : Nat) (w : World) (hA : Rn w A n t) (hk : k ≤ n) (hn : n ≤ 100000) :
    Calls Tryz.prog 109 #[.slice A n c, .int .i64 k] w fun e w' => e = .returned (.bool (decide (Rw.beg t k = Rw.en t k))) ∧ w' = w := by
  have cB := rbegin_any A n c t k w hA hk hn
  have cE := rend_any A n c t k w hA hk hn
  generalize Rw.beg t k = b at *
  generalize Rw.en t k = h at *
  by_cases hbe : b = h
  · subst hbe
    rw [decide_eq_true rfl]
    go_enter Tryz.func109, Tryz.ntmps109
    go_wp2_with (go_at_call 36; refine cB.mono ?_; rintro e w' ⟨rfl, rfl⟩)
    refine cE.mono ?_
    rintro e w' ⟨rfl, rfl⟩
    go_wp2_with fail
    go_ret
    exact ⟨rfl, rfl⟩
  · rw [decide_eq_false hbe]
    have d1 : (b == h) = false := by rw [beq_eq_false_iff_ne]; exact hbe
    have d2 : ((b : Int) == (h : Int)) = false := by rw [beq_eq_false_iff_ne]; omega
    clear hbe
    go_enter Tryz.func109, Tryz.ntmps109
    go_wp2_with (go_at_call 36; refine cB.mono ?_; rintro e w' ⟨rfl, rfl⟩)
    refine cE.mono ?_
    rintro e w' ⟨rfl, rfl⟩
    go_wp2_with fail
    go_ret
    exact ⟨rfl, rfl⟩
end Go.Proofs.YtbofjefblhnkoaaGreatDoor
namespace Go.Proofs.YtbofjefblhnkoaaGreatDoor.Pa
open Go Go.RowKit

/-- What is told of where a motion leads. -/
def ansN (x k : Nat) : Value := if x = k then .tuple #[.int .i64 0, .int .i64 6] else .tuple #[.int .i64 x, .int .i64 0]
theorem pst_125 (t : List Int) (k : Nat) : Rw.pst t 125 k = Rw.pdn t (t.length + 1) k := rfl
theorem pst_123 (t : List Int) (k : Nat) : Rw.pst t 123 k = Rw.pup t (t.length + 1) k := rfl
theorem pmove_yes (s : ByteArray) (k cnt : Nat) (key : Int) (w : World) (hT : Tabs w) (hm : mayB s = true) (hk : k ≤ (rs s).length) (hc1 : 1 ≤ cnt) (hc2 : cnt ≤ 999) (hkey : key = 123 ∨ key = 125) :
    Calls Tryz.prog 54 #[.string s, .int .i64 k, .int .i64 key, .int .i64 cnt] w fun e w' => Kept (fun _ => False) w w' ∧ e = .returned (ansN (Rw.pmv (rs s) (Rw.pst (rs s) key) cnt k) k) := by
  have cU := runes_yes s k w hT hm hk
  have hl := rs_len s
  have hsz := mayB_size hm
  generalize rs s = t at *
  clear hT hm
  generalize hn : t.length = n at *
  have HN := Lib.hid hn
  have HP := Lib.hid (fun x (hx : x ≤ n) => Rw.pst_le t key x (by rw [hn]; exact hx))
  obtain ⟨D, hD⟩ : ∃ D, Rw.pmv t (Rw.pst t key) cnt k = D := ⟨_, rfl⟩
  rw [hD]
  have HD := Lib.hid hD
  have b1 : decide ((cnt : Int) < 1) = false := by simp; omega
  have b2 : decide (999 < (cnt : Int)) = false := by simp; omega
  have b3 : decide (cnt < 1) = false := by simp; omega
  have b4 : decide (999 < cnt) = false := by simp; omega
  have b5 : decide (cnt = 0) = false := by simp; omega
  clear hD hn
  rcases hkey with rfl | rfl
  all_goals
    go_enter Tryz.func54, Tryz.ntmps54
    go_wp2_with (go_at_call 34; refine cU.mono ?_; rintro e w1 ⟨hk1, bb, cap, rfl, hbg, hR⟩)
    have HKW := Lib.hid hk1
    have HA := Lib.hid hR
    clear cU hk1 hR
    go_loop [12, 3] (fun v u => ∃ x C : Nat, x ≤ n ∧ C ≤ 999 ∧ v = .int .i64 x ∧ u = .int .i64 C ∧ Rw.pmv t (Rw.pst t _) C x = D) (fun _ u => (intOf u).toNat)
    case atStart => exact ⟨k, cnt, hk, hc2, rfl, rfl, HD.out⟩
    case round =>
      obtain ⟨x, C, hx, hC, rfl, rfl, hd⟩ := hrel
      have HX := Lib.hid hd
      clear hd
      by_cases h0 : C = 0
      · subst h0
        have HE : Hid (D = x) := HX.out.symm
        by_cases hxk : x = k
        · subst hxk
          go_wp2
          refine bodyPost_ret (v := .tuple #[.int .i64 0, .int .i64 6]) (by simp [results, Tryz.results54, go_sem]) rfl ⟨HKW.out, ?_⟩
          rw [HE.out]
          unfold ansN
          rw [if_pos rfl]
        · have d1 : (x == k) = false := by rw [beq_eq_false_iff_ne]; exact hxk
          have d2 : ((x : Int) == (k : Int)) = false := by rw [beq_eq_false_iff_ne]; omega
          have HXK := Lib.hid hxk
          clear hxk
          go_wp2
          refine bodyPost_ret (v := .tuple #[.int .i64 (x : Nat), .int .i64 0]) (by simp [results, Tryz.results54, go_sem]) rfl ⟨HKW.out, ?_⟩
          rw [HE.out]
          unfold ansN
          rw [if_neg HXK.out]
      · obtain ⟨c', rfl⟩ : ∃ c', C = c' + 1 := ⟨C - 1, by omega⟩
        clear h0
        have cB := below_any (some ⟨bb, 0, none⟩) n cap t x _ HA.out hx (by omega)
        have cA := above_any (some ⟨bb, 0, none⟩) n cap t x _ HA.out hx (by omega)
        rw [← HN.out] at cB cA
        first
          | (rw [← pst_125] at cB
             have HE : Hid (Rw.pmv t (Rw.pst t 125) c' (Rw.pst t 125 x) = D) := HX.out
             have hp := HP.out x hx
             rw [HN.out] at *
             generalize Rw.pst t 125 x = x' at *
             go_wp2_with (go_at_call 92; refine cB.mono ?_; rintro e w' ⟨rfl, rfl⟩)
             go_round
             case rel => exact ⟨x', c', by omega, by omega, rfl, by go_num, HE.out⟩
             case measure => simp [intOf])
          | (rw [← pst_123] at cA
             have HE : Hid (Rw.pmv t (Rw.pst t 123) c' (Rw.pst t 123 x) = D) := HX.out
             have hp := HP.out x hx
             rw [HN.out] at *
             generalize Rw.pst t 123 x = x' at *
             go_wp2_with (go_at_call 93; refine cA.mono ?_; rintro e w' ⟨rfl, rfl⟩)
             go_round
             case rel => exact ⟨x', c', by omega, by omega, rfl, by go_num, HE.out⟩
             case measure => simp [intOf])
end Go.Proofs.YtbofjefblhnkoaaGreatDoor.Pa
namespace Go.Proofs.YtbofjefblhnkoaaGreatDoor.Pa
open Go Go.RowKit

theorem pst_fix125 (t : List Int) : Rw.pst t 125 t.length = t.length := by
  rw [pst_125, Rw.pdn_end (Rw.en_end (Nat.le_refl _))]
theorem pst_fix123 (t : List Int) : Rw.pst t 123 0 = 0 := by
  rw [pst_123, Rw.pup_end rfl]
set_option maxHeartbeats 1000000 in
theorem rp125_any (A : Option Addr) (n c : Nat) (t : List Int) (k cnt : Nat) (w : World) (hA : Rn w A n t) (hk : k ≤ n) (hn : n ≤ 100000) (hc1 : 1 ≤ cnt) (hc2 : cnt ≤ 999) :
    Calls Tryz.prog 72 #[.slice A n c, .int .i64 k, .int .i64 125, .int .i64 cnt] w fun e w' => e = .returned (ansN (Rw.pmv t (Rw.pst t 125) cnt k) k) ∧ w' = w := by
  have HA := Lib.hid hA
  have hl := hA.1
  have HL := Lib.hid hl
  have HP := Lib.hid (fun x (hx : x ≤ n) => Rw.pst_le t 125 x (by rw [hl]; exact hx))
  have HFX : Hid (Rw.pst t 125 n = n) := by show _ = _; rw [← HL.out]; exact pst_fix125 t
  clear hA hl
  obtain ⟨D, hD⟩ : ∃ D, Rw.pmv t (Rw.pst t 125) cnt k = D := ⟨_, rfl⟩
  rw [hD]
  have HD := Lib.hid hD
  clear hD
  go_enter Tryz.func72, Tryz.ntmps72
  go_wp2
  go_loop [10, 11] (fun v u => ∃ x N : Nat, x ≤ n ∧ N ≤ cnt ∧ v = .int .i64 x ∧ u = .int .i64 N ∧ Rw.pmv t (Rw.pst t 125) (cnt - N) x = D) (fun _ u => cnt - (intOf u).toNat)
  case atStart => exact ⟨k, 0, hk, Nat.zero_le _, rfl, rfl, HD.out⟩
  case round =>
    obtain ⟨x, N, hx, hN, rfl, rfl, hd⟩ := hrel
    have HX := Lib.hid hd
    clear hd
    by_cases h0 : N < cnt
    · have d0 : decide (N < cnt) = true := by simp; omega
      have hstep : Hid (Rw.pmv t (Rw.pst t 125) (cnt - (N + 1)) (Rw.pst t 125 x) = D) := by
        show _ = _
        rw [← HX.out, show cnt - N = (cnt - (N + 1)) + 1 by omega]
        rfl
      have hpx := HP.out x hx
      rw [HL.out] at hpx
      have hG : Hid (Rw.pst t 125 x = Rw.pdn t (n + 1) x) := by show _ = _; rw [← HL.out]; rfl
      have cB := rbegin_any A n c t x w HA.out hx hn
      generalize hg : Rw.pst t 125 x = G at *
      clear hg
      go_wp2_with (go_at_call 36; refine cB.mono ?_; rintro e w' ⟨rfl, rfl⟩; clear cB)
      go_loop [14, 15, 16] (fun a b _ => ∃ (y F : Nat), y ≤ n ∧ n + 1 ≤ F + y ∧ a = .int .i64 (n : Nat) ∧ b = .int .i64 (Rw.beg t y : Nat) ∧ Rw.pdn t F y = G) (fun _ b _ => n - (intOf b).toNat)
      case atStart => exact ⟨x, n + 1, hx, by omega, rfl, rfl, hG.out.symm⟩
      case round =>
        obtain ⟨y, F, hy, hF, rfl, rfl, hd⟩ := hrel
        obtain ⟨f, rfl⟩ : ∃ f, F = f + 1 := ⟨F - 1, by omega⟩
        have HY := Lib.hid hd
        clear hd
        have hle := Rw.en_le t y (by rw [HL.out]; exact hy)
        rw [HL.out] at hle
        have hbe := Rw.beg_le t y
        have hge := Rw.en_ge t y
        have cD := rdown_any A n c t (Rw.beg t y) 1 w' HA.out (by omega) hn (by decide)
        rw [Rw.dn_beg t y (by rw [HL.out]; exact hy), Rw.dn_one t y (by rw [HL.out]; exact hy), HL.out, show ((1 : Nat) : Int) = 1 from rfl] at cD
        by_cases he : Rw.en t y = n
        · rw [if_pos he] at cD
          unfold rowOf at cD
          simp only at cD
          have hgn : G = n := by rw [← HY.out, Rw.pdn_end (by rw [HL.out]; exact he), HL.out]
          have HE : Hid (D = n) := by show _ = _; rw [← hstep.out, hgn]; exact Rw.pmv_fix t _ n HFX.out _
          clear he hgn hstep HY HX hpx
          generalize Rw.beg t y = b0 at *
          generalize Rw.en t y = e0 at *
          by_cases hzk : n = k
          · subst hzk
            go_wp2_with (go_at_call 68; refine cD.mono ?_; rintro e w' ⟨rfl, rfl⟩)
            refine bodyPost_ret (v := .tuple #[.int .i64 0, .int .i64 6]) (by simp [results, Tryz.results72, go_sem]) rfl ⟨?_, rfl⟩
            rw [HE.out]
            unfold ansN
            rw [if_pos rfl]
          · have z1 : (n == k) = false := by rw [beq_eq_false_iff_ne]; exact hzk
            have z2 : ((n : Int) == (k : Int)) = false := by rw [beq_eq_false_iff_ne]; omega
            have HZK := Lib.hid hzk
            clear hzk
            go_wp2_with (go_at_call 68; refine cD.mono ?_; rintro e w' ⟨rfl, rfl⟩)
            refine bodyPost_ret (v := .tuple #[.int .i64 (n : Nat), .int .i64 0]) (by simp [results, Tryz.results72, go_sem]) rfl ⟨?_, rfl⟩
            rw [HE.out]
            unfold ansN
            rw [if_neg HZK.out]
        · rw [if_neg he] at cD
          unfold rowOf at cD
          simp only at cD
          have hlt : Rw.en t y < n := by omega
          have hby : Rw.beg t (Rw.en t y + 1) = Rw.en t y + 1 := Rw.beg_stop (Rw.en_at t y (by rw [HL.out]; exact hlt))
          have cN := bare_any A n c t (Rw.en t y + 1) w' HA.out (by omega) hn
          have cL := bare_any A n c t (Rw.beg t y) w' HA.out (by omega) hn
          rw [hby] at cN
          rw [Rw.beg_beg, Rw.en_beg t y (by rw [HL.out]; exact hy)] at cL
          by_cases hit : Rw.beg t y < Rw.en t y ∧ Rw.en t (Rw.en t y + 1) = Rw.en t y + 1
          · obtain ⟨hi1, hi2⟩ := hit
            have hgn : G = Rw.en t y + 1 := by rw [← HY.out, Rw.pdn_hit (by rw [HL.out]; exact he) hi1 hi2]
            rw [decide_eq_true hi2.symm, show ((Rw.en t y + 1 : Nat) : Int) = (Rw.en t y : Int) + 1 by omega] at cN
            rw [decide_eq_false (by omega)] at cL
            have hstep' : Hid (Rw.pmv t (Rw.pst t 125) (cnt - (N + 1)) (Rw.en t y + 1) = D) := by show _ = _; rw [← hgn]; exact hstep.out
            clear hgn hstep HY HX hpx he hi1 hi2 hby
            generalize Rw.beg t y = b0 at *
            generalize Rw.en t y = e0 at *
            by_cases hedge : e0 + 1 = n
            · have HE : Hid (D = n) := by show _ = _; rw [← hstep'.out, hedge]; exact Rw.pmv_fix t _ n HFX.out _
              clear hstep'
              subst hedge
              by_cases hzk : (e0 + 1) = k
              · subst hzk
                go_wp2_with (go_at_call 68; refine cD.mono ?_; rintro e w' ⟨rfl, rfl⟩)
                refine cN.mono ?_
                rintro e w' ⟨rfl, rfl⟩
                go_wp2_with fail
                refine cL.mono ?_
                rintro e w' ⟨rfl, rfl⟩
                go_wp2_with fail
                refine bodyPost_ret (v := .tuple #[.int .i64 0, .int .i64 6]) (by simp [results, Tryz.results72, go_sem]) rfl ⟨?_, rfl⟩
                rw [HE.out]
                unfold ansN
                rw [if_pos rfl]
              · have z1 : ((e0 + 1) == k) = false := by rw [beq_eq_false_iff_ne]; exact hzk
                have z2 : (((e0 + 1) : Int) == (k : Int)) = false := by rw [beq_eq_false_iff_ne]; omega
                have HZK := Lib.hid hzk
                clear hzk
                go_wp2_with (go_at_call 68; refine cD.mono ?_; rintro e w' ⟨rfl, rfl⟩)
                refine cN.mono ?_
                rintro e w' ⟨rfl, rfl⟩
                go_wp2_with fail
                refine cL.mono ?_
                rintro e w' ⟨rfl, rfl⟩
                go_wp2_with fail
                refine bodyPost_ret (v := .tuple #[.int .i64 ((e0 + 1) : Nat), .int .i64 0]) (by simp [results, Tryz.results72, go_sem]) rfl ⟨?_, rfl⟩
                rw [HE.out]
                unfold ansN
                rw [if_neg HZK.out]
            · have g1 : ((e0 : Int) + 1 == (n : Int)) = false := by rw [beq_eq_false_iff_ne]; omega
              have g2 : ((e0 + 1 : Nat) == n) = false := by rw [beq_eq_false_iff_ne]; exact hedge
              clear hedge
              go_wp2_with (go_at_call 68; refine cD.mono ?_; rintro e w' ⟨rfl, rfl⟩)
              refine cN.mono ?_
              rintro e w' ⟨rfl, rfl⟩
              go_wp2_with fail
              refine cL.mono ?_
              rintro e w' ⟨rfl, rfl⟩
              go_wp2_with fail
              go_round
              case rel => exact ⟨e0 + 1, N + 1, by omega, by omega, by go_num, by go_num, hstep'.out⟩
              case measure => simp [intOf]; omega
          · have hgn : Hid (Rw.pdn t f (Rw.en t y + 1) = G) := by show _ = _; rw [← HY.out, Rw.pdn_next (by rw [HL.out]; exact he) hit]
            have hby' : Hid (((Rw.beg t (Rw.en t y + 1) : Nat) : Int) = (Rw.en t y : Int) + 1) := by show _ = _; rw [hby]; omega
            have hmeas : Rw.en t y + 1 ≤ n := by omega
            rw [show ((Rw.en t y + 1 : Nat) : Int) = (Rw.en t y : Int) + 1 by omega] at cN
            by_cases hi2 : Rw.en t y + 1 = Rw.en t (Rw.en t y + 1)
            · rw [decide_eq_true hi2] at cN
              rw [decide_eq_true (show Rw.beg t y = Rw.en t y by omega)] at cL
              clear HY HX hpx he hit hi2 hby
              generalize Rw.beg t y = b0 at *
              generalize Rw.en t y = e0 at *
              go_wp2_with (go_at_call 68; refine cD.mono ?_; rintro e w' ⟨rfl, rfl⟩)
              refine cN.mono ?_
              rintro e w' ⟨rfl, rfl⟩
              go_wp2_with fail
              refine cL.mono ?_
              rintro e w' ⟨rfl, rfl⟩
              go_wp2_with fail
              go_round
              case rel => exact ⟨e0 + 1, f, by omega, by omega, rfl, by rw [hby'.out], hgn.out⟩
              case measure => simp [intOf]; omega
            · rw [decide_eq_false hi2] at cN
              clear HY HX hpx he hit hi2 hby cL
              generalize Rw.beg t y = b0 at *
              generalize Rw.en t y = e0 at *
              go_wp2_with (go_at_call 68; refine cD.mono ?_; rintro e w' ⟨rfl, rfl⟩)
              refine cN.mono ?_
              rintro e w' ⟨rfl, rfl⟩
              go_wp2_with fail
              go_round
              case rel => exact ⟨e0 + 1, f, by omega, by omega, rfl, by rw [hby'.out], hgn.out⟩
              case measure => simp [intOf]; omega
    · obtain rfl : N = cnt := by omega
      have HE : Hid (D = x) := by show _ = _; rw [← HX.out, Nat.sub_self]; rfl
      clear HX
      by_cases hzk : x = k
      · subst hzk
        go_wp2
        refine bodyPost_ret (v := .tuple #[.int .i64 0, .int .i64 6]) (by simp [results, Tryz.results72, go_sem]) rfl ⟨?_, rfl⟩
        rw [HE.out]
        unfold ansN
        rw [if_pos rfl]
      · have z1 : (x == k) = false := by rw [beq_eq_false_iff_ne]; exact hzk
        have z2 : ((x : Int) == (k : Int)) = false := by rw [beq_eq_false_iff_ne]; omega
        have HZK := Lib.hid hzk
        clear hzk
        go_wp2
        refine bodyPost_ret (v := .tuple #[.int .i64 (x : Nat), .int .i64 0]) (by simp [results, Tryz.results72, go_sem]) rfl ⟨?_, rfl⟩
        rw [HE.out]
        unfold ansN
        rw [if_neg HZK.out]
end Go.Proofs.YtbofjefblhnkoaaGreatDoor.Pa
namespace Go.Proofs.YtbofjefblhnkoaaGreatDoor.Pa
open Go Go.RowKit

set_option maxHeartbeats 1000000 in
theorem rp123_any (A : Option Addr) (n c : Nat) (t : List Int) (k cnt : Nat) (w : World) (hA : Rn w A n t) (hk : k ≤ n) (hn : n ≤ 100000) (hc1 : 1 ≤ cnt) (hc2 : cnt ≤ 999) :
    Calls Tryz.prog 72 #[.slice A n c, .int .i64 k, .int .i64 123, .int .i64 cnt] w fun e w' => e = .returned (ansN (Rw.pmv t (Rw.pst t 123) cnt k) k) ∧ w' = w := by
  have HA := Lib.hid hA
  have hl := hA.1
  have HL := Lib.hid hl
  have HP := Lib.hid (fun x (hx : x ≤ n) => Rw.pst_le t 123 x (by rw [hl]; exact hx))
  have HFX : Hid (Rw.pst t 123 0 = 0) := by show _ = _; exact pst_fix123 t
  clear hA hl
  obtain ⟨D, hD⟩ : ∃ D, Rw.pmv t (Rw.pst t 123) cnt k = D := ⟨_, rfl⟩
  rw [hD]
  have HD := Lib.hid hD
  clear hD
  go_enter Tryz.func72, Tryz.ntmps72
  go_wp2
  go_loop [10, 11] (fun v u => ∃ x N : Nat, x ≤ n ∧ N ≤ cnt ∧ v = .int .i64 x ∧ u = .int .i64 N ∧ Rw.pmv t (Rw.pst t 123) (cnt - N) x = D) (fun _ u => cnt - (intOf u).toNat)
  case atStart => exact ⟨k, 0, hk, Nat.zero_le _, rfl, rfl, HD.out⟩
  case round =>
    obtain ⟨x, N, hx, hN, rfl, rfl, hd⟩ := hrel
    have HX := Lib.hid hd
    clear hd
    by_cases h0 : N < cnt
    · have d0 : decide (N < cnt) = true := by simp; omega
      have hstep : Hid (Rw.pmv t (Rw.pst t 123) (cnt - (N + 1)) (Rw.pst t 123 x) = D) := by
        show _ = _
        rw [← HX.out, show cnt - N = (cnt - (N + 1)) + 1 by omega]
        rfl
      have hpx := HP.out x hx
      rw [HL.out] at hpx
      have hG : Hid (Rw.pst t 123 x = Rw.pup t (n + 1) x) := by show _ = _; rw [← HL.out]; rfl
      have cB := rbegin_any A n c t x w HA.out hx hn
      generalize hg : Rw.pst t 123 x = G at *
      clear hg
      go_wp2_with (go_at_call 36; refine cB.mono ?_; rintro e w' ⟨rfl, rfl⟩; clear cB)
      go_loop [14, 15, 16] (fun a b _ => ∃ (y F : Nat), y ≤ n ∧ y + 1 ≤ F ∧ a = .int .i64 (0 : Nat) ∧ b = .int .i64 (Rw.beg t y : Nat) ∧ Rw.pup t F y = G) (fun _ b _ => (intOf b).toNat)
      case atStart => exact ⟨x, n + 1, hx, by omega, rfl, rfl, hG.out.symm⟩
      case round =>
        obtain ⟨y, F, hy, hF, rfl, rfl, hd⟩ := hrel
        obtain ⟨f, rfl⟩ : ∃ f, F = f + 1 := ⟨F - 1, by omega⟩
        have HY := Lib.hid hd
        clear hd
        have hbe := Rw.beg_le t y
        have hge := Rw.en_ge t y
        have cD := rup_any A n c t (Rw.beg t y) 1 w' HA.out (by omega) hn (by decide) (by decide)
        rw [show Rw.up t (Rw.beg t y) 1 = if Rw.beg t y = 0 then none else some (Rw.beg t (Rw.beg t y - 1)) by show (if Rw.beg t (Rw.beg t y) = 0 then none else some (Rw.beg t (Rw.beg t (Rw.beg t y) - 1))) = _; rw [Rw.beg_beg], show (-((1 : Nat) : Int)) = -1 from rfl] at cD
        by_cases he : Rw.beg t y = 0
        · rw [if_pos he] at cD
          unfold rowOf at cD
          simp only at cD
          have hgn : G = 0 := by rw [← HY.out, Rw.pup_end he]
          have HE : Hid (D = 0) := by show _ = _; rw [← hstep.out, hgn]; exact Rw.pmv_fix t _ 0 HFX.out _
          clear he hgn hstep HY HX hpx
          generalize Rw.beg t y = b0 at *
          generalize Rw.en t y = e0 at *
          rcases Nat.eq_zero_or_pos k with hzk | hzk
          · subst hzk
            go_wp2_with (go_at_call 68; refine cD.mono ?_; rintro e w' ⟨rfl, rfl⟩)
            refine bodyPost_ret (v := .tuple #[.int .i64 0, .int .i64 6]) (by simp [results, Tryz.results72, go_sem]) rfl ⟨?_, rfl⟩
            rw [HE.out]
            unfold ansN
            rw [if_pos rfl]
          · have z1 : ((0 : Int) == (k : Int)) = false := by rw [beq_eq_false_iff_ne]; omega
            have z2 : ((0 : Nat) == k) = false := by rw [beq_eq_false_iff_ne]; omega
            have z3 : ¬ ((0 : Int) = (k : Int)) := by omega
            have HZK : Hid (0 ≠ k) := by show _ ≠ _; omega
            clear hzk
            go_wp2_with (go_at_call 68; refine cD.mono ?_; rintro e w' ⟨rfl, rfl⟩)
            refine bodyPost_ret (v := .tuple #[.int .i64 ((0 : Nat) : Int), .int .i64 0]) (by simp [results, Tryz.results72, go_sem]) rfl ⟨?_, rfl⟩
            rw [HE.out]
            unfold ansN
            rw [if_neg HZK.out]
        · rw [if_neg he] at cD
          unfold rowOf at cD
          simp only at cD
          have hen := Rw.en_above he
          have hbl := Rw.beg_le t (Rw.beg t y - 1)
          have cN := bare_any A n c t (Rw.beg t (Rw.beg t y - 1)) w' HA.out (by omega) hn
          have cL := bare_any A n c t (Rw.beg t y) w' HA.out (by omega) hn
          rw [Rw.beg_beg, Rw.en_beg t (Rw.beg t y - 1) (by rw [HL.out]; omega), hen] at cN
          rw [Rw.beg_beg, Rw.en_beg t y (by rw [HL.out]; exact hy)] at cL
          by_cases hit : Rw.beg t y < Rw.en t y ∧ Rw.beg t (Rw.beg t y - 1) = Rw.beg t y - 1
          · obtain ⟨hi1, hi2⟩ := hit
            have hgn : G = Rw.beg t y - 1 := by rw [← HY.out, Rw.pup_hit he hi1 hi2]
            rw [decide_eq_true hi2] at cN
            rw [decide_eq_false (by omega)] at cL
            rw [hi2] at cN cD
            have hstep' : Hid (Rw.pmv t (Rw.pst t 123) (cnt - (N + 1)) (Rw.beg t y - 1) = D) := by show _ = _; rw [← hgn]; exact hstep.out
            clear hgn hstep HY HX hpx hi2 hen hi1
            generalize Rw.en t y = e0 at *
            generalize hb0 : Rw.beg t y = b0 at *
            obtain ⟨b1, rfl⟩ : ∃ b1, b0 = b1 + 1 := ⟨b0 - 1, by omega⟩
            rw [Nat.add_sub_cancel] at *
            rw [show (((b1 + 1 : Nat) : Int)) = (b1 : Int) + 1 by omega] at cL cD
            have HB0 := Lib.hid hb0
            clear hb0 he hbl
            rcases Nat.eq_zero_or_pos b1 with hedge | hedge
            · have HE : Hid (D = 0) := by show _ = _; rw [← hstep'.out, hedge]; exact Rw.pmv_fix t _ 0 HFX.out _
              clear hstep'
              subst hedge
              rcases Nat.eq_zero_or_pos k with hzk | hzk
              · subst hzk
                go_wp2_with (go_at_call 68; refine cD.mono ?_; rintro e w' ⟨rfl, rfl⟩)
                refine cN.mono ?_
                rintro e w' ⟨rfl, rfl⟩
                go_wp2_with fail
                refine cL.mono ?_
                rintro e w' ⟨rfl, rfl⟩
                go_wp2_with fail
                refine bodyPost_ret (v := .tuple #[.int .i64 0, .int .i64 6]) (by simp [results, Tryz.results72, go_sem]) rfl ⟨?_, rfl⟩
                rw [HE.out]
                unfold ansN
                rw [if_pos rfl]
              · have z1 : ((0 : Int) == (k : Int)) = false := by rw [beq_eq_false_iff_ne]; omega
                have z2 : ((0 : Nat) == k) = false := by rw [beq_eq_false_iff_ne]; omega
                have z3 : ¬ ((0 : Int) = (k : Int)) := by omega
                have HZK : Hid (0 ≠ k) := by show _ ≠ _; omega
                clear hzk
                go_wp2_with (go_at_call 68; refine cD.mono ?_; rintro e w' ⟨rfl, rfl⟩)
                refine cN.mono ?_
                rintro e w' ⟨rfl, rfl⟩
                go_wp2_with fail
                refine cL.mono ?_
                rintro e w' ⟨rfl, rfl⟩
                go_wp2_with fail
                refine bodyPost_ret (v := .tuple #[.int .i64 ((0 : Nat) : Int), .int .i64 0]) (by simp [results, Tryz.results72, go_sem]) rfl ⟨?_, rfl⟩
                rw [HE.out]
                unfold ansN
                rw [if_neg HZK.out]
            · have g1 : ((b1 : Int) == 0) = false := by rw [beq_eq_false_iff_ne]; omega
              have g2 : (b1 == 0) = false := by rw [beq_eq_false_iff_ne]; omega
              clear hedge
              go_wp2_with (go_at_call 68; refine cD.mono ?_; rintro e w' ⟨rfl, rfl⟩)
              refine cN.mono ?_
              rintro e w' ⟨rfl, rfl⟩
              go_wp2_with fail
              refine cL.mono ?_
              rintro e w' ⟨rfl, rfl⟩
              go_wp2_with fail
              go_round
              case rel => exact ⟨b1, N + 1, by omega, by omega, by go_num, by go_num, hstep'.out⟩
              case measure => simp [intOf]; omega
          · have hgn : Hid (Rw.pup t f (Rw.beg t y - 1) = G) := by show _ = _; rw [← HY.out, Rw.pup_next he hit]
            have hrel2 : Hid (∃ (y' F' : Nat), y' ≤ n ∧ y' + 1 ≤ F' ∧ Value.int .i64 (0 : Int) = .int .i64 ((0 : Nat) : Int) ∧ Value.int .i64 (Rw.beg t (Rw.beg t y - 1) : Nat) = .int .i64 (Rw.beg t y' : Nat) ∧ Rw.pup t F' y' = G) := ⟨Rw.beg t y - 1, f, by omega, by omega, rfl, rfl, hgn.out⟩
            by_cases hi2 : Rw.beg t (Rw.beg t y - 1) = Rw.beg t y - 1
            · rw [decide_eq_true hi2] at cN
              rw [decide_eq_true (show Rw.beg t y = Rw.en t y by omega)] at cL
              clear HY HX hpx hit hi2 hgn hen
              generalize Rw.beg t (Rw.beg t y - 1) = nx at *
              generalize Rw.beg t y = b0 at *
              generalize Rw.en t y = e0 at *
              go_wp2_with (go_at_call 68; refine cD.mono ?_; rintro e w' ⟨rfl, rfl⟩)
              refine cN.mono ?_
              rintro e w' ⟨rfl, rfl⟩
              go_wp2_with fail
              refine cL.mono ?_
              rintro e w' ⟨rfl, rfl⟩
              go_wp2_with fail
              go_round
              case rel => exact hrel2.out
              case measure => simp [intOf]; omega
            · rw [decide_eq_false hi2] at cN
              clear HY HX hpx hit hi2 hgn hen cL
              generalize Rw.beg t (Rw.beg t y - 1) = nx at *
              generalize Rw.beg t y = b0 at *
              generalize Rw.en t y = e0 at *
              go_wp2_with (go_at_call 68; refine cD.mono ?_; rintro e w' ⟨rfl, rfl⟩)
              refine cN.mono ?_
              rintro e w' ⟨rfl, rfl⟩
              go_wp2_with fail
              go_round
              case rel => exact hrel2.out
              case measure => simp [intOf]; omega
    · obtain rfl : N = cnt := by omega
      have HE : Hid (D = x) := by show _ = _; rw [← HX.out, Nat.sub_self]; rfl
      clear HX
      by_cases hzk : x = k
      · subst hzk
        go_wp2
        refine bodyPost_ret (v := .tuple #[.int .i64 0, .int .i64 6]) (by simp [results, Tryz.results72, go_sem]) rfl ⟨?_, rfl⟩
        rw [HE.out]
        unfold ansN
        rw [if_pos rfl]
      · have z1 : (x == k) = false := by rw [beq_eq_false_iff_ne]; exact hzk
        have z2 : ((x : Int) == (k : Int)) = false := by rw [beq_eq_false_iff_ne]; omega
        have HZK := Lib.hid hzk
        clear hzk
        go_wp2
        refine bodyPost_ret (v := .tuple #[.int .i64 (x : Nat), .int .i64 0]) (by simp [results, Tryz.results72, go_sem]) rfl ⟨?_, rfl⟩
        rw [HE.out]
        unfold ansN
        rw [if_neg HZK.out]
end Go.Proofs.YtbofjefblhnkoaaGreatDoor.Pa
namespace Go.Proofs.YtbofjefblhnkoaaGreatDoor.Pa
open Go Go.RowKit

theorem btw_t {x l m : Int} (h : l ≤ x ∧ x ≤ m) (w : World) : Calls Tryz.prog 17 #[.int .i64 x, .int .i64 l, .int .i64 m] w fun e w' => e = .returned (.bool true) ∧ w' = w := by
  have b1 : decide (l ≤ x) = true := by simp; omega
  have b2 : decide (x ≤ m) = true := by simp; omega
  clear h
  go_enter Tryz.func17, Tryz.ntmps17
  go_wp2
  go_ret
  exact ⟨rfl, rfl⟩
theorem btw_f {x l m : Int} (h : ¬ (l ≤ x ∧ x ≤ m)) (w : World) : Calls Tryz.prog 17 #[.int .i64 x, .int .i64 l, .int .i64 m] w fun e w' => e = .returned (.bool false) ∧ w' = w := by
  by_cases h1 : l ≤ x
  · have b1 : decide (l ≤ x) = true := by simp; omega
    have b2 : decide (x ≤ m) = false := by simp; omega
    clear h h1
    go_enter Tryz.func17, Tryz.ntmps17
    go_wp2
    go_ret
    exact ⟨rfl, rfl⟩
  · have b1 : decide (l ≤ x) = false := by simp; omega
    clear h h1
    go_enter Tryz.func17, Tryz.ntmps17
    go_wp2
    go_ret
    exact ⟨rfl, rfl⟩
theorem pmove_no (s : ByteArray) (k key m : Int) (w : World) (hs : s.size ≤ 140737488351232) (hT : Tabs w) (hno : ¬ ((mayB s = true ∧ 0 ≤ k ∧ k ≤ (rs s).length) ∧ (key = 123 ∨ key = 125) ∧ 1 ≤ m ∧ m ≤ 999)) :
    Calls Tryz.prog 54 #[.string s, .int .i64 k, .int .i64 key, .int .i64 m] w fun e w' => Kept (fun _ => False) w w' ∧ e = .returned (.tuple #[.int .i64 0, .int .i64 1]) := by
  by_cases hy : mayB s = true ∧ 0 ≤ k ∧ k ≤ (rs s).length
  · obtain ⟨hm, h0, h1⟩ := hy
    obtain ⟨kk, rfl⟩ := Int.eq_ofNat_of_zero_le h0
    have cU := runes_yes s kk w hT hm (by omega)
    have hmm : (key ≠ 123 ∧ key ≠ 125) ∨ (key = 123 ∧ m < 1) ∨ (key = 125 ∧ m < 1) ∨ (key = 123 ∧ 1 ≤ m ∧ 999 < m) ∨ (key = 125 ∧ 1 ≤ m ∧ 999 < m) := by
      have : ¬ ((key = 123 ∨ key = 125) ∧ 1 ≤ m ∧ m ≤ 999) := fun h => hno ⟨⟨hm, h0, h1⟩, h⟩
      omega
    clear hT hm hno h0 h1
    generalize rs s = t at *
    rcases hmm with ⟨h1, h2⟩ | ⟨rfl, h2⟩ | ⟨rfl, h2⟩ | ⟨rfl, h2, h3⟩ | ⟨rfl, h2, h3⟩
    case' inl =>
      have d1 : (key != 123) = true := by rw [bne_iff_ne]; exact h1
      have d2 : (key != 125) = true := by rw [bne_iff_ne]; exact h2
      clear h1 h2
    case' inr.inl | inr.inr.inl =>
      have d1 : decide (m < 1) = true := by simp; omega
    case' inr.inr.inr.inl | inr.inr.inr.inr =>
      have d1 : decide (m < 1) = false := by simp; omega
      have d2 : decide (999 < m) = true := by simp; omega
    all_goals
      go_enter Tryz.func54, Tryz.ntmps54
      go_wp2_with (go_at_call 34; refine cU.mono ?_; rintro e w2 ⟨hk2, b, cap, rfl, hbg, hR⟩)
      exact bodyPost_ret (v := .tuple #[.int .i64 0, .int .i64 1]) (by simp [results, Tryz.results54, go_sem]) rfl ⟨hk2, rfl⟩
  · have cU := runes_no s k w hs hT hy
    clear hT hno hy
    go_enter Tryz.func54, Tryz.ntmps54
    go_wp2_with (go_at_call 34; refine cU.mono ?_; rintro e w2 ⟨hk2, rfl⟩)
    exact bodyPost_ret (v := .tuple #[.int .i64 0, .int .i64 1]) (by simp [results, Tryz.results54, go_sem]) rfl ⟨hk2, rfl⟩
/-- Whether these arguments may be. -/
def Good (s : ByteArray) (k key m : Int) : Prop := mayB s = true ∧ (0 ≤ k ∧ k ≤ (rs s).length) ∧ (key = 123 ∨ key = 125) ∧ 1 ≤ m ∧ m ≤ 999
def Told (s : ByteArray) (k key m X E : Int) : Prop :=
  (Good s k key m → ansN (Rw.pmv (rs s) (Rw.pst (rs s) key) m.toNat k.toNat) k.toNat = .tuple #[.int .i64 X, .int .i64 E]) ∧ (¬ Good s k key m → X = 0 ∧ E = 1)
theorem ansN_form (x k : Nat) : ∃ X E : Int, ansN x k = .tuple #[.int .i64 X, .int .i64 E] := by
  unfold ansN
  split
  · exact ⟨0, 6, rfl⟩
  · exact ⟨x, 0, rfl⟩
theorem pmove_all (s : ByteArray) (k key m : Int) (w : World) (hs : s.size ≤ 140737488351232) (hT : Tabs w) :
    Calls Tryz.prog 54 #[.string s, .int .i64 k, .int .i64 key, .int .i64 m] w fun e w' => (∃ X E : Int, e = .returned (.tuple #[.int .i64 X, .int .i64 E]) ∧ Told s k key m X E) ∧ Kept (fun _ => False) w w' := by
  by_cases hg : Good s k key m
  · obtain ⟨g1, ⟨g2, g3⟩, g4, g5, g6⟩ := id hg
    obtain ⟨kk, rfl⟩ := Int.eq_ofNat_of_zero_le g2
    obtain ⟨mm, rfl⟩ := Int.eq_ofNat_of_zero_le (show 0 ≤ m by omega)
    refine (pmove_yes s kk mm key w hT g1 (by omega) (by omega) (by omega) g4).mono ?_
    rintro e w' ⟨hk, rfl⟩
    obtain ⟨X, E, he⟩ := ansN_form (Rw.pmv (rs s) (Rw.pst (rs s) key) mm kk) kk
    exact ⟨⟨X, E, by rw [he], fun _ => he, fun h => absurd hg h⟩, hk⟩
  · refine (pmove_no s k key m w hs hT (fun h => hg ⟨h.1.1, h.1.2, h.2.1, h.2.2.1, h.2.2.2⟩)).mono ?_
    rintro e w' ⟨hk, rfl⟩
    exact ⟨⟨0, 1, rfl, fun h => absurd h hg, fun _ => ⟨rfl, rfl⟩⟩, hk⟩
theorem rparas_told {s : ByteArray} {A : Option Addr} {n c : Nat} {t : List Int} {kk mm : Nat} {key X E : Int} (w : World) (hrs : rs s = t) (hA : Rn w A n t) (hn : n ≤ 6000) (hg : Good s kk key mm) (htold : Told s kk key mm X E) :
    Calls Tryz.prog 72 #[.slice A n c, .int .i64 kk, .int .i64 key, .int .i64 mm] w fun e w' => e = .returned (.tuple #[.int .i64 X, .int .i64 E]) ∧ w' = w := by
  obtain ⟨g1, ⟨g2, g3⟩, g4, g5, g6⟩ := id hg
  have ht := htold.1 hg
  have hl := hA.1
  rw [hrs] at ht g3
  have c : Calls Tryz.prog 72 #[.slice A n c, .int .i64 kk, .int .i64 key, .int .i64 mm] w fun e w' => e = .returned (ansN (Rw.pmv t (Rw.pst t key) mm kk) kk) ∧ w' = w := by
    rcases g4 with rfl | rfl
    · exact rp123_any A n c t kk mm w hA (by omega) (by omega) (by omega) (by omega)
    · exact rp125_any A n c t kk mm w hA (by omega) (by omega) (by omega) (by omega)
  have ht' : ansN (Rw.pmv t (Rw.pst t key) mm kk) kk = .tuple #[.int .i64 X, .int .i64 E] := ht
  rwa [ht'] at c
/-- The text that wakes. -/
def anb : ByteArray := ⟨#[97, 10, 10, 98]⟩
theorem anb_rs : rs anb = [97, 10, 10, 98] := by decide
theorem anb_may : mayB anb = true := by decide
theorem anb_to : ansN (Rw.pmv (rs anb) (Rw.pst (rs anb) 125) 1 0) 0 = .tuple #[.int .i64 2, .int .i64 0] := by
  rw [anb_rs]
  rfl
/-- What a law's loops hold of every world. -/
structure Held (w : World) (pb : Nat) (p : AskV) : Prop where
  pb : PB w pb p
  ask : AskOk w p
  tabs : Tabs w
theorem Held.kept {w w' : World} {pb : Nat} {p : AskV} (h : Held w pb p) (hk : Kept (fun _ => False) w w') : Held w' pb p :=
  ⟨h.pb.kept hk id, h.ask.kept hk, h.tabs.kept hk id id⟩
theorem Held.str {w : World} {pb : Nat} {p : AskV} (h : Held w pb p) {ad : Addr} (hA : p.A = some ad) {i : Nat} {s : ByteArray} (hs : p.ss[i]? = some s) : w.cell? (ad.add i) = some (.string s) := by
  obtain ⟨ad', e, hc, _⟩ := h.ask.ss.2 i s hs
  rw [hA] at e
  injection e with e
  subst e
  exact hc
theorem Rn.at_ {w : World} {rb n : Nat} {t : List Int} (h : Rn w (some ⟨rb, 0, none⟩) n t) {j : Nat} {x : Int} (hx : t[j]? = some x) : w.cell? ⟨rb, j, none⟩ = some (.int .i32 x) := by
  obtain ⟨ad, e, hc⟩ := h.2 j x hx
  injection e with e
  subst e
  rwa [addr_add, Nat.zero_add] at hc

end Go.Proofs.YtbofjefblhnkoaaGreatDoor.Pa
namespace Go.Proofs.YtbofjefblhnkoaaGreatDoor
open Go Go.RowKit

theorem ansN_go (x k : Nat) (u v : Int) : ∃ o : Option Int, Pa.ansN x k = (match o with | none => .tuple #[.int .i64 0, .int .i64 6] | some a => .tuple #[.int .i64 a, .int .i64 0]) ∧ (if x = k then none else some (((x : Nat) : Int), (0 : Int), u, v)) = o.map fun a => (a, 0, u, v) := by
  by_cases h : x = k
  · exact ⟨none, by unfold Pa.ansN; rw [if_pos h], by rw [if_pos h]; rfl⟩
  · exact ⟨some x, by unfold Pa.ansN; rw [if_neg h], by rw [if_neg h]; rfl⟩
set_option maxRecDepth 100000 in
set_option maxHeartbeats 1000000 in
theorem pgo_para (s : ByteArray) (k m : Nat) (c0 c2 c3 c4 c5 k1 k2 : Int) (A : Option Addr) (n c : Nat) (M : List (List Int)) (w : World) (hT : Tabs w) (hm : mayB s = true) (hk : k ≤ (rs s).length) (hc : m ≤ 999) (hx : k1 = 0 ∨ Rw.Seek k1) (hA : Rws w A n 2 M) (hn : n ≤ 100000) (ho : Rw.mOk M) (hkey : Rw.kin c3 = 5) :
    Calls Tryz.prog 24 #[.string s, .int .i64 k, cmdV c0 m c2 c3 c4 c5, sekV k1 k2, .slice A n c] w fun e w' => e = .returned (goV (Rw.goM (rs s) k c3 c5 m k1 k2 M)) ∧ Kept (fun _ => False) w w' := by
  have HK0 : Hid (Kept (fun _ => False) w ((((w.alloc (cmdO c0 m c2 c3 c4 c5)).alloc (sekO k1 k2)).alloc (tgtO 0 0)).alloc (sekO 0 0))) := ((((Kept.refl _ w).alloc _).alloc _).alloc _).alloc _
  have HF0 := Lib.hid (four_new w c0 m c2 c3 c4 c5 k1 k2)
  have cK := fun W => kindOf_any c3 W
  rw [hkey] at cK
  have cP := fun W (hk' : Kept (fun _ => False) w W) => place_yes s k W (hT.kept hk' id id) hm hk
  have cS := fun W => mayseek_any k1 k2 W
  rw [decide_eq_true hx] at cS
  have cC := fun W (hk' : Kept (fun _ => False) w W) => pcheck_any A n c M W (hA.kept hk' (fun _ _ => id)) hn
  have HO := Lib.hid ho
  have b1 : decide ((m : Int) < 0) = false := by simp
  have b2 : decide (999 < (m : Int)) = false := by simp; omega
  have b3 : decide (999 < m) = false := by simp; omega
  have hq : max (m : Int) 1 = ((Rw.times m : Nat) : Int) := by unfold Rw.times; omega
  have hq1 : 1 ≤ Rw.times m ∧ Rw.times m ≤ 999 := by unfold Rw.times; omega
  have hw := Rw.by_paras.1 hkey
  obtain ⟨o, hav, hag⟩ := ansN_go (Rw.pmv (rs s) (Rw.pst (rs s) c3) (Rw.times m) k) k k1 k2
  have hgo : Rw.goM (rs s) k c3 c5 m k1 k2 M = o.map fun a => (a, 0, k1, k2) := by
    unfold Rw.goM
    rw [if_neg (by rw [hkey]; decide), if_neg (by rw [hkey]; decide), if_neg (by rw [hkey]; decide), if_pos hkey, hag]
  have cW := fun W (hk' : Kept (fun _ => False) w W) => Pa.pmove_yes s k (Rw.times m) c3 W (hT.kept hk' id id) hm hk hq1.1 hq1.2 hw
  simp only [hav] at cW
  rw [hgo]
  clear hT hw hgo hav hag hA ho
  generalize Rw.times m = q at *
  generalize Rw.nl (rs s) k = p0 at *
  generalize k - Rw.beg (rs s) k = p1 at *
  clear hkey hx
  cases o with
  | none =>
    simp only at cW
    · go_enter Tryz.func24, Tryz.ntmps24
      go_wp2_with (first
        | (go_at_call 49; refine (cK _).mono ?_; rintro e w' ⟨rfl, hw⟩; have hw2 := hw.symm; subst hw2)
        | (go_at_call 39; refine (cP _ HK0.out).mono ?_; rintro e w1 ⟨rfl, hk1⟩; have HK1 := Lib.hid (HK0.out.trans hk1); have HF1 := Lib.hid (HF0.out.kept hk1); have HX1 : Hid (Kept (fun _ => False) w1 (w1.alloc (.cells #[.int .i64 p0, .int .i64 p1] 24))) := (Kept.refl (fun _ => False) w1).alloc _; obtain ⟨a1, a2, a3, ⟨d1, d2, d3, d4⟩, ⟨e1, e2, e3, e4⟩, ⟨g1, g2, g3, g4⟩⟩ := (HF1.out.kept HX1.out).facts; clear hk1)
        | (go_at_call 50; refine (cS _).mono ?_; rintro e w2 ⟨rfl, hk2⟩; have HK2 := Lib.hid ((HK1.out.alloc _).trans hk2); have HF2 := Lib.hid (HF1.out.kept (((Kept.refl (fun _ => False) w1).alloc _).trans hk2)); clear hk2)
        | (go_at_call 42; refine (cC _ HK2.out).mono ?_; rintro e w3 ⟨⟨E3, rfl, _, hE⟩, hk3⟩; obtain rfl : E3 = 0 := hE.2 HO.out; have HK3 := Lib.hid (HK2.out.trans hk3); have HF3 := Lib.hid (HF2.out.kept hk3); obtain ⟨A1, A2, A3, ⟨D1, D2, D3, D4⟩, ⟨E1, E2, E3, E4⟩, ⟨G1, G2, G3, G4⟩⟩ := HF3.out.facts; clear hk3 hE)
        | (go_at_call 54; have HK4 := Lib.hid (HK3.out.fresh (Kept.pair (Kept.refl (fun q => q = w.heap.size + 1 + 1 + 1) w3) rfl (.int .i64 k1) (.int .i64 k2)) (fun q hq e => by omega)); have HF4 := Lib.hid (HF3.out.setX k1 k2); refine (cW _ HK4.out).mono ?_; rintro e w5 ⟨hk5, rfl⟩; have HK5 := Lib.hid (HK4.out.trans hk5); have HF5 := Lib.hid (HF4.out.kept hk5); obtain ⟨x1, x2, x3, ⟨y1, y2, y3, y4⟩, ⟨z1, z2, z3, z4⟩, ⟨v1, v2, v3, v4⟩⟩ := HF5.out.facts; clear hk5))
      have FF := (((HF5.out.setT0 0).setT 0 0).setX 0 0)
      have KK := (Kept.pair (g := w.heap.size + 1 + 1 + 1) (Kept.pair (g := w.heap.size + 1 + 1) ((Kept.refl (fun q => q = w.heap.size + 1 + 1 ∨ q = w.heap.size + 1 + 1 + 1) w5).setCell (p := ⟨w.heap.size + 1 + 1, 0, none⟩) (.inl rfl) (.int .i64 0)) (.inl rfl) (.int .i64 0) (.int .i64 0)) (.inr rfl) (.int .i64 0) (.int .i64 0))
      refine bodyPost_ret (res_go rfl _ _ (w.heap.size + 1 + 1) (w.heap.size + 1 + 1 + 1) 0 0 0 0 rfl rfl ?_ ?_) rfl ⟨rfl, ?_⟩
      · exact FF.c
      · exact FF.d
      · exact HK5.out.fresh KK (fun q hq e => by omega)
  | some p =>
    simp only at cW
    · go_enter Tryz.func24, Tryz.ntmps24
      go_wp2_with (first
        | (go_at_call 49; refine (cK _).mono ?_; rintro e w' ⟨rfl, hw⟩; have hw2 := hw.symm; subst hw2)
        | (go_at_call 39; refine (cP _ HK0.out).mono ?_; rintro e w1 ⟨rfl, hk1⟩; have HK1 := Lib.hid (HK0.out.trans hk1); have HF1 := Lib.hid (HF0.out.kept hk1); have HX1 : Hid (Kept (fun _ => False) w1 (w1.alloc (.cells #[.int .i64 p0, .int .i64 p1] 24))) := (Kept.refl (fun _ => False) w1).alloc _; obtain ⟨a1, a2, a3, ⟨d1, d2, d3, d4⟩, ⟨e1, e2, e3, e4⟩, ⟨g1, g2, g3, g4⟩⟩ := (HF1.out.kept HX1.out).facts; clear hk1)
        | (go_at_call 50; refine (cS _).mono ?_; rintro e w2 ⟨rfl, hk2⟩; have HK2 := Lib.hid ((HK1.out.alloc _).trans hk2); have HF2 := Lib.hid (HF1.out.kept (((Kept.refl (fun _ => False) w1).alloc _).trans hk2)); clear hk2)
        | (go_at_call 42; refine (cC _ HK2.out).mono ?_; rintro e w3 ⟨⟨E3, rfl, _, hE⟩, hk3⟩; obtain rfl : E3 = 0 := hE.2 HO.out; have HK3 := Lib.hid (HK2.out.trans hk3); have HF3 := Lib.hid (HF2.out.kept hk3); obtain ⟨A1, A2, A3, ⟨D1, D2, D3, D4⟩, ⟨E1, E2, E3, E4⟩, ⟨G1, G2, G3, G4⟩⟩ := HF3.out.facts; clear hk3 hE)
        | (go_at_call 54; have HK4 := Lib.hid (HK3.out.fresh (Kept.pair (Kept.refl (fun q => q = w.heap.size + 1 + 1 + 1) w3) rfl (.int .i64 k1) (.int .i64 k2)) (fun q hq e => by omega)); have HF4 := Lib.hid (HF3.out.setX k1 k2); refine (cW _ HK4.out).mono ?_; rintro e w5 ⟨hk5, rfl⟩; have HK5 := Lib.hid (HK4.out.trans hk5); have HF5 := Lib.hid (HF4.out.kept hk5); obtain ⟨x1, x2, x3, ⟨y1, y2, y3, y4⟩, ⟨z1, z2, z3, z4⟩, ⟨v1, v2, v3, v4⟩⟩ := HF5.out.facts; clear hk5))
      go_region
      all_goals
        try go_wp2
        have FF := ((((HF5.out.setT0 p).setT p 0).setX k1 k2).kept ((Kept.refl (fun _ => False) _).drew))
        have KK := (Kept.pair (g := w.heap.size + 1 + 1 + 1) (Kept.pair (g := w.heap.size + 1 + 1) ((Kept.refl (fun q => q = w.heap.size + 1 + 1 ∨ q = w.heap.size + 1 + 1 + 1) w5).setCell (p := ⟨w.heap.size + 1 + 1, 0, none⟩) (.inl rfl) (.int .i64 p)) (.inl rfl) (.int .i64 p) (.int .i64 0)) (.inr rfl) (.int .i64 k1) (.int .i64 k2)).drew
        refine bodyPost_ret (res_go rfl _ _ (w.heap.size + 1 + 1) (w.heap.size + 1 + 1 + 1) p 0 k1 k2 rfl rfl ?_ ?_) rfl ⟨rfl, ?_⟩
        · exact FF.c
        · exact FF.d
        · exact HK5.out.fresh KK (fun q hq e => by omega)
end Go.Proofs.YtbofjefblhnkoaaGreatDoor
