/-
  BRACKETS, of the reference: the first one in the row, the pairs around a place.
-/
import Derived.Test.YtohmhjeimeilcaaDoorPkA
set_option linter.unusedVariables false
namespace Go.Proofs.YtohmhjeimeilcaaDoor
open Go Go.RowKit

set_option maxRecDepth 100000 in
set_option maxHeartbeats 1000000 in
theorem rpair_any (A : Option Addr) (n c k : Nat) (t : List Int) (w : World) (hA : Rn w A n t) (hn : n ≤ 6000) (hk : k ≤ n) :
    Calls Tryd.prog 20 #[.slice A n c, .int .i64 k] w fun e w' => e = .returned (.int .i64 (oI (Rw.pair t k))) ∧ Kept (fun _ => False) w w' := by
  have hlen := hA.1
  have hle := Rw.en_le t k (by omega)
  have hge := Rw.en_ge t k
  have hnn : Hid (∀ j, k ≤ j → j < Rw.en t k → t[j]? ≠ some 10) := fun j h1 h2 => Rw.en_none t k j h1 h2
  have hat : Hid (Rw.en t k < t.length → t[Rw.en t k]? = some 10) := fun h => Rw.en_at t k h
  obtain ⟨R, hR⟩ : ∃ R, Rw.prm t (Rw.en t k) (t.length + 1) k = R := ⟨_, rfl⟩
  rw [show Rw.pair t k = R from hR]
  obtain ⟨X, hX⟩ : ∃ X, oI R = X := ⟨_, rfl⟩
  rw [hX]
  have HX := Lib.hid hX
  have HA := Lib.hid hA
  have HL := Lib.hid hlen
  generalize Rw.en t k = h at *
  have HR := Lib.hid hR
  rw [hlen] at hle
  clear hA hR hX hlen
  go_enter Tryd.func20, Tryd.ntmps20
  go_wp2_with fail
  go_loopw [5] (fun v wr => ∃ (f j : Nat), v = .int .i64 j ∧ k ≤ j ∧ j ≤ h ∧ h < j + f ∧ Rw.prm t h f j = R ∧ Kept (fun _ => False) w wr) (fun v _ => h - (intOf v).toNat)
  case atStart => exact ⟨t.length + 1, k, rfl, Nat.le_refl _, hge, by have := HL.out; omega, HR.out, Kept.refl _ _⟩
  case round =>
    obtain ⟨f, j, rfl, hkj, hjh, hf, hprm, hkept⟩ := hrel
    have HK := Lib.hid hkept
    have HP := Lib.hid hprm
    clear hkept hprm
    by_cases hlt : j < h
    · obtain ⟨f', rfl⟩ : ∃ f', f = f' + 1 := ⟨f - 1, by omega⟩
      obtain ⟨ad, x, rfl, hx, hcx⟩ := (HA.out.kept HK.out (fun _ _ => id)).cell (j := j) (by omega)
      have h10 : x ≠ 10 := fun e => hnn.out j hkj hlt (by rw [hx, e])
      have b3 : (x != 10) = true := by rw [bne_iff_ne]; exact h10
      have cB := bracket_any x wr
      have b1 : decide (j < n) = true := decide_eq_true (by omega)
      have b2 : decide ((j : Int) < (n : Int)) = true := decide_eq_true (by omega)
      have t1 : (0 : Int) ≤ (j : Int) := by omega
      have t2 : (j : Int) < (n : Int) := by omega
      have HXX := Lib.hid hx
      cases hb : Rw.isBr x with
      | true =>
        have hmr : Hid (Rw.mt t j = X) := by show _ = _; rw [mt_oI, ← HX.out, ← HP.out, Rw.prm_hit hlt hx hb]
        have hbr : ∃ q B, 0 ≤ q ∧ brV x = .tuple #[.int .i64 q, .bool B] := by
          unfold brV
          unfold Rw.isBr at hb
          cases ho : Rw.kdo x with
          | some q => exact ⟨q, true, by omega, rfl⟩
          | none =>
            cases hs : Rw.kds x with
            | some q => exact ⟨q, false, by omega, rfl⟩
            | none => rw [ho, hs] at hb; cases hb
        obtain ⟨q, B, hq, hbv⟩ := hbr
        rw [hbv] at cB
        have b4 : decide (0 ≤ q) = true := decide_eq_true hq
        clear hx h10 hb hbv
        go_upto_region 6 with (go_at_call 37; refine cB.mono ?_; rintro e w1 ⟨rfl, hk1⟩)
        have cM := rmate_any (some ad) n c j t w1 (HA.out.kept (HK.out.trans hk1) (fun _ _ => id)) (by omega)
        rw [hmr.out] at cM
        have HK1 := Lib.hid (HK.out.trans hk1)
        clear hk1 hcx cB
        go_wp2_with (go_at_call 19; refine cM.mono ?_; rintro e w2 ⟨rfl, hk2⟩)
        go_ret
        exact ⟨rfl, HK1.out.trans hk2⟩
      | false =>
        have hp2 := Lib.hid (show Rw.prm t h f' (j + 1) = R by rw [← HP.out, Rw.prm_skip hlt hx hb])
        have hbv : brV x = .tuple #[.int .i64 (-1), .bool false] := by
          unfold brV
          unfold Rw.isBr at hb
          rw [Bool.or_eq_false_iff] at hb
          rw [show Rw.kdo x = none by simpa using hb.1, show Rw.kds x = none by simpa using hb.2]
        rw [hbv] at cB
        clear hx h10 hb hbv
        go_wp2_with (go_at_call 37; refine cB.mono ?_; rintro e w1 ⟨rfl, hk1⟩; have HK1 := Lib.hid (HK.out.trans hk1); clear hk1 cB)
        go_roundw
        case rel => exact ⟨f', j + 1, by go_num, by omega, by omega, by omega, hp2.out, HK1.out⟩
        case measure => simp [intOf] <;> omega
    · obtain rfl : j = h := by omega
      have hRn : Hid (X = -1) := by show _ = _; rw [← HX.out, ← HP.out, Rw.prm_out (by omega)]; rfl
      by_cases hjn : j < n
      · obtain ⟨ad, x, rfl, hx, hcx⟩ := (HA.out.kept HK.out (fun _ _ => id)).cell hjn
        have h10 : x = 10 := by have := hat.out (by rw [HL.out]; exact hjn); rw [hx] at this; injection this
        subst h10
        have b1 : decide (j < n) = true := decide_eq_true (by omega)
        have b2 : decide ((j : Int) < (n : Int)) = true := decide_eq_true (by omega)
        have t1 : (0 : Int) ≤ (j : Int) := by omega
        have t2 : (j : Int) < (n : Int) := by omega
        clear hx
        go_wp2_with fail
        go_ret
        exact ⟨by rw [hRn.out]; rfl, HK.out⟩
      · obtain rfl : j = n := by omega
        have b1 : decide (j < j) = false := decide_eq_false (by omega)
        have b2 : decide ((j : Int) < (j : Int)) = false := decide_eq_false (by omega)
        go_wp2_with fail
        go_ret
        exact ⟨by rw [hRn.out]; rfl, HK.out⟩
/-- The pair around a place, as the reference tells it. -/
def ansB (o : Option (Nat × Int)) : Value := match o with
  | some (x, y) => .tuple #[.int .i64 (x : Int), .int .i64 y]
  | none => .tuple #[.int .i64 (-1), .int .i64 (-1)]
set_option maxRecDepth 100000 in
set_option maxHeartbeats 1000000 in
theorem raround_any (A : Option Addr) (n cp k cnt : Nat) (kind : Int) (t : List Int) (w : World) (hA : Rn w A n t) (hr : Runey t) (hn : n ≤ 6000) (hk : k ≤ n) (hc1 : 1 ≤ cnt) (hc2 : cnt ≤ 999) :
    Calls Tryd.prog 23 #[.slice A n cp, .int .i64 k, .int .i64 kind, .int .i64 cnt] w fun e w' => Kept (fun _ => False) w w' ∧ e = .returned (ansB (Rw.around t k kind cnt)) := by
  have hlen := hA.1
  have HL := Lib.hid hlen
  obtain ⟨R, hR⟩ : ∃ R, Rw.arn t k kind (min (k + 1) n) cnt = R := ⟨_, rfl⟩
  rw [show Rw.around t k kind cnt = R by unfold Rw.around; rw [hlen]; exact hR]
  have HR := Lib.hid hR
  have HA := Lib.hid hA
  have HV := Lib.hid hr
  have hmin : min (k : Int) ((n : Int) - 1) + 1 = ((min (k + 1) n : Nat) : Int) := by omega
  have HMIN := Lib.hid hmin
  have hwr : IntKind.i64.wrap ((n : Int) - 1) = (n : Int) - 1 := wrapI rfl (by omega) (by omega)
  have hj0 : min (k + 1) n ≤ n := Nat.min_le_right _ _
  have HJ0 := Lib.hid hj0
  obtain ⟨MI, hMI⟩ : ∃ MI, min (k : Int) ((n : Int) - 1) = MI := ⟨_, rfl⟩
  rw [hMI] at HMIN
  clear hA hr hR hj0 hmin hlen
  go_enter Tryd.func23, Tryd.ntmps23
  go_wp2_with fail
  clear hMI hwr
  go_loopw [10, 3] (fun v cv wr => ∃ (j c : Nat) (I : Int), v = .int .i64 I ∧ I + 1 = (j : Int) ∧ j ≤ n ∧ cv = .int .i64 c ∧ 1 ≤ c ∧ c ≤ 999 ∧ Rw.arn t k kind j c = R ∧ Kept (fun _ => False) w wr) (fun v _ _ => (intOf v + 1).toNat)
  case atStart => exact ⟨min (k + 1) n, cnt, _, rfl, HMIN.out, HJ0.out, rfl, hc1, hc2, HR.out, Kept.refl _ _⟩
  case round =>
    obtain ⟨j, c, I, rfl, hIj, hjl, rfl, h1c, h2c, harn, hkept⟩ := hrel
    have HAR := Lib.hid harn
    have HK := Lib.hid hkept
    clear harn hkept
    by_cases hj0 : j = 0
    · subst hj0
      obtain rfl : I = -1 := by omega
      have hRn : Hid (R = none) := by show _ = _; rw [← HAR.out]; rfl
      go_wp2_with fail
      exact bodyPost_ret (v := .tuple #[.int .i64 (-1), .int .i64 (-1)]) (by simp [results, Tryd.results23, go_sem]) rfl ⟨HK.out, by rw [hRn.out]; rfl⟩
    · obtain ⟨i, rfl⟩ : ∃ i, j = i + 1 := ⟨j - 1, by omega⟩
      obtain rfl : I = (i : Int) := by omega
      obtain ⟨ad, x, rfl, hx, hcx⟩ := (HA.out.kept HK.out (fun _ _ => id)).cell (j := i) (by omega)
      obtain ⟨x1, x2⟩ := HV.out.at_ hx
      have hwx : IntKind.i64.wrap x = x := wrapI rfl (by omega) (by omega)
      have cM := rmate_any (some ad) n cp i t wr (HA.out.kept HK.out (fun _ _ => id)) (by omega)
      obtain ⟨M, hM⟩ : ∃ M, Rw.mt t i = M := ⟨_, rfl⟩
      rw [hM] at cM
      have HX := Lib.hid hx
      have HM := Lib.hid hM
      have b1 : decide ((0 : Int) ≤ (i : Int)) = true := decide_eq_true (by omega)
      have t1 : (0 : Int) ≤ (i : Int) := by omega
      have t2 : (i : Int) < (n : Int) := by omega
      have b9 : IntKind.i64.wrap ((i : Int) - 1) = (i : Int) - 1 := wrapI rfl (by omega) (by omega)
      clear hx hM hIj hj0
      by_cases hxk : x = kind
      · subst hxk
        have b2 : (x != x) = false := by simp
        by_cases hlt : M < (k : Int)
        · have b3 : decide ((k : Int) ≤ M) = false := decide_eq_false (by omega)
          have HA2 := Lib.hid (show Rw.arn t k x i c = R by rw [← HAR.out, arn_skip (fun h => by have := h.2; rw [HM.out] at this; omega)])
          go_wp2_with (go_at_call 19; refine cM.mono ?_; rintro e w2 ⟨rfl, hk2⟩; have HK2 := Lib.hid (HK.out.trans hk2); clear hk2 cM)
          go_roundw
          case rel => exact ⟨i, c, (i : Int) - 1, by go_num, by omega, by omega, rfl, h1c, h2c, HA2.out, HK2.out⟩
          case measure => simp [intOf] <;> omega
        · have b3 : decide ((k : Int) ≤ M) = true := decide_eq_true (by omega)
          by_cases h1 : c = 1
          · subst h1
            have hRn : Hid (R = some (i, M)) := by show _ = _; rw [← HAR.out, arn_hit HX.out (by rw [HM.out]; omega), HM.out]
            go_wp2_with (go_at_call 19; refine cM.mono ?_; rintro e w2 ⟨rfl, hk2⟩; have HK2 := Lib.hid (HK.out.trans hk2); clear hk2 cM)
            exact bodyPost_ret (v := .tuple #[.int .i64 (i : Int), .int .i64 M]) (by simp [results, Tryd.results23, go_sem]) rfl ⟨HK2.out, by rw [hRn.out]; rfl⟩
          · obtain ⟨c', rfl⟩ : ∃ c', c = c' + 2 := ⟨c - 2, by omega⟩
            have HA2 := Lib.hid (show Rw.arn t k x i (c' + 1) = R by rw [← HAR.out, arn_next HX.out (by rw [HM.out]; omega)])
            have b10 : IntKind.i64.wrap (((c' + 2 : Nat) : Int) - 1) = ((c' + 1 : Nat) : Int) := wrapI (by omega) (by omega) (by omega)
            have b11 : ((c' : Int) + 1 == 0) = false := by rw [beq_eq_false_iff_ne]; omega
            clear h1
            go_wp2_with (go_at_call 19; refine cM.mono ?_; rintro e w2 ⟨rfl, hk2⟩; have HK2 := Lib.hid (HK.out.trans hk2); clear hk2 cM)
            go_roundw
            case rel => exact ⟨i, c' + 1, (i : Int) - 1, by go_num, by omega, by omega, by go_num, by omega, by omega, HA2.out, HK2.out⟩
            case measure => simp [intOf] <;> omega
      · have b2 : (x != kind) = true := by rw [bne_iff_ne]; exact hxk
        have HXK := Lib.hid hxk
        have HA2 := Lib.hid (show Rw.arn t k kind i c = R by rw [← HAR.out, arn_skip (fun h => by have := h.1; rw [HX.out] at this; injection this with this; exact HXK.out this)])
        clear hxk cM
        go_wp2_with fail
        go_roundw
        case rel => exact ⟨i, c, (i : Int) - 1, by go_num, by omega, by omega, rfl, h1c, h2c, HA2.out, HK.out⟩
        case measure => simp [intOf] <;> omega
end Go.Proofs.YtohmhjeimeilcaaDoor
