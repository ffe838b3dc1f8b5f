/-
  BRACKETS, of the program: the mate, the first one in the row, the pairs around a place; and of the reference the same.
-/
import Derived.Test.YtohmhjeimeilcaaDoorPkO
set_option linter.unusedVariables false
namespace Go.Proofs.YtohmhjeimeilcaaDoor
open Go Go.RowKit

theorem led_no (w : World) : Calls Tryd.prog 33 #[.int .i64 (-1)] w fun e w' => e = .returned (.tuple #[.int .i64 0, .int .i64 6]) ∧ w' = w := by
  go_enter Tryd.func33, Tryd.ntmps33
  go_wp2
  exact bodyPost_ret (v := .tuple #[.int .i64 0, .int .i64 6]) (by simp [results, Tryd.results33, go_sem]) rfl ⟨rfl, rfl⟩
theorem led_yes (m : Nat) (w : World) : Calls Tryd.prog 33 #[.int .i64 (m : Int)] w fun e w' => e = .returned (.tuple #[.int .i64 (m : Int), .int .i64 0]) ∧ w' = w := by
  have b : ((m : Int) == -1) = false := by rw [beq_eq_false_iff_ne]; omega
  go_enter Tryd.func33, Tryd.ntmps33
  go_wp2
  exact bodyPost_ret (v := .tuple #[.int .i64 (m : Int), .int .i64 0]) (by simp [results, Tryd.results33, go_sem]) rfl ⟨rfl, rfl⟩
/-- A mate, told: where it is, or the error. -/
def ansO (o : Option Nat) : Value := match o with
  | some m => .tuple #[.int .i64 (m : Int), .int .i64 0]
  | none => .tuple #[.int .i64 0, .int .i64 6]
theorem ansO_form (o : Option Nat) : ∃ a b : Int, ansO o = .tuple #[.int .i64 a, .int .i64 b] := by
  cases o with
  | none => exact ⟨_, _, rfl⟩
  | some m => exact ⟨_, _, rfl⟩
theorem mt_oI (t : List Int) (i : Nat) : Rw.mt t i = oI (Rw.mate t i) := by unfold Rw.mt oI; cases Rw.mate t i <;> rfl
theorem led_any (o : Option Nat) (w : World) : Calls Tryd.prog 33 #[.int .i64 (oI o)] w fun e w' => e = .returned (ansO o) ∧ w' = w := by
  cases o with
  | none => exact led_no w
  | some m => exact led_yes m w
set_option maxRecDepth 100000 in
theorem pmate_yes (s : ByteArray) (k : Nat) (w : World) (hT : Tabs w) (hm : mayB s = true) (hk : k ≤ (rs s).length) :
    Calls Tryd.prog 17 #[.string s, .int .i64 k] w fun e w' => Kept (fun _ => False) w w' ∧ e = .returned (ansO (Rw.mate (rs s) k)) := by
  have cU := runes_yes s k w hT hm hk
  have hl := rs_len s
  have hsz := mayB_size hm
  have hv := vald_rs hm
  generalize rs s = t at *
  clear hT hm
  by_cases hkn : k = t.length
  · subst hkn
    rw [Rw.mate_far (Nat.le_refl _)]
    have b1 : ((t.length : Int) == (t.length : Int)) = true := by simp
    clear hv
    go_enter Tryd.func17, Tryd.ntmps17
    go_wp2_with (go_at_call 32; refine cU.mono ?_; rintro e w1 ⟨hk1, bb, cap, rfl, hbg, hR⟩)
    exact bodyPost_ret (v := .tuple #[.int .i64 0, .int .i64 6]) (by simp [results, Tryd.results17, go_sem]) rfl ⟨hk1, rfl⟩
  · have b1 : ((k : Int) == (t.length : Int)) = false := by rw [beq_eq_false_iff_ne]; omega
    have hlt : k < t.length := by omega
    have hg := Rw.mls_all hlt
    rw [mt_oI] at hg
    obtain ⟨o, ho⟩ : ∃ o, Rw.mate t k = o := ⟨_, rfl⟩
    rw [ho] at hg ⊢
    have HG := Lib.hid hg
    have HV := Lib.hid hv
    have cL := fun W => led_any o W
    obtain ⟨xa, xb, hX⟩ := ansO_form o
    rw [hX]
    simp only [hX] at cL
    clear hX
    have t1 : (0 : Int) ≤ (k : Int) := by omega
    have t2 : (k : Int) < (t.length : Int) := by omega
    clear hg hv ho hkn
    go_enter Tryd.func17, Tryd.ntmps17
    go_upto_region 6 with (go_at_call 32; refine cU.mono ?_; rintro e w1 ⟨hk1, bb, cap, rfl, hbg, hR⟩)
    have cM := mates_any (some ⟨bb, 0, none⟩) t.length cap t w1 hR HV.out (by omega)
    have HK1 := Lib.hid hk1
    clear cU hk1 hR hbg
    go_wp2_with (first | (go_at_call 34; refine cM.mono ?_; rintro e w2 ⟨b, rfl, hN, _, hk2⟩; obtain ⟨ad1, e1, hc1⟩ := hN.2 k _ HG.out; injection e1 with e1; subst e1; rw [addr_add, Nat.zero_add] at hc1; have HK2 := Lib.hid hk2; clear hN hk2 cM) | (go_at_call 33; refine (cL _).mono ?_; rintro e w3 ⟨rfl, rfl⟩))
    exact bodyPost_ret (v := .tuple #[.int .i64 xa, .int .i64 xb]) (by simp [results, Tryd.results17, go_sem]) rfl ⟨HK1.out.trans HK2.out, rfl⟩
set_option maxRecDepth 100000 in
theorem pmove_yes (s : ByteArray) (k : Nat) (w : World) (hT : Tabs w) (hm : mayB s = true) (hk : k ≤ (rs s).length) :
    Calls Tryd.prog 18 #[.string s, .int .i64 k] w fun e w' => Kept (fun _ => False) w w' ∧ e = .returned (ansO (Rw.pair (rs s) k)) := by
  have cU := runes_yes s k w hT hm hk
  have hl := rs_len s
  have hsz := mayB_size hm
  have hv := vald_rs hm
  generalize rs s = t at *
  clear hT hm
  have hle := Rw.en_le t k hk
  have hge := Rw.en_ge t k
  obtain ⟨R, hR⟩ : ∃ R, Rw.prm t (Rw.en t k) (t.length + 1) k = R := ⟨_, rfl⟩
  rw [show Rw.pair t k = R from hR]
  obtain ⟨xa, xb, hX⟩ := ansO_form R
  have HX := Lib.hid hX
  have HV := Lib.hid hv
  rw [hX]
  clear hv hX
  go_enter Tryd.func18, Tryd.ntmps18
  go_upto_region 4 with (go_at_call 32; refine cU.mono ?_; rintro e w1 ⟨hk1, bb, cap, rfl, hbg, hRn⟩)
  have cB := row_any (some ⟨bb, 0, none⟩) t.length cap t k w1 hRn hk (by omega)
  have HK1 := Lib.hid hk1
  have HRN := Lib.hid hRn
  clear cU hk1 hRn hbg
  generalize Rw.en t k = h at *
  generalize Rw.beg t k = lo at *
  have HR := Lib.hid hR
  clear hR
  go_wp2_with (go_at_call 35; refine cB.mono ?_; rintro e w2 ⟨rfl, hw⟩; have hw2 := hw.symm; clear hw; subst hw2; clear cB)
  go_loopw [10] (fun v wr => ∃ (f j : Nat), v = .int .i64 j ∧ j ≤ h ∧ h < j + f ∧ Rw.prm t h f j = R ∧ Kept (fun _ => False) w1 wr) (fun v _ => h - (intOf v).toNat)
  case atStart => exact ⟨t.length + 1, k, rfl, hge, by omega, HR.out, Kept.refl _ _⟩
  case round =>
    obtain ⟨f, j, rfl, hjh, hf, hprm, hkept⟩ := hrel
    have HK := Lib.hid hkept
    have HP := Lib.hid hprm
    clear hkept hprm
    by_cases hlt : j < h
    · obtain ⟨f', rfl⟩ : ∃ f', f = f' + 1 := ⟨f - 1, by omega⟩
      obtain ⟨ad, x, he, hx, hcx⟩ := (HRN.out.kept HK.out (fun _ _ => id)).cell (j := j) (by omega)
      injection he with he
      subst he
      rw [addr_add, Nat.zero_add] at hcx
      have hvx := HV.out x (List.mem_of_getElem? hx)
      have cC := fun W => isBr_any x hvx W
      have b1 : decide (j < h) = true := decide_eq_true hlt
      have b2 : decide ((j : Int) < (h : Int)) = true := decide_eq_true (by omega)
      have t1 : (0 : Int) ≤ (j : Int) := by omega
      have t2 : (j : Int) < (t.length : Int) := by omega
      have HX2 := Lib.hid hx
      cases hb : Rw.isBr x with
      | true =>
        have hmr : Rw.mate t j = R := by rw [← HP.out, Rw.prm_hit hlt hx hb]
        have hg := Rw.mls_all (t := t) (i := j) (by omega)
        rw [mt_oI, hmr] at hg
        have HG := Lib.hid hg
        rw [hb] at cC
        have HXX := Lib.hid HX.out
        have cL := fun W => led_any R W
        simp only [HX.out] at cL
        clear hx hvx hb hmr hg
        go_upto_region 9 with (go_at_call 36; refine (cC _).mono ?_; rintro e w3 ⟨rfl, hk3⟩)
        have cM := mates_any (some ⟨bb, 0, none⟩) t.length cap t w3 (HRN.out.kept (HK.out.trans hk3) (fun _ _ => id)) HV.out (by omega)
        have HK3 := Lib.hid (HK.out.trans hk3)
        clear hk3 hcx cC
        go_wp2_with (first | (go_at_call 34; refine cM.mono ?_; rintro e w4 ⟨b, rfl, hN, _, hk4⟩; obtain ⟨ad1, e1, hc1⟩ := hN.2 j _ HG.out; injection e1 with e1; subst e1; rw [addr_add, Nat.zero_add] at hc1; have HK4 := Lib.hid hk4; clear hN hk4 cM) | (go_at_call 33; refine (cL _).mono ?_; rintro e w5 ⟨rfl, rfl⟩))
        exact bodyPost_ret (v := .tuple #[.int .i64 xa, .int .i64 xb]) (by simp [results, Tryd.results18, go_sem]) rfl ⟨HK1.out.trans (HK3.out.trans HK4.out), rfl⟩
      | false =>
        have hp2 := Lib.hid (show Rw.prm t h f' (j + 1) = R by rw [← HP.out, Rw.prm_skip hlt hx hb])
        rw [hb] at cC
        clear hx hvx hb
        go_wp2_with (go_at_call 36; refine (cC _).mono ?_; rintro e w3 ⟨rfl, hk3⟩; have HK3 := Lib.hid (HK.out.trans hk3); clear hk3)
        go_roundw
        case rel => exact ⟨f', j + 1, by go_num, by omega, by omega, hp2.out, HK3.out⟩
        case measure => simp [intOf] <;> omega
    · obtain rfl : j = h := by omega
      have b1 : decide (j < j) = false := decide_eq_false (by omega)
      have b2 : decide ((j : Int) < (j : Int)) = false := decide_eq_false (by omega)
      have hRn : Hid (R = none) := by show _ = _; rw [← HP.out, Rw.prm_out (by omega)]
      go_wp2_with fail
      exact bodyPost_ret (v := .tuple #[.int .i64 0, .int .i64 6]) (by simp [results, Tryd.results18, go_sem]) rfl ⟨HK1.out.trans HK.out, by rw [← HX.out, hRn.out]; rfl⟩
/-- A pair, told. -/
def ansA (o : Option (Nat × Int)) : Value := match o with
  | some (x, y) => .tuple #[.int .i64 (x : Int), .int .i64 y, .int .i64 0]
  | none => .tuple #[.int .i64 0, .int .i64 0, .int .i64 6]
theorem arn_0 (t : List Int) (a kind : Int) (c : Nat) : Rw.arn t a kind 0 c = none := rfl
theorem arn_hit {t : List Int} {a kind : Int} {j : Nat} (h1 : t[j]? = some kind) (h2 : a ≤ Rw.mt t j) : Rw.arn t a kind (j + 1) 1 = some (j, Rw.mt t j) := by
  unfold Rw.arn; rw [if_pos ⟨h1, h2⟩, if_pos (by omega)]
theorem arn_next {t : List Int} {a kind : Int} {j c : Nat} (h1 : t[j]? = some kind) (h2 : a ≤ Rw.mt t j) : Rw.arn t a kind (j + 1) (c + 2) = Rw.arn t a kind j (c + 1) := by
  conv => lhs; unfold Rw.arn
  rw [if_pos ⟨h1, h2⟩, if_neg (by omega)]
  rfl
theorem arn_skip {t : List Int} {a kind : Int} {j c : Nat} (h : ¬ (t[j]? = some kind ∧ a ≤ Rw.mt t j)) : Rw.arn t a kind (j + 1) c = Rw.arn t a kind j c := by
  conv => lhs; unfold Rw.arn
  rw [if_neg h]
set_option maxRecDepth 100000 in
set_option maxHeartbeats 1000000 in
theorem paround_yes (s : ByteArray) (k cnt : Nat) (kind : Int) (w : World) (hT : Tabs w) (hm : mayB s = true) (hk : k ≤ (rs s).length) (hkind : kind = 40 ∨ kind = 91 ∨ kind = 123) (hc1 : 1 ≤ cnt) (hc2 : cnt ≤ 999) :
    Calls Tryd.prog 22 #[.string s, .int .i64 k, .int .i64 kind, .int .i64 cnt] w fun e w' => Kept (fun _ => False) w w' ∧ e = .returned (ansA (Rw.around (rs s) k kind cnt)) := by
  have cU := runes_yes s k w hT hm hk
  have hl := rs_len s
  have hsz := mayB_size hm
  have hv := vald_rs hm
  generalize rs s = t at *
  clear hT hm
  have b1 : decide ((cnt : Int) < 1) = false := decide_eq_false (by omega)
  have b2 : decide (999 < (cnt : Int)) = false := decide_eq_false (by omega)
  have b3 : decide (cnt < 1) = false := decide_eq_false (by omega)
  have b4 : decide (999 < cnt) = false := decide_eq_false (by omega)
  have b5 : decide (cnt = 0) = false := decide_eq_false (by omega)
  obtain ⟨R, hR⟩ : ∃ R, Rw.arn t k kind (min (k + 1) t.length) cnt = R := ⟨_, rfl⟩
  rw [show Rw.around t k kind cnt = R from hR]
  have HR := Lib.hid hR
  have HV := Lib.hid hv
  have hmin : min (k : Int) ((t.length : Int) - 1) + 1 = ((min (k + 1) t.length : Nat) : Int) := by omega
  have HMIN := Lib.hid hmin
  have hwr : IntKind.i64.wrap ((t.length : Int) - 1) = (t.length : Int) - 1 := wrapI rfl (by omega) (by omega)
  have hj0 : min (k + 1) t.length ≤ t.length := Nat.min_le_right _ _
  have HJ0 := Lib.hid hj0
  obtain ⟨MI, hMI⟩ : ∃ MI, min (k : Int) ((t.length : Int) - 1) = MI := ⟨_, rfl⟩
  rw [hMI] at HMIN
  clear hv hR hj0 hmin
  have hq : (kind != 40) = false ∨ ((kind != 40) = true ∧ (kind != 91) = false) ∨ ((kind != 40) = true ∧ (kind != 91) = true ∧ (kind != 123) = false) := by
    rcases hkind with rfl | rfl | rfl
    · exact .inl (by decide)
    · exact .inr (.inl ⟨by decide, by decide⟩)
    · exact .inr (.inr ⟨by decide, by decide, by decide⟩)
  have HKD := Lib.hid hkind
  clear hkind
  go_enter Tryd.func22, Tryd.ntmps22
  go_upto_region 2 with (go_at_call 32; refine cU.mono ?_; rintro e w1 ⟨hk1, bb, cap, rfl, hbg, hRn⟩)
  have cM := mates_any (some ⟨bb, 0, none⟩) t.length cap t w1 hRn HV.out (by omega)
  have HK1 := Lib.hid hk1
  have HRN := Lib.hid hRn
  clear cU hk1 hRn hbg
  go_cut [42] from 21 to 42 (fun v wx => v = .bool false ∧ wx = w1)
  case first =>
    rcases hq with h1 | ⟨h1, h2⟩ | ⟨h1, h2, h3⟩
    all_goals
      go_wp2_with fail
      go_meet
      exact ⟨rfl, rfl⟩
  case rest =>
    obtain ⟨rfl, hw⟩ := hcut
    have hw2 := hw.symm
    clear hw
    subst hw2
    clear hq b1 b2 b3 b4 b5
    go_wp2_with (go_at_call 34; refine cM.mono ?_; rintro e w2 ⟨b, rfl, hN, _, hk2⟩; have HN := Lib.hid hN; have HK2 := Lib.hid hk2; clear hN hk2 cM)
    clear hMI hwr
    go_loopw [14, 3] (fun v cv wr => ∃ (j c : Nat) (I : Int), v = .int .i64 I ∧ I + 1 = (j : Int) ∧ j ≤ t.length ∧ cv = .int .i64 c ∧ 1 ≤ c ∧ c ≤ 999 ∧ Rw.arn t k kind j c = R ∧ ∃ q, wr = w2.drewN q) (fun v _ _ => (intOf v + 1).toNat)
    case atStart => exact ⟨min (k + 1) t.length, cnt, _, rfl, HMIN.out, HJ0.out, rfl, hc1, hc2, HR.out, 0, rfl⟩
    case round =>
      obtain ⟨j, c, I, rfl, hIj, hjl, rfl, h1c, h2c, harn, q, rfl⟩ := hrel
      have HAR := Lib.hid harn
      clear harn
      by_cases hj0 : j = 0
      · subst hj0
        obtain rfl : I = -1 := by omega
        have hRn : Hid (R = none) := by show _ = _; rw [← HAR.out]; rfl
        go_wp2_with fail
        exact bodyPost_ret (v := .tuple #[.int .i64 0, .int .i64 0, .int .i64 6]) (by simp [results, Tryd.results22, go_sem]) rfl ⟨(HK1.out.trans HK2.out).drewN q, by rw [hRn.out]; rfl⟩
      · obtain ⟨i, rfl⟩ : ∃ i, j = i + 1 := ⟨j - 1, by omega⟩
        obtain rfl : I = (i : Int) := by omega
        obtain ⟨ad, x, he, hx, hcx⟩ := (HRN.out.kept HK2.out (fun _ _ => id)).cell (j := i) (by omega)
        injection he with he
        subst he
        rw [addr_add, Nat.zero_add] at hcx
        obtain ⟨x1, x2⟩ := HV.out.runey.at_ hx
        have hwx : IntKind.i64.wrap x = x := wrapI rfl (by omega) (by omega)
        have hg := Rw.mls_all (t := t) (i := i) (by omega)
        obtain ⟨M, hM⟩ : ∃ M, Rw.mt t i = M := ⟨_, rfl⟩
        rw [hM] at hg
        obtain ⟨ad1, e1, hcm⟩ := HN.out.2 i M hg
        injection e1 with e1
        subst e1
        rw [addr_add, Nat.zero_add] at hcm
        have HX := Lib.hid hx
        have HM := Lib.hid hM
        have hcx' : (w2.drewN q).cell? ⟨bb, i, none⟩ = some (.int .i32 x) := hcx
        have hcm' : (w2.drewN q).cell? ⟨b, i, none⟩ = some (.int .i64 M) := hcm
        have b1 : decide ((0 : Int) ≤ (i : Int)) = true := decide_eq_true (by omega)
        have t1 : (0 : Int) ≤ (i : Int) := by omega
        have t2 : (i : Int) < (t.length : Int) := by omega
        have b9 : IntKind.i64.wrap ((i : Int) - 1) = (i : Int) - 1 := wrapI rfl (by omega) (by omega)
        clear hx hM hg hIj hj0 hcx hcm
        by_cases hxk : x = kind
        · subst hxk
          have b2 : (x != x) = false := by simp
          by_cases hlt : M < (k : Int)
          · have b3 : decide (M < (k : Int)) = true := decide_eq_true hlt
            have HA2 := Lib.hid (show Rw.arn t k x i c = R by rw [← HAR.out, arn_skip (fun h => by have := h.2; rw [HM.out] at this; omega)])
            go_wp2_with fail
            go_roundw
            case rel => exact ⟨i, c, (i : Int) - 1, by go_num, by omega, by omega, rfl, h1c, h2c, HA2.out, q, rfl⟩
            case measure => simp [intOf] <;> omega
          · have b3 : decide (M < (k : Int)) = false := decide_eq_false hlt
            by_cases h1 : c = 1
            · subst h1
              have hRn : Hid (R = some (i, M)) := by show _ = _; rw [← HAR.out, arn_hit HX.out (by rw [HM.out]; omega), HM.out]
              go_upto_region 11 with fail
              have HKq : Hid (Kept (fun _ => False) w (w2.drewN q)) := (HK1.out.trans HK2.out).drewN q
              generalize w2.drewN q = w3 at *
              go_quiet (fail)
              go_wp2_with fail
              exact bodyPost_ret (v := .tuple #[.int .i64 (i : Int), .int .i64 M, .int .i64 0]) (by simp [results, Tryd.results22, go_sem]) rfl ⟨HKq.out.drewN _, by rw [hRn.out]; rfl⟩
            · obtain ⟨c', rfl⟩ : ∃ c', c = c' + 2 := ⟨c - 2, by omega⟩
              have HA2 := Lib.hid (show Rw.arn t k x i (c' + 1) = R by rw [← HAR.out, arn_next HX.out (by rw [HM.out]; omega)])
              have b10 : IntKind.i64.wrap (((c' + 2 : Nat) : Int) - 1) = ((c' + 1 : Nat) : Int) := wrapI (by omega) (by omega) (by omega)
              have b11 : ((c' : Int) + 1 == 0) = false := by rw [beq_eq_false_iff_ne]; omega
              clear h1
              go_wp2_with fail
              go_roundw
              case rel => exact ⟨i, c' + 1, (i : Int) - 1, by go_num, by omega, by omega, by go_num, by omega, by omega, HA2.out, q, rfl⟩
              case measure => simp [intOf] <;> omega
        · have b2 : (x != kind) = true := by rw [bne_iff_ne]; exact hxk
          have HXK := Lib.hid hxk
          have HA2 := Lib.hid (show Rw.arn t k kind i c = R by rw [← HAR.out, arn_skip (fun h => by have := h.1; rw [HX.out] at this; injection this with this; exact HXK.out this)])
          clear hxk
          go_wp2_with fail
          go_roundw
          case rel => exact ⟨i, c, (i : Int) - 1, by go_num, by omega, by omega, rfl, h1c, h2c, HA2.out, q, rfl⟩
          case measure => simp [intOf] <;> omega
end Go.Proofs.YtohmhjeimeilcaaDoor
