/-
  ROWS SHIFTED: the program's Of by > and <; the reference's shifted.
-/
import Derived.Test.YtkeojjojilfklaaDoorSf1
import Derived.Test.YtkeojjojilfklaaDoorRc
set_option linter.unusedVariables false
namespace Go.Proofs.YtkeojjojilfklaaDoor
open Go Go.RowKit

set_option maxRecDepth 100000 in
set_option maxHeartbeats 1000000 in
theorem of_s (s : ByteArray) (lo hi : Nat) (line : Bool) (key : Int) (k : Nat) (w : World) (hT : Tabs w) (hM : Mx w) (hm : mayB s = true) (hk : k ≤ (rs s).length) (hr : Rw.Rng (rs s) lo hi line) (hkey : key = 62 ∨ key = 60) :
    Calls Tryd.prog 20 #[.string s, rngV lo hi line, .int .i64 key, .int .i64 k] w fun e w' => (∃ v, e = .returned v ∧ ShV s lo hi key v) ∧ Kept (fun _ => False) w w' := by
  have hka : Kept (fun _ => False) w ((w.alloc (rngO lo hi line)).alloc zeroQ) := ((Kept.refl _ w).alloc _).alloc _
  have hTa := hT.kept hka id id
  have hMa := hM.kept hka
  have cR := runes_cap s k _ hTa hm hk
  have hsz := mayB_size hm
  have hl := rs_len s
  have HR := Lib.hid (rngI_nat.2 hr)
  have cC := fun b cap W hT hM hA hcap => shifted_any s b cap lo hi line key W hT hM hm hA hcap hr.1 hr.2.1 hkey
  generalize ShV s lo hi key = P at *
  have HX0 : Hid (((w.alloc (rngO lo hi line)).alloc zeroQ).heap[w.heap.size]? = some (rngO lo hi line)) := heap_two' w _ _
  have HG0 : Hid (((w.alloc (rngO lo hi line)).alloc zeroQ).heap[w.heap.size + 1]? = some zeroQ) := heap_two'' w _ _
  generalize rs s = t at *
  have HTA := Lib.hid hTa
  have HMA := Lib.hid hMa
  have HKA := Lib.hid hka
  have HCC := Lib.hid cC
  clear hT hka hm hTa hMa hM cC hr
  go_enter Tryd.func20, Tryd.ntmps20
  go_upto_region 2 with (go_at_call 41; refine cR.mono ?_; rintro e w0 ⟨hk0, b, cap, rfl, hb, hcap, hR⟩)
  have hI0 : OfI lo hi line b w.heap.size t w0 := ⟨HTA.out.kept hk0 id id, hR, (hk0.block w.heap.size (by simp; omega) id).trans HX0.out, (hk0.block (w.heap.size + 1) (by simp) id).trans HG0.out⟩
  have HK0 := Lib.hid (HKA.out.trans hk0)
  have HM0 := Lib.hid (HMA.out.kept hk0)
  obtain ⟨xb, hxb⟩ : ∃ xb, w.heap.size = xb := ⟨_, rfl⟩
  have HXB := Lib.hid hxb
  simp only [hxb] at hI0 ⊢
  have HI0 := Lib.hid hI0
  clear hxb hk0 cR HX0 HG0 HTA hR hI0 hb
  obtain ⟨f0, f1, f2⟩ := HI0.out.cells
  have cM := chmay_any (some ⟨b, 0, none⟩) t.length cap t lo hi line true w0 HI0.out.rn (by omega) ⟨fun _ => HR.out, fun _ => rfl⟩
  go_upto_region 4 with (go_at_call 42; refine cM.mono ?_; rintro e w1 ⟨rfl, hk01⟩; have HK1 := Lib.hid (HK0.out.trans hk01); have HM1 := Lib.hid (HM0.out.kept hk01); have HI1 := Lib.hid (HI0.out.kept hk01); clear hk01 f0 f1 f2 cM)
  obtain ⟨f0, f1, f2⟩ := HI1.out.cells
  have cC := HCC.out b cap w1 HI1.out.tabs HM1.out HI1.out.rn hcap
  rcases hkey with rfl | rfl
  all_goals
    go_wp2_with (go_at_call 46; refine cC.mono ?_; rintro e w2 ⟨⟨a, d, p, x, tk, E, rfl, hp⟩, hk2⟩; have HP := Lib.hid hp; have HK2 := Lib.hid (HK1.out.trans hk2); have HI2 := Lib.hid (HI1.out.kept hk2); obtain ⟨⟨c0, c1, c2, c3, c4, c5⟩, k0, k1, k2, k3, k4, k5⟩ := chg_facts HI2.out.chg; clear hp hk2 cC; unfold chgQ)
    refine bodyPost_ret (res_chg rfl _ _ (xb + 1) _ _ _ _ _ _ (0, 0) rfl (chg_six HI2.out.chg _ _ _ _ _ _)) rfl ⟨⟨chgQ a d p x tk E, rfl, HP.out⟩, ?_⟩
    exact HK2.out.fresh (Kept.six (Kept.refl (fun q => q = xb + 1) _) rfl _ _ _ _ _ _) (fun b hb e => by have := HXB.out; omega)
theorem en_en (t : List Int) (k : Nat) (hk : k ≤ t.length) : Rw.en t (Rw.en t k) = Rw.en t k := by
  have := Rw.en_le t k hk
  by_cases h : Rw.en t k < t.length
  · exact Rw.en_stop (Rw.en_at t k h)
  · exact Rw.en_end (by omega)
set_option maxRecDepth 100000 in
set_option maxHeartbeats 4000000 in
theorem rshifted_any (s : ByteArray) (b cap lo hi : Nat) (line : Bool) (key : Int) (w : World) (hT : Tabs w) (hm : mayB s = true) (hA : Rn w (some ⟨b, 0, none⟩) (rs s).length (rs s)) (hcap : (rs s).length ≤ cap) (h1 : lo ≤ hi) (h2 : hi ≤ (rs s).length) (hkey : key = 62 ∨ key = 60) :
    Calls Tryd.prog 63 #[.string s, .slice (some ⟨b, 0, none⟩) (rs s).length cap, rngV lo hi line, .int .i64 key] w fun e w' => (∃ (a d : Int) (p : ByteArray) (x : Int) (tk : ByteArray) (E : Int), e = .returned (chgQ a d p x tk E) ∧ ShV s lo hi key (chgQ a d p x tk E)) ∧ Kept (fun _ => False) w w' := by
  have hka : Kept (fun _ => False) w ((w.alloc (rngO lo hi line)).alloc zeroQ) := ((Kept.refl _ w).alloc _).alloc _
  have hI0 : OfI lo hi line b w.heap.size (rs s) ((w.alloc (rngO lo hi line)).alloc zeroQ) := ⟨hT.kept hka id id, hA.kept hka (fun _ _ => id), heap_two' w _ _, heap_two'' w _ _⟩
  have HI0 := Lib.hid hI0
  have HKA := Lib.hid hka
  have hsm := mayB_size hm
  have hl4 : (rs s).length ≤ 4000 := by have := rs_len s; omega
  have hlo : lo ≤ (rs s).length := Nat.le_trans h1 h2
  have hb1 := Rw.beg_le (rs s) lo
  have he1 := Rw.en_ge (rs s) hi
  have he2 := Rw.en_le (rs s) hi h2
  have hzv := shZ_vld (lo := lo) (hi := hi) (key := key) (rs_vld hm)
  have hzl := shZ_len (rs s) lo hi key
  have hzr : rs (runesBytes (shZ (rs s) lo hi key)) = shZ (rs s) lo hi key := rs_txt hzv
  have hzb : Rw.beg (rs s) lo ≤ (shZ (rs s) lo hi key).length := by unfold shZ; rw [List.length_append, List.length_take]; omega
  have hzs := txt_size5 (shZ (rs s) lo hi key)
  have cBe := fun W hW => rbegin_any (some ⟨b, 0, none⟩) (rs s).length cap (rs s) lo W hW hlo (by omega)
  have cEn := fun a W hW (ha : a ≤ (rs s).length) => rend_any (some ⟨b, 0, none⟩) (rs s).length cap (rs s) a W hW ha (by omega)
  have cY := fun W hW => rmay_any (runesBytes (shZ (rs s) lo hi key)) W (by omega) hW
  have cM := fun W hW at' (hmz : mayB (runesBytes (shZ (rs s) lo hi key)) = true) => rmade_yes s (runesBytes (shZ (rs s) lo hi key)) at' W hsm hW hmz
  have cF := fun W (hmz : mayB (runesBytes (shZ (rs s) lo hi key)) = true) => rtidy_yes (runesBytes (shZ (rs s) lo hi key)) (Rw.beg (rs s) lo) W hmz (by rw [hzr]; exact hzb)
  rw [hzr] at cM cF
  have HRY : Hid (Runey (rs s)) := rs_runey (mayB_valid hm)
  have HVS : Hid (Vld (rs s)) := rs_vld hm
  have HZE : Hid ((rs s).take (Rw.beg (rs s) lo) ++ shF (rs s) (Rw.en (rs s) hi) key (Rw.beg (rs s) lo) = shZ (rs s) lo hi key) := rfl
  have HPN : Hid (mayB (runesBytes (shZ (rs s) lo hi key)) = false → ShV s lo hi key (chgQ 0 0 ⟨#[]⟩ 0 ⟨#[]⟩ 4)) := fun h => ⟨fun h' => (by rw [h] at h'; cases h'), fun _ => rfl⟩
  have HPY : Hid (mayB (runesBytes (shZ (rs s) lo hi key)) = true → ShV s lo hi key (chgQ (Rw.bat (rs s) (shZ (rs s) lo hi key) : Nat) (Rw.bdel (rs s) (shZ (rs s) lo hi key) : Nat) (runesBytes (Rw.bins (rs s) (shZ (rs s) lo hi key))) (Rw.rst (shZ (rs s) lo hi key) (Rw.fst (shZ (rs s) lo hi key) (Rw.beg (rs s) lo)) : Nat) ⟨#[]⟩ 0)) := fun h => ⟨fun _ => rfl, fun h' => (by rw [h] at h'; cases h')⟩
  generalize ShV s lo hi key = P at *
  generalize ((Rw.bat (rs s) (shZ (rs s) lo hi key) : Nat) : Int) = PA at *
  generalize ((Rw.bdel (rs s) (shZ (rs s) lo hi key) : Nat) : Int) = PD at *
  generalize runesBytes (Rw.bins (rs s) (shZ (rs s) lo hi key)) = PI at *
  generalize Rw.rst (shZ (rs s) lo hi key) (Rw.fst (shZ (rs s) lo hi key) (Rw.beg (rs s) lo)) = V at *
  generalize shZ (rs s) lo hi key = Z at *
  generalize hBB0 : Rw.beg (rs s) lo = B at *
  have HBG := Lib.hid hBB0
  generalize hE : Rw.en (rs s) hi = E at *
  have HE := Lib.hid hE
  generalize rs s = t at *
  have HCM := Lib.hid cM
  have HCF := Lib.hid cF
  have HCY := Lib.hid cY
  have HCE := Lib.hid cEn
  clear hT hm hA hka hI0 hsm hzv hzr cM cF cY cEn hE hBB0
  obtain ⟨xb, hxb⟩ : ∃ xb, w.heap.size = xb := ⟨_, rfl⟩
  have HXB := Lib.hid hxb
  rw [hxb] at HI0
  clear hxb
  go_enter Tryd.func63, Tryd.ntmps63
  go_upto_region 1 with fail
  simp only [HXB.out]
  generalize (w.alloc (rngO lo hi line)).alloc zeroQ = W0 at *
  obtain ⟨a0, a1, a2⟩ := HI0.out.cells
  have cB := cBe W0 HI0.out.rn
  clear cBe
  have hcA := fun u => run_cut_h u (some ⟨b, 0, none⟩) t.length cap B (B : Int) rfl (by omega)
  have htA : (convert 31 9 (.slice (cutB (some ⟨b, 0, none⟩) cap 0) B cap)).run Tryd.prog W0 = .ok (.string (runesBytes (t.take B))) W0 := run_txt (by rw [cutB_zero]; exact HI0.out.rn.take (by omega))
  go_wp2_with (go_at_call 40; refine cB.mono ?_; rintro e w2 ⟨rfl, hw⟩; have hw3 := hw.symm; subst hw3)
  clear hcA htA
  have HCBe := Lib.hid cB
  clear cB
  go_loop [10, 11] (fun xv av => ∃ (at' : Nat) (X : List Int), xv = .string (runesBytes X) ∧ av = .int .i64 at' ∧ X ++ shF t E key at' = Z ∧ at' ≤ hi) (fun _ av => t.length + 1 - (intOf av).toNat)
  case atStart => exact ⟨B, t.take B, rfl, rfl, HZE.out, by omega⟩
  case round =>
    obtain ⟨at', X, rfl, rfl, hX, hah⟩ := hrel
    have HX := Lib.hid hX
    have hXl : X.length ≤ 5 * t.length + 2 := by have := congrArg List.length hX; rw [List.length_append] at this; omega
    have hXs := txt_size5 X
    clear hX
    have cE := HCE.out at' W0 HI0.out.rn (by omega)
    have hee := en_en t at' (by omega)
    have hge := Rw.en_ge t at'
    have hle := Rw.en_le t at' (by omega)
    have HNO : Hid (∀ j, at' ≤ j → j < Rw.en t at' → t[j]? ≠ some 10) := fun j h1 h2 => Rw.en_none t at' j h1 h2
    have HAT : Hid (Rw.en t at' < t.length → t[Rw.en t at']? = some 10) := fun h => Rw.en_at t at' h
    generalize Rw.en t at' = e at *
    have HLAST : Hid (hi ≤ e → E = e) := fun h => HE.out.symm.trans (Rw.en_of t hi e h hee (fun j h1 h2 => HNO.out j (by omega) h2) hle)
    have HSL : Hid (hi ≤ e → (X ++ shR key ((t.take e).drop at')) ++ t.drop e = Z) := fun h => by
      have h3 := HX.out
      rw [HLAST.out h, shF_last HNO.out, ← List.append_assoc] at h3
      exact h3
    have HSS : Hid (¬ hi ≤ e → ((X ++ shR key ((t.take e).drop at')) ++ [10]) ++ shF t E key (e + 1) = Z) := fun h => by
      have h3 := HX.out
      rw [shF_step hge (by omega) (HAT.out (by omega)) HNO.out] at h3
      rw [← h3]
      simp [List.append_assoc]
    clear hee
    have hgei : (at' : Int) ≤ (e : Int) := by omega
    rcases hkey with rfl | rfl
    · by_cases heq : e = at'
      · subst heq
        have b0 : decide ((e : Int) < (e : Int)) = false := by simp
        have b0' : decide (e < e) = false := by simp
        have hrow : (t.take e).drop e = [] := List.drop_eq_nil_of_le (by rw [List.length_take]; omega)
        go_upto_region 10 with (go_at_call 25; refine cE.mono ?_; rintro e2 w2 ⟨rfl, hw⟩; have hw3 := hw.symm; subst hw3; clear cE)
        have hcR := fun u => run_cut_lh u (some ⟨b, 0, none⟩) t.length cap e e (e : Int) (e : Int) rfl rfl (by omega) (by omega)
        have htR := run_txt (c := cap - e) (HI0.out.rn.cut (lo := e) (hi := e) (by omega) hle hcap)
        rw [Nat.sub_self] at htR
        have hfe : (e : Int) ≤ (e : Int) := by omega
        obtain ⟨Y, hY⟩ : ∃ Y, X ++ (t.take e).drop e = Y := ⟨_, rfl⟩
        have hYR : Y = X ++ shR 62 ((t.take e).drop e) := by rw [← hY]; rw [hrow]; rfl
        rw [← hYR] at HSL HSS
        have hYl : Y.length ≤ 6 * t.length + 4 := by rw [← hY, List.length_append, List.length_drop, List.length_take]; omega
        have hYs := txt_size5 Y
        have ad1 : ∀ u, (Op.stringOp .add (runesBytes (X)) (runesBytes ((t.take e).drop e))).run Tryd.prog u = .ok (.string (runesBytes Y)) u := fun u => by
          have h := txt_append (X) ((t.take e).drop e)
          rw [hY] at h
          rw [← h]
          exact run_string_add_sum u _ _ (by rw [← ByteArray.size_append, h]; omega)
        clear hY hYR
        generalize runesBytes ((t.take e).drop e) = RT at *
        generalize runesBytes (X) = XB at *
        go_upto_region 11 with fail
        clear hcR htR ad1
        by_cases hlast : hi ≤ e
        · have hz := HSL.out hlast
          have b1 : decide ((hi : Int) ≤ (e : Int)) = true := by simp; omega
          have b2 : decide (hi ≤ e) = true := by simp; omega
          have hcC := fun u => run_cut_l u (some ⟨b, 0, none⟩) t.length cap e (e : Int) rfl hle hcap
          have htC := run_txt (c := cap - e) (HI0.out.rn.drop hle hcap)
          have ad2 : ∀ u, (Op.stringOp .add (runesBytes Y) (runesBytes (t.drop e))).run Tryd.prog u = .ok (.string (runesBytes Z)) u := fun u => by
            have h := txt_append Y (t.drop e)
            rw [hz] at h
            rw [← h]
            exact run_string_add_sum u _ _ (by rw [← ByteArray.size_append, h]; omega)
          clear hz hlast
          generalize runesBytes (t.drop e) = RD at *
          generalize runesBytes Y = YB at *
          generalize hNX : runesBytes Z = NX at *
          go_wp2_with fail
          clear hcC htC ad2
          have cY := HCY.out W0 HI0.out.tabs
          by_cases hmz : mayB NX = true
          · rw [hmz] at cY
            have HY := Lib.hid (HPY.out hmz)
            have HMZ := Lib.hid hmz
            clear hmz
            refine cY.mono ?_
            rintro e' w3 ⟨rfl, hk3⟩
            have HI3 := Lib.hid (HI0.out.kept hk3)
            have HK3 := Lib.hid (HKA.out.trans hk3)
            obtain ⟨f0, f1, f2⟩ := HI3.out.cells
            have cB3 := rbegin_any (some ⟨b, 0, none⟩) t.length cap t lo w3 HI3.out.rn hlo (by omega)
            rw [HBG.out] at cB3
            clear hk3 cY
            go_wp2_with (first
              | (go_at_call 40; refine cB3.mono ?_; rintro e2 w4 ⟨rfl, hw⟩; have hw3 := hw.symm; subst hw3; clear cB3)
              | (go_at_call 82; refine (HCF.out _ HMZ.out).mono ?_; rintro e2 w4 ⟨rfl, hk4⟩; have HI4 := Lib.hid (HI3.out.kept hk4); have HK4 := Lib.hid (HK3.out.trans hk4); clear hk4)
              | (go_at_call 62; refine (HCM.out _ HI4.out.tabs _ HMZ.out).mono ?_; rintro e2 w5 ⟨rfl, hk5⟩; have HI5 := Lib.hid (HI4.out.kept hk5); have HK5 := Lib.hid (HK4.out.trans hk5); obtain ⟨⟨c0, c1, c2, c3, c4, c5⟩, k0, k1, k2, k3, k4, k5⟩ := chg_facts HI5.out.chg; clear hk5))
            refine bodyPost_ret (res_chg rfl _ _ (xb + 1) _ _ _ _ _ _ (0, 0) rfl (chg_six HI5.out.chg _ _ _ _ _ _)) rfl ⟨⟨PA, PD, PI, V, ⟨#[]⟩, 0, rfl, HY.out⟩, ?_⟩
            exact HK5.out.fresh (Kept.six (Kept.refl (fun q => q = xb + 1) _) rfl _ _ _ _ _ _) (fun b hb e => by have := HXB.out; omega)
          · have hmz' : mayB NX = false := by simpa using hmz
            rw [hmz'] at cY
            have HY := Lib.hid (HPN.out hmz')
            clear hmz hmz'
            refine cY.mono ?_
            rintro e' w3 ⟨rfl, hk3⟩
            have HI3 := Lib.hid (HI0.out.kept hk3)
            have HK3 := Lib.hid (HKA.out.trans hk3)
            obtain ⟨⟨c0, c1, c2, c3, c4, c5⟩, k0, k1, k2, k3, k4, k5⟩ := chg_facts HI3.out.chg
            clear hk3 cY
            go_wp2
            refine bodyPost_ret (res_chg rfl _ _ (xb + 1) _ _ _ _ _ _ (0, 0) rfl (chg_six HI3.out.chg _ _ _ _ _ _)) rfl ⟨⟨0, 0, ⟨#[]⟩, 0, ⟨#[]⟩, 4, rfl, HY.out⟩, ?_⟩
            exact HK3.out.fresh (Kept.six (Kept.refl (fun q => q = xb + 1) _) rfl _ _ _ _ _ _) (fun b hb e => by have := HXB.out; omega)
        · have hz := HSS.out hlast
          have HZZ := Lib.hid hz
          have b1 : decide ((hi : Int) ≤ (e : Int)) = false := by simp; omega
          have b2 : decide (hi ≤ e) = false := by simp; omega
          have ad2 : ∀ u, (Op.stringOp .add (runesBytes Y) ⟨#[10]⟩).run Tryd.prog u = .ok (.string (runesBytes (Y ++ [10]))) u := fun u => by
            have h := txt_append Y [10]
            rw [show runesBytes [10] = (⟨#[10]⟩ : ByteArray) by decide] at h
            rw [← h]
            exact run_string_add_sum u _ _ (by rw [show (⟨#[10]⟩ : ByteArray).size = 1 from rfl]; omega)
          have hw1 : IntKind.i64.wrap ((e : Int) + 1) = ((e + 1 : Nat) : Int) := by rw [IntWalk.i64_in _ ⟨by omega, by omega⟩]; omega
          clear hz
          obtain ⟨YN, hYN⟩ : ∃ YN, runesBytes (Y ++ [10]) = YN := ⟨_, rfl⟩
          have HYN := Lib.hid hYN
          rw [hYN] at ad2
          clear hYN
          generalize runesBytes Y = YB at *
          go_wp2
          go_round
          case rel => exact ⟨e + 1, Y ++ [10], by rw [HYN.out], rfl, HZZ.out, by omega⟩
          case measure => simp [intOf]; omega
      · have b0 : decide ((at' : Int) < (e : Int)) = true := by simp; omega
        have b0' : decide (at' < e) = true := by simp; omega
        have hrow : (t.take e).drop at' ≠ [] := fun h => by
          have := congrArg List.length h
          rw [List.length_drop, List.length_take] at this
          simp at this
          omega
        have hsh : shR 62 ((t.take e).drop at') = 32 :: 32 :: (t.take e).drop at' := by
          unfold shR
          rw [if_neg (by decide), if_neg hrow]
        have ad0 : ∀ u, (Op.stringOp .add (runesBytes X) ⟨#[32, 32]⟩).run Tryd.prog u = .ok (.string (runesBytes (X ++ [32, 32]))) u := fun u => by
          have h := txt_append X [32, 32]
          rw [show runesBytes [32, 32] = (⟨#[32, 32]⟩ : ByteArray) by decide] at h
          rw [← h]
          exact run_string_add_sum u _ _ (by rw [show (⟨#[32, 32]⟩ : ByteArray).size = 2 from rfl]; omega)
        go_upto_region 10 with (go_at_call 25; refine cE.mono ?_; rintro e2 w2 ⟨rfl, hw⟩; have hw3 := hw.symm; subst hw3; clear cE)
        clear ad0 b0 b0'
        have hcR := fun u => run_cut_lh u (some ⟨b, 0, none⟩) t.length cap at' e (at' : Int) (e : Int) rfl rfl (by omega) (by omega)
        have htR := run_txt (c := cap - at') (HI0.out.rn.cut (lo := at') (hi := e) (by omega) hle hcap)
        have hfe : (at' : Int) ≤ (e : Int) := by omega
        obtain ⟨Y, hY⟩ : ∃ Y, X ++ [32, 32] ++ (t.take e).drop at' = Y := ⟨_, rfl⟩
        have hYR : Y = X ++ shR 62 ((t.take e).drop at') := by rw [← hY]; rw [hsh, List.append_assoc]; rfl
        rw [← hYR] at HSL HSS
        have hYl : Y.length ≤ 6 * t.length + 4 := by rw [← hY, List.length_append, List.length_drop, List.length_take]; simp only [List.length_append, List.length_cons, List.length_nil]; omega
        have hYs := txt_size5 Y
        have ad1 : ∀ u, (Op.stringOp .add (runesBytes (X ++ [32, 32])) (runesBytes ((t.take e).drop at'))).run Tryd.prog u = .ok (.string (runesBytes Y)) u := fun u => by
          have h := txt_append (X ++ [32, 32]) ((t.take e).drop at')
          rw [hY] at h
          rw [← h]
          exact run_string_add_sum u _ _ (by rw [← ByteArray.size_append, h]; omega)
        clear hY hYR
        generalize runesBytes ((t.take e).drop at') = RT at *
        generalize runesBytes (X ++ [32, 32]) = XB at *
        go_upto_region 11 with fail
        clear hcR htR ad1
        by_cases hlast : hi ≤ e
        · have hz := HSL.out hlast
          have b1 : decide ((hi : Int) ≤ (e : Int)) = true := by simp; omega
          have b2 : decide (hi ≤ e) = true := by simp; omega
          have hcC := fun u => run_cut_l u (some ⟨b, 0, none⟩) t.length cap e (e : Int) rfl hle hcap
          have htC := run_txt (c := cap - e) (HI0.out.rn.drop hle hcap)
          have ad2 : ∀ u, (Op.stringOp .add (runesBytes Y) (runesBytes (t.drop e))).run Tryd.prog u = .ok (.string (runesBytes Z)) u := fun u => by
            have h := txt_append Y (t.drop e)
            rw [hz] at h
            rw [← h]
            exact run_string_add_sum u _ _ (by rw [← ByteArray.size_append, h]; omega)
          clear hz hlast
          generalize runesBytes (t.drop e) = RD at *
          generalize runesBytes Y = YB at *
          generalize hNX : runesBytes Z = NX at *
          go_wp2_with fail
          clear hcC htC ad2
          have cY := HCY.out W0 HI0.out.tabs
          by_cases hmz : mayB NX = true
          · rw [hmz] at cY
            have HY := Lib.hid (HPY.out hmz)
            have HMZ := Lib.hid hmz
            clear hmz
            refine cY.mono ?_
            rintro e' w3 ⟨rfl, hk3⟩
            have HI3 := Lib.hid (HI0.out.kept hk3)
            have HK3 := Lib.hid (HKA.out.trans hk3)
            obtain ⟨f0, f1, f2⟩ := HI3.out.cells
            have cB3 := rbegin_any (some ⟨b, 0, none⟩) t.length cap t lo w3 HI3.out.rn hlo (by omega)
            rw [HBG.out] at cB3
            clear hk3 cY
            go_wp2_with (first
              | (go_at_call 40; refine cB3.mono ?_; rintro e2 w4 ⟨rfl, hw⟩; have hw3 := hw.symm; subst hw3; clear cB3)
              | (go_at_call 82; refine (HCF.out _ HMZ.out).mono ?_; rintro e2 w4 ⟨rfl, hk4⟩; have HI4 := Lib.hid (HI3.out.kept hk4); have HK4 := Lib.hid (HK3.out.trans hk4); clear hk4)
              | (go_at_call 62; refine (HCM.out _ HI4.out.tabs _ HMZ.out).mono ?_; rintro e2 w5 ⟨rfl, hk5⟩; have HI5 := Lib.hid (HI4.out.kept hk5); have HK5 := Lib.hid (HK4.out.trans hk5); obtain ⟨⟨c0, c1, c2, c3, c4, c5⟩, k0, k1, k2, k3, k4, k5⟩ := chg_facts HI5.out.chg; clear hk5))
            refine bodyPost_ret (res_chg rfl _ _ (xb + 1) _ _ _ _ _ _ (0, 0) rfl (chg_six HI5.out.chg _ _ _ _ _ _)) rfl ⟨⟨PA, PD, PI, V, ⟨#[]⟩, 0, rfl, HY.out⟩, ?_⟩
            exact HK5.out.fresh (Kept.six (Kept.refl (fun q => q = xb + 1) _) rfl _ _ _ _ _ _) (fun b hb e => by have := HXB.out; omega)
          · have hmz' : mayB NX = false := by simpa using hmz
            rw [hmz'] at cY
            have HY := Lib.hid (HPN.out hmz')
            clear hmz hmz'
            refine cY.mono ?_
            rintro e' w3 ⟨rfl, hk3⟩
            have HI3 := Lib.hid (HI0.out.kept hk3)
            have HK3 := Lib.hid (HKA.out.trans hk3)
            obtain ⟨⟨c0, c1, c2, c3, c4, c5⟩, k0, k1, k2, k3, k4, k5⟩ := chg_facts HI3.out.chg
            clear hk3 cY
            go_wp2
            refine bodyPost_ret (res_chg rfl _ _ (xb + 1) _ _ _ _ _ _ (0, 0) rfl (chg_six HI3.out.chg _ _ _ _ _ _)) rfl ⟨⟨0, 0, ⟨#[]⟩, 0, ⟨#[]⟩, 4, rfl, HY.out⟩, ?_⟩
            exact HK3.out.fresh (Kept.six (Kept.refl (fun q => q = xb + 1) _) rfl _ _ _ _ _ _) (fun b hb e => by have := HXB.out; omega)
        · have hz := HSS.out hlast
          have HZZ := Lib.hid hz
          have b1 : decide ((hi : Int) ≤ (e : Int)) = false := by simp; omega
          have b2 : decide (hi ≤ e) = false := by simp; omega
          have ad2 : ∀ u, (Op.stringOp .add (runesBytes Y) ⟨#[10]⟩).run Tryd.prog u = .ok (.string (runesBytes (Y ++ [10]))) u := fun u => by
            have h := txt_append Y [10]
            rw [show runesBytes [10] = (⟨#[10]⟩ : ByteArray) by decide] at h
            rw [← h]
            exact run_string_add_sum u _ _ (by rw [show (⟨#[10]⟩ : ByteArray).size = 1 from rfl]; omega)
          have hw1 : IntKind.i64.wrap ((e : Int) + 1) = ((e + 1 : Nat) : Int) := by rw [IntWalk.i64_in _ ⟨by omega, by omega⟩]; omega
          clear hz
          obtain ⟨YN, hYN⟩ : ∃ YN, runesBytes (Y ++ [10]) = YN := ⟨_, rfl⟩
          have HYN := Lib.hid hYN
          rw [hYN] at ad2
          clear hYN
          generalize runesBytes Y = YB at *
          go_wp2
          go_round
          case rel => exact ⟨e + 1, Y ++ [10], by rw [HYN.out], rfl, HZZ.out, by omega⟩
          case measure => simp [intOf]; omega
    · go_wp2_with (go_at_call 25; refine cE.mono ?_; rintro e2 w2 ⟨rfl, hw⟩; have hw3 := hw.symm; subst hw3; clear cE)
      go_loop [13] (fun v => ∃ j : Nat, at' ≤ j ∧ j ≤ e ∧ j ≤ at' + 2 ∧ v = .int .i64 j ∧ stN (at' + 2 - j) ((t.take e).drop j) = stN 2 ((t.take e).drop at')) (fun v => e - (intOf v).toNat)
      case atStart => exact ⟨at', Nat.le_refl _, hge, by omega, rfl, by rw [show at' + 2 - at' = 2 by omega]⟩
      case round =>
        obtain ⟨j, hj1, hj2, hj3, rfl, hs⟩ := hrel
        have HS := Lib.hid hs
        clear hs
        have hw2 : IntKind.i64.wrap ((at' : Int) + 2) = ((at' + 2 : Nat) : Int) := by rw [IntWalk.i64_in _ ⟨by omega, by omega⟩]; omega
        obtain ⟨BB, hBB⟩ : ∃ BB : Bool, BB = true ↔ (j < e ∧ j < at' + 2 ∧ ∃ y, t[j]? = some y ∧ Rw.cls y = 0) := by
          by_cases h : (j < e ∧ j < at' + 2 ∧ ∃ y, t[j]? = some y ∧ Rw.cls y = 0)
          · exact ⟨true, fun _ => h, fun _ => rfl⟩
          · exact ⟨false, fun h' => Bool.noConfusion h', fun h' => absurd h' h⟩
        have HBB := Lib.hid hBB
        clear hBB
        go_upto_region 6 with fail
        go_cut [48] from 31 to 50 (fun v wx => v = .bool BB ∧ wx = W0)
        case first =>
          by_cases hje : j < e
          · have b4 : decide (j < e) = true := by simp; omega
            have b4' : decide ((j : Int) < (e : Int)) = true := by simp; omega
            by_cases hj2' : j < at' + 2
            · have b5 : decide ((j : Int) < ((at' + 2 : Nat) : Int)) = true := by simp; omega
              have b5' : decide ((j : Int) < (at' : Int) + 2) = true := by simp; omega
              have b5'' : decide (j < at' + 2) = true := by simp; omega
              obtain ⟨_, y, e1, hy, cy⟩ := HI0.out.rn.cell (j := j) (by omega)
              injection e1 with e1
              subst e1
              rw [addr_add, Nat.zero_add] at cy
              obtain ⟨y1, y2⟩ := HRY.out.at_ hy
              have cC := fun w => rclass_any y y1 w
              have i1 : (0 : Int) ≤ (j : Int) := by omega
              have i2 : (j : Int) < (t.length : Int) := by omega
              have hbz : BB = (Rw.cls y == 0) := by
                by_cases hz : Rw.cls y = 0
                · rw [HBB.out.2 ⟨hje, hj2', y, hy, hz⟩, hz]; rfl
                · have : (Rw.cls y == 0) = false := by rw [beq_eq_false_iff_ne]; exact hz
                  rw [this]
                  refine bool_no HBB.out fun h => ?_
                  obtain ⟨_, _, y', hy', hz'⟩ := h
                  rw [hy] at hy'
                  injection hy' with hy'
                  subst hy'
                  exact hz hz'
              subst hbz
              clear hy HBB
              generalize Rw.cls y = CY at *
              go_wp2_with (go_at_call 76; refine (cC _).mono ?_; rintro e2 w2 ⟨rfl, hw⟩; have hw4 := hw.symm; subst hw4)
              go_meet
              exact ⟨rfl, rfl⟩
            · have b5 : decide ((j : Int) < ((at' + 2 : Nat) : Int)) = false := by simp; omega
              have b5' : decide ((j : Int) < (at' : Int) + 2) = false := by simp; omega
              have b5'' : decide (j < at' + 2) = false := by simp; omega
              obtain rfl : BB = false := bool_no HBB.out fun h => hj2' h.2.1
              go_wp2
              go_meet
              exact ⟨rfl, rfl⟩
          · have b4 : decide (j < e) = false := by simp; omega
            have b4' : decide ((j : Int) < (e : Int)) = false := by simp; omega
            obtain rfl : BB = false := bool_no HBB.out fun h => hje h.1
            go_wp2
            go_meet
            exact ⟨rfl, rfl⟩
        case rest =>
        obtain ⟨rfl, hw⟩ := hcut
        have hw4 := hw.symm
        subst hw4
        clear hw2
        cases BB
        case true =>
          obtain ⟨hje, hj2', y, hy, hz⟩ := HBB.out.1 rfl
          have HST : Hid (stN (at' + 2 - (j + 1)) ((t.take e).drop (j + 1)) = stN 2 ((t.take e).drop at')) := by
            have h := HS.out
            have hd : (t.take e).drop j = y :: (t.take e).drop (j + 1) := Rw.drop_cons (by rw [List.getElem?_take_of_lt hje]; exact hy)
            rw [hd, show at' + 2 - j = (at' + 2 - (j + 1)) + 1 by omega] at h
            simp only [stN, str1] at h
            rw [if_pos hz] at h
            exact h
          clear hy hz
          go_wp2
          go_round
          case rel => exact ⟨j + 1, by omega, by omega, by omega, by go_num, HST.out⟩
          case measure => simp [intOf]; omega
        case false =>
        have hfin : (t.take e).drop j = stN 2 ((t.take e).drop at') := by
          have h := HS.out
          have hn : ¬ (j < e ∧ j < at' + 2 ∧ ∃ y, t[j]? = some y ∧ Rw.cls y = 0) := fun h => Bool.noConfusion (HBB.out.2 h)
          by_cases hje : j < e
          · by_cases hj2' : j < at' + 2
            · obtain ⟨y, hy⟩ : ∃ y, t[j]? = some y := ⟨_, List.getElem?_eq_getElem (by omega)⟩
              have hz : Rw.cls y ≠ 0 := fun hz => hn ⟨hje, hj2', y, hy, hz⟩
              have hd : (t.take e).drop j = y :: (t.take e).drop (j + 1) := Rw.drop_cons (by rw [List.getElem?_take_of_lt hje]; exact hy)
              rw [hd, stN_stop hz] at h
              rw [hd]
              exact h
            · rw [show at' + 2 - j = 0 by omega] at h
              exact h
          · rw [List.drop_eq_nil_of_le (by rw [List.length_take]; omega), stN_nil] at h
            rw [List.drop_eq_nil_of_le (by rw [List.length_take]; omega)]
            exact h
        have hsh : shR 60 ((t.take e).drop at') = (t.take e).drop j := by rw [hfin]; rfl
        clear hfin
        have hcR := fun u => run_cut_lh u (some ⟨b, 0, none⟩) t.length cap j e (j : Int) (e : Int) rfl rfl (by omega) (by omega)
        have htR := run_txt (c := cap - j) (HI0.out.rn.cut (lo := j) (hi := e) (by omega) hle hcap)
        have hfe : (j : Int) ≤ (e : Int) := by omega
        obtain ⟨Y, hY⟩ : ∃ Y, X ++ (t.take e).drop j = Y := ⟨_, rfl⟩
        have hYR : Y = X ++ shR 60 ((t.take e).drop at') := by rw [← hY]; rw [hsh]
        rw [← hYR] at HSL HSS
        have hYl : Y.length ≤ 6 * t.length + 4 := by rw [← hY, List.length_append, List.length_drop, List.length_take]; omega
        have hYs := txt_size5 Y
        have ad1 : ∀ u, (Op.stringOp .add (runesBytes (X)) (runesBytes ((t.take e).drop j))).run Tryd.prog u = .ok (.string (runesBytes Y)) u := fun u => by
          have h := txt_append (X) ((t.take e).drop j)
          rw [hY] at h
          rw [← h]
          exact run_string_add_sum u _ _ (by rw [← ByteArray.size_append, h]; omega)
        clear hY hYR
        generalize runesBytes ((t.take e).drop j) = RT at *
        generalize runesBytes (X) = XB at *
        go_upto_region 11 with fail
        clear hcR htR ad1
        by_cases hlast : hi ≤ e
        · have hz := HSL.out hlast
          have b1 : decide ((hi : Int) ≤ (e : Int)) = true := by simp; omega
          have b2 : decide (hi ≤ e) = true := by simp; omega
          have hcC := fun u => run_cut_l u (some ⟨b, 0, none⟩) t.length cap e (e : Int) rfl hle hcap
          have htC := run_txt (c := cap - e) (HI0.out.rn.drop hle hcap)
          have ad2 : ∀ u, (Op.stringOp .add (runesBytes Y) (runesBytes (t.drop e))).run Tryd.prog u = .ok (.string (runesBytes Z)) u := fun u => by
            have h := txt_append Y (t.drop e)
            rw [hz] at h
            rw [← h]
            exact run_string_add_sum u _ _ (by rw [← ByteArray.size_append, h]; omega)
          clear hz hlast
          generalize runesBytes (t.drop e) = RD at *
          generalize runesBytes Y = YB at *
          generalize hNX : runesBytes Z = NX at *
          go_wp2_with fail
          clear hcC htC ad2
          have cY := HCY.out W0 HI0.out.tabs
          by_cases hmz : mayB NX = true
          · rw [hmz] at cY
            have HY := Lib.hid (HPY.out hmz)
            have HMZ := Lib.hid hmz
            clear hmz
            refine cY.mono ?_
            rintro e' w3 ⟨rfl, hk3⟩
            have HI3 := Lib.hid (HI0.out.kept hk3)
            have HK3 := Lib.hid (HKA.out.trans hk3)
            obtain ⟨f0, f1, f2⟩ := HI3.out.cells
            have cB3 := rbegin_any (some ⟨b, 0, none⟩) t.length cap t lo w3 HI3.out.rn hlo (by omega)
            rw [HBG.out] at cB3
            clear hk3 cY
            go_wp2_with (first
              | (go_at_call 40; refine cB3.mono ?_; rintro e2 w4 ⟨rfl, hw⟩; have hw3 := hw.symm; subst hw3; clear cB3)
              | (go_at_call 82; refine (HCF.out _ HMZ.out).mono ?_; rintro e2 w4 ⟨rfl, hk4⟩; have HI4 := Lib.hid (HI3.out.kept hk4); have HK4 := Lib.hid (HK3.out.trans hk4); clear hk4)
              | (go_at_call 62; refine (HCM.out _ HI4.out.tabs _ HMZ.out).mono ?_; rintro e2 w5 ⟨rfl, hk5⟩; have HI5 := Lib.hid (HI4.out.kept hk5); have HK5 := Lib.hid (HK4.out.trans hk5); obtain ⟨⟨c0, c1, c2, c3, c4, c5⟩, k0, k1, k2, k3, k4, k5⟩ := chg_facts HI5.out.chg; clear hk5))
            refine bodyPost_ret (res_chg rfl _ _ (xb + 1) _ _ _ _ _ _ (0, 0) rfl (chg_six HI5.out.chg _ _ _ _ _ _)) rfl ⟨⟨PA, PD, PI, V, ⟨#[]⟩, 0, rfl, HY.out⟩, ?_⟩
            exact HK5.out.fresh (Kept.six (Kept.refl (fun q => q = xb + 1) _) rfl _ _ _ _ _ _) (fun b hb e => by have := HXB.out; omega)
          · have hmz' : mayB NX = false := by simpa using hmz
            rw [hmz'] at cY
            have HY := Lib.hid (HPN.out hmz')
            clear hmz hmz'
            refine cY.mono ?_
            rintro e' w3 ⟨rfl, hk3⟩
            have HI3 := Lib.hid (HI0.out.kept hk3)
            have HK3 := Lib.hid (HKA.out.trans hk3)
            obtain ⟨⟨c0, c1, c2, c3, c4, c5⟩, k0, k1, k2, k3, k4, k5⟩ := chg_facts HI3.out.chg
            clear hk3 cY
            go_wp2
            refine bodyPost_ret (res_chg rfl _ _ (xb + 1) _ _ _ _ _ _ (0, 0) rfl (chg_six HI3.out.chg _ _ _ _ _ _)) rfl ⟨⟨0, 0, ⟨#[]⟩, 0, ⟨#[]⟩, 4, rfl, HY.out⟩, ?_⟩
            exact HK3.out.fresh (Kept.six (Kept.refl (fun q => q = xb + 1) _) rfl _ _ _ _ _ _) (fun b hb e => by have := HXB.out; omega)
        · have hz := HSS.out hlast
          have HZZ := Lib.hid hz
          have b1 : decide ((hi : Int) ≤ (e : Int)) = false := by simp; omega
          have b2 : decide (hi ≤ e) = false := by simp; omega
          have ad2 : ∀ u, (Op.stringOp .add (runesBytes Y) ⟨#[10]⟩).run Tryd.prog u = .ok (.string (runesBytes (Y ++ [10]))) u := fun u => by
            have h := txt_append Y [10]
            rw [show runesBytes [10] = (⟨#[10]⟩ : ByteArray) by decide] at h
            rw [← h]
            exact run_string_add_sum u _ _ (by rw [show (⟨#[10]⟩ : ByteArray).size = 1 from rfl]; omega)
          have hw1 : IntKind.i64.wrap ((e : Int) + 1) = ((e + 1 : Nat) : Int) := by rw [IntWalk.i64_in _ ⟨by omega, by omega⟩]; omega
          clear hz
          obtain ⟨YN, hYN⟩ : ∃ YN, runesBytes (Y ++ [10]) = YN := ⟨_, rfl⟩
          have HYN := Lib.hid hYN
          rw [hYN] at ad2
          clear hYN
          generalize runesBytes Y = YB at *
          go_wp2
          go_round
          case rel => exact ⟨e + 1, Y ++ [10], by rw [HYN.out], rfl, HZZ.out, by omega⟩
          case measure => simp [intOf]; omega
end Go.Proofs.YtkeojjojilfklaaDoor
