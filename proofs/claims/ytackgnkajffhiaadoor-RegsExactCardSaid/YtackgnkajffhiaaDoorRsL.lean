/-
  REGISTERS: the law RegsShift.
-/
import Derived.Test.YtackgnkajffhiaaDoorRsV
set_option linter.unusedVariables false
namespace Go.Proofs.YtackgnkajffhiaaDoor
open Go Go.RowKit

theorem conv_one (W : World) (g : Nat) (k : Nat) (hk : k < 100) (h : W.heap[g]? = some (.cells #[.int .u8 ((97 : Int) + (k : Int))] 5 (0, 0))) :
    (convert 39 9 (.slice (some ⟨g, 0, none⟩) 1 1)).run Tryd.prog W = .ok (.string ⟨#[UInt8.ofNat (97 + k)]⟩) W := by
  refine run_convert_bytes_back (P := Tryd.prog) W 39 9 5 ⟨g, 0, none⟩ 1 [UInt8.ofNat (97 + k)] Tryd.underlying39 Tryd.underlying5 Tryd.underlying9 (fun j hj => ?_)
  obtain rfl : j = 0 := by simpa using hj
  rw [addr_add, cell_of_row _ _ _ _ _ _ h]
  simp
  omega
theorem yk_nothing (M : List RegS) (s : ByteArray) (b : Bool) : Rs.yk M 95 s b = M := rfl
theorem ls_all (k : Nat) (h : k < 12) : ∃ A0 A1 A2 A3 R, (Rs.Ls k = A0 ∧ Rs.Ls (k + 1) = A3 ∧ Rs.rowS k = R) ∧ (Rs.dl A0 0 R true = A1 ∧ Rs.dl A1 113 Rs.sNamed true = A2 ∧ Rs.dl A2 0 Rs.sSmall false = A3) ∧
    (Rs.good A0 = true ∧ Rs.good A1 = true ∧ Rs.good A2 = true ∧ Rs.good A3 = true ∧ mayB R = true) ∧ ((⟨#[114, 111, 119, 32]⟩ : ByteArray) ++ (⟨#[UInt8.ofNat (97 + k)]⟩ : ByteArray) = R) ∧
    ∀ j, j < 9 → if j ≤ k then Rs.get A3 (49 + (j : Int)) = some ⟨49 + (j : Int), Rs.rowS (k - j), true⟩ else Rs.get A3 (49 + (j : Int)) = none := by
  have hg := Rs.ls_good ⟨k, h⟩
  simp only [Bool.and_eq_true] at hg
  obtain ⟨⟨⟨⟨g0, g1⟩, g2⟩, g3⟩, g4⟩ := hg
  refine ⟨_, _, _, _, _, ⟨rfl, rfl, rfl⟩, ⟨rfl, rfl, ?_⟩, ⟨g0, g1, g2, g3, g4⟩, Rs.row_cat ⟨k, h⟩, fun j hj => Rs.ls_get ⟨k, h⟩ ⟨j, hj⟩⟩
  rw [Rs.Ls]
  rfl
set_option maxRecDepth 100000 in
set_option maxHeartbeats 4000000 in
theorem rshift_any (c0 : Value) (L : Option Addr) (ln lc : Nat) (w : World) (hT : Tabs w) :
    Calls Tryd.prog 4 #[.agg #[c0, .slice L ln lc]] w fun e w' => e = .returned (.bool true) ∧ Kept (fun _ => False) w w' := by
  have hbx := heap_alloc_new w (.cells #[c0, .slice L ln lc] 25)
  have hk1 : Kept (fun _ => False) w (w.alloc (.cells #[c0, .slice L ln lc] 25)) := (Kept.refl _ w).alloc _
  have HBX := Lib.hid hbx
  have HK1 := Lib.hid hk1
  have HT := Lib.hid (hT.kept hk1 id id)
  have cN := fun n W => num_any n W
  clear hbx hk1 hT
  go_enter Tryd.func4, Tryd.ntmps4
  go_upto_region 2 with fail
  generalize w.alloc (.cells #[c0, .slice L ln lc] 25) = w1 at *
  generalize w.heap.size = pb at *
  go_wp2_with fail
  go_loopw [3, 4] (fun v i wr => ∃ k : Nat, k ≤ 12 ∧ i = .int .i64 k ∧ Sl wr v (Rs.Ls k) ∧ Kept (fun _ => False) w1 wr) (fun _ i _ => 12 - (intOf i).toNat)
  case atStart => exact ⟨0, Nat.zero_le _, rfl, sl_nil _, Kept.refl _ _⟩
  case round =>
    obtain ⟨k, hk, rfl, hsl, hkept⟩ := hrel
    have HS := Lib.hid hsl
    have HK := Lib.hid hkept
    clear hsl hkept
    by_cases hlt : k < 12
    · obtain ⟨A0, A1, A2, A3, R, ⟨l0, l3, hR⟩, ⟨e1, e2, e3⟩, ⟨g0, g1, g2, g3, g4⟩, hcat, hget⟩ := ls_all k hlt
      rw [l0] at HS
      have HL3 := Lib.hid l3
      have HGET := Lib.hid hget
      clear l0 l3 hR hget
      have hw := Rs.wk.1.2
      have b1 : decide ((k : Int) < 12) = true := decide_eq_true (by omega)
      have t1 : (0 : Int) ≤ (k : Int) := by omega
      have ea : IntKind.i64.wrap (97 + (k : Int)) = 97 + (k : Int) := IntWalk.i64_in _ ⟨by omega, by omega⟩
      have eb : IntKind.u8.wrap (97 + (k : Int)) = 97 + (k : Int) := by
        have : ∀ i : Fin 12, IntKind.u8.wrap (97 + ((i.1 : Nat) : Int)) = 97 + ((i.1 : Nat) : Int) := by decide
        exact this ⟨k, hlt⟩
      have hcv := conv_one (wr.alloc (.cells #[.int .u8 (97 + (k : Int))] 5)) wr.heap.size k (by omega) (heap_alloc_new wr _)
      obtain ⟨cs, hcs⟩ : ∃ cs : ByteArray, (⟨#[UInt8.ofNat (97 + k)]⟩ : ByteArray) = cs := ⟨_, rfl⟩
      have hcz : cs.size ≤ 1 := by rw [← hcs]; exact Nat.le_refl _
      rw [hcs] at hcat hcv
      have hA := fun v W (hk : Kept (fun _ => False) w1 W) (hs : Sl W v A0) => delete_ok v A0 0 R true W hs (Rs.good_ok g0).2 (Rs.good_ok g0).1 (by decide) (by decide) g4 (HT.out.kept hk id id)
      have hB := fun v W (hk : Kept (fun _ => False) w1 W) (hs : Sl W v A1) => delete_ok v A1 113 Rs.sNamed true W hs (Rs.good_ok g1).2 (Rs.good_ok g1).1 (by decide) (by decide) hw.2.1 (HT.out.kept hk id id)
      have hC := fun v W (hk : Kept (fun _ => False) w1 W) (hs : Sl W v A2) => delete_ok v A2 0 Rs.sSmall false W hs (Rs.good_ok g2).2 (Rs.good_ok g2).1 (by decide) (by decide) hw.2.2.1 (HT.out.kept hk id id)
      have hD := fun v W (hk : Kept (fun _ => False) w1 W) (hs : Sl W v A3) => yank_ok v A3 95 Rs.sNothing true W hs (Rs.good_ok g3).2 (Rs.good_ok g3).1 (by decide) (by decide) hw.2.2.2 (HT.out.kept hk id id)
      have hG := fun v W z (hz : Rs.Td z) (hk : Kept (fun _ => False) w1 W) (hs : Sl W v A3) => get_sl v A3 z W hs (by have := (Rs.good_ok g3).2; omega) (Rs.good_ok g3).1 hz (HT.out.kept hk id id)
      simp only [e1] at hA
      simp only [e2] at hB
      simp only [e3] at hC
      simp only [yk_nothing] at hD
      have HG := Lib.hid hG
      have hk2 : Kept (fun _ => False) wr (wr.alloc (.cells #[.int .u8 (97 + (k : Int))] 5)) := (Kept.refl _ _).alloc _
      have HK2 := Lib.hid (HK.out.trans hk2)
      have HS2 := Lib.hid (HS.out.kept hk2)
      simp only [Rs.sNamed, Rs.sSmall, Rs.sNothing] at hB hC hD
      clear g0 g1 g2 g3 g4 hw hcs hG hk2 e1 e2 e3
      go_upto_region 6 with (go_at_call 12; refine (hA _ _ HK2.out HS2.out).mono ?_; rintro e w3 ⟨⟨v3, rfl, hs3⟩, hk3⟩; have HS3 := Lib.hid hs3; have HK3 := Lib.hid (HK2.out.trans hk3); clear hs3 hk3 hcv hcat)
      go_upto_region 9 with (first
        | (go_at_call 7; refine (cN _ _).mono ?_; rintro e w' ⟨rfl, hw⟩; have hw2 := hw.symm; subst hw2)
        | (go_at_call 12; refine (hB _ _ HK3.out HS3.out).mono ?_; rintro e w4 ⟨⟨v4, rfl, hs4⟩, hk4⟩; have HS4 := Lib.hid hs4; have HK4 := Lib.hid (HK3.out.trans hk4); clear hs4 hk4))
      go_upto_region 10 with (go_at_call 12; refine (hC _ _ HK4.out HS4.out).mono ?_; rintro e w5 ⟨⟨v5, rfl, hs5⟩, hk5⟩; have HS5 := Lib.hid hs5; have HK5 := Lib.hid (HK4.out.trans hk5); clear hs5 hk5)
      go_upto_region 14 with (first
        | (go_at_call 7; refine (cN _ _).mono ?_; rintro e w' ⟨rfl, hw⟩; have hw2 := hw.symm; subst hw2)
        | (go_at_call 13; refine (hD _ _ HK5.out HS5.out).mono ?_; rintro e w6 ⟨⟨v6, rfl, hs6⟩, hk6⟩; have HS6 := Lib.hid hs6; have HK6 := Lib.hid (HK5.out.trans hk6); clear hs6 hk6))
      clear hA hB hC hD
      go_wp2_with fail
      go_loopw [10] (fun v wq => ∃ j : Nat, j ≤ 9 ∧ v = .int .i64 j ∧ Kept (fun _ => False) w6 wq) (fun v _ => 9 - (intOf v).toNat)
      case atStart => exact ⟨0, Nat.zero_le _, rfl, Kept.refl _ _⟩
      case round =>
        obtain ⟨j, hj, rfl, hkept⟩ := hrel
        have HKJ := Lib.hid hkept
        clear hkept
        by_cases hj9 : j < 9
        · have b2 : decide ((j : Int) < 9) = true := decide_eq_true (by omega)
          have t2 : (0 : Int) ≤ (j : Int) := by omega
          have ec : IntKind.i64.wrap (49 + (j : Int)) = 49 + (j : Int) := IntWalk.i64_in _ ⟨by omega, by omega⟩
          have hgj := HGET.out j hj9
          have hGj := HG.out v6 _ (49 + (j : Int)) (by unfold Rs.Td Rs.Nm; omega) (HK6.out.trans HKJ.out) (HS6.out.kept HKJ.out)
          have hnm : nmOf (49 + (j : Int)) = 49 + (j : Int) := by
            unfold nmOf
            rw [if_neg (by omega), if_neg (by unfold Rs.Gt; omega)]
          rw [hnm] at hGj
          clear hnm
          by_cases hjk : j ≤ k
          · rw [if_pos hjk] at hgj
            rw [hgj] at hGj
            have hcj := Rs.row_cat ⟨k - j, by omega⟩
            obtain ⟨m, hm⟩ : ∃ m, k - j = m := ⟨_, rfl⟩
            simp only [hm] at hcj hGj
            obtain ⟨S, hS⟩ : ∃ S, Rs.rowS m = S := ⟨_, rfl⟩
            rw [hS] at hcj hGj
            unfold gotV at hGj
            simp only at hGj
            have b3 : decide ((k : Int) < (j : Int)) = false := decide_eq_false (by omega)
            have b4 : decide (k < j) = false := decide_eq_false (by omega)
            have ed : IntKind.i64.wrap (97 + (k : Int) - (j : Int)) = 97 + (m : Int) := by
              rw [IntWalk.i64_in _ ⟨by omega, by omega⟩]
              omega
            have hm12 : m < 12 := by omega
            have ee : IntKind.u8.wrap (97 + (m : Int)) = 97 + (m : Int) := by
              have : ∀ i : Fin 12, IntKind.u8.wrap (97 + ((i.1 : Nat) : Int)) = 97 + ((i.1 : Nat) : Int) := by decide
              exact this ⟨m, hm12⟩
            obtain ⟨cm, hcm⟩ : ∃ cm : ByteArray, (⟨#[UInt8.ofNat (97 + m)]⟩ : ByteArray) = cm := ⟨_, rfl⟩
            have hmz : cm.size ≤ 1 := by rw [← hcm]; exact Nat.le_refl _
            have HCM := Lib.hid hcm
            rw [hcm] at hcj
            have HM := Lib.hid hm12
            clear hm hS hgj hcm hm12 hjk
            go_upto_region 18 with (go_at_call 14; refine hGj.mono ?_; rintro e w7 ⟨rfl, hk7⟩; have HK7 := Lib.hid (HKJ.out.trans hk7); clear hk7 hGj)
            have hal := heap_alloc_new w7 (regO ⟨49 + (j : Int), S, true⟩)
            have hk8 : Kept (fun _ => False) w7 (w7.alloc (regO ⟨49 + (j : Int), S, true⟩)) := (Kept.refl _ _).alloc _
            have HAL := Lib.hid hal
            have HK8 := Lib.hid (HK7.out.trans hk8)
            clear hal hk8
            simp only [regO] at HAL HK8
            generalize w7.alloc (.cells #[.int .i64 (49 + (j : Int)), .string S, .bool true] 41) = w8 at *
            generalize w7.heap.size = q at *
            obtain ⟨a0, a1, a2⟩ := got_cells (r := ⟨49 + (j : Int), S, true⟩) HAL.out
            have hcv2 := conv_one (w8.alloc (.cells #[.int .u8 (97 + (m : Int))] 5)) w8.heap.size m (by have := HM.out; omega) (heap_alloc_new w8 _)
            rw [HCM.out] at hcv2
            have hk9 : Kept (fun _ => False) w8 (w8.alloc (.cells #[.int .u8 (97 + (m : Int))] 5)) := (Kept.refl _ _).alloc _
            have HK9 := Lib.hid (HK8.out.trans hk9)
            obtain ⟨d0, d1, d2⟩ := got_cells (r := ⟨49 + (j : Int), S, true⟩) ((hk9.block q (heap_lt HAL.out) id).trans HAL.out)
            clear hk9
            go_wp2_with (go_at_call 7; refine (cN _ _).mono ?_; rintro e w' ⟨rfl, hw⟩; have hw2 := hw.symm; subst hw2)
            go_roundw
            case rel => exact ⟨j + 1, by omega, by go_num, HK9.out⟩
            case measure => simp [intOf] <;> omega
          · rw [if_neg hjk] at hgj
            rw [hgj] at hGj
            unfold gotV at hGj
            simp only at hGj
            have b3 : decide ((k : Int) < (j : Int)) = true := decide_eq_true (by omega)
            have b4 : decide (k < j) = true := decide_eq_true (by omega)
            clear hgj hjk
            go_upto_region 18 with (go_at_call 14; refine hGj.mono ?_; rintro e w7 ⟨rfl, hk7⟩; have HK7 := Lib.hid (HKJ.out.trans hk7); clear hk7 hGj)
            have HK8 := Lib.hid (HK7.out.alloc (regO zReg))
            simp only [regO] at HK8
            go_wp2_with (go_at_call 7; refine (cN _ _).mono ?_; rintro e w' ⟨rfl, hw⟩; have hw2 := hw.symm; subst hw2)
            go_roundw
            case rel => exact ⟨j + 1, by omega, by go_num, HK8.out⟩
            case measure => simp [intOf] <;> omega
        · have b2 : decide ((j : Int) < 9) = false := decide_eq_false (by omega)
          go_wp2_with fail
          go_roundw
          case rel => exact ⟨k + 1, by omega, by go_num, by rw [HL3.out]; exact HS6.out.kept HKJ.out, HK6.out.trans HKJ.out⟩
          case measure => simp [intOf] <;> omega
    · obtain rfl : k = 12 := by omega
      obtain ⟨n1, n2, n3⟩ := Rs.ls_end
      have hgd := Rs.ls_good ⟨11, by omega⟩
      simp only [Bool.and_eq_true] at hgd
      have hg12 : Rs.good (Rs.Ls 12) = true := hgd.1.2
      generalize Rs.Ls 12 = A at *
      have hG := fun v W z (hz : Rs.Td z) (hk : Kept (fun _ => False) w1 W) (hs : Sl W v A) => get_sl v A z W hs (by have := (Rs.good_ok hg12).2; omega) (Rs.good_ok hg12).1 hz (HT.out.kept hk id id)
      have h1 := fun v W => hG v W 45 (by decide)
      have h2 := fun v W => hG v W 113 (by decide)
      have h3 := fun v W => hG v W 48 (by decide)
      rw [show nmOf 45 = 45 from rfl, n1] at h1
      rw [show nmOf 113 = 113 from rfl, n2] at h2
      rw [show nmOf 48 = 48 from rfl, n3] at h3
      unfold gotV at h1 h2 h3
      simp only [Rs.sSmall, Rs.sNamed] at h1 h2 h3
      clear n1 n2 n3 hgd hg12 hG
      go_upto_region 24 with (go_at_call 14; refine (h1 _ _ HK.out HS.out).mono ?_; rintro e w3 ⟨rfl, hk3⟩; have HK3 := Lib.hid (HK.out.trans hk3); have HS3 := Lib.hid (HS.out.kept hk3); clear hk3)
      have hal := heap_alloc_new w3 (regO ⟨45, ⟨#[115, 109, 97, 108, 108]⟩, false⟩)
      have hk4 : Kept (fun _ => False) w3 (w3.alloc (regO ⟨45, ⟨#[115, 109, 97, 108, 108]⟩, false⟩)) := (Kept.refl _ _).alloc _
      have HAL := Lib.hid hal
      have HK4 := Lib.hid (HK3.out.trans hk4)
      have HS4 := Lib.hid (HS3.out.kept hk4)
      clear hal hk4
      simp only [regO] at HAL HK4 HS4
      generalize w3.alloc (.cells #[.int .i64 45, .string ⟨#[115, 109, 97, 108, 108]⟩, .bool false] 41) = w4 at *
      generalize w3.heap.size = qa at *
      go_upto_region 25 with (go_at_call 14; refine (h2 _ _ HK4.out HS4.out).mono ?_; rintro e w5 ⟨rfl, hk5⟩; have HK5 := Lib.hid (HK4.out.trans hk5); have HS5 := Lib.hid (HS4.out.kept hk5); have HA5 := Lib.hid ((hk5.block qa (heap_lt HAL.out) id).trans HAL.out); clear hk5)
      have hbl := heap_alloc_new w5 (regO ⟨113, ⟨#[110, 97, 109, 101, 100]⟩, true⟩)
      have hk6 : Kept (fun _ => False) w5 (w5.alloc (regO ⟨113, ⟨#[110, 97, 109, 101, 100]⟩, true⟩)) := (Kept.refl _ _).alloc _
      have HBL := Lib.hid hbl
      have HK6 := Lib.hid (HK5.out.trans hk6)
      have HS6 := Lib.hid (HS5.out.kept hk6)
      have HA6 := Lib.hid ((hk6.block qa (heap_lt HA5.out) id).trans HA5.out)
      clear hbl hk6
      simp only [regO] at HBL HK6 HS6 HA6
      generalize w5.alloc (.cells #[.int .i64 113, .string ⟨#[110, 97, 109, 101, 100]⟩, .bool true] 41) = w6 at *
      generalize w5.heap.size = qb at *
      go_upto_region 26 with (go_at_call 14; refine (h3 _ _ HK6.out HS6.out).mono ?_; rintro e w7 ⟨rfl, hk7⟩; have HK7 := Lib.hid (HK6.out.trans hk7); have HA7 := Lib.hid ((hk7.block qa (heap_lt HA6.out) id).trans HA6.out); have HB7 := Lib.hid ((hk7.block qb (heap_lt HBL.out) id).trans HBL.out); clear hk7)
      have hk8 : Kept (fun _ => False) w7 (w7.alloc (regO zReg)) := (Kept.refl _ _).alloc _
      have HK8 := Lib.hid (HK7.out.trans hk8)
      have HA8 := Lib.hid ((hk8.block qa (heap_lt HA7.out) id).trans HA7.out)
      have HB8 := Lib.hid ((hk8.block qb (heap_lt HB7.out) id).trans HB7.out)
      clear hk8 h1 h2 h3
      simp only [regO] at HK8 HA8 HB8
      generalize w7.alloc (.cells #[.int .i64 0, .string ⟨#[]⟩, .bool false] 41) = w8 at *
      generalize w7.heap.size = qc at *
      have a1 := (got_cells (r := ⟨45, ⟨#[115, 109, 97, 108, 108]⟩, false⟩) HA8.out).2.1
      have d1 := (got_cells (r := ⟨113, ⟨#[110, 97, 109, 101, 100]⟩, true⟩) HB8.out).2.1
      have s1 : w8.cell? ⟨pb, 1, none⟩ = some (.slice L ln lc) := cell_of_row _ _ _ _ _ _ ((HK8.out.block pb (heap_lt HBX.out) id).trans HBX.out)
      have bl : decide ((0 : Int) ≤ (ln : Int)) = true := decide_eq_true (by omega)
      have cW := wakes9_any w8 (HT.out.kept HK8.out id id)
      go_wp2_with (first
        | (go_at_call 7; refine (cN _ _).mono ?_; rintro e w' ⟨rfl, hw⟩; have hw2 := hw.symm; subst hw2)
        | (go_at_call 11; refine cW.mono ?_; rintro e w9 ⟨rfl, hk9⟩; have HK9 := Lib.hid (HK8.out.trans hk9); clear hk9))
      go_ret
      exact ⟨rfl, HK1.out.trans HK9.out⟩
end Go.Proofs.YtackgnkajffhiaaDoor
