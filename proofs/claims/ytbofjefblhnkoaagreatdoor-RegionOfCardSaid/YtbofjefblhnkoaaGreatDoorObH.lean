/-
  PARAGRAPHS, of the reference; the classes of all runes, of the reference, and runs of one class.
-/
import Derived.Test.YtbofjefblhnkoaaGreatDoorObG
import Derived.Test.YtbofjefblhnkoaaGreatDoorZMo
set_option linter.unusedVariables false
namespace Go.Proofs.YtbofjefblhnkoaaGreatDoor
open Go Go.RowKit

set_option maxRecDepth 100000 in
set_option maxHeartbeats 1000000 in
theorem rpar_any (A : Option Addr) (n c k : Nat) (wide : Int) (t : List Int) (w : World) (hA : Rn w A n t) (hn : n ≤ 6000) (hk : k ≤ n) (hw : wide = 105 ∨ wide = 97) :
    Calls Tryz.prog 65 #[.slice A n c, .int .i64 k, .int .i64 wide] w fun e w' => e = .returned (pR (Rw.par t wide k)) ∧ Kept (fun _ => False) w w' := by
  have hlen := hA.1
  have hka : Kept (fun _ => False) w (w.alloc (rngO 0 0 false)) := (Kept.refl _ w).alloc _
  have HA := Lib.hid (hA.kept hka (fun _ _ => id))
  have cB := rbegin_any A n c t k _ HA.out hk (by omega)
  have cE := rend_any A n c t k _ HA.out hk (by omega)
  have hle := Rw.en_le t k (by omega)
  have hbl := Rw.beg_le t k
  obtain ⟨EE, hEE⟩ : ∃ E, Rw.bare t k = E := ⟨_, rfl⟩
  have hEI : (((Rw.beg t k : Nat) : Int) == ((Rw.en t k : Nat) : Int)) = EE := by
    rw [← hEE]
    unfold Rw.bare
    by_cases h : Rw.beg t k = Rw.en t k
    · rw [decide_eq_true h, h]; simp
    · rw [decide_eq_false h]; rw [beq_eq_false_iff_ne]; omega
  have cS := spread_any A n c (Rw.beg t k) (Rw.en t k) EE t _ HA.out hn (by omega) (by omega)
  obtain ⟨LO, hLO⟩ : ∃ LO, Rw.bup t (Rw.bare t k) (t.length + 1) (Rw.beg t k) = LO := ⟨_, rfl⟩
  obtain ⟨HI, hHI⟩ : ∃ HI, Rw.bdn t (Rw.bare t k) (t.length + 1) (Rw.en t k) = HI := ⟨_, rfl⟩
  have hlo1 : LO ≤ k := by rw [← hLO]; have := Rw.bup_le t (Rw.bare t k) (t.length + 1) (Rw.beg t k); omega
  have hhi1 : HI ≤ n := by rw [← hHI]; have := Rw.bdn_le t (Rw.bare t k) (t.length + 1) (Rw.en t k) hle; omega
  have HPA := Lib.hid (par_a hLO hHI)
  have HPI := Lib.hid (par_i (t := t) (k := k))
  rw [hLO, hHI] at HPI
  rw [hEE] at hLO hHI HPA
  rw [hLO, hHI] at cS
  have HL := Lib.hid hlen
  generalize Rw.beg t k = bg at *
  generalize Rw.en t k = en at *
  clear hA hka hlen hLO hHI hle hbl hEE
  rcases hw with rfl | rfl
  · go_enter Tryz.func65, Tryz.ntmps65
    go_wp2_with (first | (go_at_call 36; refine cB.mono ?_; rintro e w2 ⟨rfl, hw⟩; have hw2 := hw.symm; clear hw; subst hw2; clear cB) | (go_at_call 37; refine cE.mono ?_; rintro e w2 ⟨rfl, hw⟩; have hw2 := hw.symm; clear hw; subst hw2; clear cE) | (go_at_call 104; refine cS.mono ?_; rintro e w2 ⟨rfl, hw⟩; have hw2 := hw.symm; clear hw; subst hw2; clear cS))
    refine bodyPost_ret (res_rng2 rfl _ _ _ _ _ _ (0, 0) rfl (heap_alloc_new w _)) rfl ⟨by rw [HPI.out]; rfl, (Kept.refl _ w).alloc _⟩
  · by_cases h1 : HI < n
    · have cE2 := rend_any A n c t (HI + 1) _ HA.out (by omega) (by omega)
      have hle2 := Rw.en_le t (HI + 1) (by have := HL.out; omega)
      have cS2 := spread_any A n c (HI + 1) (Rw.en t (HI + 1)) (!EE) t _ HA.out hn (by omega) (by have := HL.out; omega)
      have e1 : IntKind.i64.wrap ((HI : Int) + 1) = (HI : Int) + 1 := wrapI rfl (by omega) (by omega)
      have e2 : ((HI + 1 : Nat) : Int) = (HI : Int) + 1 := by omega
      have b1 : decide (HI < n) = true := decide_eq_true h1
      have b2 : decide ((HI : Int) < (n : Int)) = true := decide_eq_true (by omega)
      have hp := HPA.out
      rw [if_pos (by rw [HL.out]; exact h1)] at hp
      rw [e2] at cE2 cS2
      have HP := Lib.hid hp
      generalize Rw.bdn t (!EE) (t.length + 1) (Rw.en t (HI + 1)) = H2 at *
      generalize Rw.bup t (!EE) (t.length + 1) (HI + 1) = L2 at *
      generalize Rw.en t (HI + 1) = en2 at *
      clear hp hle2
      go_enter Tryz.func65, Tryz.ntmps65
      go_upto_region 7 with (first | (go_at_call 36; refine cB.mono ?_; rintro e w2 ⟨rfl, hw⟩; have hw2 := hw.symm; clear hw; subst hw2; clear cB) | (go_at_call 37; refine cE.mono ?_; rintro e w2 ⟨rfl, hw⟩; have hw2 := hw.symm; clear hw; subst hw2; clear cE) | (go_at_call 104; refine cS.mono ?_; rintro e w2 ⟨rfl, hw⟩; have hw2 := hw.symm; clear hw; subst hw2; clear cS))
      go_wp2_with (first | (go_at_call 37; refine cE2.mono ?_; rintro e w2 ⟨rfl, hw⟩; have hw2 := hw.symm; clear hw; subst hw2; clear cE2) | (go_at_call 104; refine cS2.mono ?_; rintro e w2 ⟨rfl, hw⟩; have hw2 := hw.symm; clear hw; subst hw2; clear cS2))
      refine bodyPost_ret (res_rng2 rfl _ _ _ _ _ _ (0, 0) rfl (heap_alloc_new w _)) rfl ⟨by rw [HP.out]; rfl, (Kept.refl _ w).alloc _⟩
    · have b1 : decide (HI < n) = false := decide_eq_false h1
      have b2 : decide ((HI : Int) < (n : Int)) = false := decide_eq_false (by omega)
      have hp := HPA.out
      rw [if_neg (by rw [HL.out]; exact h1)] at hp
      by_cases h0 : 0 < LO
      · rw [if_pos h0] at hp
        obtain ⟨i, rfl⟩ : ∃ i, LO = i + 1 := ⟨LO - 1, by omega⟩
        rw [Nat.add_sub_cancel] at hp
        have cB2 := rbegin_any A n c t i _ HA.out (by omega) (by omega)
        have hle2 := Rw.beg_le t i
        have cS2 := spread_any A n c (Rw.beg t i) i (!EE) t _ HA.out hn (by omega) (by omega)
        have b3 : decide ((0 : Int) < (i : Int) + 1) = true := decide_eq_true (by omega)
        have HP := Lib.hid hp
        generalize Rw.bup t (!EE) (t.length + 1) (Rw.beg t i) = L2 at *
        generalize Rw.bdn t (!EE) (t.length + 1) i = H2 at *
        generalize Rw.beg t i = bg2 at *
        clear hp hle2
        go_enter Tryz.func65, Tryz.ntmps65
        go_upto_region 10 with (first | (go_at_call 36; refine cB.mono ?_; rintro e w2 ⟨rfl, hw⟩; have hw2 := hw.symm; clear hw; subst hw2; clear cB) | (go_at_call 37; refine cE.mono ?_; rintro e w2 ⟨rfl, hw⟩; have hw2 := hw.symm; clear hw; subst hw2; clear cE) | (go_at_call 104; refine cS.mono ?_; rintro e w2 ⟨rfl, hw⟩; have hw2 := hw.symm; clear hw; subst hw2; clear cS))
        go_wp2_with (first | (go_at_call 36; refine cB2.mono ?_; rintro e w2 ⟨rfl, hw⟩; have hw2 := hw.symm; clear hw; subst hw2; clear cB2) | (go_at_call 104; refine cS2.mono ?_; rintro e w2 ⟨rfl, hw⟩; have hw2 := hw.symm; clear hw; subst hw2; clear cS2))
        refine bodyPost_ret (res_rng2 rfl _ _ _ _ _ _ (0, 0) rfl (heap_alloc_new w _)) rfl ⟨by rw [HP.out]; rfl, (Kept.refl _ w).alloc _⟩
      · rw [if_neg h0] at hp
        obtain rfl : LO = 0 := by omega
        have HP := Lib.hid hp
        clear hp
        go_enter Tryz.func65, Tryz.ntmps65
        go_wp2_with (first | (go_at_call 36; refine cB.mono ?_; rintro e w2 ⟨rfl, hw⟩; have hw2 := hw.symm; clear hw; subst hw2; clear cB) | (go_at_call 37; refine cE.mono ?_; rintro e w2 ⟨rfl, hw⟩; have hw2 := hw.symm; clear hw; subst hw2; clear cE) | (go_at_call 104; refine cS.mono ?_; rintro e w2 ⟨rfl, hw⟩; have hw2 := hw.symm; clear hw; subst hw2; clear cS))
        refine bodyPost_ret (res_rng2 rfl _ _ _ _ _ _ (0, 0) rfl (heap_alloc_new w _)) rfl ⟨by rw [HP.out]; rfl, (Kept.refl _ w).alloc _⟩
/-- The classes of so many runes. -/
def clL (t : List Int) (big : Bool) (k : Nat) : List Int := (List.range k).map (Rw.cl t big)
theorem clL_len (t : List Int) (big : Bool) (k : Nat) : (clL t big k).length = k := by simp [clL]
theorem clL_succ (t : List Int) (big : Bool) (k : Nat) : clL t big (k + 1) = clL t big k ++ [Rw.cl t big k] := by simp [clL, List.range_succ]
theorem clL_get {t : List Int} {big : Bool} {k i : Nat} (h : i < k) : (clL t big k)[i]? = some (Rw.cl t big i) := by simp [clL, h]
set_option maxRecDepth 100000 in
set_option maxHeartbeats 1000000 in
theorem classes_any (A : Option Addr) (n c : Nat) (big : Bool) (t : List Int) (w : World) (hA : Rn w A n t) (hr : Runey t) (hn : n ≤ 6000) :
    Calls Tryz.prog 102 #[.slice A n c, .bool big] w fun e w' => ∃ B c', e = .returned (.slice B n c') ∧ Nums w' B n (clL t big n) ∧ Kept (fun _ => False) w w' := by
  obtain ⟨i0, hi, hz0, hz1, hz2⟩ := info_parts info_int
  have HA := Lib.hid hA
  have HR := Lib.hid hr
  clear hA hr
  go_enter Tryz.func102, Tryz.ntmps102
  go_wp2_with fail
  go_loopw [5, 6] (fun v i wr => ∃ k : Nat, k ≤ n ∧ i = .int .i64 k ∧ wr.ownsRow w.heap.size 3 1 v k ((clL t big k).map (Value.int .i64)) ∧ Kept (fun _ => False) w wr) (fun _ i _ => n - (intOf i).toNat)
  case atStart => exact ⟨0, Nat.zero_le _, rfl, World.ownsRow_nil _ _ _ _, Kept.refl _ _⟩
  case round =>
    obtain ⟨k, hk, rfl, hown, hkept⟩ := hrel
    have HK := Lib.hid hkept
    have hszk := hkept.size
    have HSZ := Lib.hid hszk
    clear hkept hszk
    by_cases hkn : k < n
    · obtain ⟨ad, x, rfl, hx, hcx⟩ := (HA.out.kept HK.out (fun _ _ => id)).cell hkn
      obtain ⟨x1, x2⟩ := HR.out.at_ hx
      have hwx : IntKind.i64.wrap x = x := wrapI rfl (by omega) (by omega)
      have cC := fun W => rclass_any x x1 W
      have hcr := Rw.cls_range x
      obtain ⟨q, hq⟩ : ∃ q, Rw.cls x = q := ⟨_, rfl⟩
      rw [hq] at cC hcr
      obtain ⟨v, hv⟩ : ∃ v, Rw.cl t big k = v := ⟨_, rfl⟩
      have hval : v = if x = 10 then 9 else (if big = true ∧ q = 2 then 1 else q) := by
        rw [← hv]
        unfold Rw.cl
        rw [hx]
        simp only [Rw.clsB, hq]
      have HSUC := Lib.hid (clL_succ t big k)
      rw [hv] at HSUC
      obtain ⟨xs, hxs⟩ : ∃ xs, (clL t big k).map (Value.int .i64) = xs := ⟨_, rfl⟩
      rw [hxs] at hown
      have HXS := Lib.hid hxs
      have b1 : decide (k < n) = true := decide_eq_true hkn
      have b2 : decide ((k : Int) < (n : Int)) = true := decide_eq_true (by omega)
      have t1 : (0 : Int) ≤ (k : Int) := by omega
      have t2 : (k : Int) < (n : Int) := by omega
      clear hx hq hv hxs
      have hq3 : q = 0 ∨ q = 1 ∨ q = 2 := by omega
      have HV := Lib.hid hval
      clear hval hcr
      have hways : (x = 10 ∧ v = 9) ∨ ((x == 10) = false ∧ v = if big = true ∧ q = 2 then 1 else q) := by
        rw [HV.out]
        by_cases h10 : x = 10
        · exact .inl ⟨h10, by rw [if_pos h10]⟩
        · exact .inr ⟨beq_eq_false_iff_ne.2 h10, by rw [if_neg h10]⟩
      clear HV
      rcases hways with ⟨rfl, rfl⟩ | ⟨h10, hv⟩
      case' inr =>
        have HVV := Lib.hid hv
        clear hv
      all_goals
        rcases hq3 with rfl | rfl | rfl
        all_goals
          cases big
          all_goals
            first
              | (have hv2 := HVV.out; simp at hv2; subst hv2; clear HVV)
              | skip
            go_wp2_with (first
              | (go_at_call 106; refine (cC _).mono ?_; rintro e w2 ⟨rfl, hw⟩; have hw2 := hw.symm; clear hw; subst hw2)
              | (at_builtin; refine wpList_append_own_at _ rfl (.tmp 30) (.tmp 32) 37 rfl w.heap.size 3 i0 (.int .i64 0) 1 8 Tryz.underlying37 hi hz0 hz1 hz2 rfl (by decide) _ _ _ rfl (hown.alloc _) ⟨_, 0, none⟩ 1 1 [.int .i64 _] rfl rfl one_cell one_one (by unfold maxLen; omega) (by omega) (by have := HSZ.out; simp; omega) ?_; intro v' w4 hown' hgrow _ hat; have HK4 := Lib.hid (Kept.grew (HK.out.alloc _) hgrow (fun b hb => (hown.lt b hb).1)); have HO4 := Lib.hid hown'; clear hown' hgrow hat))
            go_roundw
            case rel => exact ⟨k + 1, by omega, by go_num, by rw [HSUC.out, List.map_append, HXS.out]; exact HO4.out, HK4.out⟩
            case measure => simp [intOf] <;> omega
    · obtain rfl : k = n := by omega
      have b1 : decide (k < k) = false := decide_eq_false (by omega)
      have b2 : decide ((k : Int) < (k : Int)) = false := decide_eq_false (by omega)
      obtain ⟨B, c', rfl, hN, _, _⟩ := owned_nums hown (clL_len t big k)
      have HN := Lib.hid hN
      clear hN hown
      go_wp2_with fail
      go_ret
      exact ⟨B, c', rfl, HN.out, HK.out⟩
set_option maxRecDepth 100000 in
set_option maxHeartbeats 1000000 in
theorem rrun_any (A B : Option Addr) (n c c' k : Nat) (big : Bool) (t : List Int) (w : World) (hA : Rn w A n t) (hB : Nums w B n (clL t big n)) (hn : n ≤ 6000) (hk : k < n) :
    Calls Tryz.prog 103 #[.slice A n c, .slice B n c', .int .i64 k] w fun e w' => e = .returned (.tuple #[.int .i64 (Rw.rlo t big (Rw.cl t big k) k : Nat), .int .i64 (Rw.rhi t big (Rw.cl t big k) (n - k) k : Nat)]) ∧ Kept (fun _ => False) w w' := by
  have hlen := hA.1
  have HL := Lib.hid hlen
  obtain ⟨bd, hbd⟩ : ∃ ad, B = some ad := by
    obtain ⟨ad, x, e, _⟩ := hB.cell hk
    exact ⟨ad, e⟩
  subst hbd
  have hcell : Hid (∀ i, i < n → w.cell? (bd.add i) = some (.int .i64 (Rw.cl t big i))) := fun i hi => by
    obtain ⟨ad, e, h⟩ := hB.2 i _ (clL_get hi)
    injection e with e
    subst e
    exact h
  have hck := hcell.out k hk
  obtain ⟨q, hq⟩ : ∃ q, Rw.cl t big k = q := ⟨_, rfl⟩
  rw [hq] at hck ⊢
  obtain ⟨LO, hLO⟩ : ∃ LO, Rw.rlo t big q k = LO := ⟨_, rfl⟩
  obtain ⟨HI, hHI⟩ : ∃ HI, Rw.rhi t big q (n - k) k = HI := ⟨_, rfl⟩
  rw [hLO, hHI]
  have HLO := Lib.hid hLO
  have HHI := Lib.hid hHI
  clear hA hB hq hLO hHI hlen
  have tk1 : (0 : Int) ≤ (k : Int) := by omega
  have tk2 : (k : Int) < (n : Int) := by omega
  go_enter Tryz.func103, Tryz.ntmps103
  go_wp2_with fail
  go_loopw [8] (fun v wr => ∃ (j m : Nat), v = .int .i64 j ∧ j ≤ k ∧ Rw.rlo t big q j = LO ∧ wr = w.drewN m) (fun v _ => (intOf v).toNat)
  case atStart => exact ⟨k, 0, rfl, Nat.le_refl _, HLO.out, rfl⟩
  case round =>
    obtain ⟨j, m, rfl, hjk, hlo, rfl⟩ := hrel
    have HLJ := Lib.hid hlo
    clear hlo
    by_cases hc : 0 < j ∧ Rw.cl t big (j - 1) = q
    · obtain ⟨h0, hq⟩ := hc
      obtain ⟨i, rfl⟩ : ∃ i, j = i + 1 := ⟨j - 1, by omega⟩
      rw [Nat.add_sub_cancel] at hq
      have HL2 := Lib.hid (show Rw.rlo t big q i = LO by rw [← HLJ.out, Rw.rlo_step hq])
      have hci := hcell.out i (by omega)
      rw [hq] at hci
      have hci' : (w.drewN m).cell? (bd.add i) = some (.int .i64 q) := hci
      have hck' : (w.drewN m).cell? (bd.add k) = some (.int .i64 q) := hck
      have b1 : decide ((0 : Int) < (i : Int) + 1) = true := decide_eq_true (by omega)
      have t1 : (0 : Int) ≤ (i : Int) := by omega
      have t2 : (i : Int) < (n : Int) := by omega
      clear hq h0
      go_wp2_with fail
      go_quiet (fail)
      go_wp2_with fail
      go_roundw
      case rel => exact ⟨i, _, by go_num, by omega, HL2.out, rfl⟩
      case measure => simp [intOf] <;> omega
    · have HLL := Lib.hid (show j = LO by
        rw [← HLJ.out]
        cases j with
        | zero => rfl
        | succ i => exact (Rw.rlo_stop (fun h => hc ⟨by omega, h⟩)).symm)
      have hways : j = 0 ∨ (∃ i v, j = i + 1 ∧ Rw.cl t big i = v ∧ (v == q) = false) := by
        cases j with
        | zero => exact .inl rfl
        | succ i => exact .inr ⟨i, _, rfl, rfl, beq_eq_false_iff_ne.2 (fun h => hc ⟨by omega, h⟩)⟩
      clear hc
      rcases hways with rfl | ⟨i, v, rfl, hv, hne⟩
      case' inr =>
        have hci := hcell.out i (by omega)
        rw [hv] at hci
        have hci' : (w.drewN m).cell? (bd.add i) = some (.int .i64 v) := hci
        have b1 : decide ((0 : Int) < (i : Int) + 1) = true := decide_eq_true (by omega)
        have t1 : (0 : Int) ≤ (i : Int) := by omega
        have t2 : (i : Int) < (n : Int) := by omega
        clear hv
      all_goals
        have hck' : (w.drewN m).cell? (bd.add k) = some (.int .i64 q) := hck
        go_wp2_with fail
        go_quiet (fail)
        go_wp2_with fail
        clear hck'
        generalize hW : (w.drewN m).drewN _ = W2
        have HW2 : Hid (∃ m2, W2 = w.drewN m2) := by show ∃ m2, _; rw [← hW]; exact ⟨_, by rw [World.drewN_drewN]⟩
        clear hW
        obtain ⟨m2, rfl⟩ := HW2.out
        clear HW2
        go_loopw [9] (fun v wr => ∃ (h m : Nat), v = .int .i64 h ∧ h ≤ n ∧ Rw.rhi t big q (n - h) h = HI ∧ wr = w.drewN m) (fun v _ => n - (intOf v).toNat)
        case atStart => exact ⟨k, m2, rfl, by omega, HHI.out, rfl⟩
        case round =>
          obtain ⟨h, m3, rfl, hhn, hhi, rfl⟩ := hrel
          have HHJ := Lib.hid hhi
          clear hhi
          have hck' : (w.drewN m3).cell? (bd.add k) = some (.int .i64 q) := hck
          by_cases hlt : h < n
          · have b2 : decide (h < n) = true := decide_eq_true hlt
            have b3 : decide ((h : Int) < (n : Int)) = true := decide_eq_true (by omega)
            have t3 : (0 : Int) ≤ (h : Int) := by omega
            have t4 : (h : Int) < (n : Int) := by omega
            have hch := hcell.out h hlt
            by_cases hq : Rw.cl t big h = q
            · have HL2 := Lib.hid (show Rw.rhi t big q (n - (h + 1)) (h + 1) = HI by rw [← HHJ.out, show n - h = n - (h + 1) + 1 by omega, Rw.rhi_step (by rw [HL.out]; exact hlt) hq])
              rw [hq] at hch
              have hch' : (w.drewN m3).cell? (bd.add h) = some (.int .i64 q) := hch
              clear hq
              go_wp2_with fail
              go_quiet (fail)
              go_wp2_with fail
              go_roundw
              case rel => exact ⟨h + 1, _, by go_num, by omega, HL2.out, rfl⟩
              case measure => simp [intOf] <;> omega
            · have HHH := Lib.hid (show h = HI by rw [← HHJ.out, Rw.rhi_stop (fun e => hq e.2)])
              obtain ⟨v2, hv2⟩ : ∃ v2, Rw.cl t big h = v2 := ⟨_, rfl⟩
              rw [hv2] at hch
              have hne2 : (v2 == q) = false := beq_eq_false_iff_ne.2 (by rw [← hv2]; exact hq)
              have hch' : (w.drewN m3).cell? (bd.add h) = some (.int .i64 v2) := hch
              clear hq hv2
              go_wp2_with fail
              go_quiet (fail)
              go_wp2_with fail
              rw [← HLL.out, ← HHH.out]
              exact bodyPost_ret (v := .tuple #[_, _]) (by simp [results, Tryz.results103, go_sem]) rfl ⟨rfl, ((Kept.refl (fun _ => False) w).drewN _).drewN _⟩
          · obtain rfl : h = n := by omega
            have b2 : decide (h < h) = false := decide_eq_false (by omega)
            have b3 : decide ((h : Int) < (h : Int)) = false := decide_eq_false (by omega)
            have HHH := Lib.hid (show h = HI by rw [← HHJ.out, Rw.rhi_stop (fun e => by have := e.1; have := HL.out; omega)])
            go_wp2_with fail
            go_quiet (fail)
            go_wp2_with fail
            rw [← HLL.out, ← HHH.out]
            exact bodyPost_ret (v := .tuple #[_, _]) (by simp [results, Tryz.results103, go_sem]) rfl ⟨rfl, ((Kept.refl (fun _ => False) w).drewN _).drewN _⟩
end Go.Proofs.YtbofjefblhnkoaaGreatDoor
