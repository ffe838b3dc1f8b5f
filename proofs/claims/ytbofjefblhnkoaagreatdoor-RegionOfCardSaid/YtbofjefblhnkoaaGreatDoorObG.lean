/-
  PARAGRAPHS: the reference's spread; the paragraph, of both.
-/
import Derived.Test.YtbofjefblhnkoaaGreatDoorObB
set_option linter.unusedVariables false
namespace Go.Proofs.YtbofjefblhnkoaaGreatDoor
open Go Go.RowKit

set_option maxRecDepth 100000 in
set_option maxHeartbeats 1000000 in
theorem spread_any (A : Option Addr) (n c lo hi : Nat) (E : Bool) (t : List Int) (w : World) (hA : Rn w A n t) (hn : n ≤ 6000) (hl : lo ≤ n) (hh : hi ≤ n) :
    Calls Tryz.prog 104 #[.slice A n c, .int .i64 lo, .int .i64 hi, .bool E] w fun e w' => e = .returned (.tuple #[.int .i64 (Rw.bup t E (t.length + 1) lo : Nat), .int .i64 (Rw.bdn t E (t.length + 1) hi : Nat)]) ∧ w' = w := by
  have hlen := hA.1
  obtain ⟨LO, hLO⟩ : ∃ LO, Rw.bup t E (t.length + 1) lo = LO := ⟨_, rfl⟩
  obtain ⟨HI, hHI⟩ : ∃ HI, Rw.bdn t E (t.length + 1) hi = HI := ⟨_, rfl⟩
  rw [hLO, hHI]
  have HLO := Lib.hid hLO
  have HHI := Lib.hid hHI
  have HL := Lib.hid hlen
  have HA := Lib.hid hA
  clear hLO hHI hlen hA
  go_enter Tryz.func104, Tryz.ntmps104
  go_wp2_with fail
  go_loop [1] (fun v => ∃ (f l : Nat), v = .int .i64 l ∧ l ≤ n ∧ l < f ∧ Rw.bup t E f l = LO) (fun v => (intOf v).toNat)
  case atStart => exact ⟨t.length + 1, lo, rfl, hl, by have := HL.out; omega, HLO.out⟩
  case round =>
    obtain ⟨f, l, rfl, hln, hlf, hbup⟩ := hrel
    have HB := Lib.hid hbup
    clear hbup
    by_cases hc : 0 < l ∧ decide (Rw.beg t (l - 1) = l - 1) = E
    · obtain ⟨f', rfl⟩ : ∃ f', f = f' + 1 := ⟨f - 1, by omega⟩
      obtain ⟨i, rfl⟩ : ∃ i, l = i + 1 := ⟨l - 1, by omega⟩
      have hst := Rw.bup_step (t := t) (e := E) (f := f') hc.1 hc.2
      have hE := hc.2
      rw [Nat.add_sub_cancel] at hst hE
      have cR := fun W (hW : Rn W A n t) => rbegin_any A n c t i W hW (by omega) (by omega)
      have cR' := cR w HA.out
      have HB2 := Lib.hid (show Rw.bup t E f' (Rw.beg t i) = LO by rw [← HB.out, hst])
      have hle2 := Rw.beg_le t i
      have hEI : (((Rw.beg t i : Nat) : Int) == (i : Int)) = E := by
        rw [← hE]
        by_cases h : Rw.beg t i = i
        · rw [decide_eq_true h, h]; simp
        · rw [decide_eq_false h]; rw [beq_eq_false_iff_ne]; omega
      have b1 : decide ((0 : Int) < (i : Int) + 1) = true := decide_eq_true (by omega)
      clear hc hst hE cR
      generalize Rw.beg t i = l2 at *
      cases E
      all_goals
        go_wp2_with (go_at_call 36; refine cR'.mono ?_; rintro e w2 ⟨rfl, hw⟩; have hw2 := hw.symm; clear hw; subst hw2)
        go_round
        case rel => exact ⟨f', l2, rfl, by omega, by omega, HB2.out⟩
        case measure => simp [intOf] <;> omega
    · have HLL := Lib.hid (show l = LO by rw [← HB.out, Rw.bup_stop hc])
      have hways : l = 0 ∨ (∃ i, l = i + 1 ∧ decide (Rw.beg t i = i) = !E) := by
        by_cases h0 : 0 < l
        · refine .inr ⟨l - 1, by omega, ?_⟩
          have : decide (Rw.beg t (l - 1) = l - 1) ≠ E := fun e => hc ⟨h0, e⟩
          cases hd : decide (Rw.beg t (l - 1) = l - 1) <;> cases E <;> simp_all
        · exact .inl (by omega)
      clear hc
      rcases hways with rfl | ⟨i, rfl, hne⟩
      case' inr =>
        have cR' := rbegin_any A n c t i w HA.out (by omega) (by omega)
        have hEI : (((Rw.beg t i : Nat) : Int) == (i : Int)) = !E := by
          rw [← hne]
          by_cases h : Rw.beg t i = i
          · rw [decide_eq_true h, h]; simp
          · rw [decide_eq_false h]; rw [beq_eq_false_iff_ne]; omega
        have b1 : decide ((0 : Int) < (i : Int) + 1) = true := decide_eq_true (by omega)
        clear hne
        generalize Rw.beg t i = l2 at *
        go_wp2_with (go_at_call 36; refine cR'.mono ?_; rintro e w2 ⟨rfl, hw⟩; have hw2 := hw.symm; clear hw; subst hw2)
        clear hEI b1
      case' inl => go_wp2_with fail
      all_goals
        go_loop [2] (fun v => ∃ (f l : Nat), v = .int .i64 l ∧ l ≤ n ∧ n < l + f ∧ Rw.bdn t E f l = HI) (fun v => n - (intOf v).toNat)
        case atStart => exact ⟨t.length + 1, hi, rfl, hh, by have := HL.out; omega, HHI.out⟩
        case round =>
          obtain ⟨f, h, rfl, hhn, hhf, hbdn⟩ := hrel
          have HB := Lib.hid hbdn
          clear hbdn
          by_cases hlt : h < n
          · have cR := rend_any A n c t (h + 1) w HA.out (by omega) (by omega)
            have b1 : decide (h < n) = true := decide_eq_true hlt
            have b2 : decide ((h : Int) < (n : Int)) = true := decide_eq_true (by omega)
            have e1 : IntKind.i64.wrap ((h : Int) + 1) = (h : Int) + 1 := wrapI rfl (by omega) (by omega)
            have e2 : ((h + 1 : Nat) : Int) = (h : Int) + 1 := by omega
            rw [e2] at cR
            have hge2 := Rw.en_ge t (h + 1)
            have hle2 := Rw.en_le t (h + 1) (by have := HL.out; omega)
            rw [HL.out] at hle2
            have hEI : ∀ F, decide (Rw.en t (h + 1) = h + 1) = F → (((Rw.en t (h + 1) : Nat) : Int) == (h : Int) + 1) = F := fun F hF => by
              rw [← hF]
              by_cases h' : Rw.en t (h + 1) = h + 1
              · rw [decide_eq_true h', h']; simp
              · rw [decide_eq_false h']; rw [beq_eq_false_iff_ne]; omega
            by_cases hFE : decide (Rw.en t (h + 1) = h + 1) = E
            · have hEI2 := hEI _ hFE
              obtain ⟨f', rfl⟩ : ∃ f', f = f' + 1 := ⟨f - 1, by omega⟩
              have HB2 := Lib.hid (show Rw.bdn t E f' (Rw.en t (h + 1)) = HI by rw [← HB.out, Rw.bdn_step (by rw [HL.out]; exact hlt) hFE])
              clear hFE hEI
              generalize Rw.en t (h + 1) = h2 at *
              cases E
              all_goals
                go_wp2_with (go_at_call 37; refine cR.mono ?_; rintro e w2 ⟨rfl, hw⟩; have hw2 := hw.symm; clear hw; subst hw2)
                go_round
                case rel => first | exact ⟨f', h2, rfl, by omega, by omega, HB2.out⟩ | (refine ⟨trivial, ?_⟩; (repeat (apply Exists.intro)); exact ⟨⟨f', h2, rfl, by omega, by omega, HB2.out⟩, rfl⟩)
                case measure => simp [intOf] <;> omega
            · have HHH := Lib.hid (show h = HI by rw [← HB.out, Rw.bdn_stop (fun hc => hFE hc.2)])
              have hFE2 : decide (Rw.en t (h + 1) = h + 1) = !E := by cases hd : decide (Rw.en t (h + 1) = h + 1) <;> cases E <;> simp_all
              have hEI2 := hEI _ hFE2
              clear hFE hFE2 hEI
              generalize Rw.en t (h + 1) = h2 at *
              cases E
              all_goals
                go_wp2_with (go_at_call 37; refine cR.mono ?_; rintro e w2 ⟨rfl, hw⟩; have hw2 := hw.symm; clear hw; subst hw2)
                rw [← HLL.out, ← HHH.out]
                refine bodyPost_ret (v := .tuple #[_, _]) (by simp [results, Tryz.results104, go_sem]) rfl ⟨rfl, rfl⟩
          · obtain rfl : h = n := by omega
            have b1 : decide (h < h) = false := decide_eq_false (by omega)
            have b2 : decide ((h : Int) < (h : Int)) = false := decide_eq_false (by omega)
            have HHH := Lib.hid (show h = HI by rw [← HB.out, Rw.bdn_stop (fun hc => by have := hc.1; have := HL.out; omega)])
            go_wp2_with fail
            rw [← HLL.out, ← HHH.out]
            refine bodyPost_ret (v := .tuple #[_, _]) (by simp [results, Tryz.results104, go_sem]) rfl ⟨rfl, rfl⟩
/-- What a paragraph tells. -/
def pR (o : Option (Nat × Nat)) : Value := ansR (o.map fun p => ((p.1 : Int), (p.2 : Int), true))
theorem par_i {t : List Int} {k : Nat} : Rw.par t 105 k = some (Rw.bup t (Rw.bare t k) (t.length + 1) (Rw.beg t k), Rw.bdn t (Rw.bare t k) (t.length + 1) (Rw.en t k)) := rfl
theorem par_a {t : List Int} {k lo hi : Nat} (h1 : Rw.bup t (Rw.bare t k) (t.length + 1) (Rw.beg t k) = lo) (h2 : Rw.bdn t (Rw.bare t k) (t.length + 1) (Rw.en t k) = hi) :
    Rw.par t 97 k = if hi < t.length then some (lo, Rw.bdn t (!(Rw.bare t k)) (t.length + 1) (Rw.en t (hi + 1))) else if 0 < lo then some (Rw.bup t (!(Rw.bare t k)) (t.length + 1) (Rw.beg t (lo - 1)), hi) else none := by
  subst h1 h2
  rfl
set_option maxRecDepth 100000 in
set_option maxHeartbeats 1000000 in
theorem ppar_any (A : Option Addr) (n c k : Nat) (wide : Int) (t : List Int) (w : World) (hA : Rn w A n t) (hn : n ≤ 6000) (hk : k ≤ n) (hw : wide = 105 ∨ wide = 97) :
    Calls Tryz.prog 47 #[.slice A n c, .int .i64 k, .int .i64 wide] w fun e w' => e = .returned (pR (Rw.par t wide k)) ∧ Kept (fun _ => False) w w' := by
  have hlen := hA.1
  have hka : Kept (fun _ => False) w (w.alloc (rngO 0 0 false)) := (Kept.refl _ w).alloc _
  have HA := Lib.hid (hA.kept hka (fun _ _ => id))
  have HKA := Lib.hid hka
  have HG : Hid ((w.alloc (rngO 0 0 false)).heap[w.heap.size]? = some (rngO 0 0 false)) := heap_alloc_new w _
  have cB := block_any A n c k t _ HA.out hn hk
  have hle := Rw.en_le t k (by omega)
  have hbl := Rw.beg_le t k
  have hbb := Rw.beg_beg t k
  have hee := Rw.en_en t k (by omega)
  obtain ⟨LO, hLO⟩ : ∃ LO, Rw.bup t (Rw.bare t k) (t.length + 1) (Rw.beg t k) = LO := ⟨_, rfl⟩
  obtain ⟨HI, hHI⟩ : ∃ HI, Rw.bdn t (Rw.bare t k) (t.length + 1) (Rw.en t k) = HI := ⟨_, rfl⟩
  have hlo1 : LO ≤ k := by rw [← hLO]; have := Rw.bup_le t (Rw.bare t k) (t.length + 1) (Rw.beg t k); omega
  have hhi1 : HI ≤ n := by rw [← hHI]; have := Rw.bdn_le t (Rw.bare t k) (t.length + 1) (Rw.en t k) hle; omega
  have hlob : Rw.beg t LO = LO := by rw [← hLO]; exact Rw.bup_beg t _ _ _ hbb
  have hhie : Rw.en t HI = HI := by rw [← hHI]; exact Rw.bdn_en t _ _ _ hle hee
  have hfu : 0 < LO → Rw.bare t (LO - 1) = !(Rw.bare t k) := fun h => by
    rw [Rw.bare_up hlob h, ← hLO]
    exact bup_final _ _ (by omega) (by rw [hLO]; exact h)
  have hfd : HI < t.length → Rw.bare t (HI + 1) = !(Rw.bare t k) := fun h => by
    rw [Rw.bare_dn h hhie, ← hHI]
    exact bdn_final _ _ (by have := Rw.en_ge t k; omega) hle (by rw [hHI]; exact h)
  rw [hLO, hHI] at cB
  have HPA := Lib.hid (par_a hLO hHI)
  have HPI := Lib.hid (par_i (t := t) (k := k))
  rw [hLO, hHI] at HPI
  have HFU := Lib.hid hfu
  have HFD := Lib.hid hfd
  have HL := Lib.hid hlen
  clear hA hka hlen hbb hee hLO hHI hlob hhie hfu hfd hle hbl
  rcases hw with rfl | rfl
  · go_enter Tryz.func47, Tryz.ntmps47
    go_wp2_with (go_at_call 83; refine cB.mono ?_; rintro e w2 ⟨rfl, hw⟩; have hw2 := hw.symm; clear hw; subst hw2; clear cB)
    refine bodyPost_ret (res_rng2 rfl _ _ _ _ _ _ (0, 0) rfl (heap_alloc_new w _)) rfl ⟨by rw [HPI.out]; rfl, (Kept.refl _ w).alloc _⟩
  · by_cases h1 : HI < n
    · have cD := block_any A n c (HI + 1) t _ HA.out hn (by omega)
      have e1 : IntKind.i64.wrap ((HI : Int) + 1) = (HI : Int) + 1 := wrapI rfl (by omega) (by omega)
      have e2 : ((HI + 1 : Nat) : Int) = (HI : Int) + 1 := by omega
      have b1 : decide (HI < n) = true := decide_eq_true h1
      have b2 : decide ((HI : Int) < (n : Int)) = true := decide_eq_true (by omega)
      have hp := HPA.out
      rw [if_pos (by rw [HL.out]; exact h1), ← HFD.out (by rw [HL.out]; exact h1)] at hp
      rw [e2] at cD
      have HP := Lib.hid hp
      generalize Rw.bdn t (Rw.bare t (HI + 1)) (t.length + 1) (Rw.en t (HI + 1)) = H2 at *
      generalize Rw.bup t (Rw.bare t (HI + 1)) (t.length + 1) (Rw.beg t (HI + 1)) = L2 at *
      clear hp
      go_enter Tryz.func47, Tryz.ntmps47
      go_upto_region 5 with (go_at_call 83; refine cB.mono ?_; rintro e w2 ⟨rfl, hw⟩; have hw2 := hw.symm; clear hw; subst hw2; clear cB)
      go_wp2_with (go_at_call 83; refine cD.mono ?_; rintro e w2 ⟨rfl, hw⟩; have hw2 := hw.symm; clear hw; subst hw2; clear cD)
      refine bodyPost_ret (res_rng2 rfl _ _ _ _ _ _ (0, 0) rfl (heap_alloc_new w _)) rfl ⟨by rw [HP.out]; rfl, (Kept.refl _ w).alloc _⟩
    · have b1 : decide (HI < n) = false := decide_eq_false h1
      have b2 : decide ((HI : Int) < (n : Int)) = false := decide_eq_false (by omega)
      have hp := HPA.out
      rw [if_neg (by rw [HL.out]; exact h1)] at hp
      by_cases h0 : 0 < LO
      · rw [if_pos h0, ← HFU.out h0] at hp
        obtain ⟨i, rfl⟩ : ∃ i, LO = i + 1 := ⟨LO - 1, by omega⟩
        rw [Nat.add_sub_cancel] at hp
        have cD := block_any A n c i t _ HA.out hn (by omega)
        have b3 : decide ((0 : Int) < (i : Int) + 1) = true := decide_eq_true (by omega)
        have HP := Lib.hid hp
        generalize Rw.bdn t (Rw.bare t i) (t.length + 1) (Rw.en t i) = H2 at *
        generalize Rw.bup t (Rw.bare t i) (t.length + 1) (Rw.beg t i) = L2 at *
        clear hp
        go_enter Tryz.func47, Tryz.ntmps47
        go_upto_region 7 with (go_at_call 83; refine cB.mono ?_; rintro e w2 ⟨rfl, hw⟩; have hw2 := hw.symm; clear hw; subst hw2; clear cB)
        go_wp2_with (go_at_call 83; refine cD.mono ?_; rintro e w2 ⟨rfl, hw⟩; have hw2 := hw.symm; clear hw; subst hw2; clear cD)
        refine bodyPost_ret (res_rng2 rfl _ _ _ _ _ _ (0, 0) rfl (heap_alloc_new w _)) rfl ⟨by rw [HP.out]; rfl, (Kept.refl _ w).alloc _⟩
      · rw [if_neg h0] at hp
        obtain rfl : LO = 0 := by omega
        have HP := Lib.hid hp
        clear hp
        go_enter Tryz.func47, Tryz.ntmps47
        go_wp2_with (go_at_call 83; refine cB.mono ?_; rintro e w2 ⟨rfl, hw⟩; have hw2 := hw.symm; clear hw; subst hw2; clear cB)
        refine bodyPost_ret (res_rng2 rfl _ _ _ _ _ _ (0, 0) rfl (heap_alloc_new w _)) rfl ⟨by rw [HP.out]; rfl, (Kept.refl _ w).alloc _⟩
end Go.Proofs.YtbofjefblhnkoaaGreatDoor
