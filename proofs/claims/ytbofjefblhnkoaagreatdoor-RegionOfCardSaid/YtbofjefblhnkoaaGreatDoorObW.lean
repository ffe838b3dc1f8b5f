/-
  WORDS, of the reference.
-/
import Derived.Test.YtbofjefblhnkoaaGreatDoorObH
set_option linter.unusedVariables false
namespace Go.Proofs.YtbofjefblhnkoaaGreatDoor
open Go Go.RowKit

/-- What a word tells. -/
def wR (o : Option (Nat × Nat)) : Value := ansR (o.map fun p => ((p.1 : Int), (p.2 : Int), false))
/-- What holds while a word is looked for: the runes, their classes, the result's block. -/
def WdS (A : Option Addr) (bd : Addr) (n : Nat) (t : List Int) (big : Bool) (w0 : World) (g : Nat) (W : World) : Prop :=
  Rn W A n t ∧ Nums W (some bd) n (clL t big n) ∧ W.heap[g]? = some (rngO 0 0 false) ∧ Kept (fun _ => False) w0 W
theorem WdS.kept {A : Option Addr} {bd : Addr} {n : Nat} {t : List Int} {big : Bool} {w0 : World} {g : Nat} {W W' : World} (h : WdS A bd n t big w0 g W) (hk : Kept (fun _ => False) W W') : WdS A bd n t big w0 g W' :=
  ⟨h.1.kept hk (fun _ _ => id), h.2.1.kept hk (fun _ _ => id), (hk.block g (heap_lt h.2.2.1) id).trans h.2.2.1, h.2.2.2.trans hk⟩
theorem WdS.cell {A : Option Addr} {bd : Addr} {n : Nat} {t : List Int} {big : Bool} {w0 : World} {g : Nat} {W : World} (h : WdS A bd n t big w0 g W) {i : Nat} (hi : i < n) {q : Int} (hq : Rw.cl t big i = q) : W.cell? (bd.add i) = some (.int .i64 q) := by
  obtain ⟨ad, e, hc⟩ := h.2.1.2 i _ (clL_get hi)
  injection e with e
  subst e
  rw [← hq]
  exact hc
theorem rrun_S {A : Option Addr} {bd : Addr} {n : Nat} {t : List Int} {big : Bool} {w0 : World} {g : Nat} {W : World} (c c' k : Nat) (h : WdS A bd n t big w0 g W) (hn : n ≤ 6000) (hk : k < n) {q : Int} (hq : Rw.cl t big k = q) {LO HI : Nat} (hLO : Rw.rlo t big q k = LO) (hHI : Rw.rhi t big q (n - k) k = HI) :
    Calls Tryz.prog 103 #[.slice A n c, .slice (some bd) n c', .int .i64 k] W fun e w' => e = .returned (.tuple #[.int .i64 LO, .int .i64 HI]) ∧ WdS A bd n t big w0 g w' := by
  refine (rrun_any A (some bd) n c c' k big t W h.1 h.2.1 hn hk).mono ?_
  rintro e w' ⟨rfl, hk'⟩
  rw [hq, hLO, hHI]
  exact ⟨rfl, h.kept hk'⟩
theorem wrd_none {t : List Int} {big : Bool} {wide : Int} {k : Nat} (h : t.length ≤ k ∨ t[k]? = some 10) : Rw.wrd t big wide k = none := by rw [Rw.wrd, if_pos h]
theorem wrd_some {t : List Int} {big : Bool} {wide : Int} {k : Nat} (h1 : k < t.length) (h2 : t[k]? ≠ some 10) {q : Int} (hq : Rw.cl t big k = q) {LO HI : Nat} (hLO : Rw.rlo t big q k = LO) (hHI : Rw.rhi t big q (t.length - k) k = HI) :
    Rw.wrd t big wide k = if wide = 105 then some (LO, HI)
      else if q = 0 then (if HI = Rw.en t k then none else some (LO, Rw.rhi t big (Rw.cl t big HI) (t.length - HI) HI))
      else if HI < Rw.en t k ∧ Rw.cl t big HI = 0 then some (LO, Rw.rhi t big 0 (t.length - HI) HI)
      else if Rw.beg t k < LO ∧ Rw.cl t big (LO - 1) = 0 then some (Rw.rlo t big 0 (LO - 1), HI)
      else some (LO, HI) := by
  subst hq
  subst hLO
  subst hHI
  rw [Rw.wrd, if_neg (by rintro (h | h); omega; exact h2 h)]
set_option maxRecDepth 100000 in
set_option maxHeartbeats 1000000 in
theorem rword_any (A : Option Addr) (n c k : Nat) (wide : Int) (big : Bool) (t : List Int) (w : World) (hA : Rn w A n t) (hr : Runey t) (hn : n ≤ 6000) (hk : k ≤ n) (hw : wide = 105 ∨ wide = 97) :
    Calls Tryz.prog 63 #[.slice A n c, .int .i64 k, .int .i64 wide, .bool big] w fun e w' => e = .returned (wR (Rw.wrd t big wide k)) ∧ Kept (fun _ => False) w w' := by
  have hlen := hA.1
  have hka : Kept (fun _ => False) w (w.alloc (rngO 0 0 false)) := (Kept.refl _ w).alloc _
  have HA := Lib.hid (hA.kept hka (fun _ _ => id))
  have HG : Hid ((w.alloc (rngO 0 0 false)).heap[w.heap.size]? = some (rngO 0 0 false)) := heap_alloc_new w _
  have HL := Lib.hid hlen
  by_cases h0 : n ≤ k ∨ t[k]? = some 10
  · have hnone := Lib.hid (wrd_none (big := big) (wide := wide) (t := t) (k := k) (by rw [hlen]; exact h0))
    clear hw
    by_cases hkn : n ≤ k
    · obtain rfl : k = n := by omega
      clear h0 hA hka hlen
      have b1 : decide (k ≤ k) = true := decide_eq_true (Nat.le_refl _)
      have b2 : decide ((k : Int) ≤ (k : Int)) = true := decide_eq_true (by omega)
      obtain ⟨f0, f1, f2⟩ := rng_facts HG.out
      obtain ⟨y0, y1, y2⟩ := rng_free HG.out
      go_enter Tryz.func63, Tryz.ntmps63
      go_wp2_with fail
      refine bodyPost_ret (res_rng2 rfl _ _ _ _ _ _ (0, 0) rfl (heap_alloc_new w _)) rfl ⟨by rw [hnone.out]; rfl, (Kept.refl _ w).alloc _⟩
    · obtain ⟨ad, x, rfl, hx, hcx⟩ := HA.out.cell (j := k) (by omega)
      have h10 : x = 10 := by
        rcases h0 with h0 | h0
        · omega
        · rw [hx] at h0; injection h0
      subst h10
      have b1 : decide (n ≤ k) = false := decide_eq_false hkn
      have b2 : decide ((n : Int) ≤ (k : Int)) = false := decide_eq_false (by omega)
      have t1 : (0 : Int) ≤ (k : Int) := by omega
      have t2 : (k : Int) < (n : Int) := by omega
      clear h0 hA hka hlen hkn hx
      obtain ⟨f0, f1, f2⟩ := rng_facts HG.out
      obtain ⟨y0, y1, y2⟩ := rng_free HG.out
      go_enter Tryz.func63, Tryz.ntmps63
      go_wp2_with fail
      refine bodyPost_ret (res_rng2 rfl _ _ _ _ _ _ (0, 0) rfl (heap_alloc_new w _)) rfl ⟨by rw [hnone.out]; rfl, (Kept.refl _ w).alloc _⟩
  · obtain ⟨hkn, hx10⟩ := not_or.1 h0
    replace hkn : k < n := by omega
    clear h0
    obtain ⟨ad, x, rfl, hx, hcx⟩ := HA.out.cell (j := k) hkn
    have h10 : (x == 10) = false := by rw [beq_eq_false_iff_ne]; rintro rfl; exact hx10 hx
    obtain ⟨q, hq⟩ : ∃ q, Rw.cl t big k = q := ⟨_, rfl⟩
    obtain ⟨LO, hLO⟩ : ∃ LO, Rw.rlo t big q k = LO := ⟨_, rfl⟩
    obtain ⟨HI, hHI⟩ : ∃ HI, Rw.rhi t big q (n - k) k = HI := ⟨_, rfl⟩
    have hW := wrd_some (wide := wide) (HI := HI) (by rw [hlen]; exact hkn) hx10 hq hLO (by rw [hlen]; exact hHI)
    have hLk : LO ≤ k := by rw [← hLO]; exact Rw.rlo_le t big q k
    have hHn : HI ≤ n := by rw [← hHI]; have := Rw.rhi_le t big q (n - k) k (by omega); omega
    have hq9 : q ≠ 9 := by
      rw [← hq]
      unfold Rw.cl
      rw [hx]
      simp only
      rw [if_neg (by rintro rfl; exact hx10 hx)]
      have := Rw.clsB_range big x
      omega
    have hHe : HI ≤ Rw.en t k := by rw [← hHI]; exact Rw.rhi_row hq9 (n - k) k
    have cB := fun W (hW : Rn W (some ad) n t) => rbegin_any (some ad) n c t k W hW (by omega) (by omega)
    have cE := fun W (hW : Rn W (some ad) n t) => rend_any (some ad) n c t k W hW (by omega) (by omega)
    have hen := Rw.en_le t k (by omega)
    have cC := classes_any (some ad) n c big t _ HA.out hr hn
    have HQ := Lib.hid hq
    have HLO := Lib.hid hLO
    have HHI := Lib.hid hHI
    have HKA := Lib.hid hka
    rw [hlen] at hen hW
    have HW := Lib.hid hW
    obtain ⟨EN, hEN⟩ : ∃ EN, Rw.en t k = EN := ⟨_, rfl⟩
    obtain ⟨BE, hBE⟩ : ∃ BE, Rw.beg t k = BE := ⟨_, rfl⟩
    rw [hEN] at hen cE HW hHe
    rw [hBE] at cB HW
    have b1 : decide (n ≤ k) = false := decide_eq_false (by omega)
    have b2 : decide ((n : Int) ≤ (k : Int)) = false := decide_eq_false (by omega)
    have t1 : (0 : Int) ≤ (k : Int) := by omega
    have t2 : (k : Int) < (n : Int) := by omega
    clear hx hx10 hq hLO hHI hW hq9 hEN hBE hA hka hr
    generalize Rw.wrd t big wide k = RES at *
    go_enter Tryz.func63, Tryz.ntmps63
    go_upto_region 4 with (go_at_call 102; refine cC.mono ?_; rintro e w2 ⟨B, c', rfl, hN, hk2⟩; have HN := Lib.hid hN; have HK2 := Lib.hid hk2; clear hN hk2 cC)
    obtain ⟨bd, hbd⟩ : ∃ bd, B = some bd := by
      obtain ⟨bd, x, e, _⟩ := HN.out.cell hkn
      exact ⟨bd, e⟩
    subst hbd
    have HS2 := Lib.hid (show WdS (some ad) bd n t big w w.heap.size w2 from ⟨HA.out.kept HK2.out (fun _ _ => id), HN.out, (HK2.out.block _ (heap_lt HG.out) id).trans HG.out, HKA.out.trans HK2.out⟩)
    clear HA HN HK2 HKA HG hcx
    rcases hw with rfl | rfl
    · have HR := Lib.hid (show RES = some (LO, HI) by rw [HW.out, if_pos rfl])
      clear HW
      go_wp2_with (go_at_call 103; refine (rrun_S c _ k HS2.out hn hkn HQ.out HLO.out HHI.out).mono ?_; rintro e w3 ⟨rfl, hS⟩; have HS3 := Lib.hid hS; obtain ⟨f0, f1, f2⟩ := rng_facts hS.2.2.1; obtain ⟨y0, y1, y2⟩ := rng_free hS.2.2.1; clear hS)
      refine bodyPost_ret (res_rng2 rfl _ _ _ _ _ _ (0, 0) rfl (rng_three HS3.out.2.2.1 _ _ _)) rfl ⟨by rw [HR.out]; rfl, ?_⟩
      exact HS3.out.2.2.2.fresh (Kept.three (Kept.refl (fun q => q = w.heap.size) _) rfl _ _ _) (fun q hq (e : q = w.heap.size) => by omega)
    · have hW2 := HW.out
      rw [if_neg (by omega)] at hW2
      clear HW
      by_cases hq0 : q = 0
      · subst hq0
        rw [if_pos rfl] at hW2
        by_cases hhe : HI = EN
        · subst hhe
          have HR := Lib.hid (show RES = none by rw [hW2, if_pos rfl])
          clear hW2
          go_wp2_with (first | (go_at_call 103; refine (rrun_S c _ k HS2.out hn hkn HQ.out HLO.out HHI.out).mono ?_; rintro e w3 ⟨rfl, hS⟩; have HS3 := Lib.hid hS; have hck := hS.cell hkn HQ.out; obtain ⟨f0, f1, f2⟩ := rng_facts hS.2.2.1; obtain ⟨y0, y1, y2⟩ := rng_free hS.2.2.1; clear hS) | (go_at_call 37; refine (cE _ HS3.out.1).mono ?_; rintro e w4 ⟨rfl, hw⟩; have hw4 := hw.symm; clear hw; subst hw4))
          refine bodyPost_ret (res_rng2 rfl _ _ _ _ _ _ (0, 0) rfl (rng_three HS3.out.2.2.1 _ _ _)) rfl ⟨by rw [HR.out]; rfl, ?_⟩
          exact HS3.out.2.2.2.fresh (Kept.three (Kept.refl (fun q => q = w.heap.size) _) rfl _ _ _) (fun q hq (e : q = w.heap.size) => by omega)
        · have HR := Lib.hid (show RES = _ by rw [hW2, if_neg hhe])
          have b3 : ((HI : Int) == (EN : Int)) = false := by rw [beq_eq_false_iff_ne]; omega
          have hHln : HI < n := by omega
          clear hW2 hhe
          go_upto_region 11 with (first | (go_at_call 103; refine (rrun_S c _ k HS2.out hn hkn HQ.out HLO.out HHI.out).mono ?_; rintro e w3 ⟨rfl, hS⟩; have HS3 := Lib.hid hS; have hck := hS.cell hkn HQ.out; clear hS) | (go_at_call 37; refine (cE _ HS3.out.1).mono ?_; rintro e w4 ⟨rfl, hw⟩; have hw4 := hw.symm; clear hw; subst hw4))
          go_wp2_with ((go_at_call 103; refine (rrun_S c _ HI HS3.out hn hHln rfl rfl rfl).mono ?_; rintro e w5 ⟨rfl, hS⟩; have HS5 := Lib.hid hS; obtain ⟨f0, f1, f2⟩ := rng_facts hS.2.2.1; obtain ⟨y0, y1, y2⟩ := rng_free hS.2.2.1; clear hS))
          refine bodyPost_ret (res_rng2 rfl _ _ _ _ _ _ (0, 0) rfl (rng_three HS5.out.2.2.1 _ _ _)) rfl ⟨by rw [HR.out]; rfl, ?_⟩
          exact HS5.out.2.2.2.fresh (Kept.three (Kept.refl (fun q => q = w.heap.size) _) rfl _ _ _) (fun q hq (e : q = w.heap.size) => by omega)
      · rw [if_neg hq0] at hW2
        have bq : (q == 0) = false := by rw [beq_eq_false_iff_ne]; exact hq0
        clear hq0
        by_cases hv : HI < EN ∧ Rw.cl t big HI = 0
        · have HR := Lib.hid (show RES = _ by rw [hW2, if_pos hv])
          obtain ⟨hv1, hv2⟩ := hv
          have HV := Lib.hid hv2
          have b3 : decide (HI < EN) = true := decide_eq_true hv1
          have b4 : decide ((HI : Int) < (EN : Int)) = true := decide_eq_true (by omega)
          have hHln : HI < n := by omega
          have t3 : (0 : Int) ≤ (HI : Int) := by omega
          have t4 : (HI : Int) < (n : Int) := by omega
          clear hW2 hv2
          go_upto_region 14 with (first | (go_at_call 103; refine (rrun_S c _ k HS2.out hn hkn HQ.out HLO.out HHI.out).mono ?_; rintro e w3 ⟨rfl, hS⟩; have HS3 := Lib.hid hS; have hck := hS.cell hkn HQ.out; have hch := hS.cell hHln HV.out; clear hS) | (go_at_call 37; refine (cE _ HS3.out.1).mono ?_; rintro e w4 ⟨rfl, hw⟩; have hw4 := hw.symm; clear hw; subst hw4))
          go_wp2_with ((go_at_call 103; refine (rrun_S c _ HI HS3.out hn hHln HV.out rfl rfl).mono ?_; rintro e w5 ⟨rfl, hS⟩; have HS5 := Lib.hid hS; obtain ⟨f0, f1, f2⟩ := rng_facts hS.2.2.1; obtain ⟨y0, y1, y2⟩ := rng_free hS.2.2.1; clear hS))
          refine bodyPost_ret (res_rng2 rfl _ _ _ _ _ _ (0, 0) rfl (rng_three HS5.out.2.2.1 _ _ _)) rfl ⟨by rw [HR.out]; rfl, ?_⟩
          exact HS5.out.2.2.2.fresh (Kept.three (Kept.refl (fun q => q = w.heap.size) _) rfl _ _ _) (fun q hq (e : q = w.heap.size) => by omega)
        · rw [if_neg hv] at hW2
          have hwv : (∃ v, HI < EN ∧ Rw.cl t big HI = v ∧ (v == 0) = false) ∨ ¬ HI < EN := by
            by_cases hl : HI < EN
            · exact .inl ⟨_, hl, rfl, beq_eq_false_iff_ne.2 (fun e => hv ⟨hl, e⟩)⟩
            · exact .inr hl
          clear hv
          rcases hwv with ⟨v, hv1, hv2, hv3⟩ | hv1
          · have HV := Lib.hid hv2
            have b3 : decide (HI < EN) = true := decide_eq_true hv1
            have b4 : decide ((HI : Int) < (EN : Int)) = true := decide_eq_true (by omega)
            have hHln : HI < n := by omega
            have t3 : (0 : Int) ≤ (HI : Int) := by omega
            have t4 : (HI : Int) < (n : Int) := by omega
            clear hv2
            by_cases hl : BE < LO
            · obtain ⟨i, rfl⟩ : ∃ i, LO = i + 1 := ⟨LO - 1, by omega⟩
              rw [Nat.add_sub_cancel] at hW2
              have b5 : decide (BE < i + 1) = true := decide_eq_true hl
              have b6 : decide ((BE : Int) < (i : Int) + 1) = true := decide_eq_true (by omega)
              have hin : i < n := by omega
              have t5 : (0 : Int) ≤ (i : Int) := by omega
              have t6 : (i : Int) < (n : Int) := by omega
              by_cases hu : Rw.cl t big i = 0
              · have HR := Lib.hid (show RES = _ by rw [hW2, if_pos ⟨hl, hu⟩])
                have HU := Lib.hid hu
                clear hW2 hu hl
                go_upto_region 17 with (first | (go_at_call 103; refine (rrun_S c _ k HS2.out hn hkn HQ.out HLO.out HHI.out).mono ?_; rintro e w3 ⟨rfl, hS⟩; have HS3 := Lib.hid hS; have hck := hS.cell hkn HQ.out; have hch := hS.cell hHln HV.out; have hcu := hS.cell hin HU.out; clear hS) | (go_at_call 37; refine (cE _ HS3.out.1).mono ?_; rintro e w4 ⟨rfl, hw⟩; have hw4 := hw.symm; clear hw; subst hw4) | (go_at_call 36; refine (cB _ HS3.out.1).mono ?_; rintro e w4 ⟨rfl, hw⟩; have hw4 := hw.symm; clear hw; subst hw4))
                go_wp2_with ((go_at_call 103; refine (rrun_S c _ i HS3.out hn hin HU.out rfl rfl).mono ?_; rintro e w5 ⟨rfl, hS⟩; have HS5 := Lib.hid hS; obtain ⟨f0, f1, f2⟩ := rng_facts hS.2.2.1; obtain ⟨y0, y1, y2⟩ := rng_free hS.2.2.1; clear hS))
                refine bodyPost_ret (res_rng2 rfl _ _ _ _ _ _ (0, 0) rfl (rng_three HS5.out.2.2.1 _ _ _)) rfl ⟨by rw [HR.out]; rfl, ?_⟩
                exact HS5.out.2.2.2.fresh (Kept.three (Kept.refl (fun q => q = w.heap.size) _) rfl _ _ _) (fun q hq (e : q = w.heap.size) => by omega)
              · have HR := Lib.hid (show RES = _ by rw [hW2, if_neg (fun h => hu h.2)])
                obtain ⟨u, hue⟩ : ∃ u, Rw.cl t big i = u := ⟨_, rfl⟩
                have bu : (u == 0) = false := by rw [beq_eq_false_iff_ne, ← hue]; exact hu
                have HU := Lib.hid hue
                clear hW2 hu hue hl
                go_wp2_with (first | (go_at_call 103; refine (rrun_S c _ k HS2.out hn hkn HQ.out HLO.out HHI.out).mono ?_; rintro e w3 ⟨rfl, hS⟩; have HS3 := Lib.hid hS; have hck := hS.cell hkn HQ.out; have hch := hS.cell hHln HV.out; have hcu := hS.cell hin HU.out; obtain ⟨f0, f1, f2⟩ := rng_facts hS.2.2.1; obtain ⟨y0, y1, y2⟩ := rng_free hS.2.2.1; clear hS) | (go_at_call 37; refine (cE _ HS3.out.1).mono ?_; rintro e w4 ⟨rfl, hw⟩; have hw4 := hw.symm; clear hw; subst hw4) | (go_at_call 36; refine (cB _ HS3.out.1).mono ?_; rintro e w4 ⟨rfl, hw⟩; have hw4 := hw.symm; clear hw; subst hw4))
                refine bodyPost_ret (res_rng2 rfl _ _ _ _ _ _ (0, 0) rfl (rng_three HS3.out.2.2.1 _ _ _)) rfl ⟨by rw [HR.out]; rfl, ?_⟩
                exact HS3.out.2.2.2.fresh (Kept.three (Kept.refl (fun q => q = w.heap.size) _) rfl _ _ _) (fun q hq (e : q = w.heap.size) => by omega)
            · have HR := Lib.hid (show RES = _ by rw [hW2, if_neg (fun h => hl h.1)])
              have b5 : decide (BE < LO) = false := decide_eq_false hl
              have b6 : decide ((BE : Int) < (LO : Int)) = false := decide_eq_false (by omega)
              clear hW2 hl
              go_wp2_with (first | (go_at_call 103; refine (rrun_S c _ k HS2.out hn hkn HQ.out HLO.out HHI.out).mono ?_; rintro e w3 ⟨rfl, hS⟩; have HS3 := Lib.hid hS; have hck := hS.cell hkn HQ.out; have hch := hS.cell hHln HV.out; obtain ⟨f0, f1, f2⟩ := rng_facts hS.2.2.1; obtain ⟨y0, y1, y2⟩ := rng_free hS.2.2.1; clear hS) | (go_at_call 37; refine (cE _ HS3.out.1).mono ?_; rintro e w4 ⟨rfl, hw⟩; have hw4 := hw.symm; clear hw; subst hw4) | (go_at_call 36; refine (cB _ HS3.out.1).mono ?_; rintro e w4 ⟨rfl, hw⟩; have hw4 := hw.symm; clear hw; subst hw4))
              refine bodyPost_ret (res_rng2 rfl _ _ _ _ _ _ (0, 0) rfl (rng_three HS3.out.2.2.1 _ _ _)) rfl ⟨by rw [HR.out]; rfl, ?_⟩
              exact HS3.out.2.2.2.fresh (Kept.three (Kept.refl (fun q => q = w.heap.size) _) rfl _ _ _) (fun q hq (e : q = w.heap.size) => by omega)
          · have b3 : decide (HI < EN) = false := decide_eq_false hv1
            have b4 : decide ((HI : Int) < (EN : Int)) = false := decide_eq_false (by omega)
            by_cases hl : BE < LO
            · obtain ⟨i, rfl⟩ : ∃ i, LO = i + 1 := ⟨LO - 1, by omega⟩
              rw [Nat.add_sub_cancel] at hW2
              have b5 : decide (BE < i + 1) = true := decide_eq_true hl
              have b6 : decide ((BE : Int) < (i : Int) + 1) = true := decide_eq_true (by omega)
              have hin : i < n := by omega
              have t5 : (0 : Int) ≤ (i : Int) := by omega
              have t6 : (i : Int) < (n : Int) := by omega
              by_cases hu : Rw.cl t big i = 0
              · have HR := Lib.hid (show RES = _ by rw [hW2, if_pos ⟨hl, hu⟩])
                have HU := Lib.hid hu
                clear hW2 hu hl
                go_upto_region 17 with (first | (go_at_call 103; refine (rrun_S c _ k HS2.out hn hkn HQ.out HLO.out HHI.out).mono ?_; rintro e w3 ⟨rfl, hS⟩; have HS3 := Lib.hid hS; have hck := hS.cell hkn HQ.out; have hcu := hS.cell hin HU.out; clear hS) | (go_at_call 37; refine (cE _ HS3.out.1).mono ?_; rintro e w4 ⟨rfl, hw⟩; have hw4 := hw.symm; clear hw; subst hw4) | (go_at_call 36; refine (cB _ HS3.out.1).mono ?_; rintro e w4 ⟨rfl, hw⟩; have hw4 := hw.symm; clear hw; subst hw4))
                go_wp2_with ((go_at_call 103; refine (rrun_S c _ i HS3.out hn hin HU.out rfl rfl).mono ?_; rintro e w5 ⟨rfl, hS⟩; have HS5 := Lib.hid hS; obtain ⟨f0, f1, f2⟩ := rng_facts hS.2.2.1; obtain ⟨y0, y1, y2⟩ := rng_free hS.2.2.1; clear hS))
                refine bodyPost_ret (res_rng2 rfl _ _ _ _ _ _ (0, 0) rfl (rng_three HS5.out.2.2.1 _ _ _)) rfl ⟨by rw [HR.out]; rfl, ?_⟩
                exact HS5.out.2.2.2.fresh (Kept.three (Kept.refl (fun q => q = w.heap.size) _) rfl _ _ _) (fun q hq (e : q = w.heap.size) => by omega)
              · have HR := Lib.hid (show RES = _ by rw [hW2, if_neg (fun h => hu h.2)])
                obtain ⟨u, hue⟩ : ∃ u, Rw.cl t big i = u := ⟨_, rfl⟩
                have bu : (u == 0) = false := by rw [beq_eq_false_iff_ne, ← hue]; exact hu
                have HU := Lib.hid hue
                clear hW2 hu hue hl
                go_wp2_with (first | (go_at_call 103; refine (rrun_S c _ k HS2.out hn hkn HQ.out HLO.out HHI.out).mono ?_; rintro e w3 ⟨rfl, hS⟩; have HS3 := Lib.hid hS; have hck := hS.cell hkn HQ.out; have hcu := hS.cell hin HU.out; obtain ⟨f0, f1, f2⟩ := rng_facts hS.2.2.1; obtain ⟨y0, y1, y2⟩ := rng_free hS.2.2.1; clear hS) | (go_at_call 37; refine (cE _ HS3.out.1).mono ?_; rintro e w4 ⟨rfl, hw⟩; have hw4 := hw.symm; clear hw; subst hw4) | (go_at_call 36; refine (cB _ HS3.out.1).mono ?_; rintro e w4 ⟨rfl, hw⟩; have hw4 := hw.symm; clear hw; subst hw4))
                refine bodyPost_ret (res_rng2 rfl _ _ _ _ _ _ (0, 0) rfl (rng_three HS3.out.2.2.1 _ _ _)) rfl ⟨by rw [HR.out]; rfl, ?_⟩
                exact HS3.out.2.2.2.fresh (Kept.three (Kept.refl (fun q => q = w.heap.size) _) rfl _ _ _) (fun q hq (e : q = w.heap.size) => by omega)
            · have HR := Lib.hid (show RES = _ by rw [hW2, if_neg (fun h => hl h.1)])
              have b5 : decide (BE < LO) = false := decide_eq_false hl
              have b6 : decide ((BE : Int) < (LO : Int)) = false := decide_eq_false (by omega)
              clear hW2 hl
              go_wp2_with (first | (go_at_call 103; refine (rrun_S c _ k HS2.out hn hkn HQ.out HLO.out HHI.out).mono ?_; rintro e w3 ⟨rfl, hS⟩; have HS3 := Lib.hid hS; have hck := hS.cell hkn HQ.out; obtain ⟨f0, f1, f2⟩ := rng_facts hS.2.2.1; obtain ⟨y0, y1, y2⟩ := rng_free hS.2.2.1; clear hS) | (go_at_call 37; refine (cE _ HS3.out.1).mono ?_; rintro e w4 ⟨rfl, hw⟩; have hw4 := hw.symm; clear hw; subst hw4) | (go_at_call 36; refine (cB _ HS3.out.1).mono ?_; rintro e w4 ⟨rfl, hw⟩; have hw4 := hw.symm; clear hw; subst hw4))
              refine bodyPost_ret (res_rng2 rfl _ _ _ _ _ _ (0, 0) rfl (rng_three HS3.out.2.2.1 _ _ _)) rfl ⟨by rw [HR.out]; rfl, ?_⟩
              exact HS3.out.2.2.2.fresh (Kept.three (Kept.refl (fun q => q = w.heap.size) _) rfl _ _ _) (fun q hq (e : q = w.heap.size) => by omega)
end Go.Proofs.YtbofjefblhnkoaaGreatDoor
