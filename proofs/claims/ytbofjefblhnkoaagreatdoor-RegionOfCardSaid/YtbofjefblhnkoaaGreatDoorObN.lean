/-
  WORDS, of the program.
-/
import Derived.Test.YtbofjefblhnkoaaGreatDoorObM
import Derived.Test.YtbofjefblhnkoaaGreatDoorObQ
set_option linter.unusedVariables false
set_option maxRecDepth 100000
namespace Go.Proofs.YtbofjefblhnkoaaGreatDoor
open Go Go.RowKit Go.Maps

theorem Kept.of_grown {w w' : World} {b : Nat} (h : w.grownBy w' (some b)) : Kept (fun q => q = b) w w' :=
  ⟨h.os, h.tape, h.output, h.size, fun k hk hS => h.block k hk (fun e => hS (by injection e))⟩
theorem at_cl {t : List Int} {big : Bool} {i : Nat} (h1 : i < t.length) (h2 : t[i]? ≠ some 10) : i ∈ Rw.cel t (t.length + 1) ∧ Rw.at_ t big i = Rw.cl t big i := by
  have hc : t[i]? = some t[i] := List.getElem?_eq_getElem h1
  have hne : t[i] ≠ 10 := fun e => h2 (by rw [hc, e])
  refine ⟨Rw.mem_cel.2 ⟨by omega, ?_⟩, ?_⟩
  · unfold Rw.isC
    rw [Rw.isR_of hc hne]
    rfl
  · rw [Rw.at_of big hc hne, Rw.cl_some hc hne]
theorem beg_row {t : List Int} {k j : Nat} (h1 : Rw.beg t k ≤ j) (h2 : j < Rw.en t k) : Rw.beg t j = Rw.beg t k := by
  by_cases hjk : j ≤ k
  · exact Rw.beg_of t _ _ (Rw.beg_beg t k) h1 (fun i a b => Rw.beg_none t k i a (by omega))
  · refine Rw.beg_of t _ _ (Rw.beg_beg t k) h1 (fun i a b => ?_)
    by_cases hik : i < k
    · exact Rw.beg_none t k i a hik
    · exact Rw.en_none t k i (by omega) (by omega)
theorem en_row {t : List Int} {k j : Nat} (hk : k ≤ t.length) (h1 : Rw.beg t k ≤ j) (h2 : j < Rw.en t k) : Rw.en t j = Rw.en t k := by
  refine Rw.en_of t j _ (by omega) (Rw.en_en t k hk) (fun i a b => ?_) (Rw.en_le t k hk)
  by_cases hik : i < k
  · exact Rw.beg_none t k i (by omega) hik
  · exact Rw.en_none t k i (by omega) b
theorem row_ne {t : List Int} {k j : Nat} (h1 : Rw.beg t k ≤ j) (h2 : j < Rw.en t k) : t[j]? ≠ some 10 := by
  by_cases hik : j < k
  · exact Rw.beg_none t k j h1 hik
  · exact Rw.en_none t k j (by omega) h2
theorem row_run {t : List Int} {big : Bool} {k j : Nat} {q : Int} (hk : k ≤ t.length) (h1 : Rw.beg t k ≤ j) (h2 : j < Rw.en t k) (hq : Rw.cl t big j = q) :
    Rw.beg t k ≤ Rw.rlo t big q j ∧ Rw.rhi t big q (t.length - j) j ≤ Rw.en t k := by
  have hl := Rw.en_le t k hk
  have hc : t[j]? = some t[j] := List.getElem?_eq_getElem (by omega)
  have hne : t[j] ≠ 10 := fun e => row_ne h1 h2 (by rw [hc, e])
  have hq9 : q ≠ 9 := by
    rw [← hq, Rw.cl_some hc hne]
    have := Rw.clsB_range big t[j]
    omega
  have a := Rw.rlo_row (t := t) (big := big) hq9 j
  have b := Rw.rhi_row (t := t) (big := big) hq9 (t.length - j) j
  rw [beg_row h1 h2] at a
  rw [en_row hk h1 h2] at b
  exact ⟨a, b⟩
/-- What holds while a word is looked for, in the program: the result's block, the row's, the map. -/
def PrS (b gs g lo hi : Nat) (t : List Int) (big : Bool) (w0 W : World) : Prop :=
  W.heap[g]? = some (rngO 0 0 false) ∧ W.heap[gs]? = some (clsO b lo hi) ∧ MapAs W b (Rw.cl t big) lo hi ∧ Kept (fun _ => False) w0 W
theorem PrS.kept {b gs g lo hi : Nat} {t : List Int} {big : Bool} {w0 W W' : World} (h : PrS b gs g lo hi t big w0 W) (hk : Kept (fun _ => False) W W') : PrS b gs g lo hi t big w0 W' :=
  ⟨(hk.block g (heap_lt h.1) id).trans h.1, (hk.block gs (heap_lt h.2.1) id).trans h.2.1, h.2.2.1.kept hk id, h.2.2.2.trans hk⟩
theorem prun_S {b gs g lo hi : Nat} {t : List Int} {big : Bool} {w0 W : World} (k : Nat) (h : PrS b gs g lo hi t big w0 W) (hlk : lo ≤ k) (hkh : k < hi) (hh : hi ≤ t.length) (hn : hi ≤ 6000) {q : Int} (hq : Rw.cl t big k = q) {LO HI : Nat} (hLO : Rw.rlo t big q k = LO) (hHI : Rw.rhi t big q (t.length - k) k = HI) (h1 : lo ≤ LO) (h2 : HI ≤ hi) :
    Calls Tryz.prog 81 #[clsV b lo hi, .int .i64 k] W fun e w' => e = .returned (.tuple #[.int .i64 LO, .int .i64 HI]) ∧ PrS b gs g lo hi t big w0 w' := by
  refine (prun_any b lo hi k big t W h.2.2.1 hlk hkh hh hn hq hLO hHI h1 h2).mono ?_
  rintro e w' ⟨rfl, hk'⟩
  exact ⟨rfl, h.kept hk'⟩
theorem pblank_S {b gs g lo hi : Nat} {t : List Int} {big : Bool} {w0 W : World} (a : Int) (h : PrS b gs g lo hi t big w0 W) (hn : hi ≤ 6000) {B : Bool} (hB : blk t big lo hi a = B) :
    Calls Tryz.prog 82 #[clsV b lo hi, .int .i64 a] W fun e w' => e = .returned (.bool B) ∧ PrS b gs g lo hi t big w0 w' := by
  refine (pblank_any b lo hi a big t W h.2.2.1 hn).mono ?_
  rintro e w' ⟨rfl, hk'⟩
  rw [hB]
  exact ⟨rfl, h.kept hk'⟩
/-- A map that tells the classes of some cells. -/
def MapsL (W : World) (b n : Nat) (t : List Int) (big : Bool) (l : List Nat) : Prop :=
  ∃ D : DataW Unit, W.ownsMap Tryz.prog 3 (plainElem Tryz.prog 3) b n D ∧ IsMap D ∧ ∀ o ∈ l, D.atKey (.int .i64 (o : Int)) (.lit (.int .i64 0)) = .lit (.int .i64 (Rw.at_ t big o))
theorem MapsL.put {W : World} {b n o : Nat} {t : List Int} {big : Bool} {l : List Nat} {q : Int} (h : MapsL W b n t big l) (hn : n ≤ 100000) (ho : o ≤ 100000) (hq : Rw.at_ t big o = q) :
    ∃ w', (Instr.mapUpdate 120 (.map (some b)) (.int .i64 (o : Int)) (.int .i64 q)).run Tryz.prog W = .ok () w' ∧ MapsL w' b (n + 1) t big (l ++ [o]) ∧ Kept (fun p => p = b) W w' := by
  obtain ⟨D, hown, hD, hl⟩ := h
  have hr := Rw.at_range t big o
  have hkey := keyOf_int_mk Tryz.underlying3 (WalkArith.wf_i64 (n := (o : Int)) (by omega))
  obtain ⟨w', hrun, hown', hg⟩ := hown.update lawI Tryz.underlying120 (by unfold maxLen; omega) hkey (plainElem_int Tryz.underlying3 (a := q) (WalkArith.wf_i64 (by omega)))
  refine ⟨w', hrun, ⟨_, hown', hD.put _ _, fun i hi => ?_⟩, Kept.of_grown hg⟩
  by_cases e : i = o
  · subst e
    rw [atKey_put_same hD (show WideAt.IsKeyLit (.int .i64 (i : Int)) from trivial), hq]
  · rw [atKey_put_other (by intro h; injection h with _ h; omega)]
    rcases List.mem_append.1 hi with hi | hi
    · exact hl i hi
    · exact absurd (List.mem_singleton.1 hi) e
theorem MapsL.as {W : World} {b n k : Nat} {t : List Int} {big : Bool} (h : MapsL W b n t big (Rw.cel t (t.length + 1))) (hk : k ≤ t.length) : MapAs W b (Rw.cl t big) (Rw.beg t k) (Rw.en t k) := by
  obtain ⟨D, hown, _, hl⟩ := h
  refine ⟨n, D, hown, fun i h1 h2 => ?_⟩
  have := Rw.en_le t k hk
  obtain ⟨a, b⟩ := at_cl (big := big) (i := i) (by omega) (row_ne h1 h2)
  rw [hl i a, b]
theorem MapsL.new {W : World} {b : Nat} {t : List Int} {big : Bool} (hown : W.ownsMap Tryz.prog 3 (plainElem (H := Unit) Tryz.prog 3) b 0 (.map [])) : MapsL W b 0 t big [] :=
  ⟨.map [], hown, isMap_empty, fun o ho => by cases ho⟩
theorem MapsL.kept {W W' : World} {S : Nat → Prop} {b n : Nat} {t : List Int} {big : Bool} {l : List Nat} (h : MapsL W b n t big l) (hk : Kept S W W') (hS : ¬ S b) : MapsL W' b n t big l := by
  obtain ⟨D, hown, hD, hl⟩ := h
  exact ⟨D, ownsMap_kept hown hk hS, hD, hl⟩
theorem three_maps (w : World) : ∃ W, ((w.alloc (rngO 0 0 false)).alloc (.map #[] 0)).alloc (clsO (w.heap.size + 1) 0 0) = W ∧ Kept (fun _ => False) w W ∧ W.heap[w.heap.size]? = some (rngO 0 0 false) ∧ W.heap[w.heap.size + 1 + 1]? = some (clsO (w.heap.size + 1) 0 0) ∧ W.ownsMap Tryz.prog 3 (plainElem (H := Unit) Tryz.prog 3) (w.heap.size + 1) 0 (.map []) := by
  refine ⟨_, rfl, (((Kept.refl _ w).alloc _).alloc _).alloc _, ?_, ?_, ?_⟩
  · have h0 : (w.alloc (rngO 0 0 false)).heap[w.heap.size]? = some (rngO 0 0 false) := heap_alloc_new w _
    have k : Kept (fun _ => False) (w.alloc (rngO 0 0 false)) (((w.alloc (rngO 0 0 false)).alloc (.map #[] 0)).alloc (clsO (w.heap.size + 1) 0 0)) := ((Kept.refl _ _).alloc _).alloc _
    exact (k.block _ (heap_lt h0) id).trans h0
  · have := heap_alloc_new ((w.alloc (rngO 0 0 false)).alloc (.map #[] 0)) (clsO (w.heap.size + 1) 0 0)
    simpa using this
  · have := (World.ownsMap_made (w.alloc (rngO 0 0 false)) Tryz.prog 3 (plainElem (H := Unit) Tryz.prog 3)).alloc (clsO (w.heap.size + 1) 0 0)
    simpa using this
set_option maxRecDepth 100000 in
set_option maxHeartbeats 1000000 in
theorem pword_any (s : ByteArray) (A : Option Addr) (n c k : Nat) (wide : Int) (big : Bool) (t : List Int) (w : World) (hT : Tabs w) (hm : mayB s = true) (hts : rs s = t) (hA : Rn w A n t) (hn : n ≤ 6000) (hk : k ≤ n) (hw : wide = 105 ∨ wide = 97) :
    Calls Tryz.prog 45 #[.string s, .slice A n c, .int .i64 k, .int .i64 wide, .bool big] w fun e w' => e = .returned (wR (Rw.wrd t big wide k)) ∧ Kept (fun _ => False) w w' := by
  have hlen := hA.1
  have HL := Lib.hid hlen
  obtain ⟨W3, hW3, hk3, h0, hs, hmap⟩ := three_maps w
  have HW3 := Lib.hid hW3
  have HK3 := Lib.hid hk3
  have H0 := Lib.hid h0
  have HS := Lib.hid hs
  have HM := Lib.hid hmap
  have cR := row_any A n c t k W3 (hA.kept hk3 (fun _ _ => id)) hk (by omega)
  obtain ⟨g, hg⟩ : ∃ g, w.heap.size = g := ⟨_, rfl⟩
  have HGS := Lib.hid hg
  have hen := Rw.en_le t k (by omega)
  have hge := Rw.en_ge t k
  have hbl := Rw.beg_le t k
  obtain ⟨EN, hEN⟩ : ∃ EN, Rw.en t k = EN := ⟨_, rfl⟩
  obtain ⟨BE, hBE⟩ : ∃ BE, Rw.beg t k = BE := ⟨_, rfl⟩
  have HEN := Lib.hid hEN
  have HBE := Lib.hid hBE
  rw [hEN] at hen hge cR
  rw [hBE] at hbl cR
  rw [hlen] at hen
  obtain ⟨RES, hRES⟩ : ∃ RES, Rw.wrd t big wide k = RES := ⟨_, rfl⟩
  rw [hRES]
  have HRES := Lib.hid hRES
  clear hRES
  have HT := Lib.hid hT
  rw [hg] at hW3 H0 HS HM HW3
  have HCC := Lib.hid (fun (W : World) (h : Kept (fun _ => False) w W) => pcells_yes s big W (HT.out.kept h id id) hm)
  clear hA hlen hT hm hk3 h0 hs hmap hEN hBE hW3
  rw [hts] at HCC
  have hmm := @run_makeMap Tryz.prog
  go_enter Tryz.func45, Tryz.ntmps45
  go_upto_region 2 with fail
  simp only [HW3.out]
  clear hmm HW3 hg
  obtain ⟨_, f1, f2⟩ := cls_facts HS.out
  have y1 : W3.frozen? ⟨g + 1 + 1, 1, none⟩ = false := frozen_of HS.out
  have y2 : W3.frozen? ⟨g + 1 + 1, 2, none⟩ = false := frozen_of HS.out
  go_upto_region 3 with (go_at_call 35; refine cR.mono ?_; rintro e w2 ⟨rfl, hw⟩; have hw2 := hw.symm; clear hw; subst hw2; clear cR)
  obtain ⟨W4, hW4⟩ : ∃ W4, (W3.setCell ⟨g + 1 + 1, 1, none⟩ (.int .i64 BE)).setCell ⟨g + 1 + 1, 2, none⟩ (.int .i64 EN) = W4 := ⟨_, rfl⟩
  have HS4 : Hid (W4.heap[g + 1 + 1]? = some (clsO (g + 1) BE EN)) := by show _ = _; rw [← hW4]; exact (heap_set (heap_set HS.out _) _).trans rfl
  have kst : Kept (fun q => q = g + 1 + 1) W3 W4 := by rw [← hW4]; exact ((Kept.refl (fun q => q = g + 1 + 1) W3).setCell (p := ⟨g + 1 + 1, 1, none⟩) rfl _).setCell (p := ⟨g + 1 + 1, 2, none⟩) rfl _
  have H04 := Lib.hid ((kst.block g (heap_lt H0.out) (by omega)).trans H0.out)
  have HM4 := Lib.hid (ownsMap_kept HM.out kst (by omega))
  have HK4 := Lib.hid (HK3.out.fresh kst (fun q hq (e : q = _) => by have := HGS.out; omega))
  simp only [hW4]
  obtain ⟨_, _, z2⟩ := cls_facts HS4.out
  clear hW4 kst H0 HM HK3 HS y1 y2 f1 f2
  by_cases hke : k = EN
  · have hnone := Lib.hid (HRES.out.symm.trans <| wrd_none (big := big) (wide := wide) (t := t) (k := k) (by
      by_cases h : k < t.length
      · right
        have e := HEN.out
        have := Rw.en_at t k (by omega)
        rw [e, ← hke] at this
        exact this
      · left; omega))
    subst hke
    obtain ⟨x0, x1, x2⟩ := rng_facts H04.out
    obtain ⟨y0, y1, y2⟩ := rng_free H04.out
    go_wp2_with fail
    refine bodyPost_ret (res_rng2 rfl _ _ _ _ _ _ (0, 0) rfl (rng_three H04.out _ _ _)) rfl ⟨by rw [hnone.out]; rfl, ?_⟩
    exact HK4.out.fresh (Kept.three (Kept.refl (fun q => q = g) _) rfl _ _ _) (fun q hq (e : q = g) => by have := HGS.out; omega)
  · have b0 : ((k : Int) == (EN : Int)) = false := by rw [beq_eq_false_iff_ne]; omega
    have hgs := HM4.out.lt
    obtain ⟨l, hl⟩ : ∃ l, Rw.cel t (t.length + 1) = l := ⟨_, rfl⟩
    have hlm := Rw.cel_len t (t.length + 1)
    rw [hl] at HCC hlm
    have HLL := Lib.hid hl
    rw [HL.out] at hlm
    clear hl
    obtain ⟨m, hm⟩ : ∃ m, l.length = m := ⟨_, rfl⟩
    rw [hm] at HCC hlm
    have HM := Lib.hid hm
    have HA1 : Hid ((ats l).length = m) := by show _ = _; rw [← hm]; simp [ats]
    have HA2 : Hid ((kls t big l).length = m) := by show _ = _; rw [← hm]; simp [kls]
    clear hm
    go_upto_region 6 with (go_at_call 80; refine (HCC.out W4 HK4.out).mono ?_; rintro e W5 ⟨hk5, v1, v2, B, rfl, hB1, hB2, ho1, ho2, _⟩; obtain ⟨A1, c1, rfl, hN1, _, hb1⟩ := owned_nums ho1 HA1.out; obtain ⟨A2, c2, rfl, hN2, _, hb2⟩ := owned_nums ho2 HA2.out; have HK5 := Lib.hid hk5; have HN1 := Lib.hid hN1; have HN2 := Lib.hid hN2; have HB1 := Lib.hid hb1; have HB2 := Lib.hid hb2; clear hk5 hN1 hN2 hb1 hb2 ho1 ho2)
    go_wp2_with fail
    have HS5 := Lib.hid ((HK5.out.block _ (heap_lt HS4.out) id).trans HS4.out)
    have H05 := Lib.hid ((HK5.out.block _ (heap_lt H04.out) id).trans H04.out)
    have HM5 := Lib.hid (ownsMap_kept HM4.out HK5.out id)
    have HKW5 := Lib.hid (HK4.out.trans HK5.out)
    clear HS4 H04 HM4 HK4 HK5 HCC
    go_loopw [44] (fun i wr => ∃ j : Nat, j ≤ m ∧ i = .int .i64 j ∧ MapsL wr (g + 1) j t big (l.take j) ∧ Kept (fun q => q = g + 1) W5 wr) (fun i _ => m - (intOf i).toNat)
    case atStart => exact ⟨0, Nat.zero_le _, rfl, MapsL.new HM5.out, Kept.refl _ _⟩
    case round =>
      obtain ⟨j, hjm, rfl, hmap, hkept⟩ := hrel
      have HK := Lib.hid hkept
      have HMP := Lib.hid hmap
      have HS6 := Lib.hid ((hkept.block _ (heap_lt HS5.out) (by omega)).trans HS5.out)
      have HN1' := Lib.hid (HN1.out.kept hkept (fun a ha (e : a.block = g + 1) => by have := HB1.out a ha; omega))
      have HN2' := Lib.hid (HN2.out.kept hkept (fun a ha (e : a.block = g + 1) => by have := HB2.out a ha; omega))
      clear hmap hkept
      by_cases hlt : j < m
      · have b1 : decide (j < m) = true := decide_eq_true hlt
        have b2 : decide ((j : Int) < (m : Int)) = true := decide_eq_true (by omega)
        have t1 : (0 : Int) ≤ (j : Int) := by omega
        have t2 : (j : Int) < (m : Int) := by omega
        obtain ⟨o, ho⟩ : ∃ o, l[j]? = some o := ⟨_, List.getElem?_eq_getElem (by rw [HM.out]; exact hlt)⟩
        have hon : o ≤ n := by
          have := (Rw.mem_cel.1 (by rw [HLL.out]; exact List.mem_of_getElem? ho)).1
          have := HL.out
          omega
        obtain ⟨ad1, x1, rfl, hx1, c1'⟩ := HN1'.out.cell hlt
        obtain ⟨ad2, x2, rfl, hx2, c2'⟩ := HN2'.out.cell hlt
        obtain rfl : x1 = (o : Int) := by simp [ats, ho] at hx1; exact hx1.symm
        have hat : Rw.at_ t big o = x2 := by simp [kls, ho] at hx2; exact hx2
        obtain ⟨w6, hrun, hM6, hk6⟩ := (HMP.out.kept ((Kept.refl (fun _ => False) wr).drew) id).put (by omega) (by omega) hat
        obtain ⟨z0, _, _⟩ := cls_facts HS6.out
        have HM6 := Lib.hid hM6
        have HK6 := Lib.hid (HK.out.drew.trans hk6)
        have HO := Lib.hid ho
        clear hx1 hx2 hat ho hM6 hk6
        go_wp2_with fail
        go_region
        go_wp2_with fail
        go_roundw
        case rel => exact ⟨j + 1, by omega, by go_num, by rw [List.take_add_one, HO.out]; exact HM6.out, HK6.out⟩
        case measure => simp [intOf] <;> omega
      · obtain rfl : j = m := by omega
        have b1 : decide (j < j) = false := decide_eq_false (by omega)
        have b2 : decide ((j : Int) < (j : Int)) = false := decide_eq_false (by omega)
        have hPS : PrS (g + 1) (g + 1 + 1) g BE EN t big w wr := by
          refine ⟨(HK.out.block g (heap_lt H05.out) (by omega)).trans H05.out, HS6.out, ?_, HKW5.out.fresh HK.out (fun q hq (e : q = _) => by have := HGS.out; omega)⟩
          have hm2 := HMP.out
          rw [List.take_of_length_le (by rw [HM.out]; exact Nat.le_refl _), ← HLL.out] at hm2
          have := hm2.as (k := k) (by rw [HL.out]; exact hk)
          rw [HBE.out, HEN.out] at this
          exact this
        have HP := Lib.hid hPS
        have hkE : k < EN := by omega
        have hEl : EN ≤ t.length := by rw [HL.out]; exact hen
        obtain ⟨q, hq⟩ : ∃ q, Rw.cl t big k = q := ⟨_, rfl⟩
        obtain ⟨LO, hLO⟩ : ∃ LO, Rw.rlo t big q k = LO := ⟨_, rfl⟩
        obtain ⟨HI, hHI⟩ : ∃ HI, Rw.rhi t big q (t.length - k) k = HI := ⟨_, rfl⟩
        have hW := wrd_some (wide := wide) (HI := HI) (by omega) (row_ne (k := k) (by rw [HBE.out]; exact hbl) (by rw [HEN.out]; exact hkE)) hq hLO hHI
        obtain ⟨hrl, hrh⟩ := row_run (k := k) (by omega) (by rw [HBE.out]; exact hbl) (by rw [HEN.out]; exact hkE) hq
        rw [hLO, HBE.out] at hrl
        rw [hHI, HEN.out] at hrh
        rw [HBE.out, HEN.out] at hW
        have hLk : LO ≤ k := by rw [← hLO]; exact Rw.rlo_le t big q k
        have hRR : Hid (∀ (j : Nat) (q' : Int), BE ≤ j → j < EN → Rw.cl t big j = q' → BE ≤ Rw.rlo t big q' j ∧ Rw.rhi t big q' (t.length - j) j ≤ EN) := fun j q' a1 a2 a3 => by
          have := row_run (k := k) (j := j) (q := q') (big := big) (by omega) (by rw [HBE.out]; exact a1) (by rw [HEN.out]; exact a2) a3
          rw [HBE.out, HEN.out] at this
          exact this
        have HQ := Lib.hid hq
        have HLO := Lib.hid hLO
        have HHI := Lib.hid hHI
        rw [HRES.out] at hW
        have HW := Lib.hid hW
        clear hq hLO hHI hW hPS HM HMP HN1 HN2 HN1' HN2' HB1 HB2 HS5 H05 HM5 HKW5 HK HS6 HA1 HA2 HLL
        obtain ⟨p0, p1, p2⟩ := cls_facts HP.out.2.1
        rcases hw with rfl | rfl
        · have HR := Lib.hid (show RES = some (LO, HI) by rw [HW.out, if_pos rfl])
          clear HW
          go_wp2_with (go_at_call 81; refine (prun_S k HP.out hbl hkE hEl (by omega) HQ.out HLO.out HHI.out hrl hrh).mono ?_; rintro e w3 ⟨rfl, hS⟩; have HS3 := Lib.hid hS; obtain ⟨c30, c31, c32⟩ := cls_facts hS.2.1; obtain ⟨f0, f1, f2⟩ := rng_facts hS.1; obtain ⟨y0, y1, y2⟩ := rng_free hS.1; clear hS)
          refine bodyPost_ret (res_rng2 rfl _ _ _ _ _ _ (0, 0) rfl (rng_three HS3.out.1 _ _ _)) rfl ⟨by rw [HR.out]; rfl, ?_⟩
          exact HS3.out.2.2.2.fresh (Kept.three (Kept.refl (fun q => q = g) _) rfl _ _ _) (fun q hq (e : q = g) => by have := HGS.out; omega)
        · have hW2 := HW.out
          rw [if_neg (by omega)] at hW2
          clear HW
          by_cases hq0 : q = 0
          · subst hq0
            rw [if_pos rfl] at hW2
            by_cases hhe : HI = EN
            · subst hhe
              have HR := Lib.hid (show RES = none by rw [hW2, if_pos rfl])
              clear hW2
              go_wp2_with (go_at_call 81; refine (prun_S k HP.out hbl hkE hEl (by omega) HQ.out HLO.out HHI.out hrl hrh).mono ?_; rintro e w3 ⟨rfl, hS⟩; have HS3 := Lib.hid hS; obtain ⟨c30, c31, c32⟩ := cls_facts hS.2.1; have hlk := hS.2.2.1.look hbl hkE (by omega) HQ.out; obtain ⟨f0, f1, f2⟩ := rng_facts hS.1; obtain ⟨y0, y1, y2⟩ := rng_free hS.1; clear hS)
              refine bodyPost_ret (res_rng2 rfl _ _ _ _ _ _ (0, 0) rfl (rng_three HS3.out.1 _ _ _)) rfl ⟨by rw [HR.out]; rfl, ?_⟩
              exact HS3.out.2.2.2.fresh (Kept.three (Kept.refl (fun q => q = g) _) rfl _ _ _) (fun q hq (e : q = g) => by have := HGS.out; omega)
            · have HR := Lib.hid (show RES = some (LO, Rw.rhi t big (Rw.cl t big HI) (t.length - HI) HI) by rw [hW2, if_neg hhe])
              have b3 : ((HI : Int) == (EN : Int)) = false := by rw [beq_eq_false_iff_ne]; omega
              have hHE : HI < EN := by omega
              have hBH : BE ≤ HI := by have := Rw.rhi_ge t big 0 (t.length - k) k; have := HHI.out; omega
              clear hW2 hhe
              go_upto_region 16 with (go_at_call 81; refine (prun_S k HP.out hbl hkE hEl (by omega) HQ.out HLO.out HHI.out hrl hrh).mono ?_; rintro e w3 ⟨rfl, hS⟩; have HS3 := Lib.hid hS; obtain ⟨c30, c31, c32⟩ := cls_facts hS.2.1; have hlk := hS.2.2.1.look hbl hkE (by omega) HQ.out; clear hS)
              go_wp2_with (go_at_call 81; refine (prun_S HI HS3.out hBH hHE hEl (by omega) rfl rfl rfl (hRR.out _ _ hBH hHE rfl).1 (hRR.out _ _ hBH hHE rfl).2).mono ?_; rintro e w7 ⟨rfl, hS⟩; have HS7 := Lib.hid hS; obtain ⟨f0, f1, f2⟩ := rng_facts hS.1; obtain ⟨y0, y1, y2⟩ := rng_free hS.1; clear hS)
              refine bodyPost_ret (res_rng2 rfl _ _ _ _ _ _ (0, 0) rfl (rng_three HS7.out.1 _ _ _)) rfl ⟨by rw [HR.out]; rfl, ?_⟩
              exact HS7.out.2.2.2.fresh (Kept.three (Kept.refl (fun q => q = g) _) rfl _ _ _) (fun q hq (e : q = g) => by have := HGS.out; omega)
          · rw [if_neg hq0] at hW2
            have bq : (q == 0) = false := by rw [beq_eq_false_iff_ne]; exact hq0
            have hBH : BE ≤ HI := by have := Rw.rhi_ge t big q (t.length - k) k; have := HHI.out; omega
            clear hq0
            by_cases hv : HI < EN ∧ Rw.cl t big HI = 0
            · have HR := Lib.hid (show RES = some (LO, Rw.rhi t big 0 (t.length - HI) HI) by rw [hW2, if_pos hv])
              obtain ⟨hv1, hv2⟩ := hv
              have HV := Lib.hid hv2
              have HBK : Hid (blk t big BE EN (HI : Int) = true) := decide_eq_true ⟨by omega, by omega, by rw [show ((HI : Int).toNat) = HI by omega]; exact hv2⟩
              clear hW2 hv2
              go_upto_region 18 with (first | (go_at_call 81; refine (prun_S k HP.out hbl hkE hEl (by omega) HQ.out HLO.out HHI.out hrl hrh).mono ?_; rintro e w3 ⟨rfl, hS⟩; have HS3 := Lib.hid hS; obtain ⟨c30, c31, c32⟩ := cls_facts hS.2.1; have hlk := hS.2.2.1.look hbl hkE (by omega) HQ.out; clear hS) | (go_at_call 82; refine (pblank_S HI HS3.out (by omega) HBK.out).mono ?_; rintro e w4 ⟨rfl, hS⟩; have HS4 := Lib.hid hS; obtain ⟨c40, c41, c42⟩ := cls_facts hS.2.1; clear hS))
              go_wp2_with (go_at_call 81; refine (prun_S HI HS4.out hBH hv1 hEl (by omega) HV.out rfl rfl (hRR.out _ _ hBH hv1 HV.out).1 (hRR.out _ _ hBH hv1 HV.out).2).mono ?_; rintro e w7 ⟨rfl, hS⟩; have HS7 := Lib.hid hS; obtain ⟨f0, f1, f2⟩ := rng_facts hS.1; obtain ⟨y0, y1, y2⟩ := rng_free hS.1; clear hS)
              refine bodyPost_ret (res_rng2 rfl _ _ _ _ _ _ (0, 0) rfl (rng_three HS7.out.1 _ _ _)) rfl ⟨by rw [HR.out]; rfl, ?_⟩
              exact HS7.out.2.2.2.fresh (Kept.three (Kept.refl (fun q => q = g) _) rfl _ _ _) (fun q hq (e : q = g) => by have := HGS.out; omega)
            · rw [if_neg hv] at hW2
              have HBK : Hid (blk t big BE EN (HI : Int) = false) := decide_eq_false (fun h => hv ⟨by omega, by have := h.2.2; rw [show ((HI : Int).toNat) = HI by omega] at this; exact this⟩)
              clear hv
              by_cases hl : BE < LO
              · obtain ⟨i, rfl⟩ : ∃ i, LO = i + 1 := ⟨LO - 1, by omega⟩
                rw [Nat.add_sub_cancel] at hW2
                have hiB : BE ≤ i := by omega
                have hiE : i < EN := by omega
                by_cases hu : Rw.cl t big i = 0
                · have HR := Lib.hid (show RES = some (Rw.rlo t big 0 i, HI) by rw [hW2, if_pos ⟨hl, hu⟩])
                  have HU := Lib.hid hu
                  have HBU : Hid (blk t big BE EN (i : Int) = true) := decide_eq_true ⟨by omega, by omega, by rw [show ((i : Int).toNat) = i by omega]; exact hu⟩
                  clear hW2 hu hl
                  go_upto_region 19 with (first | (go_at_call 81; refine (prun_S k HP.out hbl hkE hEl (by omega) HQ.out HLO.out HHI.out hrl hrh).mono ?_; rintro e w3 ⟨rfl, hS⟩; have HS3 := Lib.hid hS; obtain ⟨c30, c31, c32⟩ := cls_facts hS.2.1; have hlk := hS.2.2.1.look hbl hkE (by omega) HQ.out; clear hS) | (go_at_call 82; refine (pblank_S HI HS3.out (by omega) HBK.out).mono ?_; rintro e w4 ⟨rfl, hS⟩; have HS4 := Lib.hid hS; obtain ⟨c40, c41, c42⟩ := cls_facts hS.2.1; clear hS))
                  go_upto_region 20 with (go_at_call 82; refine (pblank_S i HS4.out (by omega) HBU.out).mono ?_; rintro e w5 ⟨rfl, hS⟩; have HS5 := Lib.hid hS; obtain ⟨c50, c51, c52⟩ := cls_facts hS.2.1; clear hS)
                  go_wp2_with (go_at_call 81; refine (prun_S i HS5.out hiB hiE hEl (by omega) HU.out rfl rfl (hRR.out _ _ hiB hiE HU.out).1 (hRR.out _ _ hiB hiE HU.out).2).mono ?_; rintro e w7 ⟨rfl, hS⟩; have HS7 := Lib.hid hS; obtain ⟨f0, f1, f2⟩ := rng_facts hS.1; obtain ⟨y0, y1, y2⟩ := rng_free hS.1; clear hS)
                  refine bodyPost_ret (res_rng2 rfl _ _ _ _ _ _ (0, 0) rfl (rng_three HS7.out.1 _ _ _)) rfl ⟨by rw [HR.out]; rfl, ?_⟩
                  exact HS7.out.2.2.2.fresh (Kept.three (Kept.refl (fun q => q = g) _) rfl _ _ _) (fun q hq (e : q = g) => by have := HGS.out; omega)
                · have HR := Lib.hid (show RES = some (i + 1, HI) by rw [hW2, if_neg (fun h => hu h.2)])
                  have HBU : Hid (blk t big BE EN (i : Int) = false) := decide_eq_false (fun h => hu (by have := h.2.2; rw [show ((i : Int).toNat) = i by omega] at this; exact this))
                  clear hW2 hu hl
                  go_upto_region 19 with (first | (go_at_call 81; refine (prun_S k HP.out hbl hkE hEl (by omega) HQ.out HLO.out HHI.out hrl hrh).mono ?_; rintro e w3 ⟨rfl, hS⟩; have HS3 := Lib.hid hS; obtain ⟨c30, c31, c32⟩ := cls_facts hS.2.1; have hlk := hS.2.2.1.look hbl hkE (by omega) HQ.out; clear hS) | (go_at_call 82; refine (pblank_S HI HS3.out (by omega) HBK.out).mono ?_; rintro e w4 ⟨rfl, hS⟩; have HS4 := Lib.hid hS; obtain ⟨c40, c41, c42⟩ := cls_facts hS.2.1; clear hS))
                  go_wp2_with (go_at_call 82; refine (pblank_S i HS4.out (by omega) HBU.out).mono ?_; rintro e w5 ⟨rfl, hS⟩; have HS5 := Lib.hid hS; obtain ⟨c50, c51, c52⟩ := cls_facts hS.2.1; obtain ⟨f0, f1, f2⟩ := rng_facts hS.1; obtain ⟨y0, y1, y2⟩ := rng_free hS.1; clear hS)
                  refine bodyPost_ret (res_rng2 rfl _ _ _ _ _ _ (0, 0) rfl (rng_three HS5.out.1 _ _ _)) rfl ⟨by rw [HR.out]; rfl, ?_⟩
                  exact HS5.out.2.2.2.fresh (Kept.three (Kept.refl (fun q => q = g) _) rfl _ _ _) (fun q hq (e : q = g) => by have := HGS.out; omega)
              · have HR := Lib.hid (show RES = some (LO, HI) by rw [hW2, if_neg (fun h => hl h.1)])
                have wm : IntKind.i64.wrap ((LO : Int) - 1) = (LO : Int) - 1 := wrapI rfl (by omega) (by omega)
                have HBU : Hid (blk t big BE EN ((LO : Int) - 1) = false) := decide_eq_false (fun h => by omega)
                clear hW2 hl
                go_upto_region 19 with (first | (go_at_call 81; refine (prun_S k HP.out hbl hkE hEl (by omega) HQ.out HLO.out HHI.out hrl hrh).mono ?_; rintro e w3 ⟨rfl, hS⟩; have HS3 := Lib.hid hS; obtain ⟨c30, c31, c32⟩ := cls_facts hS.2.1; have hlk := hS.2.2.1.look hbl hkE (by omega) HQ.out; clear hS) | (go_at_call 82; refine (pblank_S HI HS3.out (by omega) HBK.out).mono ?_; rintro e w4 ⟨rfl, hS⟩; have HS4 := Lib.hid hS; obtain ⟨c40, c41, c42⟩ := cls_facts hS.2.1; clear hS))
                go_wp2_with (go_at_call 82; refine (pblank_S ((LO : Int) - 1) HS4.out (by omega) HBU.out).mono ?_; rintro e w5 ⟨rfl, hS⟩; have HS5 := Lib.hid hS; obtain ⟨c50, c51, c52⟩ := cls_facts hS.2.1; obtain ⟨f0, f1, f2⟩ := rng_facts hS.1; obtain ⟨y0, y1, y2⟩ := rng_free hS.1; clear hS)
                refine bodyPost_ret (res_rng2 rfl _ _ _ _ _ _ (0, 0) rfl (rng_three HS5.out.1 _ _ _)) rfl ⟨by rw [HR.out]; rfl, ?_⟩
                exact HS5.out.2.2.2.fresh (Kept.three (Kept.refl (fun q => q = g) _) rfl _ _ _) (fun q hq (e : q = g) => by have := HGS.out; omega)
end Go.Proofs.YtbofjefblhnkoaaGreatDoor
