/-
  RowsMany: the law's walk.
-/
import Derived.Test.YtdgbaeliabaneaaDoorRoW
set_option linter.unusedVariables false
namespace Go.Proofs.YtdgbaeliabaneaaDoor
open Go Go.RowKit

/-- How the law stands: its parameter, the tree, in memory. -/
structure Mt (w wr : World) (pb T : Nat) (p : Scr3) (L : List ByteArray) : Prop where
  par : PS3 wr pb p
  tree : Tree wr T L
  kp : Kept (fun _ => False) w wr
  tt : w.heap.size ≤ T
theorem Mt.kept {w wr wx : World} {pb T : Nat} {p : Scr3} {L : List ByteArray} (h : Mt w wr pb T p L) (hk : Kept (fun _ => False) wr wx) : Mt w wx pb T p L :=
  ⟨h.par.kept hk id, h.tree.kept hk, h.kp.trans hk, h.tt⟩
theorem Mt.spliced {w wr wx : World} {pb T : Nat} {p : Scr3} {L L3 : List ByteArray} (h : Mt w wr pb T p L) (ht : Tree wx T L3) (hk : Kept (fun q => q = T) wr wx) : Mt w wx pb T p L3 := by
  obtain ⟨v, h1, _⟩ := h.tree.at_
  refine ⟨h.par.kept hk (fun e => ?_), ht, h.kp.fresh hk (fun q hq e => ?_), h.tt⟩
  · have e : pb = T := e
    subst e
    have := h1.symm.trans h.par
    simp at this
  · have e : q = T := e
    have := h.tt
    omega
theorem row_x : ([⟨#[120]⟩] : List ByteArray).all rowB = true := by decide +kernel
theorem row_y : ([⟨#[121]⟩] : List ByteArray).all rowB = true := by decide +kernel
theorem spl_ins {L : List ByteArray} {i P : Nat} {s : ByteArray} (hs : s.size = 1) (hl : L.length = i) (hP : P ≤ i) : (spl L P 0 [s]).length = i + 1 ∧ byL (spl L P 0 [s]) = byL L + 1 := by
  have h1 := spl_len (L := L) (l := [s]) (i := P) (n := 0) (by omega)
  have h2 := spl_by (L := L) (l := [s]) (i := P) (n := 0)
  have h3 := byL_split L P
  simp only [byL, List.length_cons, List.length_nil, Nat.add_zero, Nat.sub_zero] at h1 h2
  exact ⟨by omega, by omega⟩
theorem spl_del {L : List ByteArray} {i P : Nat} (hl : L.length = i) (hP : P + 1 ≤ i) : (spl L P 1 []).length = i - 1 ∧ byL (spl L P 1 []) ≤ byL L := by
  have h1 := spl_len (L := L) (l := []) (i := P) (n := 1) (by omega)
  have h2 := spl_by (L := L) (l := []) (i := P) (n := 1)
  have h3 := byL_split L (P + 1)
  have h4 := byL_le_take L (show P ≤ P + 1 by omega)
  simp only [byL, List.length_nil, Nat.add_zero] at h1 h2
  exact ⟨by omega, by omega⟩
theorem strs_nil (w : World) : Strs w none 0 [] := ⟨rfl, fun j s hj => by simp at hj⟩
set_option maxRecDepth 100000 in
set_option maxHeartbeats 16000000 in
theorem rowsMany_any (p : Scr3) (w : World) (hp : Scr3Ok w p) (hT : Tabs w) : Calls Tryd.prog 4 #[.agg p.cells] w fun e w' => e = .returned (.bool true) ∧ Kept (fun _ => False) w w' := by
  have HPS0 : Hid (PS3 (w.alloc (.cells p.cells 25)) w.heap.size p) := heap_alloc_new w _
  have HK0 : Hid (Kept (fun _ => False) w (w.alloc (.cells p.cells 25))) := (Kept.refl _ w).alloc _
  have HTT := Lib.hid hT
  clear hp hT
  obtain ⟨S, sn, sc, ss, LA, ln, lc, acts⟩ := p
  unfold Scr3.cells at *
  simp only at *
  obtain ⟨pb, hpb⟩ : ∃ pb, w.heap.size = pb := ⟨_, rfl⟩
  have HPB := Lib.hid hpb
  simp only [hpb] at HPS0
  clear hpb
  go_enter Tryd.func4, Tryd.ntmps4
  go_upto_region 1 with fail
  simp only [HPB.out]
  generalize w.alloc (.cells #[.slice S sn sc, .slice LA ln lc] 25) = w0 at *
  go_wp2_with fail
  go_loopw [3] (fun kv wr => ∃ kk : Nat, kk ≤ 3 ∧ kv = .int .i64 kk ∧ PS3 wr pb ⟨S, sn, sc, ss, LA, ln, lc, acts⟩ ∧ Kept (fun _ => False) w wr) (fun kv _ => 3 - (intOf kv).toNat)
  case atStart => exact ⟨0, Nat.zero_le _, rfl, HPS0.out, HK0.out⟩
  case round =>
    obtain ⟨kk, hkk, rfl, hps, hkp⟩ := hrel
    have HPS := Lib.hid hps
    have HKP := Lib.hid hkp
    clear hps hkp
    by_cases hk3 : kk < 3
    · have b1 : decide ((kk : Int) < 3) = true := decide_eq_true (by omega)
      have b2 : decide (kk < 3) = true := decide_eq_true hk3
      have cN := new_yes (some ⟨wr.heap.size, 0, none⟩) 1 1 [⟨#[]⟩] (wr.alloc (.cells #[.string ⟨#[]⟩] 9)) (lit_strs wr [⟨#[]⟩] (by decide)) (Nat.le_refl _) may_e (HTT.out.kept (HKP.out.alloc _) id id)
      have HKA : Hid (Kept (fun _ => False) wr (wr.alloc (.cells #[.string ⟨#[]⟩] 9))) := (Kept.refl _ wr).alloc _
      go_upto_region 7 with (first
        | (go_at_call 7; refine cN.mono ?_; rintro e w1 ⟨⟨T, rfl, ht, hTT⟩, hk1⟩; have HM1 : Hid (Mt w w1 pb T ⟨S, sn, sc, ss, LA, ln, lc, acts⟩ [⟨#[]⟩]) := ⟨(HPS.out.kept HKA.out id).kept hk1 id, ht, (HKP.out.trans HKA.out).trans hk1, Nat.le_trans (HKP.out.trans HKA.out).size hTT⟩; clear cN hk1 ht hTT; have cZ := num3_any 0 w1)
        | (go_at_call 9; refine cZ.mono ?_; rintro e w2 ⟨rfl, hw⟩; have hw2 := hw.symm; subst hw2; clear cZ))
      go_wp2_with fail
      go_loopw [6] (fun iv wr => ∃ (i : Nat) (L : List ByteArray), 1 ≤ i ∧ i ≤ 1100 ∧ iv = .int .i64 i ∧ Mt w wr pb T ⟨S, sn, sc, ss, LA, ln, lc, acts⟩ L ∧ L.length = i ∧ byL L + 1 = i) (fun iv _ => 1100 - (intOf iv).toNat)
      case atStart => exact ⟨1, _, Nat.le_refl _, by omega, rfl, HM1.out, rfl, rfl⟩
      case round =>
        obtain ⟨i, L, hi1, hi2, rfl, hm, hl, hby⟩ := hrel
        have HM := Lib.hid hm
        have HL := Lib.hid hl
        have HBY := Lib.hid hby
        clear hm
        by_cases hlt : i < 1100
        · have d1 : decide ((i : Int) < 1100) = true := decide_eq_true (by omega)
          have d2 : decide (i < 1100) = true := decide_eq_true hlt
          obtain ⟨q, hq⟩ : ∃ q, i / 2 = q := ⟨_, rfl⟩
          have t0 : wrap64 ((i : Int) / 2) = (q : Int) := by
            rw [show (i : Int) / 2 = (q : Int) by omega]
            exact IntWalk.wrap64_in _ ⟨by omega, by omega⟩
          obtain ⟨P, hP, hidx⟩ : ∃ P : Nat, P ≤ i ∧ ∀ h, ([Value.int .i64 0, .int .i64 (i : Int), .int .i64 (q : Int)] : List Value)[kk]'h = .int .i64 (P : Int) := by
            match kk, hk3 with
            | 0, _ => exact ⟨0, by omega, fun _ => rfl⟩
            | 1, _ => exact ⟨i, by omega, fun _ => rfl⟩
            | 2, _ => exact ⟨q, by omega, fun _ => rfl⟩
          go_upto_region 10 with fail
          go_cut [7] from 30 to 36 (fun v wx => v = .int .i64 (P : Int) ∧ Kept (fun _ => False) wr wx)
          case first =>
            have HID := Lib.hid hidx
            have HQ := Lib.hid hq
            clear hidx hP hq
            match kk, hk3 with
            | 0, _ =>
              have hPe := HID.out (by simp)
              simp only [List.getElem_cons_zero, Value.int.injEq, true_and] at hPe
              have HPE := Lib.hid hPe
              clear hPe
              go_wp2_with fail
              go_meet
              exact ⟨by rw [← HPE.out], (Kept.refl _ _).alloc _⟩
            | 1, _ =>
              have hPe := HID.out (by simp)
              simp only [List.getElem_cons_succ, List.getElem_cons_zero, Value.int.injEq, true_and] at hPe
              have HPE := Lib.hid hPe
              clear hPe
              go_wp2_with fail
              go_meet
              exact ⟨by rw [← HPE.out], (Kept.refl _ _).alloc _⟩
            | 2, _ =>
              have hPe := HID.out (by simp)
              simp only [List.getElem_cons_succ, List.getElem_cons_zero, Value.int.injEq, true_and] at hPe
              have HPE := Lib.hid hPe
              clear hPe
              go_wp2_with fail
              go_meet
              exact ⟨by rw [← HPE.out]; congr 1; have := HQ.out; omega, (Kept.refl _ _).alloc _⟩
          case rest =>
            obtain ⟨hv, hka⟩ := hcut
            have hv2 := hv.symm
            subst hv2
            obtain ⟨w2, hw2⟩ : ∃ w2, w2 = wc := ⟨_, rfl⟩
            subst hw2
            obtain ⟨hs1, hs2⟩ := spl_ins (L := L) (s := ⟨#[120]⟩) rfl hl hP
            have HM2 := Lib.hid (HM.out.kept hka)
            have cS := splice_ok T L [⟨#[120]⟩] P 0 (some ⟨w2.heap.size, 0, none⟩) 1 1 (w2.alloc (.cells #[.string ⟨#[120]⟩] 9)) (HM2.out.tree.kept ((Kept.refl _ _).alloc _)) (by omega) (by omega) (lit_strs w2 [⟨#[120]⟩] (by decide)) (Nat.le_refl _) (by omega) (by decide) (HTT.out.kept (HM2.out.kp.alloc _) id id) row_x (by omega)
            have HS1 := Lib.hid hs1
            have HS2 := Lib.hid hs2
            have HI := Lib.hid hlt
            obtain ⟨L2, hL2⟩ : ∃ L2, spl L P 0 [⟨#[120]⟩] = L2 := ⟨_, rfl⟩
            rw [hL2] at HS1 HS2 cS
            clear hL2 hs1 hs2 hq hP hl hby hv hka hidx t0 d1 d2
            go_wp2_with (first
              | (go_at_call 13; refine cS.mono ?_; rintro e w3 ⟨rfl, ht3, hk3'⟩; have HM3 := Lib.hid ((HM2.out.kept ((Kept.refl _ _).alloc (.cells #[.string ⟨#[120]⟩] 9))).spliced ht3 hk3'); clear cS ht3 hk3'; have cZ := num3_any 0 w3)
              | (go_at_call 9; refine cZ.mono ?_; rintro e w4 ⟨rfl, hw⟩; have hw2 := hw.symm; subst hw2; clear cZ))
            go_roundw
            case rel => exact ⟨i + 1, L2, by omega, by omega, by go_num, HM3.out, HS1.out, by have := HS2.out; have := HBY.out; omega⟩
            case measure => simp [intOf] <;> omega
        · obtain rfl : i = 1100 := by omega
          have d1 : decide (((1100 : Nat) : Int) < 1100) = false := by decide
          have cL : Calls Tryd.prog 21 #[.pointer (some ⟨T, 0, none⟩)] wr fun e w' => e = .returned (.int .i64 1100) ∧ Kept (fun _ => False) wr w' := by
            have c := len_any T L wr HM.out.tree
            rw [hl] at c
            exact c
          obtain ⟨H, hH1, _, hH3⟩ := height_fix T L wr HM.out.tree
          have HH := Lib.hid hH3
          have hbl := bits_le L.length
          rw [hl] at hH1 hbl
          have HBI : Hid (∀ W, Calls Tryd.prog 23 #[.int .i64 1100] W fun e w' => e = .returned (.int .i64 (bitsN 1100 : Nat)) ∧ w' = W) := fun W => bits_any 1100 W (by omega)
          generalize bitsN 1100 = bn at *
          have e1 : IntKind.i64.wrap (2 * (bn : Int)) = 2 * (bn : Int) := IntWalk.i64_in _ ⟨by omega, by omega⟩
          have e2 : IntKind.i64.wrap (2 + 2 * (bn : Int)) = 2 + 2 * (bn : Int) := IntWalk.i64_in _ ⟨by omega, by omega⟩
          have d3 : decide (2 + 2 * (bn : Int) < (H : Int)) = false := decide_eq_false (by omega)
          obtain ⟨hs1, _⟩ := spl_ins (L := L) (s := ⟨#[121]⟩) (P := 3) rfl hl (by omega)
          have hs2 := spl_len (L := L) (l := []) (i := 0) (n := 1100) (by omega)
          rw [hl] at hs2
          simp only [List.length_nil] at hs2
          have HY : Hid (∀ W, Mt w W pb T ⟨S, sn, sc, ss, LA, ln, lc, acts⟩ L → Calls Tryd.prog 13 #[.pointer (some ⟨T, 0, none⟩), .int .i64 3, .int .i64 0, .slice (some ⟨W.heap.size, 0, none⟩) 1 1] (W.alloc (.cells #[.string ⟨#[121]⟩] 9)) fun e w' => e = .returned (.int .i64 4) ∧ Kept (fun _ => False) (W.alloc (.cells #[.string ⟨#[121]⟩] 9)) w') := fun W h => splice_full T L [⟨#[121]⟩] 3 0 _ 1 1 _ (h.tree.kept ((Kept.refl _ W).alloc _)) (by omega) (by omega) (lit_strs W [⟨#[121]⟩] (by decide)) (Nat.le_refl _) (by omega) (by decide) (HTT.out.kept (h.kp.alloc _) id id) row_y (by omega)
          have HE : Hid (∀ W, Mt w W pb T ⟨S, sn, sc, ss, LA, ln, lc, acts⟩ L → Calls Tryd.prog 13 #[.pointer (some ⟨T, 0, none⟩), .int .i64 0, .int .i64 1100, .slice none 0 0] W fun e w' => e = .returned (.int .i64 4) ∧ Kept (fun _ => False) W w') := fun W h => splice_full T L [] 0 1100 none 0 0 W h.tree (by omega) (by omega) (strs_nil W) (Nat.le_refl _) (by omega) (by decide) (HTT.out.kept h.kp id id) rfl (by omega)
          clear hlt hi1 hi2 hl hby hH1 hH3 hbl hs1 hs2 HM1
          go_upto_region 15 with (first
            | (go_at_call 21; refine cL.mono ?_; rintro e w1 ⟨rfl, hk1⟩; have HK1 := Lib.hid hk1; clear cL hk1; have cH := HH.out w1 HK1.out)
            | (go_at_call 22; refine cH.mono ?_; rintro e w2 ⟨rfl, hw⟩; have hw2 := hw.symm; subst hw2; clear cH; have cB := HBI.out w1)
            | (go_at_call 23; refine cB.mono ?_; rintro e w2 ⟨rfl, hw⟩; have hw2 := hw.symm; subst hw2; clear cB; have cY := HY.out w1 (HM.out.kept HK1.out))
            | (go_at_call 13; refine cY.mono ?_; rintro e w3 ⟨rfl, hk3'⟩; have HK3 := Lib.hid ((HK1.out.alloc (.cells #[.string ⟨#[121]⟩] 9)).trans hk3'); clear cY hk3'; have cZ := num3_any 4 w3)
            | (go_at_call 9; refine cZ.mono ?_; rintro e w4 ⟨rfl, hw⟩; have hw2 := hw.symm; subst hw2; clear cZ; have cE := HE.out w3 (HM.out.kept HK3.out))
            | (go_at_call 13; refine cE.mono ?_; rintro e w5 ⟨rfl, hk5⟩; have HK5 := Lib.hid (HK3.out.trans hk5); clear cE hk5; have cZ2 := num3_any 4 w5)
            | (go_at_call 9; refine cZ2.mono ?_; rintro e w6 ⟨rfl, hw⟩; have hw2 := hw.symm; subst hw2; clear cZ2))
          have HM5 := Lib.hid (HM.out.kept HK5.out)
          clear e1 e2 d1 d3 HH HBI HY HE
          have HB0 : Hid (byL L ≤ 1099) := by have := HBY.out; show _ ≤ _; omega
          go_wp2_with fail
          go_loopw [8] (fun iv wr => ∃ (i : Nat) (L : List ByteArray), 1 ≤ i ∧ i ≤ 1100 ∧ iv = .int .i64 i ∧ Mt w wr pb T ⟨S, sn, sc, ss, LA, ln, lc, acts⟩ L ∧ L.length = i ∧ byL L ≤ 1099) (fun iv _ => (intOf iv).toNat)
          case atStart => exact ⟨1100, L, by omega, by omega, rfl, HM5.out, HL.out, HB0.out⟩
          case round =>
            obtain ⟨i, L, hi1, hi2, rfl, hm, hl, hby⟩ := hrel
            have HM := Lib.hid hm
            have HL := Lib.hid hl
            clear hm HM5
            by_cases hlt : 1 < i
            · have d1 : decide ((1 : Int) < (i : Int)) = true := decide_eq_true (by omega)
              have d2 : decide (1 < i) = true := decide_eq_true hlt
              obtain ⟨q, hq⟩ : ∃ q, i / 2 = q := ⟨_, rfl⟩
              obtain ⟨m, hm⟩ : ∃ m, i - 1 = m := ⟨_, rfl⟩
              have t0 : wrap64 ((i : Int) / 2) = (q : Int) := by
                rw [show (i : Int) / 2 = (q : Int) by omega]
                exact IntWalk.wrap64_in _ ⟨by omega, by omega⟩
              have tm : IntKind.i64.wrap ((i : Int) - 1) = (m : Int) := by
                rw [show (i : Int) - 1 = (m : Int) by omega]
                exact IntWalk.i64_in _ ⟨by omega, by omega⟩
              have hq1 : q + 1 ≤ i := by
                have h := Nat.div_lt_self (show 0 < i from Nat.lt_trans Nat.zero_lt_one hlt) (show 1 < 2 from Nat.lt_succ_self 1)
                rw [hq] at h
                exact h
              have hm1 : m + 1 ≤ i := by rw [← hm]; exact Nat.le_of_eq (Nat.sub_add_cancel (Nat.le_of_lt hlt))
              have h01 : 0 + 1 ≤ i := hi1
              obtain ⟨P, hP, hidx⟩ : ∃ P : Nat, P + 1 ≤ i ∧ ∀ h, ([Value.int .i64 0, .int .i64 (m : Int), .int .i64 (q : Int)] : List Value)[kk]'h = .int .i64 (P : Int) := by
                match kk, hk3 with
                | 0, _ => exact ⟨0, h01, fun _ => rfl⟩
                | 1, _ => exact ⟨m, hm1, fun _ => rfl⟩
                | 2, _ => exact ⟨q, hq1, fun _ => rfl⟩
              go_upto_region 18 with fail
              go_cut [9] from 71 to 78 (fun v wx => v = .int .i64 (P : Int) ∧ Kept (fun _ => False) wr wx)
              case first =>
                have HID := Lib.hid hidx
                have HQ := Lib.hid hq
                clear hidx hP hq hm hq1 hm1 h01
                match kk, hk3 with
                | 0, _ =>
                  have hPe := HID.out (by simp)
                  simp only [List.getElem_cons_zero, Value.int.injEq, true_and] at hPe
                  have HPE := Lib.hid hPe
                  clear hPe
                  go_wp2_with fail
                  go_meet
                  exact ⟨by rw [← HPE.out], (Kept.refl _ _).alloc _⟩
                | 1, _ =>
                  have hPe := HID.out (by simp)
                  simp only [List.getElem_cons_succ, List.getElem_cons_zero, Value.int.injEq, true_and] at hPe
                  have HPE := Lib.hid hPe
                  clear hPe
                  go_wp2_with fail
                  go_meet
                  exact ⟨by rw [← HPE.out], (Kept.refl _ _).alloc _⟩
                | 2, _ =>
                  have hPe := HID.out (by simp)
                  simp only [List.getElem_cons_succ, List.getElem_cons_zero, Value.int.injEq, true_and] at hPe
                  have HPE := Lib.hid hPe
                  clear hPe
                  go_wp2_with fail
                  go_meet
                  exact ⟨by rw [← HPE.out]; congr 1; have := HQ.out; omega, (Kept.refl _ _).alloc _⟩
              case rest =>
                obtain ⟨hv, hka⟩ := hcut
                have hv2 := hv.symm
                subst hv2
                obtain ⟨w2, hw2⟩ : ∃ w2, w2 = wc := ⟨_, rfl⟩
                subst hw2
                obtain ⟨hs1, hs2⟩ := spl_del (L := L) hl hP
                have HM2 := Lib.hid (HM.out.kept hka)
                have cS := splice_ok T L [] P 1 none 0 0 w2 HM2.out.tree (by omega) (by omega) (strs_nil w2) (Nat.le_refl _) (by omega) (by decide) (HTT.out.kept HM2.out.kp id id) rfl (by omega)
                have HS1 : Hid ((spl L P 1 []).length = m) := by show _ = _; omega
                have HS2 : Hid (byL (spl L P 1 []) ≤ 1099) := by show _ ≤ _; omega
                have HIM : Hid (m + 1 = i) := by show _ = _; omega
                obtain ⟨L2, hL2⟩ : ∃ L2, spl L P 1 [] = L2 := ⟨_, rfl⟩
                rw [hL2] at HS1 HS2 cS
                have hm9 : m ≤ 1100 := by omega
                have HBI : Hid (∀ W, Calls Tryd.prog 23 #[.int .i64 (m : Nat)] W fun e w' => e = .returned (.int .i64 (bitsN m : Nat)) ∧ w' = W) := fun W => bits_any m W (by omega)
                have hbl := bits_le m
                have hbe : bitsN L2.length = bitsN m := by rw [HS1.out]
                have HBE := Lib.hid hbe
                generalize bitsN m = bn at *
                have e1 : IntKind.i64.wrap (2 * (bn : Int)) = 2 * (bn : Int) := IntWalk.i64_in _ ⟨by omega, by omega⟩
                have e2 : IntKind.i64.wrap (2 + 2 * (bn : Int)) = 2 + 2 * (bn : Int) := IntWalk.i64_in _ ⟨by omega, by omega⟩
                have H1i : Hid (1 ≤ m ∧ i ≤ 1100) := ⟨by omega, hi2⟩
                by_cases hr : i % 100 = 0
                · have r1 : ((i : Int) % 100 == 0) = true := by rw [beq_iff_eq]; omega
                  have r2 : ((i : Int).tmod 100 == 0) = true := by rw [beq_iff_eq, Int.tmod_eq_emod_of_nonneg (by omega)]; omega
                  clear hL2 hs1 hs2 hq hP hl hby hv hka hidx t0 d1 d2 hbe hr hm hm9 hbl hi1 hi2 hlt
                  go_wp2_with (first
                    | (go_at_call 13; refine cS.mono ?_; rintro e w3 ⟨rfl, ht3, hk3'⟩; have HM3 := Lib.hid (HM2.out.spliced ht3 hk3'); clear cS ht3 hk3'; have cZ := num3_any 0 w3)
                    | (go_at_call 9; refine cZ.mono ?_; rintro e w4 ⟨rfl, hw⟩; have hw2 := hw.symm; subst hw2; clear cZ; obtain ⟨H, hH1, _, hH3⟩ := height_fix T L2 w3 HM3.out.tree; rw [HBE.out] at hH1; have d9 : decide (2 + 2 * (bn : Int) < (H : Int)) = false := decide_eq_false (by omega); have cH := hH3 w3 (Kept.refl _ _); clear hH1 hH3)
                    | (go_at_call 22; refine cH.mono ?_; rintro e w4 ⟨rfl, hw⟩; have hw2 := hw.symm; subst hw2; clear cH; have cB := HBI.out w3)
                    | (go_at_call 23; refine cB.mono ?_; rintro e w4 ⟨rfl, hw⟩; have hw2 := hw.symm; subst hw2; clear cB))
                  go_roundw
                  case rel => exact ⟨m, L2, by have := H1i.out; omega, by have := H1i.out; have := HIM.out; omega, rfl, HM3.out, HS1.out, HS2.out⟩
                  case measure => have := HIM.out; simp [intOf] <;> omega
                · have r1 : ((i : Int) % 100 == 0) = false := by rw [beq_eq_false_iff_ne]; omega
                  have r2 : ((i : Int).tmod 100 == 0) = false := by rw [beq_eq_false_iff_ne, Int.tmod_eq_emod_of_nonneg (by omega)]; omega
                  clear hL2 hs1 hs2 hq hP hl hby hv hka hidx t0 d1 d2 hbe hr hm hm9 hbl hi1 hi2 hlt e1 e2
                  go_wp2_with (first
                    | (go_at_call 13; refine cS.mono ?_; rintro e w3 ⟨rfl, ht3, hk3'⟩; have HM3 := Lib.hid (HM2.out.spliced ht3 hk3'); clear cS ht3 hk3'; have cZ := num3_any 0 w3)
                    | (go_at_call 9; refine cZ.mono ?_; rintro e w4 ⟨rfl, hw⟩; have hw2 := hw.symm; subst hw2; clear cZ))
                  go_roundw
                  case rel => exact ⟨m, L2, by have := H1i.out; omega, by have := H1i.out; have := HIM.out; omega, rfl, HM3.out, HS1.out, HS2.out⟩
                  case measure => have := HIM.out; simp [intOf] <;> omega
            · obtain rfl : i = 1 := by omega
              have d1 : decide ((1 : Int) < ((1 : Nat) : Int)) = false := by decide
              have cL : Calls Tryd.prog 21 #[.pointer (some ⟨T, 0, none⟩)] wr fun e w' => e = .returned (.int .i64 1) ∧ Kept (fun _ => False) wr w' := by
                have c := len_any T L wr HM.out.tree
                rw [hl] at c
                exact c
              obtain ⟨H, hH1, _, hH3⟩ := height_fix T L wr HM.out.tree
              have HH := Lib.hid hH3
              have hbl := bits_le L.length
              rw [hl] at hH1 hbl
              have d3 : decide ((4 : Int) < (H : Int)) = false := decide_eq_false (by omega)
              have d4 : decide (4 < H) = false := decide_eq_false (by omega)
              clear hlt hi1 hi2 hl hby hH1 hH3 hbl
              go_wp2_with (first
                | (go_at_call 21; refine cL.mono ?_; rintro e w1 ⟨rfl, hk1⟩; have HK1 := Lib.hid hk1; clear cL hk1; have cH := HH.out w1 HK1.out)
                | (go_at_call 22; refine cH.mono ?_; rintro e w2 ⟨rfl, hw⟩; have hw2 := hw.symm; subst hw2; clear cH))
              go_roundw
              case rel => exact ⟨kk + 1, by omega, by go_num, (HM.out.kept HK1.out).par, (HM.out.kept HK1.out).kp⟩
              case measure => simp [intOf] <;> omega
    · obtain rfl : kk = 3 := by omega
      have b1 : decide (((3 : Nat) : Int) < 3) = false := by decide
      have p0 : wr.cell? ⟨pb, 0, none⟩ = some (.slice S sn sc) := (HPS.out.c 0).trans rfl
      have d0 : decide ((0 : Int) ≤ (sn : Int)) = true := decide_eq_true (by omega)
      have cW := wakes3_any wr (HTT.out.kept HKP.out id id)
      go_wp2_with (go_at_call 20; refine cW.mono ?_; rintro e w9 ⟨rfl, hk9⟩; have HK9 := Lib.hid (HKP.out.trans hk9); clear cW hk9)
      go_ret
      exact ⟨rfl, HK9.out⟩
end Go.Proofs.YtdgbaeliabaneaaDoor
