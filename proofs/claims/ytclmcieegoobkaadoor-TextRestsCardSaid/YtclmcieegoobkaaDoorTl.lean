/-
  THE LAW TextRests, walked.
-/
import Derived.Test.YtclmcieegoobkaaDoorTr
set_option linter.unusedVariables false
namespace Go.Proofs.YtclmcieegoobkaaDoor
open Go Go.RowKit

theorem num1_any (x : Int) (w : World) : Calls Tryd.prog 23 #[.int .i64 x] w fun e w' => e = .returned (.int .i64 x) ∧ w' = w := by
  go_enter Tryd.func23, Tryd.ntmps23
  go_wp2
  go_ret
  exact ⟨rfl, rfl⟩
/-- The text that wakes. -/
def abnc : ByteArray := ⟨#[97, 98, 10, 99]⟩
theorem abnc_rs : rs abnc = [97, 98, 10, 99] := by decide
theorem abnc_may : mayB abnc = true := by decide
theorem abnc_nl : Rw.nl (rs abnc) 3 = 1 := by rw [abnc_rs]; rfl
theorem abnc_beg : 3 - Rw.beg (rs abnc) 3 = 0 := by rw [abnc_rs]; rfl
theorem wakes1_any (w : World) (hT : Tabs w) : Calls Tryd.prog 24 #[] w fun e w' => e = .returned (.bool true) ∧ Kept (fun _ => False) w w' := by
  have cP := place_yes abnc 3 w hT abnc_may (by rw [abnc_rs]; decide)
  rw [abnc_nl, abnc_beg] at cP
  have cP2 : Calls Tryd.prog 41 #[.string abnc, .int .i64 3] w fun e w' => e = .returned (.tuple #[.agg #[.int .i64 1, .int .i64 0], .int .i64 0]) ∧ Kept (fun _ => False) w w' := cP
  unfold abnc at cP2
  clear hT cP
  go_enter Tryd.func24, Tryd.ntmps24
  go_wp2_with (first | (go_at_call 41; refine cP2.mono ?_; rintro e w1 ⟨rfl, hk1⟩) | (go_at_call 23; refine (num1_any _ _).mono ?_; rintro e w2 ⟨rfl, rfl⟩))
  go_ret
  exact ⟨rfl, hk1.alloc _⟩
/-- An ask of the first layer. -/
abbrev ask1 (A : Option Addr) (n c : Nat) (ss : List ByteArray) (xa xb xr xc : Int) : AskV := ⟨A, n, c, ss, xa, xb, xr, xc, 0, 0, 0⟩
structure Held1 (w : World) (pb : Nat) (A : Option Addr) (n c : Nat) (ss : List ByteArray) (xa xb xr xc : Int) : Prop where
  pb : w.heap[pb]? = some (.cells #[.slice A n c, .int .i64 xa, .int .i64 xb, .int .i64 xr, .int .i64 xc] 26 (0, 0))
  ss : Strs w A n ss
  tabs : Tabs w
theorem Held1.kept {w w' : World} {pb : Nat} {A : Option Addr} {n c : Nat} {ss : List ByteArray} {xa xb xr xc : Int} (h : Held1 w pb A n c ss xa xb xr xc) (hk : Kept (fun _ => False) w w') : Held1 w' pb A n c ss xa xb xr xc :=
  ⟨(hk.block pb (heap_lt h.pb) id).trans h.pb, h.ss.kept hk, h.tabs.kept hk id id⟩
theorem Held1.str {w : World} {pb : Nat} {ad : Addr} {n c : Nat} {ss : List ByteArray} {xa xb xr xc : Int} (h : Held1 w pb (some ad) n c ss xa xb xr xc) {i : Nat} {s : ByteArray} (hs : ss[i]? = some s) : w.cell? (ad.add i) = some (.string s) := by
  obtain ⟨ad', e, hc, _⟩ := h.ss.2 i s hs
  injection e with e
  subst e
  exact hc
theorem Held1.c0 {w : World} {pb : Nat} {A : Option Addr} {n c : Nat} {ss : List ByteArray} {xa xb xr xc : Int} (h : Held1 w pb A n c ss xa xb xr xc) : w.cell? ⟨pb, 0, none⟩ = some (.slice A n c) := by rw [cell_of_row _ _ _ _ _ _ h.pb]; rfl
theorem Held1.c1 {w : World} {pb : Nat} {A : Option Addr} {n c : Nat} {ss : List ByteArray} {xa xb xr xc : Int} (h : Held1 w pb A n c ss xa xb xr xc) : w.cell? ⟨pb, 1, none⟩ = some (.int .i64 xa) := by rw [cell_of_row _ _ _ _ _ _ h.pb]; rfl
set_option maxRecDepth 100000 in
set_option maxHeartbeats 2000000 in
theorem textRests_any (A : Option Addr) (n0 c0 : Nat) (ss : List ByteArray) (xa xb xr xc : Int) (w : World) (hS : Strs w A n0 ss) (hn0 : n0 ≤ 8796093022208) (hxa : I64 xa) (hT : Tabs w) :
    Calls Tryd.prog 3 #[.agg #[.slice A n0 c0, .int .i64 xa, .int .i64 xb, .int .i64 xr, .int .i64 xc]] w fun e w' => e = .returned (.bool true) ∧ Kept (fun _ => False) w w' := by
  have hK0 : Hid (Kept (fun _ => False) w (w.alloc (.cells #[.slice A n0 c0, .int .i64 xa, .int .i64 xb, .int .i64 xr, .int .i64 xc] 26))) := (Kept.refl _ w).alloc _
  have hH0 : Hid (Held1 (w.alloc (.cells #[.slice A n0 c0, .int .i64 xa, .int .i64 xb, .int .i64 xr, .int .i64 xc] 26)) w.heap.size A n0 c0 ss xa xb xr xc) := ⟨heap_alloc_new w _, hS.kept hK0.out, hT.kept hK0.out id id⟩
  have i0 : I64 0 := by unfold I64; omega
  have cH := fun v1 v2 v3 v4 => heavy1_any (ask1 A n0 c0 ss 0 0 0 0) (w.alloc (.cells #[.slice A n0 c0, .int .i64 xa, .int .i64 xb, .int .i64 xr, .int .i64 xc] 26)) ⟨hH0.out.ss, hn0, i0, i0, i0, i0, i0, i0, i0⟩ v1 v2 v3 v4
  clear hS hT i0 hxa
  simp only at cH
  go_enter Tryd.func3, Tryd.ntmps3
  go_wp2_with (go_at_call 16; refine (cH _ _ _ _).mono ?_; rintro e w1 ⟨⟨hv, rfl, hsm⟩, hk1⟩; have HS := Lib.hid hsm; have HKA := Lib.hid (hK0.out.trans hk1); have HHA := Lib.hid (hH0.out.kept hk1); clear hsm hk1 hH0 hK0 cH)
  · exact bodyPost_ret (results_tmp rfl _ _ _) rfl ⟨rfl, HKA.out⟩
  have hv0 : hv = false := by assumption
  subst hv0
  have hss : ∀ s ∈ ss, s.size ≤ 6000 := HS.out rfl
  have HSS := Lib.hid hss
  clear hss HS
  generalize hpb : w.heap.size = pb at HHA ⊢
  clear hpb
  go_loopw [3] (fun v wr => ∃ r : Int, -2 ≤ r ∧ r ≤ 140 ∧ v = .int .i64 r ∧ wr = w1) (fun v _ => (140 - intOf v).toNat)
  case atStart => exact ⟨-2, by omega, by omega, rfl, rfl⟩
  case round =>
    obtain ⟨r, hr1, hr2, rfl, rfl⟩ := hrel
    by_cases hr : r < 140
    · have b1 : decide (r < 140) = true := decide_eq_true hr
      go_wp2_with (first | (go_at_call 17; refine (class_all _ _).mono ?_; rintro e w' ⟨rfl, hw⟩; have hw2 := hw.symm; clear hw; subst hw2) | (go_at_call 18; refine (rclass_all _ _).mono ?_; rintro e w' ⟨rfl, hw⟩; have hw2 := hw.symm; clear hw; subst hw2))
      go_roundw
      case rel => exact ⟨r + 1, by omega, by omega, rfl, trivial⟩
      case measure => simp [intOf] <;> omega
    obtain rfl : r = 140 := by omega
    clear hr1 hr2 hr
    go_wp2
    obtain ⟨wb, hwb⟩ : ∃ wb, wb = wr := ⟨_, rfl⟩
    subst hwb
    go_loopw [4] (fun v wr => ∃ i : Nat, i ≤ n0 ∧ i ≤ 5 ∧ v = .int .i64 i ∧ Kept (fun _ => False) wb wr) (fun v _ => n0 - (intOf v).toNat)
    case atStart => exact ⟨0, Nat.zero_le _, Nat.zero_le _, rfl, Kept.refl _ _⟩
    case round =>
      obtain ⟨i, hi, hi4, rfl, hki⟩ := hrel
      obtain ⟨wi, hwi⟩ : ∃ wi, wi = wr := ⟨_, rfl⟩
      subst hwi
      have HHi := Lib.hid (HHA.out.kept hki)
      have HKW := Lib.hid hki
      clear hki
      have p0 := HHi.out.c0
      by_cases hgo : i < n0 ∧ i < 5
      · obtain ⟨g1, g2⟩ := hgo
        obtain ⟨ad, s, rfl, hs, hsc, _⟩ := HHi.out.ss.cell g1
        have hsz : s.size ≤ 6000 := HSS.out s (List.mem_of_getElem? hs)
        have HSI := Lib.hid hs
        have b1 : decide (i < n0) = true := by simp; omega
        have b2 : decide (i < 5) = true := by simp; omega
        have b3 : decide ((i : Int) < 5) = true := by simp; omega
        have t1 : (0 : Int) ≤ (i : Int) := by omega
        have t2 : (i : Int) < (n0 : Int) := by omega
        have hl := rs_len s
        obtain ⟨cap, w2, hcap, hcv, hk2, hlt2, hR⟩ := conv_rs s wi (by omega)
        have HT0 : Hid (rs s = rs s) := rfl
        obtain ⟨t, ht⟩ : ∃ t, rs s = t := ⟨_, rfl⟩
        rw [ht] at hl hcv hR hcap
        have HT := Lib.hid ht
        have HR := Lib.hid hR
        have HK2 := Lib.hid (HKW.out.trans hk2)
        have HH2 := Lib.hid (HHi.out.kept hk2)
        clear hs hk2 hR ht hcap hlt2 HT0
        generalize hrb : wi.heap.size = rb at HR hcv
        clear hrb
        go_wp2_with fail
        clear hcv b1 b2 b3 p0 hsc
        go_loopw [6] (fun v wr => ∃ a : Int, -1 ≤ a ∧ a ≤ (t.length : Int) + 2 ∧ v = .int .i64 a ∧ Kept (fun _ => False) w2 wr) (fun v _ => ((t.length : Int) + 2 - intOf v).toNat)
        case atStart => exact ⟨-1, by omega, by omega, rfl, Kept.refl _ _⟩
        case round =>
          obtain ⟨a, ha1, ha2, rfl, hka⟩ := hrel
          obtain ⟨wk, hwk⟩ : ∃ wk, wk = wr := ⟨_, rfl⟩
          subst hwk
          have HKK := Lib.hid hka
          have HHk := Lib.hid (HH2.out.kept hka)
          have HRk := Lib.hid (HR.out.kept hka (fun _ _ => id))
          clear hka
          by_cases hgo : a ≤ (t.length : Int) + 1 ∧ a < 60
          · obtain ⟨g3, g4⟩ := hgo
            have b1 : decide (a ≤ (t.length : Int) + 1) = true := decide_eq_true g3
            have b2 : decide (a < 60) = true := decide_eq_true g4
            have q0 := HHk.out.c0
            have q1 := HHk.out.str HSI.out
            cases hm : mayB s with
            | false =>
              have cF := rest_form s a wk (by omega) HHk.out.tabs hm
              have cMay := fun W (hW : Tabs W) => rmay_any s W (by omega) hW
              rw [hm] at cMay
              clear hm
              go_wp2_with (first | (go_at_call 19; refine cF.mono ?_; rintro e w3 ⟨rfl, hk3⟩; have HK3 := Lib.hid (HKK.out.trans hk3); have HH3 := Lib.hid (HHk.out.kept hk3); have r0 := cell_kept hk3 q0 id; have r1 := cell_kept hk3 q1 id; clear hk3 q0 q1 cF b1 b2) | (go_at_call 20; refine (cMay _ HH3.out.tabs).mono ?_; rintro e w4 ⟨rfl, hk4⟩; have HK4 := Lib.hid (HK3.out.trans hk4); clear hk4 cMay))
              refine (num1_any _ _).mono ?_
              rintro e w' ⟨rfl, hw⟩
              have hw2 := hw.symm
              clear hw
              subst hw2
              go_wp2_with fail
              go_roundw
              case rel => exact ⟨a + 1, by omega, by omega, rfl, HK4.out⟩
              case measure => simp [intOf] <;> omega
            | true =>
              have cMay := fun W (hW : Tabs W) => rmay_any s W (by omega) hW
              rw [hm] at cMay
              by_cases har : 0 ≤ a ∧ a ≤ (t.length : Int)
              · obtain ⟨k, rfl⟩ := Int.eq_ofNat_of_zero_le har.1
                have hkt : k ≤ t.length := by omega
                have cF := rest_yes s k wk HHk.out.tabs hm (by rw [HT.out]; exact hkt)
                rw [HT.out] at cF
                have cR := fun W (hW : Rn W (some ⟨rb, 0, none⟩) t.length t) => rrest_any (some ⟨rb, 0, none⟩) t.length cap t k W hW hkt (by omega)
                generalize Rw.rst t k = z at *
                clear hm
                go_wp2_with (first | (go_at_call 19; refine cF.mono ?_; rintro e w3 ⟨rfl, hk3⟩; have HK3 := Lib.hid (HKK.out.trans hk3); have HH3 := Lib.hid (HHk.out.kept hk3); have HR3 := Lib.hid (HRk.out.kept hk3 (fun _ _ => id)); have r0 := cell_kept hk3 q0 id; have r1 := cell_kept hk3 q1 id; clear hk3 q0 q1 cF b1 b2) | (go_at_call 20; refine (cMay _ HH3.out.tabs).mono ?_; rintro e w4 ⟨rfl, hk4⟩; have HK4 := Lib.hid (HK3.out.trans hk4); have HR4 := Lib.hid (HR3.out.kept hk4 (fun _ _ => id)); clear hk4 cMay))
                refine (znum_t har _).mono ?_
                rintro e w' ⟨rfl, hw⟩
                have hw2 := hw.symm
                clear hw
                subst hw2
                go_wp2_with fail
                refine (cR _ HR4.out).mono ?_
                rintro e w' ⟨rfl, hw⟩
                have hw2 := hw.symm
                clear hw
                subst hw2
                go_wp2_with fail
                refine (num1_any _ _).mono ?_
                rintro e w' ⟨rfl, hw⟩
                have hw2 := hw.symm
                clear hw
                subst hw2
                go_wp2_with fail
                go_roundw
                case rel => exact ⟨(k : Int) + 1, by omega, by omega, rfl, HK4.out⟩
                case measure => simp [intOf] <;> omega
              · have cF := rest_none s a wk HHk.out.tabs hm (by rw [HT.out]; exact har)
                have HAR := Lib.hid har
                clear hm har
                go_wp2_with (first | (go_at_call 19; refine cF.mono ?_; rintro e w3 ⟨rfl, hk3⟩; have HK3 := Lib.hid (HKK.out.trans hk3); have HH3 := Lib.hid (HHk.out.kept hk3); have r0 := cell_kept hk3 q0 id; have r1 := cell_kept hk3 q1 id; clear hk3 q0 q1 cF b1 b2) | (go_at_call 20; refine (cMay _ HH3.out.tabs).mono ?_; rintro e w4 ⟨rfl, hk4⟩; have HK4 := Lib.hid (HK3.out.trans hk4); clear hk4 cMay))
                refine (znum_f HAR.out _).mono ?_
                rintro e w' ⟨rfl, hw⟩
                have hw2 := hw.symm
                clear hw
                subst hw2
                go_wp2_with fail
                refine (num1_any _ _).mono ?_
                rintro e w' ⟨rfl, hw⟩
                have hw2 := hw.symm
                clear hw
                subst hw2
                go_wp2_with fail
                go_roundw
                case rel => exact ⟨a + 1, by omega, by omega, rfl, HK4.out⟩
                case measure => simp [intOf] <;> omega
          · by_cases g3 : a ≤ (t.length : Int) + 1
            · have b1 : decide (a ≤ (t.length : Int) + 1) = true := decide_eq_true g3
              have b2 : decide (a < 60) = false := decide_eq_false (by omega)
              clear hgo
              go_wp2_with fail
              go_roundw
              case rel => exact ⟨i + 1, by omega, by omega, by go_num, HK2.out.trans HKK.out⟩
              case measure => simp [intOf] <;> omega
            · have b1 : decide (a ≤ (t.length : Int) + 1) = false := decide_eq_false g3
              clear hgo
              go_wp2_with fail
              go_roundw
              case rel => exact ⟨i + 1, by omega, by omega, by go_num, HK2.out.trans HKK.out⟩
              case measure => simp [intOf] <;> omega
      · have hlast : (i = n0 ∧ i < 5) ∨ (i < n0 ∧ i = 5) ∨ (i = n0 ∧ i = 5) := by omega
        have hTe := HHi.out.tabs
        have hTd : Tabs wi.drew := hTe
        have cW := wakes1_any wi.drew hTd
        have q1 := HHi.out.c1
        rcases hlast with ⟨h1, h2⟩ | ⟨h1, h2⟩ | ⟨h1, h2⟩
        case' inl | inr.inr => have b1 : decide (i < n0) = false := by simp; omega
        case' inr.inl =>
          have b1 : decide (i < n0) = true := by simp; omega
          have b2 : decide (i < 5) = false := by simp; omega
          have b3 : decide ((i : Int) < 5) = false := by simp; omega
        all_goals
          clear h1 h2 hTe hTd
          go_wp2_with fail
          clear p0
          go_region_held3 (fun w' => w'.cell? ⟨pb, 1, none⟩ = some (.int .i64 xa)) (first | exact q1 | exact cell_kept hk9 q1 id | go_keep)
            (first | (go_at_call 17; refine (class_all _ _).mono ?_; rintro e w' ⟨rfl, hw⟩; have hw2 := hw.symm; clear hw; subst hw2) | (go_at_call 18; refine (rclass_all _ _).mono ?_; rintro e w' ⟨rfl, hw⟩; have hw2 := hw.symm; clear hw; subst hw2) | (go_at_call 24; refine cW.mono ?_; rintro e w9 ⟨rfl, hk9⟩))
          go_wp2_with fail
          go_ret
          exact ⟨rfl, HKA.out.trans (HKW.out.trans ((Kept.refl (fun _ => False) wi).drew.trans hk9))⟩
end Go.Proofs.YtclmcieegoobkaaDoor
