/-
  HistoryBack: the law.
-/
import Derived.Test.YthbfmdnibijapaaDoorHiJ
set_option linter.unusedVariables false
namespace Go.Proofs.YthbfmdnibijapaaDoor
open Go Go.RowKit

theorem hfirst_may : mayB firstS = true := by decide
theorem Hc.tabs {B most hb : Nat} {L : List NodeS} {c : Nat} {S : List ByteArray} {k : Int} {W : World} (h : Hc B most hb L c S k W) : Tabs W := by
  obtain ⟨_, _, _, _, h1, _⟩ := h.q
  exact h1.tabs
set_option maxRecDepth 100000 in
set_option maxHeartbeats 16000000 in
theorem historyBack_any (p : ScrU) (w : World) (hp : ScrUOk w p) (hT : Tabs w) : Calls Tryd.prog 4 #[.agg p.cells] w fun e w' => e = .returned (.bool true) ∧ Kept (fun _ => False) w w' := by
  have hk0 : Kept (fun _ => False) w (w.alloc (.cells p.cells 27)) := (Kept.refl _ w).alloc _
  have HU0 : Hid (Uw w w.heap.size p (w.alloc (.cells p.cells 27))) := ⟨heap_alloc_new w _, hp.kept hk0, hT.kept hk0 id id, hk0⟩
  have cH := heavy7_any p _ (hp.kept hk0)
  have HAG := Lib.hid hp.agood
  have HPW := Lib.hid hp
  clear hk0 hp hT
  obtain ⟨R, rn, rc, nodes, cur, LA, ln, lc, acts⟩ := p
  unfold ScrU.cells at *
  simp only at *
  have p0 := HU0.out.par.c 0
  have p1 := HU0.out.par.c 1
  have p2 := HU0.out.par.c 2
  simp only [ScrU.cells] at p0 p1 p2
  obtain ⟨pb, hpb⟩ : ∃ pb, w.heap.size = pb := ⟨_, rfl⟩
  have HPB := Lib.hid hpb
  simp only [hpb] at HU0 p0 p1 p2
  clear hpb
  go_enter Tryd.func4, Tryd.ntmps4
  go_upto_region 1 with fail
  simp only [HPB.out]
  generalize w.alloc (.cells #[.slice R rn rc, .int .i64 cur, .slice LA ln lc] 27) = w0 at *
  have q0 : w0.cell? ⟨pb, 0, none⟩ = some (.slice R rn rc) := p0
  have q1 : w0.cell? ⟨pb, 1, none⟩ = some (.int .i64 cur) := p1
  have q2 : w0.cell? ⟨pb, 2, none⟩ = some (.slice LA ln lc) := p2
  clear p0 p1 p2
  go_wp2_with (go_at_call 5; refine cH.mono ?_; rintro e w1 ⟨⟨hv, rfl, _⟩, hk1⟩; have HU1 := Lib.hid (HU0.out.kept hk1); clear hk1 cH q0 q1 q2)
  · exact bodyPost_ret (results_tmp rfl _ _ _) rfl ⟨rfl, HU1.out.kp⟩
  have hv0 : hv = false := by assumption
  subst hv0
  have cN := hcnew_any 64 firstS w1 HU1.out.tabs (by omega) hfirst_may
  obtain ⟨B, hB⟩ : ∃ B, w1.heap.size = B := ⟨_, rfl⟩
  have hpB : pb < B := by rw [← hB]; exact heap_lt HU1.out.par
  have hwB : w.heap.size ≤ B := by rw [← hB]; exact HU1.out.kp.size
  rw [hB] at cN
  have HFS : Hid (tAt [firstS] 0 = firstS) := rfl
  unfold firstS at cN
  refine cN.mono ?_
  rintro e w2 ⟨⟨hb, rfl, hc⟩, hk2⟩
  have HC2 := Lib.hid hc
  have HX2 : Hid (Ux w pb B ⟨R, rn, rc, nodes, cur, LA, ln, lc, acts⟩ w2) := ⟨HU1.out.par.kept hk2 id, HU1.out.kp.trans hk2, hpB, hwB, by rw [← hB]; exact hk2.size⟩
  clear hc hk2 cN hB hpB hwB HU0 HU1
  go_upto_region 7 with (go_at_call 9; refine (unum_any _ _).mono ?_; rintro e w' ⟨rfl, hw⟩; have hw2 := hw.symm; subst hw2)
  go_wp2_with fail
  go_loopw [5, 6, 7] (fun a b v wr => ∃ (i nn : Nat) (L : List NodeS) (S : List ByteArray), i ≤ ln ∧ i ≤ 16 ∧ v = .int .i64 i ∧ nn ≤ i ∧ b = .int .i64 nn ∧ L.length = nn + 1 ∧ a = .string (tAt S nn) ∧ tAt S 0 = firstS ∧ Hc B 64 hb L nn S 0 wr ∧ Ux w pb B ⟨R, rn, rc, nodes, cur, LA, ln, lc, acts⟩ wr) (fun _ _ v _ => ln - (intOf v).toNat)
  case atStart => exact ⟨0, 0, _, _, Nat.zero_le _, Nat.zero_le _, rfl, Nat.le_refl _, rfl, rfl, rfl, HFS.out, HC2.out, HX2.out⟩
  case round =>
    obtain ⟨i, nn, L, S, hi, hi16, rfl, hni, rfl, hLl, rfl, hS0, hc, hx⟩ := hrel
    clear HC2 HX2 HFS
    have HC := Lib.hid hc
    have HX := Lib.hid hx
    have HS0 := Lib.hid hS0
    have HLL := Lib.hid hLl
    clear hc hx hS0
    have p2 : wr.cell? ⟨pb, 2, none⟩ = some (.slice LA ln lc) := HX.out.par.c 2
    by_cases hgo : i < ln ∧ i < 16
    · obtain ⟨g1, g2⟩ := hgo
      have b1 : decide (i < ln) = true := decide_eq_true g1
      have b2 : decide ((i : Int) < (ln : Int)) = true := decide_eq_true (by omega)
      have b3 : decide (i < 16) = true := decide_eq_true g2
      have b4 : decide ((i : Int) < 16) = true := decide_eq_true (by omega)
      obtain ⟨aad, act, rfl, hact, h4⟩ := HPW.out.acts.at_ g1
      have hgd := HAG.out act (List.mem_of_getElem? hact)
      obtain ⟨aDo, aAt, aMost, s⟩ := act
      have hsz : s.size ≤ 140737488351232 := hgd.2.2.2
      have H4 := Lib.hid h4
      have f3 : wr.cell? ⟨(aad.add (i * 4)).block, (aad.add (i * 4)).off + 3, none⟩ = some (.string s) := (h4.kept HX.out.kp id).c3
      have t1_ : (0 : Int) ≤ (i : Int) := by omega
      have t2_ : (i : Int) < (ln : Int) := by omega
      clear hact h4 hgd
      cases hms : mayB s with
      | false =>
        have cB := hccommit_no HC.out s 1 hms hsz
        clear hms
        go_wp2_with (first
          | (go_at_call 9; refine (unum_any _ _).mono ?_; rintro e w' ⟨rfl, hw⟩; have hw2 := hw.symm; subst hw2)
          | (go_at_call 25; refine cB.mono ?_; rintro e w6 ⟨rfl, hk6⟩; have HC6 := Lib.hid (HC.out.kept hk6); have HX6 := Lib.hid (HX.out.kept hk6); clear hk6 cB))
        go_roundw
        case rel => exact ⟨i + 1, nn, L, S, by omega, by omega, by go_num, by omega, rfl, HLL.out, rfl, HS0.out, HC6.out, HX6.out⟩
        case measure => simp [intOf]; omega
      | true =>
        have cC := hccommit_yes HC.out (by have := HLL.out; omega) (by omega) (by have := HLL.out; omega) (by have := HLL.out; omega) HX.out.sz s 1 hms (by omega)
        have hSl : S.length = nn + 1 := by rw [HC.out.sl]; exact HLL.out
        have HSL := Lib.hid hSl
        obtain ⟨L', hL'⟩ : ∃ L', L ++ [(⟨(L.length : Int), (nn : Int), 1, ⟨#[]⟩⟩ : NodeS)] = L' := ⟨_, rfl⟩
        have HLL' : Hid (L'.length = nn + 2) := by show _ = _; rw [← hL']; simp; have := HLL.out; omega
        rw [hL'] at cC
        clear hms hSl hL'
        go_wp2_with (first
          | (go_at_call 9; refine (unum_any _ _).mono ?_; rintro e w' ⟨rfl, hw⟩; have hw2 := hw.symm; subst hw2)
          | (go_at_call 25; refine cC.mono ?_; rintro e w6 ⟨rfl, hc6, hk6⟩; have HC6 := Lib.hid hc6; have HX6 := Lib.hid (HX.out.step hk6); have p26 : w6.cell? ⟨pb, 2, none⟩ = some (.slice (some aad) ln lc) := HX6.out.par.c 2; have f36 := (H4.out.kept HX6.out.kp id).c3; clear hk6 hc6 cC p2 f3))
        go_roundw
        case rel => exact ⟨i + 1, nn + 1, L', S ++ [s], by omega, by omega, by go_num, by omega, by go_num, HLL'.out, by rw [← HSL.out, tAt_end], by rw [tAt_app (by have := HSL.out; omega)]; exact HS0.out, HC6.out, HX6.out⟩
        case measure => simp [intOf]; omega
    · have hcase : (decide (i < ln) = false ∧ decide ((i : Int) < (ln : Int)) = false) ∨ (decide (i < ln) = true ∧ decide ((i : Int) < (ln : Int)) = true ∧ decide (i < 16) = false ∧ decide ((i : Int) < 16) = false) := by
        by_cases h1 : i < ln
        · refine .inr ⟨decide_eq_true h1, decide_eq_true (by omega), decide_eq_false (fun h => hgo ⟨h1, h⟩), decide_eq_false (fun h => hgo ⟨h1, by omega⟩)⟩
        · exact .inl ⟨decide_eq_false h1, decide_eq_false (by omega)⟩
      obtain ⟨LS, hLS⟩ : ∃ LS, tAt S nn = LS := ⟨_, rfl⟩
      have HLS := Lib.hid hLS
      rw [hLS]
      clear hgo hLS
      have hn16 : nn ≤ 16 := by omega
      rcases hcase with ⟨b1, b2⟩ | ⟨b1, b2, b3, b4⟩
      all_goals
        go_wp2_with fail
        go_loopw [8] (fun v wz => ∃ (j c : Nat) (kk : Int), j ≤ nn ∧ v = .int .i64 j ∧ c + j = nn ∧ kk = (j : Int) ∧ Hc B 64 hb L c S kk wz ∧ Ux w pb B ⟨R, rn, rc, nodes, cur, LA, ln, lc, acts⟩ wz) (fun v _ => nn - (intOf v).toNat)
        case atStart => exact ⟨0, nn, 0, Nat.zero_le _, rfl, rfl, rfl, HC.out, HX.out⟩
        case round =>
          obtain ⟨j, c, kk, hj, rfl, hcj, hkk, hc2, hx2⟩ := hrel
          have HC2 := Lib.hid hc2
          have HX2 := Lib.hid hx2
          have hk0 : 0 ≤ kk ∧ kk ≤ 1000000 := by omega
          have HKK := Lib.hid hkk
          clear hc2 hx2 hkk b1 b2
          by_cases hlt : j < nn
          · have d1 : decide (j < nn) = true := decide_eq_true hlt
            have d2 : decide ((j : Int) < (nn : Int)) = true := decide_eq_true (by omega)
            obtain ⟨c1, rfl⟩ : ∃ c1, c = c1 + 1 := ⟨c - 1, by omega⟩
            have cBk := hcback_any HC2.out hk0
            go_wp2_with (first
              | (go_at_call 9; refine (unum_any _ _).mono ?_; rintro e w' ⟨rfl, hw⟩; have hw2 := hw.symm; subst hw2)
              | (go_at_call 26; refine cBk.mono ?_; rintro r w3 ⟨⟨at', rfl⟩, hc3, hk3⟩; have HC3 := Lib.hid hc3; have HX3 := Lib.hid (HX2.out.step hk3); clear hc3 hk3 cBk))
            go_roundw
            case rel => exact ⟨j + 1, c1, kk + 1, by omega, by go_num, by omega, by have := HKK.out; omega, HC3.out, HX3.out⟩
            case measure => simp [intOf]; omega
          · obtain rfl : j = nn := by omega
            obtain rfl : c = 0 := by omega
            have d1 : decide (j < j) = false := decide_eq_false (by omega)
            have d2 : decide ((j : Int) < (j : Int)) = false := decide_eq_false (by omega)
            have cRt := hcback_root HC2.out
            have cHe : ∀ {W : World}, Hc B 64 hb L 0 S kk W → Calls Tryd.prog 20 #[.pointer (some ⟨hb, 0, none⟩)] W fun e w' => e = .returned (.string ⟨#[102, 105, 114, 115, 116]⟩) ∧ w' = W := fun h => by
              have h1 := hchere_any h
              rw [HS0.out] at h1
              exact h1
            have cPt : ∀ {W : World}, Hc B 64 hb L 0 S kk W → Calls Tryd.prog 22 #[.pointer (some ⟨hb, 0, none⟩)] W fun e w' => e = .returned (.int .i64 (j : Int)) ∧ w' = W := fun h => by
              have h1 := hcpat_any h hk0
              rw [HKK.out] at h1
              exact h1
            go_wp2_with (first
              | (go_at_call 9; refine (unum_any _ _).mono ?_; rintro e w' ⟨rfl, hw⟩; have hw2 := hw.symm; subst hw2)
              | (go_at_call 26; refine cRt.mono ?_; rintro r w3 ⟨rfl, hk3⟩; have HC3 := Lib.hid (HC2.out.kept hk3); have HX3 := Lib.hid (HX2.out.kept hk3); clear hk3 cRt)
              | (go_at_call 20; refine (cHe HC3.out).mono ?_; rintro e w' ⟨rfl, hw⟩; have hw2 := hw.symm; subst hw2)
              | (go_at_call 22; refine (cPt HC3.out).mono ?_; rintro e w' ⟨rfl, hw⟩; have hw2 := hw.symm; subst hw2))
            go_loopw [15] (fun v wy => ∃ (i3 : Nat) (kq : Int), i3 ≤ j ∧ v = .int .i64 i3 ∧ kq = (j : Int) + i3 ∧ Hc B 64 hb L i3 S kq wy ∧ Ux w pb B ⟨R, rn, rc, nodes, cur, LA, ln, lc, acts⟩ wy) (fun v _ => j - (intOf v).toNat)
            case atStart => exact ⟨0, kk, Nat.zero_le _, rfl, by have := HKK.out; omega, HC3.out, HX3.out⟩
            case round =>
              obtain ⟨i3, kq, hi3, rfl, hkq, hc4, hx4⟩ := hrel
              have HC4 := Lib.hid hc4
              have HX4 := Lib.hid hx4
              have hkb : 0 ≤ kq ∧ kq ≤ 1000000 := by omega
              have HKQ := Lib.hid hkq
              clear hc4 hx4 hkq d1 d2
              by_cases hlt3 : i3 < j
              · have d1 : decide (i3 < j) = true := decide_eq_true hlt3
                have d2 : decide ((i3 : Int) < (j : Int)) = true := decide_eq_true (by omega)
                have cAg := hcagain_any HC4.out (by have := HLL.out; omega) hkb
                go_wp2_with (first
                  | (go_at_call 9; refine (unum_any _ _).mono ?_; rintro e w' ⟨rfl, hw⟩; have hw2 := hw.symm; subst hw2)
                  | (go_at_call 27; refine cAg.mono ?_; rintro r w5 ⟨⟨at', rfl⟩, hc5, hk5⟩; have HC5 := Lib.hid hc5; have HX5 := Lib.hid (HX4.out.step hk5); clear hc5 hk5 cAg))
                go_roundw
                case rel => exact ⟨i3 + 1, kq + 1, by omega, by go_num, by have := HKQ.out; omega, HC5.out, HX5.out⟩
                case measure => simp [intOf]; omega
              · obtain rfl : i3 = j := by omega
                have d1 : decide (i3 < i3) = false := decide_eq_false (by omega)
                have d2 : decide ((i3 : Int) < (i3 : Int)) = false := decide_eq_false (by omega)
                have cHf : ∀ {W : World}, Hc B 64 hb L i3 S kq W → Calls Tryd.prog 20 #[.pointer (some ⟨hb, 0, none⟩)] W fun e w' => e = .returned (.string LS) ∧ w' = W := fun h => by
                  have h1 := hchere_any h
                  rw [HLS.out] at h1
                  exact h1
                have cPf : ∀ {W : World}, Hc B 64 hb L i3 S kq W → Calls Tryd.prog 22 #[.pointer (some ⟨hb, 0, none⟩)] W fun e w' => e = .returned (.int .i64 ((i3 : Int) + i3)) ∧ w' = W := fun h => by
                  have h1 := hcpat_any h hkb
                  rw [HKQ.out] at h1
                  exact h1
                have cWk := fun W (hT : Tabs W) => hwakes_any W hT
                have d4 : IntKind.i64.wrap (2 * (i3 : Int)) = (i3 : Int) + i3 := by rw [show 2 * (i3 : Int) = (i3 : Int) + i3 by omega]; exact IntWalk.i64_in _ ⟨by omega, by omega⟩
                go_wp2_with (first
                  | (go_at_call 20; refine (cHf HC4.out).mono ?_; rintro e w' ⟨rfl, hw⟩; have hw2 := hw.symm; subst hw2)
                  | (go_at_call 22; refine (cPf HC4.out).mono ?_; rintro e w' ⟨rfl, hw⟩; have hw2 := hw.symm; subst hw2)
                  | (go_at_call 24; refine (cWk _ HC4.out.tabs).mono ?_; rintro e w6 ⟨rfl, hk6⟩; have HX6 := Lib.hid (HX4.out.kept hk6); clear hk6 cWk))
                go_ret
                exact ⟨rfl, HX6.out.kp⟩
end Go.Proofs.YthbfmdnibijapaaDoor
