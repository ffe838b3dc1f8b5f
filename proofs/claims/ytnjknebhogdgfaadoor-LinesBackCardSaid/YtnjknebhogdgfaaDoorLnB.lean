/-
  THE LAW LinesBack: k behind j leads to the same row; each motion by rows stands in its row; G of a row's number is there.
-/
import Derived.Test.YtnjknebhogdgfaaDoorLnM0
import Derived.Test.YtnjknebhogdgfaaDoorPl
set_option linter.unusedVariables false
namespace Go.Proofs.YtnjknebhogdgfaaDoor
open Go Go.RowKit

theorem ln_none {s : ByteArray} {t : List Int} {k : Nat} (hrs : rs s = t) (hd : Rw.dn t k 1 = none) : ans (Rw.to (rs s) k 106 0) (Rw.kd 106) = .tuple #[.agg #[.int .i64 0, .int .i64 0], .int .i64 6] := by
  rw [hrs]
  unfold Rw.to
  simp [hd, ans, tgt]
theorem ln_some {s : ByteArray} {t : List Int} {k y : Nat} (hrs : rs s = t) (hd : Rw.dn t k 1 = some y) : ans (Rw.to (rs s) k 106 0) (Rw.kd 106) = .tuple #[.agg #[.int .i64 (min (Rw.en t y) (y + (k - Rw.beg t k)) : Nat), .int .i64 2], .int .i64 0] := by
  rw [hrs]
  unfold Rw.to
  simp [hd, ans, tgt, Rw.kd]
theorem ln_up {s : ByteArray} {t : List Int} {x b : Nat} (hrs : rs s = t) (hd : Rw.up t x 1 = some b) : ans (Rw.to (rs s) x 107 0) (Rw.kd 107) = .tuple #[.agg #[.int .i64 (min (Rw.en t b) (b + (x - Rw.beg t x)) : Nat), .int .i64 2], .int .i64 0] := by
  rw [hrs]
  unfold Rw.to
  simp [hd, ans, tgt, Rw.kd]
theorem ln_go {s : ByteArray} {t : List Int} {k : Nat} (hrs : rs s = t) (hk : k ≤ t.length) (hl : Rw.nl t k + 1 ≤ 999) : ans (Rw.to (rs s) k 71 (Rw.nl t k + 1)) (Rw.kd 71) = .tuple #[.agg #[.int .i64 (Rw.fst t k : Nat), .int .i64 2], .int .i64 0] := by
  rw [hrs]
  unfold Rw.to
  simp [ans, tgt, Rw.kd, Rw.nth_nl t k hk]
theorem ln_first {s : ByteArray} {t : List Int} {k : Nat} (hrs : rs s = t) : ans (Rw.to (rs s) k 94 0) (Rw.kd 94) = .tuple #[.agg #[.int .i64 (Rw.fst t k : Nat), .int .i64 0], .int .i64 0] := by
  rw [hrs]
  rfl

theorem texts_none (w : World) : Calls Tryd.prog 45 #[.slice none 0 0] w fun e w' => e = .returned (.int .i64 0) ∧ w' = w := by
  go_enter Tryd.func45, Tryd.ntmps45
  go_wp2
  go_loop [3, 4] (fun m i => m = .int .i64 0 ∧ i = .int .i64 0) (fun _ _ => 0)
  case atStart => exact ⟨rfl, rfl⟩
  case round =>
    obtain ⟨rfl, rfl⟩ := hrel
    go_wp2
    go_ret
    exact ⟨rfl, rfl⟩
theorem heavy_none (w : World) : Calls Tryd.prog 30 #[.agg #[.slice none 0 0, .int .i64 0, .int .i64 0, .int .i64 0, .int .i64 0]] w fun e w' => e = .returned (.bool false) ∧ Kept (fun _ => False) w w' := by
  have cT := texts_none (w.alloc (.cells #[.slice none 0 0, .int .i64 0, .int .i64 0, .int .i64 0, .int .i64 0] 26))
  go_enter Tryd.func30, Tryd.ntmps30
  go_wp2_with (go_at_call 45; refine cT.mono ?_; rintro e w' ⟨rfl, rfl⟩)
  go_ret
  exact ⟨rfl, (Kept.refl _ w).alloc _⟩
set_option maxRecDepth 100000 in
set_option maxHeartbeats 4000000 in
theorem linesBack_any (p : AskV) (w : World) (hp : AskOk w p) (hT : Tabs w) : Calls Tryd.prog 7 #[.agg p.cells] w fun e w' => e = .returned (.bool true) ∧ Kept (fun _ => False) w w' := by
  have hK0 : Hid (Kept (fun _ => False) w (w.alloc (.cells p.cells 28))) := (Kept.refl _ w).alloc _
  have hH0 : Hid (Held (w.alloc (.cells p.cells 28)) w.heap.size p none 0 []) :=
    ⟨heap_alloc_new w _, hp.kept hK0.out, ⟨rfl, fun j x hj => by simp at hj⟩, hT.kept hK0.out id id⟩
  have cH := heavy10_any p (w.alloc (.cells p.cells 28)) hH0.out.ask
  clear hp hT
  obtain ⟨A, n0, c0, ss, xa, xb, xr, xc, xk, xn, xq⟩ := p
  unfold AskV.cells at *
  simp only at *
  go_enter Tryd.func7, Tryd.ntmps7
  go_wp2_with (go_at_call 21; refine cH.mono ?_; rintro e w1 ⟨⟨hv, rfl, hsm⟩, hk1⟩; have HS := Lib.hid hsm; have HK1 := Lib.hid (hK0.out.trans hk1); have HH := Lib.hid (hH0.out.kept hk1); clear hsm hk1 hH0 hK0 cH)
  · exact bodyPost_ret (results_tmp rfl _ _ _) rfl ⟨rfl, HK1.out⟩
  have hv0 : hv = false := by assumption
  subst hv0
  have hss : ∀ s ∈ ss, s.size ≤ 6000 := HS.out rfl
  have HSS := Lib.hid hss
  clear hss HS
  generalize hpb : w.heap.size = pb at HH ⊢
  clear hpb
  go_loopw [3] (fun v wr => ∃ i : Nat, i ≤ n0 ∧ i ≤ 4 ∧ v = .int .i64 i ∧ Kept (fun _ => False) w1 wr) (fun v _ => n0 - (intOf v).toNat)
  case atStart => exact ⟨0, Nat.zero_le _, Nat.zero_le _, rfl, Kept.refl _ _⟩
  case round =>
    obtain ⟨i, hi, hi4, rfl, hki⟩ := hrel
    obtain ⟨wi, hwi⟩ : ∃ wi, wi = wr := ⟨_, rfl⟩
    subst hwi
    have HKi := Lib.hid (HK1.out.trans hki)
    have HHi := Lib.hid (HH.out.kept hki)
    have HKW := Lib.hid hki
    clear hki
    have p0 : wi.cell? ⟨pb, 0, none⟩ = some (.slice A n0 c0) := HHi.out.pb.c 0
    by_cases hgo : i < n0 ∧ i < 4
    · obtain ⟨g1, g2⟩ := hgo
      obtain ⟨ad, s, rfl, hs, hsc, _⟩ := HHi.out.ask.ss.cell g1
      have hsz : s.size ≤ 6000 := HSS.out s (List.mem_of_getElem? hs)
      have hl := rs_len s
      clear hs
      obtain ⟨cap, w2, hcap, hcv, hk2, hlt2, hR⟩ := conv_rs s wi (by omega)
      generalize ht : rs s = t at *
      have HT2 := Lib.hid ht
      have HK2 := Lib.hid (HKi.out.trans hk2)
      have HKW2 := Lib.hid (HKW.out.trans hk2)
      have HH2 := Lib.hid (HHi.out.kept hk2)
      have HR := Lib.hid hR
      clear hk2 hR ht hcap hlt2
      generalize hrb : wi.heap.size = rb at HR hcv
      clear hrb
      have b1 : decide (i < n0) = true := by simp; omega
      have b2 : decide (i < 4) = true := by simp; omega
      have b3 : decide ((i : Int) < 4) = true := by simp; omega
      have cMay := rmay_any s w2 (by omega) HH2.out.tabs
      cases hm : mayB s with
      | false =>
        rw [hm] at cMay
        clear hm
        go_wp2_with (go_at_call 23; refine cMay.mono ?_; rintro e w3 ⟨rfl, hk3⟩)
        go_roundw
        case rel => exact ⟨i + 1, by omega, by omega, by go_num, HKW2.out.trans hk3⟩
        case measure => simp [intOf]; omega
      | true =>
        rw [hm] at cMay
        have HM := Lib.hid hm
        clear hm
        by_cases h200 : t.length ≤ 200
        · have c1 : decide ((200 : Int) < (t.length : Int)) = false := by simp; omega
          have c2 : decide (200 < t.length) = false := by simp; omega
          go_wp2_with (go_at_call 23; refine cMay.mono ?_; rintro e w3 ⟨rfl, hk3⟩)
          have HK3 := Lib.hid (HK2.out.trans hk3)
          have HKW3 := Lib.hid (HKW2.out.trans hk3)
          have HH3 := Lib.hid (HH2.out.kept hk3)
          have HR3 := Lib.hid (HR.out.kept hk3 (fun _ _ => id))
          clear hk3 cMay p0 hsc hcv HK2 HKW2 HH2 HR c1 c2
          go_loopw [6] (fun v wr => ∃ k : Nat, k ≤ t.length + 1 ∧ v = .int .i64 k ∧ Kept (fun _ => False) w3 wr) (fun v _ => t.length + 1 - (intOf v).toNat)
          case atStart => exact ⟨0, Nat.zero_le _, rfl, Kept.refl _ _⟩
          case round =>
            obtain ⟨k, hk, rfl, hkk⟩ := hrel
            obtain ⟨wk, hwk⟩ : ∃ wk, wk = wr := ⟨_, rfl⟩
            subst hwk
            have HKV := Lib.hid hkk
            have HTk := Lib.hid (HH3.out.kept hkk).tabs
            have HRk := Lib.hid (HR3.out.kept hkk (fun _ _ => id))
            clear hkk
            by_cases hkl : k ≤ t.length
            · have b5 : decide (k ≤ t.length) = true := by simp; omega
              have hnl := Rw.nl_le t k
              have hHL : Hid (k ≤ (rs s).length) := by show _ ≤ _; rw [HT2.out]; exact hkl
              have cP := rplace_any (some ⟨rb, 0, none⟩) t.length cap t k wk HRk.out hkl (by omega)
              have HG := Lib.hid (ln_go (k := k) HT2.out hkl (by omega))
              have HF := Lib.hid (ln_first (k := k) HT2.out)
              have hcast : ((Rw.nl t k + 1 : Nat) : Int) = (Rw.nl t k : Int) + 1 := by omega
              have HC := Lib.hid hcast
              clear hcast
              have hfst := Rw.fst_le t k hkl
              have hen := Rw.en_le t k hkl
              cases hd : Rw.dn t k 1 with
              | none =>
                have HJ := Lib.hid (ln_none HT2.out hd)
                clear hd
                have hT4 := fun w4 (hk4 : Kept (fun _ => False) wk w4) => HTk.out.kept hk4 id id
                generalize hrr : Rw.nl t k = r at *
                generalize Rw.fst t k = f at *
                go_wp2_with (go_at_call 28; refine cP.mono ?_; rintro e w4 ⟨rfl, hk4⟩; have hf4 := field_row w4 r (k - Rw.beg t k : Nat))
                have cJ := move_yes s k 0 106 w4 (hT4 w4 hk4) HM.out hHL.out (by omega) (by decide)
                rw [HJ.out] at cJ
                refine cJ.mono ?_
                rintro e w5 ⟨rfl, hk5⟩
                have HK5 := Lib.hid (hk4.trans hk5)
                clear cJ hk4 hk5 hf4
                go_wp2_with fail
                refine (num_any _ _).mono ?_
                rintro e w' ⟨rfl, rfl⟩
                have hmin : min ((r : Int) + 1) 999 = (r : Int) + 1 := by omega
                go_wp2_with fail
                clear hmin
                have hk6 : Kept (fun _ => False) wk (w5.alloc zeroT) := HK5.out.alloc _
                have cG := move_yes s k (r + 1) 71 (w5.alloc zeroT) (hT4 _ hk6) HM.out hHL.out (by omega) (by decide)
                rw [HG.out, HC.out] at cG
                refine cG.mono ?_
                rintro e w6 ⟨rfl, hk7⟩
                have HK7 := Lib.hid (hk6.trans hk7)
                clear cG hk6 hk7 HK5
                go_wp2_with fail
                have cF := move_yes s k 0 94 (w6.alloc (.cells #[.int .i64 (f : Nat), .int .i64 2] 42)) (hT4 _ (HK7.out.alloc _)) HM.out hHL.out (by omega) (by decide)
                rw [HF.out] at cF
                refine cF.mono ?_
                rintro e w7 ⟨rfl, hk8⟩
                have hgA : w7.cell? ⟨w6.heap.size, 0, none⟩ = some (.int .i64 (f : Nat)) := cell_kept hk8 (by rw [cell_of_row _ _ _ _ _ _ (heap_alloc_new w6 _)]; rfl) id
                have hgB : (w7.alloc (.cells #[.int .i64 (f : Nat), .int .i64 0] 42)).cell? ⟨w6.heap.size, 0, none⟩ = some (.int .i64 (f : Nat)) := cell_kept ((Kept.refl (fun _ => False) w7).alloc _) hgA id
                have HK8 := Lib.hid ((HK7.out.alloc (.cells #[.int .i64 (f : Nat), .int .i64 2] 42)).trans hk8)
                clear cF hk8 HK7
                go_wp2_with (go_at_call 26; refine (num_any _ _).mono ?_; rintro e w' ⟨rfl, rfl⟩)
                exact ⟨⟨k + 1, by omega, by go_num, HKV.out.trans (HK8.out.alloc _)⟩, by simp [intOf]; omega⟩
              | some y =>
                have HJ := Lib.hid (ln_some HT2.out hd)
                obtain ⟨hxl, hnx, hup, hzk, hnz⟩ := Rw.down_up t k y hkl hd
                have HU := Lib.hid (ln_up HT2.out hup)
                have hT4 := fun w4 (hk4 : Kept (fun _ => False) wk w4) => HTk.out.kept hk4 id id
                clear hd hup
                have hxx : Hid (min (Rw.en t y) (y + (k - Rw.beg t k)) ≤ (rs s).length) := by show _ ≤ _; rw [HT2.out]; exact hxl
                generalize min (Rw.en t y) (y + (k - Rw.beg t k)) = X at *
                generalize min (Rw.en t (Rw.beg t k)) (Rw.beg t k + (X - Rw.beg t X)) = Z at *
                have cPX := fun (W : World) (hR : Rn W (some ⟨rb, 0, none⟩) t.length t) => rplace_any (some ⟨rb, 0, none⟩) t.length cap t X W hR hxl (by omega)
                have cPZ := fun (W : World) (hR : Rn W (some ⟨rb, 0, none⟩) t.length t) => rplace_any (some ⟨rb, 0, none⟩) t.length cap t Z W hR (by omega) (by omega)
                rw [hnx] at cPX
                rw [hnz] at cPZ
                clear hnx hnz
                generalize hrr : Rw.nl t k = r at *
                generalize Rw.fst t k = f at *
                clear hrr
                go_wp2_with (go_at_call 28; refine cP.mono ?_; rintro e w4 ⟨rfl, hk4⟩; have hf4 := field_row w4 r (k - Rw.beg t k : Nat))
                have cJ := move_yes s k 0 106 w4 (hT4 w4 hk4) HM.out hHL.out (by omega) (by decide)
                rw [HJ.out] at cJ
                refine cJ.mono ?_
                rintro e w5 ⟨rfl, hk5⟩
                have HK5 := Lib.hid (hk4.trans hk5)
                clear cJ hk4 hk5 hf4 cP
                go_wp2_with fail
                refine (num_any _ _).mono ?_
                rintro e w' ⟨rfl, rfl⟩
                go_wp2_with fail
                have hk6 : Kept (fun _ => False) wk (w5.alloc (.cells #[.int .i64 (X : Nat), .int .i64 2] 42)) := HK5.out.alloc _
                have cU := move_yes s X 0 107 (w5.alloc (.cells #[.int .i64 (X : Nat), .int .i64 2] 42)) (hT4 _ hk6) HM.out hxx.out (by omega) (by decide)
                rw [HU.out] at cU
                refine cU.mono ?_
                rintro e w6 ⟨rfl, hk7⟩
                have hx0 : w6.cell? ⟨w5.heap.size, 0, none⟩ = some (.int .i64 (X : Nat)) := cell_kept hk7 (by rw [cell_of_row _ _ _ _ _ _ (heap_alloc_new w5 _)]; rfl) id
                have hx1 : (w6.alloc (.cells #[.int .i64 (Z : Nat), .int .i64 2] 42)).cell? ⟨w5.heap.size, 0, none⟩ = some (.int .i64 (X : Nat)) := cell_kept ((Kept.refl (fun _ => False) w6).alloc _) hx0 id
                have HK7 := Lib.hid (hk6.trans hk7)
                clear cU hk6 hk7 HK5
                go_wp2_with fail
                refine (num_any _ _).mono ?_
                rintro e w' ⟨rfl, rfl⟩
                go_wp2_with fail
                have hkA : Kept (fun _ => False) wk (w6.alloc (.cells #[.int .i64 (Z : Nat), .int .i64 2] 42)) := HK7.out.alloc _
                refine (cPX _ (HRk.out.kept hkA (fun _ _ => id))).mono ?_
                rintro e w7 ⟨rfl, hk8⟩
                have hfX := field_row w7 ((r : Int) + 1) (X - Rw.beg t X : Nat)
                have hz0 : w7.cell? ⟨w6.heap.size, 0, none⟩ = some (.int .i64 (Z : Nat)) := cell_kept hk8 (by rw [cell_of_row _ _ _ _ _ _ (heap_alloc_new w6 _)]; rfl) id
                have HK8 := Lib.hid (hkA.trans hk8)
                clear hkA hk8
                clear hx0 hx1
                go_wp2_with fail
                refine (cPZ _ (HRk.out.kept HK8.out (fun _ _ => id))).mono ?_
                rintro e w8 ⟨rfl, hk9⟩
                have hfZ := field_row w8 r (Z - Rw.beg t Z : Nat)
                have hz1 : w8.cell? ⟨w6.heap.size, 0, none⟩ = some (.int .i64 (Z : Nat)) := cell_kept hk9 hz0 id
                have HK9 := Lib.hid (HK8.out.trans hk9)
                have hmin : min ((r : Int) + 1) 999 = (r : Int) + 1 := by omega
                have hzk1 : decide (k < Z) = false := by simp; omega
                have hzk2 : decide ((k : Int) < (Z : Int)) = false := by simp; omega
                clear hk9 hfX hz0 HK8 HK7
                go_wp2_with fail
                clear hmin hz1 hfZ
                have cG := move_yes s k (r + 1) 71 w8 (hT4 _ HK9.out) HM.out hHL.out (by omega) (by decide)
                rw [HG.out, HC.out] at cG
                refine cG.mono ?_
                rintro e w9 ⟨rfl, hk7⟩
                have HK7 := Lib.hid (HK9.out.trans hk7)
                clear cG hk7 HK9
                go_wp2_with fail
                have cF := move_yes s k 0 94 (w9.alloc (.cells #[.int .i64 (f : Nat), .int .i64 2] 42)) (hT4 _ (HK7.out.alloc _)) HM.out hHL.out (by omega) (by decide)
                rw [HF.out] at cF
                refine cF.mono ?_
                rintro e w10 ⟨rfl, hk8⟩
                have hgA : w10.cell? ⟨w9.heap.size, 0, none⟩ = some (.int .i64 (f : Nat)) := cell_kept hk8 (by rw [cell_of_row _ _ _ _ _ _ (heap_alloc_new w9 _)]; rfl) id
                have hgB : (w10.alloc (.cells #[.int .i64 (f : Nat), .int .i64 0] 42)).cell? ⟨w9.heap.size, 0, none⟩ = some (.int .i64 (f : Nat)) := cell_kept ((Kept.refl (fun _ => False) w10).alloc _) hgA id
                have HK10 := Lib.hid ((HK7.out.alloc (.cells #[.int .i64 (f : Nat), .int .i64 2] 42)).trans hk8)
                clear cF hk8 HK7
                go_wp2_with (go_at_call 26; refine (num_any _ _).mono ?_; rintro e w' ⟨rfl, rfl⟩)
                exact ⟨⟨k + 1, by omega, by go_num, HKV.out.trans (HK10.out.alloc _)⟩, by simp [intOf]; omega⟩
            · have b5 : decide (k ≤ t.length) = false := by simp; omega
              go_wp2_with fail
              go_roundw
              case rel => exact ⟨i + 1, by omega, by omega, by go_num, HKW3.out.trans HKV.out⟩
              case measure => simp [intOf]; omega
        · have c1 : decide ((200 : Int) < (t.length : Int)) = true := by simp; omega
          have c2 : decide (200 < t.length) = true := by simp; omega
          go_wp2_with (go_at_call 23; refine cMay.mono ?_; rintro e w3 ⟨rfl, hk3⟩)
          go_roundw
          case rel => exact ⟨i + 1, by omega, by omega, by go_num, HKW2.out.trans hk3⟩
          case measure => simp [intOf]; omega
    · have hlast : (i = n0 ∧ i < 4) ∨ (i < n0 ∧ i = 4) ∨ (i = n0 ∧ i = 4) := by omega
      have cV := heavy_none wi
      have cW := fun w' (hk : Kept (fun _ => False) wi w') => wakes_any w' (HHi.out.tabs.kept hk id id)
      rcases hlast with ⟨h1, h2⟩ | ⟨h1, h2⟩ | ⟨h1, h2⟩
      case' inl | inr.inr => have b1 : decide (i < n0) = false := by simp; omega
      case' inr.inl =>
        have b1 : decide (i < n0) = true := by simp; omega
        have b2 : decide (i < 4) = false := by simp; omega
        have b3 : decide ((i : Int) < 4) = false := by simp; omega
      all_goals
        clear h1 h2
        go_wp2_with (go_at_call 30; refine cV.mono ?_; rintro e w8 ⟨rfl, hk8⟩)
        refine (cW w8 hk8).mono ?_
        rintro e w9 ⟨rfl, hk9⟩
        go_wp2_with fail
        go_ret
        exact ⟨rfl, HKi.out.trans (hk8.trans hk9)⟩
end Go.Proofs.YtnjknebhogdgfaaDoor
