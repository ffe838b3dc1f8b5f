/-
  THE LAW SeekStands, walked.
-/
import Derived.Test.YtfkcofnoccanbaaDoorSkS
set_option linter.unusedVariables false
namespace Go.Proofs.YtfkcofnoccanbaaDoor
open Go Go.RowKit

set_option maxRecDepth 100000 in
set_option maxHeartbeats 1000000 in
theorem seekStands_any (p : AskV) (w : World) (hp : AskOk w p) (hT : Tabs w) : Calls Tryd.prog 4 #[.agg p.cells] w fun e w' => e = .returned (.bool true) ∧ Kept (fun _ => False) w w' := by
  have hK0 : Hid (Kept (fun _ => False) w (w.alloc (.cells p.cells 28))) := (Kept.refl _ w).alloc _
  have hH0 : Hid (Held (w.alloc (.cells p.cells 28)) w.heap.size p) := ⟨heap_alloc_new w _, hp.kept hK0.out, hT.kept hK0.out id id⟩
  have cH := heavy10_any p (w.alloc (.cells p.cells 28)) hH0.out.ask
  clear hp hT
  obtain ⟨A, n0, c0, ss, xa, xb, xr, xc, xk, xn, xq⟩ := p
  unfold AskV.cells at *
  simp only at *
  go_enter Tryd.func4, Tryd.ntmps4
  go_wp2_with (go_at_call 7; refine cH.mono ?_; rintro e w1 ⟨⟨hv, rfl, hsm⟩, hk1⟩; have HS := Lib.hid hsm; have HK1 := Lib.hid (hK0.out.trans hk1); have HH := Lib.hid (hH0.out.kept hk1); clear hsm hk1 hH0 hK0 cH)
  · exact bodyPost_ret (results_tmp rfl _ _ _) rfl ⟨rfl, HK1.out⟩
  have hv0 : hv = false := by assumption
  subst hv0
  have hss : ∀ s ∈ ss, s.size ≤ 6000 := HS.out rfl
  have HSS := Lib.hid hss
  clear hss HS
  generalize hpb : w.heap.size = pb at HH ⊢
  clear hpb
  go_loopw [3] (fun v wr => ∃ i : Nat, i ≤ n0 ∧ i ≤ 4 ∧ v = .int .i64 i ∧ Kept (fun _ => False) w1 wr) (fun v _ => n0 - (intOf v).toNat)
  case atStart => exact ⟨0, Nat.zero_le _, Nat.zero_le _, rfl, Kept.refl _ _⟩
  case round =>
    obtain ⟨i, hi, hi4, rfl, hki⟩ := hrel
    obtain ⟨wi, hwi⟩ : ∃ wi, wi = wr := ⟨_, rfl⟩
    subst hwi
    have HKi := Lib.hid (HK1.out.trans hki)
    have HHi := Lib.hid (HH.out.kept hki)
    have HKW := Lib.hid hki
    clear hki
    have p0 : wi.cell? ⟨pb, 0, none⟩ = some (.slice A n0 c0) := HHi.out.pb.c 0
    by_cases hgo : i < n0 ∧ i < 4
    · obtain ⟨g1, g2⟩ := hgo
      obtain ⟨ad, s, rfl, hs, hsc, _⟩ := HHi.out.ask.ss.cell g1
      have hsz : s.size ≤ 6000 := HSS.out s (List.mem_of_getElem? hs)
      have HSI := Lib.hid hs
      have hl := rs_len s
      clear hs
      obtain ⟨cap, w2, hcap, hcv, hk2, hlt2, hR⟩ := conv_rs s wi (by omega)
      generalize ht : rs s = t at *
      have HT2 := Lib.hid ht
      have HK2 := Lib.hid (HKi.out.trans hk2)
      have HKW2 := Lib.hid (HKW.out.trans hk2)
      have HH2 := Lib.hid (HHi.out.kept hk2)
      have HR := Lib.hid hR
      clear hk2 hR ht hcap hlt2
      generalize hrb : wi.heap.size = rb at HR hcv
      clear hrb
      have b1 : decide (i < n0) = true := by simp; omega
      have b2 : decide (i < 4) = true := by simp; omega
      have b3 : decide ((i : Int) < 4) = true := by simp; omega
      have p2 : w2.cell? ⟨pb, 0, none⟩ = some (.slice (some ad) n0 c0) := HH2.out.pb.c 0
      have s2 := HH2.out.str rfl HSI.out
      have cMay := rmay_any s w2 (by omega) HH2.out.tabs
      cases hm : mayB s with
      | false =>
        rw [hm] at cMay
        clear hm
        go_wp2_with (go_at_call 10; refine cMay.mono ?_; rintro e w3 ⟨rfl, hk3⟩)
        go_roundw
        case rel => exact ⟨i + 1, by omega, by omega, by go_num, HKW2.out.trans hk3⟩
        case measure => simp [intOf]; omega
      | true =>
        rw [hm] at cMay
        have HM := Lib.hid hm
        have HRY := Lib.hid (rs_runey (mayB_valid hm))
        rw [HT2.out] at HRY
        clear hm
        by_cases h200 : t.length ≤ 200
        · have c1 : decide ((200 : Int) < (t.length : Int)) = false := by simp; omega
          have c2 : decide (200 < t.length) = false := by simp; omega
          go_wp2_with (go_at_call 10; refine cMay.mono ?_; rintro e w3 ⟨rfl, hk3⟩)
          have HK3 := Lib.hid (HK2.out.trans hk3)
          have HKW3 := Lib.hid (HKW2.out.trans hk3)
          have HH3 := Lib.hid (HH2.out.kept hk3)
          have HR3 := Lib.hid (HR.out.kept hk3 (fun _ _ => id))
          clear hk3 cMay p0 hsc hcv HK2 HKW2 HH2 HR c1 c2 p2 s2
          go_loopw [5] (fun v wr => ∃ k : Nat, k ≤ t.length ∧ v = .int .i64 k ∧ Kept (fun _ => False) w3 wr) (fun v _ => t.length + 1 - (intOf v).toNat)
          case atStart => exact ⟨0, Nat.zero_le _, rfl, Kept.refl _ _⟩
          case round =>
            obtain ⟨k, hk, rfl, hkk⟩ := hrel
            obtain ⟨wk, hwk⟩ : ∃ wk, wk = wr := ⟨_, rfl⟩
            subst hwk
            have HKV := Lib.hid hkk
            have HHk := Lib.hid (HH3.out.kept hkk)
            have HRk := Lib.hid (HR3.out.kept hkk (fun _ _ => id))
            clear hkk
            by_cases hkl : k + 1 < t.length
            · have b5 : decide (k + 1 < t.length) = true := by simp; omega
              have b6 : decide ((k : Int) + 1 < (t.length : Int)) = true := by simp; omega
              have hHL : Hid (k ≤ (rs s).length) := by show _ ≤ _; rw [HT2.out]; omega
              have hHL2 : Hid (k + 1 ≤ (rs s).length) := by show _ ≤ _; rw [HT2.out]; omega
              obtain ⟨a, hta⟩ : ∃ a, t[k]? = some a := ⟨_, List.getElem?_eq_getElem (by omega)⟩
              obtain ⟨b, htb⟩ : ∃ b, t[k + 1]? = some b := ⟨_, List.getElem?_eq_getElem hkl⟩
              obtain ⟨ra1, ra2⟩ := HRY.out.at_ hta
              obtain ⟨rb1, rb2⟩ := HRY.out.at_ htb
              have x1 := HRk.out.at_ hta
              have x2 := HRk.out.at_ htb
              have x3 : wk.cell? ⟨pb, 0, none⟩ = some (.slice (some ad) n0 c0) := HHk.out.pb.c 0
              have x4 := HHk.out.str rfl HSI.out
              have HA := Lib.hid hta
              have HB := Lib.hid htb
              have cF := pf102_any s k 1 b wk HHk.out.tabs HM.out hHL.out (by decide) (by decide)
              clear hta htb
              have hten : (a = 10 ∨ (a ≠ 10 ∧ b = 10)) ∨ (a ≠ 10 ∧ b ≠ 10) := by omega
              rcases hten with hten | ⟨hna, hnb⟩
              · have hor : t[k]? = some 10 ∨ t[k + 1]? = some 10 := by
                  rcases hten with h | ⟨_, h⟩
                  · exact .inl (by rw [HA.out, h])
                  · exact .inr (by rw [HB.out, h])
                have hno := sk_no b hkl hor
                have cT := fun w4 hT4 => pf116_any s k 1 b w4 hT4 HM.out hHL.out (by decide) (by decide)
                rw [HT2.out, hno.1, show ansI none = .tuple #[.int .i64 0, .int .i64 6] from rfl] at cF
                rw [HT2.out, hno.2, show ansI none = .tuple #[.int .i64 0, .int .i64 6] from rfl] at cT
                clear hno hor
                go_wp2_with (go_at_call 9; refine cF.mono ?_; rintro e w4 ⟨hk4, rfl⟩; have y1 := cell_kept hk4 x1 id; have y2 := cell_kept hk4 x2 id; have y3 := cell_kept hk4 x3 id; have y4 := cell_kept hk4 x4 id; clear x1 x2 x3 x4 cF)
                refine (cT w4 (HHk.out.tabs.kept hk4 id id)).mono ?_
                rintro e w5 ⟨hk5, rfl⟩
                have z1 := cell_kept hk5 y1 id
                have z2 := cell_kept hk5 y2 id
                have HK5 := Lib.hid (hk4.trans hk5)
                clear hk4 hk5 y1 y2 y3 y4 cT
                rcases hten with rfl | ⟨hna, rfl⟩
                case' inr =>
                  have e1 : (a == 10) = false := by rw [beq_eq_false_iff_ne]; exact hna
                  clear hna
                all_goals
                  go_wp2_with (go_at_call 14; refine (num_any _ _).mono ?_; rintro e w' ⟨rfl, rfl⟩)
                  exact ⟨⟨k + 1, by omega, by go_num, HKV.out.trans HK5.out⟩, by simp [intOf]; omega⟩
              · have hy := sk_yes HA.out HB.out hna hnb
                have cT := fun w4 hT4 => pf116_any s k 1 b w4 hT4 HM.out hHL.out (by decide) (by decide)
                have cG := fun w4 hT4 => pf70_any s (k + 1) 1 a w4 hT4 HM.out hHL2.out (by decide) (by decide)
                rw [HT2.out, hy.1] at cF
                rw [HT2.out, hy.2.1] at cT
                rw [HT2.out, hy.2.2, show ((k + 1 : Nat) : Int) = (k : Int) + 1 by omega, show ((1 : Nat) : Int) = 1 from rfl] at cG
                have e1 : (a == 10) = false := by rw [beq_eq_false_iff_ne]; exact hna
                have e2 : (b == 10) = false := by rw [beq_eq_false_iff_ne]; exact hnb
                clear hy hna hnb
                go_wp2_with (go_at_call 9; refine cF.mono ?_; rintro e w4 ⟨hk4, rfl⟩; have y1 := cell_kept hk4 x1 id; have y2 := cell_kept hk4 x2 id; have y3 := cell_kept hk4 x3 id; have y4 := cell_kept hk4 x4 id; clear x1 x2 x3 x4 cF)
                refine (cT w4 (HHk.out.tabs.kept hk4 id id)).mono ?_
                rintro e w5 ⟨hk5, rfl⟩
                have z1 := cell_kept hk5 y1 id
                have z2 := cell_kept hk5 y2 id
                have z3 := cell_kept hk5 y3 id
                have z4 := cell_kept hk5 y4 id
                have HK5 := Lib.hid (hk4.trans hk5)
                clear hk4 hk5 y1 y2 y3 y4 cT
                go_wp2_with (go_at_call 14; refine (num_any _ _).mono ?_; rintro e w' ⟨rfl, rfl⟩)
                go_outline
                have hTe := HHk.out.tabs.kept HK5.out id id
                have hTd : Tabs w'.drew := hTe
                clear hTe
                have s1 : IntKind.i64.wrap ((k : Int) + 1) = (k : Int) + 1 := IntWalk.i64_in _ (by omega)
                have s2 : (0 : Int) ≤ (k : Int) := by omega
                have s3 : (k : Int) < (t.length : Int) := by omega
                have s4 : (i : Int) < (n0 : Int) := by omega
                have s5 : (0 : Int) ≤ (i : Int) := by omega
                have s6 : IntKind.i64.wrap a = a := IntWalk.i64_in _ (by omega)
                go_region_held3 (fun w' => w'.cell? ⟨pb, 0, none⟩ = some (.slice (some ad) n0 c0) ∧ w'.cell? (ad.add i) = some (.string s) ∧ w'.cell? ⟨rb, k, none⟩ = some (.int .i32 a)) (first | exact ⟨z3, z4, z1⟩ | exact ⟨cell_kept hk6 z3 id, cell_kept hk6 z4 id, cell_kept hk6 z1 id⟩ | go_keep)
                  ((go_at_call 9; refine (cG _ hTd).mono ?_; rintro e w6 ⟨hk6, rfl⟩))
                have HK6 := Lib.hid (HK5.out.drew.trans hk6)
                clear s1 s2 s3 s4 s5 s6 hk6 cG
                go_wp2_with (go_at_call 14; refine (num_any _ _).mono ?_; rintro e w9 ⟨rfl, rfl⟩)
                exact ⟨⟨k + 1, by omega, by go_num, HKV.out.trans HK6.out⟩, by simp [intOf]; omega⟩
            · have b5 : decide (k + 1 < t.length) = false := by simp; omega
              have b6 : decide ((k : Int) + 1 < (t.length : Int)) = false := by simp; omega
              go_wp2_with fail
              go_roundw
              case rel => exact ⟨i + 1, by omega, by omega, by go_num, HKW3.out.trans HKV.out⟩
              case measure => simp [intOf]; omega
        · have c1 : decide ((200 : Int) < (t.length : Int)) = true := by simp; omega
          have c2 : decide (200 < t.length) = true := by simp; omega
          go_wp2_with (go_at_call 10; refine cMay.mono ?_; rintro e w3 ⟨rfl, hk3⟩)
          go_roundw
          case rel => exact ⟨i + 1, by omega, by omega, by go_num, HKW2.out.trans hk3⟩
          case measure => simp [intOf]; omega
    · have hlast : (i = n0 ∧ i < 4) ∨ (i < n0 ∧ i = 4) ∨ (i = n0 ∧ i = 4) := by omega
      have cV := heavy_none wi
      have cW := fun w' (hk : Kept (fun _ => False) wi w') => wakes_any w' (HHi.out.tabs.kept hk id id)
      rcases hlast with ⟨h1, h2⟩ | ⟨h1, h2⟩ | ⟨h1, h2⟩
      case' inl | inr.inr => have b1 : decide (i < n0) = false := by simp; omega
      case' inr.inl =>
        have b1 : decide (i < n0) = true := by simp; omega
        have b2 : decide (i < 4) = false := by simp; omega
        have b3 : decide ((i : Int) < 4) = false := by simp; omega
      all_goals
        clear h1 h2
        go_wp2_with (go_at_call 18; refine cV.mono ?_; rintro e w8 ⟨rfl, hk8⟩)
        refine (cW w8 hk8).mono ?_
        rintro e w9 ⟨rfl, hk9⟩
        go_wp2_with fail
        go_ret
        exact ⟨rfl, HKi.out.trans (hk8.trans hk9)⟩
end Go.Proofs.YtfkcofnoccanbaaDoor
