/-
  THE LAW MoveGoes: where any motion leads, whichever it is, and what is sought then, is the reference's.
-/
import Derived.Test.YteibebhlfhmlaaaDoorZMs
import Derived.Deep.RegionHeld3
import Derived.Deep.CutRange
set_option linter.unusedVariables false
namespace Go.Proofs.YteibebhlfhmlaaaDoor
open Go Go.RowKit

theorem abcd_one : Rw.wmv (rs abcd) 0 119 1 = some 3 := by
  rw [abcd_rs]
  rfl
set_option maxRecDepth 100000 in
set_option maxHeartbeats 1000000 in
theorem wakes16_any (w : World) (hT : Tabs w) : Calls Tryd.prog 8 #[] w fun e w' => e = .returned (.bool true) ∧ Kept (fun _ => False) w w' := by
  have hgo : Rw.goM (rs abcd) 0 119 0 0 0 0 [] = some (3, 0, 0, 0) := by
    unfold Rw.goM
    rw [if_pos (by decide), show Rw.times 0 = 1 by decide, abcd_one]
    rfl
  have cG := pgo_yes abcd 0 0 0 0 119 0 0 0 0 none 0 0 [] w hT abcd_may (by omega) (by omega) (.inl rfl) ⟨rfl, fun i r h => by simp at h⟩ (by omega) (fun i x y h => by simp at h) (by decide)
  rw [hgo] at cG
  unfold goV tgt abcd at cG
  simp only at cG
  clear hT hgo
  go_enter Tryd.func8, Tryd.ntmps8
  go_wp2_with (first | (go_at_call 10; refine cG.mono ?_; rintro e w1 ⟨rfl, hk1⟩) | (go_at_call 11; refine (num16_any _ _).mono ?_; rintro e w' ⟨rfl, hw⟩; have hw2 := hw.symm; subst hw2))
  go_ret
  exact ⟨rfl, (hk1.alloc _).alloc _⟩
/-- A row of six numbers. -/
theorem Rws.six {w : World} {A : Option Addr} {n : Nat} {rows : List (List Int)} (h : Rws w A n 6 rows) {i : Nat} (hi : i < n) : ∃ ad c0 c1 c2 c3 c4 c5, A = some ad ∧ rows[i]? = some [c0, c1, c2, c3, c4, c5] ∧ w.cell? (ad.add (i * 6)) = some (.int .i64 c0) ∧
    w.cell? ⟨(ad.add (i * 6)).block, (ad.add (i * 6)).off + 1, none⟩ = some (.int .i64 c1) ∧ w.cell? ⟨(ad.add (i * 6)).block, (ad.add (i * 6)).off + 2, none⟩ = some (.int .i64 c2) ∧ w.cell? ⟨(ad.add (i * 6)).block, (ad.add (i * 6)).off + 3, none⟩ = some (.int .i64 c3) ∧
    w.cell? ⟨(ad.add (i * 6)).block, (ad.add (i * 6)).off + 4, none⟩ = some (.int .i64 c4) ∧ w.cell? ⟨(ad.add (i * 6)).block, (ad.add (i * 6)).off + 5, none⟩ = some (.int .i64 c5) := by
  obtain ⟨ad, r, e, hr, hl, _, hc⟩ := h.row hi
  match r, hl with
  | [c0, c1, c2, c3, c4, c5], _ =>
    have h0 := hc 0 c0 rfl
    have h1 := hc 1 c1 rfl
    have h2 := hc 2 c2 rfl
    have h3 := hc 3 c3 rfl
    have h4 := hc 4 c4 rfl
    have h5 := hc 5 c5 rfl
    rw [addr_far _ _ (by omega)] at h1 h2 h3 h4 h5
    exact ⟨ad, c0, c1, c2, c3, c4, c5, e, hr, by simpa [Addr.add] using h0, h1, h2, h3, h4, h5⟩
set_option maxRecDepth 100000 in
set_option maxHeartbeats 4000000 in
theorem moveGoes_any (p : AskM) (w : World) (hp : AskMOk w p) (hT : Tabs w) :
    Calls Tryd.prog 3 #[.agg p.cells] w fun e w' => e = .returned (.bool true) ∧ Kept (fun _ => False) w w' := by
  have hK0 : Hid (Kept (fun _ => False) w (w.alloc (.cells p.cells 34))) := (Kept.refl _ w).alloc _
  have hH0 : Hid (HeldM (w.alloc (.cells p.cells 34)) w.heap.size p) := ⟨heap_alloc_new w _, hp.kept hK0.out⟩
  have HT0 := Lib.hid (hT.kept hK0.out id id)
  have cH := heavy16_any p (w.alloc (.cells p.cells 34)) hH0.out.ask
  clear hp hT
  obtain ⟨⟨A, n0, c0, ss, xa, xb, xr, xc, xk, xn, xq⟩, B, bn, bc, cmds, k1, k2, M, mn, mc, marks⟩ := p
  unfold AskM.cells at *
  simp only at *
  go_enter Tryd.func3, Tryd.ntmps3
  go_wp2_with (go_at_call 5; refine cH.mono ?_; rintro e w1 ⟨⟨hv, rfl, hsm⟩, hk1⟩; have HS := Lib.hid hsm; have HK1 := Lib.hid (hK0.out.trans hk1); have HH := Lib.hid (hH0.out.kept hk1); have HT1 := Lib.hid (HT0.out.kept hk1 id id); clear hsm hk1 hH0 hK0 cH HT0)
  · exact bodyPost_ret (results_tmp rfl _ _ _) rfl ⟨rfl, HK1.out⟩
  have hv0 : hv = false := by assumption
  subst hv0
  have hss : (∀ s ∈ ss, s.size ≤ 6000) ∧ bn + mn ≤ 200 := HS.out rfl
  have HSS := Lib.hid hss.1
  obtain ⟨_, hbm⟩ := hss
  clear HS
  generalize hpb : w.heap.size = pb at HH ⊢
  clear hpb
  go_loopw [3] (fun v wr => ∃ i : Nat, i ≤ n0 ∧ i ≤ 3 ∧ v = .int .i64 i ∧ Kept (fun _ => False) w1 wr) (fun v _ => n0 - (intOf v).toNat)
  case atStart => exact ⟨0, Nat.zero_le _, Nat.zero_le _, rfl, Kept.refl _ _⟩
  case round =>
    obtain ⟨i, hi, hi4, rfl, hki⟩ := hrel
    obtain ⟨wi, hwi⟩ : ∃ wi, wi = wr := ⟨_, rfl⟩
    subst hwi
    have HKW := Lib.hid hki
    clear hki
    have p0 : wi.cell? ⟨pb, 0, none⟩ = some (.slice A n0 c0) := (HH.out.kept HKW.out).pb.c 0
    by_cases hgo : i < n0 ∧ i < 3
    · obtain ⟨g1, g2⟩ := hgo
      obtain ⟨ad, s, rfl, hs, hsc, _⟩ := (HH.out.kept HKW.out).ask.w.ss.cell g1
      have hsz : s.size ≤ 6000 := HSS.out s (List.mem_of_getElem? hs)
      have hl := rs_len s
      clear hs
      obtain ⟨cap, w2, hcap, hcv, hk2, hlt2, hR⟩ := conv_rs s wi (by omega)
      generalize ht : rs s = t at *
      have HT2 := Lib.hid ht
      have HKW2 := Lib.hid (HKW.out.trans hk2)
      have HR := Lib.hid hR
      have HH2 := Lib.hid (HH.out.kept HKW2.out)
      have q0 : w2.cell? ⟨pb, 0, none⟩ = some (.slice (some ad) n0 c0) := HH2.out.pb.c 0
      have q1 : w2.cell? ⟨pb, 1, none⟩ = some (.int .i64 xa) := HH2.out.pb.c 1
      have q2 : w2.cell? ⟨pb, 2, none⟩ = some (.int .i64 xb) := HH2.out.pb.c 2
      have q3 : w2.cell? ⟨pb, 3, none⟩ = some (.int .i64 xr) := HH2.out.pb.c 3
      have q4 : w2.cell? ⟨pb, 4, none⟩ = some (.int .i64 xc) := HH2.out.pb.c 4
      have q5 : w2.cell? ⟨pb, 5, none⟩ = some (.int .i64 xk) := HH2.out.pb.c 5
      have q6 : w2.cell? ⟨pb, 6, none⟩ = some (.int .i64 xn) := HH2.out.pb.c 6
      have q7 : w2.cell? ⟨pb, 7, none⟩ = some (.int .i64 xq) := HH2.out.pb.c 7
      clear hk2 hR ht hcap hlt2
      generalize hrb : wi.heap.size = rb at HR hcv
      clear hrb
      have cO := offsets_any ⟨some ad, n0, c0, ss, xa, xb, xr, xc, xk, xn, xq⟩ (some ⟨rb, 0, none⟩) t.length cap w2 HH2.out.ask.w.xa (by omega)
      unfold AskV.cells at cO
      simp only at cO
      have b1 : decide (i < n0) = true := by simp; omega
      have b2 : decide (i < 3) = true := by simp; omega
      have b3 : decide ((i : Int) < 3) = true := by simp; omega
      go_wp2_with (go_at_call 6; refine cO.mono ?_; rintro e w3 ⟨hk3, Xa, m, c', xs, rfl, hxs, hm15, hx64⟩; have HKW3 := Lib.hid (HKW2.out.trans hk3); have HR3 := Lib.hid (HR.out.kept hk3 (fun _ _ => id)); have HX3 := Lib.hid hxs; clear hk3 hxs hx64 q0 q1 q2 q3 q4 q5 q6 q7 cO hcv HH2 HR HKW2 p0 hsc)
      clear b1 b2 b3
      go_loopw [7] (fun v wr => ∃ j : Nat, j ≤ m ∧ j ≤ 8 ∧ v = .int .i64 j ∧ Kept (fun _ => False) w3 wr) (fun v _ => m - (intOf v).toNat)
      case atStart => exact ⟨0, Nat.zero_le _, Nat.zero_le _, rfl, Kept.refl _ _⟩
      case round =>
        obtain ⟨j, hj, hj8, rfl, hkj⟩ := hrel
        obtain ⟨wj, hwj⟩ : ∃ wj, wj = wr := ⟨_, rfl⟩
        subst hwj
        have HKJ := Lib.hid hkj
        clear hkj
        by_cases hgj : j < m ∧ j < 8
        · obtain ⟨j1, j2⟩ := hgj
          obtain ⟨xa', x, rfl, hx, _⟩ := HX3.out.cell j1
          have HXJ := Lib.hid hx
          clear hx
          have b1 : decide (j < m) = true := by simp; omega
          have b2 : decide (j < 8) = true := by simp; omega
          have b3 : decide ((j : Int) < 8) = true := by simp; omega
          go_wp2_with fail
          clear b1 b2 b3
          go_loopw [8] (fun v wr => ∃ k : Nat, k ≤ bn ∧ k ≤ 12 ∧ v = .int .i64 k ∧ Kept (fun _ => False) wj wr) (fun v _ => bn - (intOf v).toNat)
          case atStart => exact ⟨0, Nat.zero_le _, Nat.zero_le _, rfl, Kept.refl _ _⟩
          case round =>
            obtain ⟨k, hk, hk12, rfl, hkk⟩ := hrel
            obtain ⟨wk, hwk⟩ : ∃ wk, wk = wr := ⟨_, rfl⟩
            subst hwk
            have HKK := Lib.hid hkk
            have HKV := Lib.hid (HKJ.out.trans hkk)
            clear hkk
            have HHK := Lib.hid (HH.out.kept (HKW3.out.trans HKV.out))
            have r8 : wk.cell? ⟨pb, 8, none⟩ = some (.slice B bn bc) := HHK.out.pb.c 8
            by_cases hgk : k < bn ∧ k < 12
            · obtain ⟨l1, l2⟩ := hgk
              have b1 : decide (k < bn) = true := by simp; omega
              have b2 : decide (k < 12) = true := by simp; omega
              have b3 : decide ((k : Int) < 12) = true := by simp; omega
              obtain ⟨cad, e0, e1, e2, e3, e4, e5, rfl, _, s0, s1, s2, s3, s4, s5⟩ := HHK.out.ask.cmds.six l1
              have r9 : wk.cell? ⟨pb, 9, none⟩ = some (.int .i64 k1) := HHK.out.pb.c 9
              have r10 : wk.cell? ⟨pb, 10, none⟩ = some (.int .i64 k2) := HHK.out.pb.c 10
              have r11 : wk.cell? ⟨pb, 11, none⟩ = some (.slice M mn mc) := HHK.out.pb.c 11
              have f1 : wk.cell? (xa'.add j) = some (.int .i64 x) := by
                obtain ⟨ad1, e1, h1⟩ := (HX3.out.kept HKV.out (fun _ _ => id)).2 j x HXJ.out
                injection e1 with e1
                subst e1
                exact h1
              have t1 : (0 : Int) ≤ (j : Int) := by omega
              have t2 : (j : Int) < (m : Int) := by omega
              have t3 : (0 : Int) ≤ (k : Int) := by omega
              have t4 : (k : Int) < (bn : Int) := by omega
              have hTd : Tabs wk.drew := HT1.out.kept ((HKW3.out.trans HKV.out).drew) id id
              have cOne := one_any s (some ⟨rb, 0, none⟩) cap t x e0 e1 e2 e3 e4 e5 k1 k2 M mn mc marks wk.drew hsz HT2.out (HR3.out.kept HKV.out.drew (fun _ _ => id)) hTd (HHK.out.ask.marks.kept (Kept.refl (fun _ => False) wk).drew (fun _ _ => id)) (by omega)
              have HSA : Hid (∀ w' : World, Kept (fun _ => False) wk w' → w'.cell? (xa'.add j) = some (.int .i64 x) ∧ w'.cell? ⟨pb, 8, none⟩ = some (.slice (some cad) bn bc) ∧ w'.cell? ⟨pb, 9, none⟩ = some (.int .i64 k1) ∧ w'.cell? ⟨pb, 10, none⟩ = some (.int .i64 k2) ∧ w'.cell? ⟨pb, 11, none⟩ = some (.slice M mn mc) ∧ w'.cell? (cad.add (k * 6)) = some (.int .i64 e0) ∧ w'.cell? ⟨(cad.add (k * 6)).block, (cad.add (k * 6)).off + 1, none⟩ = some (.int .i64 e1) ∧ w'.cell? ⟨(cad.add (k * 6)).block, (cad.add (k * 6)).off + 2, none⟩ = some (.int .i64 e2) ∧ w'.cell? ⟨(cad.add (k * 6)).block, (cad.add (k * 6)).off + 3, none⟩ = some (.int .i64 e3) ∧ w'.cell? ⟨(cad.add (k * 6)).block, (cad.add (k * 6)).off + 4, none⟩ = some (.int .i64 e4) ∧ w'.cell? ⟨(cad.add (k * 6)).block, (cad.add (k * 6)).off + 5, none⟩ = some (.int .i64 e5)) := by
                show ∀ w' : World, Kept (fun _ => False) wk w' → _
                intro w' h
                exact ⟨cell_kept h f1 id, cell_kept h r8 id, cell_kept h r9 id, cell_kept h r10 id, cell_kept h r11 id, cell_kept h s0 id, cell_kept h s1 id, cell_kept h s2 id, cell_kept h s3 id, cell_kept h s4 id, cell_kept h s5 id⟩
              go_upto_region 15 with fail
              clear b1 b2 b3
              go_region_held3 (fun (w' : World) => w'.cell? (xa'.add j) = some (.int .i64 x) ∧ w'.cell? ⟨pb, 8, none⟩ = some (.slice (some cad) bn bc) ∧ w'.cell? ⟨pb, 9, none⟩ = some (.int .i64 k1) ∧ w'.cell? ⟨pb, 10, none⟩ = some (.int .i64 k2) ∧ w'.cell? ⟨pb, 11, none⟩ = some (.slice M mn mc) ∧ w'.cell? (cad.add (k * 6)) = some (.int .i64 e0) ∧ w'.cell? ⟨(cad.add (k * 6)).block, (cad.add (k * 6)).off + 1, none⟩ = some (.int .i64 e1) ∧ w'.cell? ⟨(cad.add (k * 6)).block, (cad.add (k * 6)).off + 2, none⟩ = some (.int .i64 e2) ∧ w'.cell? ⟨(cad.add (k * 6)).block, (cad.add (k * 6)).off + 3, none⟩ = some (.int .i64 e3) ∧ w'.cell? ⟨(cad.add (k * 6)).block, (cad.add (k * 6)).off + 4, none⟩ = some (.int .i64 e4) ∧ w'.cell? ⟨(cad.add (k * 6)).block, (cad.add (k * 6)).off + 5, none⟩ = some (.int .i64 e5)) (first | with_reducible exact HSA.out _ (Kept.refl (fun _ => False) wk) | with_reducible exact HSA.out _ (Kept.refl (fun _ => False) wk).drew | with_reducible exact HSA.out _ ((Kept.refl (fun _ => False) wk).drew.trans hk8) | go_keep)
                ((go_at_call 7; refine cOne.mono ?_; rintro e w8 ⟨rfl, hk8⟩))
              go_wp2_with fail
              go_roundw
              case rel => exact ⟨k + 1, by omega, by omega, by go_num, HKK.out.trans ((Kept.refl (fun _ => False) wk).drew.trans hk8)⟩
              case measure => simp [intOf]; omega
            · have hlast : (k = bn ∧ k < 12) ∨ (k < bn ∧ k = 12) ∨ (k = bn ∧ k = 12) := by omega
              rcases hlast with ⟨h1, h2⟩ | ⟨h1, h2⟩ | ⟨h1, h2⟩
              case' inl | inr.inr => have b1 : decide (k < bn) = false := by simp; omega
              case' inr.inl =>
                have b1 : decide (k < bn) = true := by simp; omega
                have b2 : decide (k < 12) = false := by simp; omega
                have b3 : decide ((k : Int) < 12) = false := by simp; omega
              all_goals
                clear h1 h2
                go_wp2_with fail
                go_roundw
                case rel => exact ⟨j + 1, by omega, by omega, by go_num, HKV.out⟩
                case measure => simp [intOf]; omega
        · have hlast : (j = m ∧ j < 8) ∨ (j < m ∧ j = 8) ∨ (j = m ∧ j = 8) := by omega
          rcases hlast with ⟨h1, h2⟩ | ⟨h1, h2⟩ | ⟨h1, h2⟩
          case' inl | inr.inr => have b1 : decide (j < m) = false := by simp; omega
          case' inr.inl =>
            have b1 : decide (j < m) = true := by simp; omega
            have b2 : decide (j < 8) = false := by simp; omega
            have b3 : decide ((j : Int) < 8) = false := by simp; omega
          all_goals
            clear h1 h2
            go_wp2_with fail
            go_roundw
            case rel => exact ⟨i + 1, by omega, by omega, by go_num, HKW3.out.trans HKJ.out⟩
            case measure => simp [intOf]; omega
    · have hlast : (i = n0 ∧ i < 3) ∨ (i < n0 ∧ i = 3) ∨ (i = n0 ∧ i = 3) := by omega
      have cW := wakes16_any wi (HT1.out.kept HKW.out id id)
      rcases hlast with ⟨h1, h2⟩ | ⟨h1, h2⟩ | ⟨h1, h2⟩
      case' inl | inr.inr => have b1 : decide (i < n0) = false := by simp; omega
      case' inr.inl =>
        have b1 : decide (i < n0) = true := by simp; omega
        have b2 : decide (i < 3) = false := by simp; omega
        have b3 : decide ((i : Int) < 3) = false := by simp; omega
      all_goals
        clear h1 h2
        go_wp2_with (go_at_call 8; refine cW.mono ?_; rintro e w9 ⟨rfl, hk9⟩)
        go_ret
        exact ⟨rfl, (HK1.out.trans HKW.out).trans hk9⟩
end Go.Proofs.YteibebhlfhmlaaaDoor
