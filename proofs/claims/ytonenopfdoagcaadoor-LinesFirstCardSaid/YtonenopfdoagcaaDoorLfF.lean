/-
  lines.First OF ANY TEXT AND ROW; LinesFirst: the law's walk.
-/
import Derived.Test.YtonenopfdoagcaaDoorLfO
import Derived.Test.YtonenopfdoagcaaDoorSp2
import Derived.Test.YtonenopfdoagcaaDoorAo2n
import Derived.Test.YtonenopfdoagcaaDoorLnJ
set_option linter.unusedVariables false
namespace Go.Proofs.YtonenopfdoagcaaDoor
open Go Go.RowKit

theorem stt_le {t : List Int} {row : Int} {a : Nat} (h : stt t row = some a) : a ≤ t.length := by
  unfold stt at h
  split at h
  · exact (Rw.dn_some t _ 0 a (Nat.zero_le _) h).1
  · cases h
/-- What First tells of a text that may be. -/
abbrev fstV (t : List Int) (row : Int) : Value := match stt t row with
  | some a => .tuple #[.int .i64 (Rw.fst t a : Nat), .int .i64 0]
  | none => .tuple #[.int .i64 0, .int .i64 3]
set_option maxRecDepth 100000 in
theorem lfirst_yes (s : ByteArray) (row : Int) (w : World) (hT : Tabs w) (hM : Mx w) (hm : mayB s = true) :
    Calls Tryd.prog 19 #[.string s, .int .i64 row] w fun e w' => e = .returned (fstV (rs s) row) ∧ Kept (fun _ => False) w w' := by
  have hsz := mayB_size hm
  have hl := rs_len s
  have hry : Runey (rs s) := rs_runey (mayB_valid hm)
  have cU := runes_yes s 0 w hT hm (Nat.zero_le _)
  have cO := fun W hW hMW => offset_yes s row W hW hMW hm
  generalize rs s = t at *
  have HO := Lib.hid cO
  have HT := Lib.hid hT
  have HM := Lib.hid hM
  have HRY := Lib.hid hry
  clear hT hM cO hm hry
  cases hst : stt t row with
  | none =>
    have hv : fstV t row = .tuple #[.int .i64 0, .int .i64 3] := by unfold fstV; rw [hst]
    have ho : offV (stt t row) = .tuple #[.int .i64 0, .int .i64 3] := by rw [hst]
    simp only [ho] at HO
    rw [hv]
    go_enter Tryd.func19, Tryd.ntmps19
    go_wp2_with (first
      | (go_at_call 32; refine cU.mono ?_; rintro e w1 ⟨hk1, b, cap, rfl, _, hR⟩; have HK1 := Lib.hid hk1; have HT1 := Lib.hid (HT.out.kept hk1 id id); have HM1 := Lib.hid (HM.out.kept hk1); clear hk1 cU hR)
      | (go_at_call 33; refine (HO.out _ HT1.out HM1.out).mono ?_; rintro e w2 ⟨rfl, hk2⟩))
    exact bodyPost_ret (v := .tuple #[.int .i64 0, .int .i64 3]) (by simp [results, Tryd.results19, go_sem]) rfl ⟨rfl, HK1.out.trans hk2⟩
  | some a =>
    have ha := stt_le hst
    have hv : fstV t row = .tuple #[.int .i64 (Rw.fst t a : Nat), .int .i64 0] := by unfold fstV; rw [hst]
    have ho : offV (stt t row) = .tuple #[.int .i64 (a : Nat), .int .i64 0] := by rw [hst]
    simp only [ho] at HO
    rw [hv]
    go_enter Tryd.func19, Tryd.ntmps19
    go_wp2_with (first
      | (go_at_call 32; refine cU.mono ?_; rintro e w1 ⟨hk1, b, cap, rfl, _, hR⟩; have HK1 := Lib.hid hk1; have HT1 := Lib.hid (HT.out.kept hk1 id id); have HM1 := Lib.hid (HM.out.kept hk1); have HR1 := Lib.hid hR; clear hk1 cU hR)
      | (go_at_call 33; refine (HO.out _ HT1.out HM1.out).mono ?_; rintro e w2 ⟨rfl, hk2⟩; have HR2 := Lib.hid (HR1.out.kept hk2 (fun _ _ => id)); have HK2 := Lib.hid (HK1.out.trans hk2); clear hk2)
      | (go_at_call 34; refine (first_any _ _ _ t a _ HR2.out HRY.out ha (by omega)).mono ?_; rintro e w' ⟨rfl, hw⟩; have hwx := hw.symm; subst hwx))
    exact bodyPost_ret (v := .tuple #[.int .i64 (Rw.fst t a : Nat), .int .i64 0]) (by simp [results, Tryd.results19, go_sem]) rfl ⟨rfl, HK2.out⟩
set_option maxRecDepth 100000 in
theorem lfirst_no (s : ByteArray) (row : Int) (w : World) (hT : Tabs w) (hs : s.size ≤ 140737488351232) (hm : mayB s = false) :
    Calls Tryd.prog 19 #[.string s, .int .i64 row] w fun e w' => e = .returned (.tuple #[.int .i64 0, .int .i64 1]) ∧ Kept (fun _ => False) w w' := by
  have cU := runes_no s 0 w hs hT (fun h => by rw [hm] at h; cases h.1)
  clear hT hm
  go_enter Tryd.func19, Tryd.ntmps19
  go_wp2_with (go_at_call 32; refine cU.mono ?_; rintro e w1 ⟨hk1, rfl⟩)
  exact bodyPost_ret (v := .tuple #[.int .i64 0, .int .i64 1]) (by simp [results, Tryd.results19, go_sem]) rfl ⟨rfl, hk1⟩
/-- What a law's loops hold of every world. -/
structure HeldF (w : World) (pb : Nat) (p : AskV) : Prop where
  pb : PB w pb p
  ask : AskOk w p
  tabs : Tabs w
  mx : Mx w
theorem HeldF.kept {w w' : World} {pb : Nat} {p : AskV} (h : HeldF w pb p) (hk : Kept (fun _ => False) w w') : HeldF w' pb p := ⟨h.pb.kept hk id, h.ask.kept hk, h.tabs.kept hk id id, h.mx.kept hk⟩
/-- What is told, as two numbers. -/
def ToldF (s : ByteArray) (row : Int) (X E : Int) : Prop :=
  (mayB s = true → (∀ a, stt (rs s) row = some a → X = (Rw.fst (rs s) a : Nat) ∧ E = 0) ∧ (stt (rs s) row = none → X = 0 ∧ E = 3)) ∧ (mayB s = false → X = 0 ∧ E = 1)
theorem lfirst_all (s : ByteArray) (row : Int) (w : World) (hT : Tabs w) (hM : Mx w) (hs : s.size ≤ 140737488351232) :
    Calls Tryd.prog 19 #[.string s, .int .i64 row] w fun e w' => (∃ X E : Int, e = .returned (.tuple #[.int .i64 X, .int .i64 E]) ∧ ToldF s row X E) ∧ Kept (fun _ => False) w w' := by
  cases hm : mayB s with
  | true =>
    refine (lfirst_yes s row w hT hM hm).mono fun e w' ⟨he, hk⟩ => ⟨?_, hk⟩
    cases hst : stt (rs s) row with
    | none =>
      refine ⟨0, 3, by rw [he]; unfold fstV; rw [hst], fun _ => ⟨fun a h => (by rw [hst] at h; cases h), fun _ => ⟨rfl, rfl⟩⟩, fun h => (by rw [hm] at h; cases h)⟩
    | some a =>
      refine ⟨(Rw.fst (rs s) a : Nat), 0, by rw [he]; unfold fstV; rw [hst], fun _ => ⟨fun a' h => (by rw [hst] at h; injection h with h; subst h; exact ⟨rfl, rfl⟩), fun h => (by rw [hst] at h; cases h)⟩, fun h => (by rw [hm] at h; cases h)⟩
  | false =>
    exact (lfirst_no s row w hT hs hm).mono fun e w' ⟨he, hk⟩ => ⟨⟨0, 1, he, ⟨(fun h => absurd (hm.symm.trans h) (by decide)), fun _ => ⟨rfl, rfl⟩⟩⟩, hk⟩
set_option maxRecDepth 100000 in
set_option maxHeartbeats 4000000 in
theorem linesFirst_any (p : AskV) (w : World) (hp : AskOk w p) (hT : Tabs w) (hM : Mx w) :
    Calls Tryd.prog 5 #[.agg p.cells] w fun e w' => e = .returned (.bool true) ∧ Kept (fun _ => False) w w' := by
  have hK0 : Hid (Kept (fun _ => False) w (w.alloc (.cells p.cells 50))) := (Kept.refl _ w).alloc _
  have hH0 : Hid (HeldF (w.alloc (.cells p.cells 50)) w.heap.size p) := ⟨heap_alloc_new w _, hp.kept hK0.out, hT.kept hK0.out id id, hM.kept hK0.out⟩
  have cH := heavy10_any p (w.alloc (.cells p.cells 50)) hH0.out.ask
  have HXR := Lib.hid hp.xr
  clear hp hT hM
  obtain ⟨A, n0, c0, ss, xa, xb, xr, xc, xk, xn, xq⟩ := p
  unfold AskV.cells at *
  simp only at *
  go_enter Tryd.func5, Tryd.ntmps5
  go_wp2_with (go_at_call 18; refine cH.mono ?_; rintro e w1 ⟨⟨hv, rfl, hsm⟩, hk1⟩; have HS := Lib.hid hsm; have HK1 := Lib.hid (hK0.out.trans hk1); have HH := Lib.hid (hH0.out.kept hk1); clear hsm hk1 hH0 hK0 cH)
  · exact bodyPost_ret (results_tmp rfl _ _ _) rfl ⟨rfl, HK1.out⟩
  have hv0 : hv = false := by assumption
  subst hv0
  have HSS := Lib.hid (HS.out rfl)
  clear HS
  generalize hpb : w.heap.size = pb at HH ⊢
  have HPB := Lib.hid hpb
  clear hpb
  go_loopw [3] (fun v wr => ∃ i : Nat, i ≤ n0 ∧ i ≤ 4 ∧ v = .int .i64 i ∧ Kept (fun _ => False) w1 wr) (fun v _ => n0 - (intOf v).toNat)
  case atStart => exact ⟨0, Nat.zero_le _, Nat.zero_le _, rfl, Kept.refl _ _⟩
  case round =>
    obtain ⟨i, hi, hi4, rfl, hki⟩ := hrel
    obtain ⟨wi, hwi⟩ : ∃ wi, wi = wr := ⟨_, rfl⟩
    subst hwi
    have HKi := Lib.hid (HK1.out.trans hki)
    have HHi := Lib.hid (HH.out.kept hki)
    have HKW := Lib.hid hki
    clear hki
    have p0 : wi.cell? ⟨pb, 0, none⟩ = some (.slice A n0 c0) := HHi.out.pb.c 0
    by_cases hgo : i < n0 ∧ i < 4
    · obtain ⟨g1, g2⟩ := hgo
      obtain ⟨ad, s, rfl, hs, hsc, _⟩ := HHi.out.ask.ss.cell g1
      have hsz : s.size ≤ 6000 := HSS.out s (List.mem_of_getElem? hs)
      have hl := rs_len s
      clear hs
      obtain ⟨cap, w2, hcap, hcv, hk2, hlt2, hR⟩ := conv_rs s wi (by omega)
      have HL : Hid ((rs s).length ≤ 6000) := by show _ ≤ _; omega
      obtain ⟨t, ht⟩ : ∃ t, rs s = t := ⟨_, rfl⟩
      rw [ht] at hcap hcv hR HL hl
      have HTT := Lib.hid ht
      have HK2 := Lib.hid hk2
      have HH2 := Lib.hid (HHi.out.kept hk2)
      have HR := Lib.hid hR
      have q0 : w2.cell? ⟨pb, 0, none⟩ = some (.slice (some ad) n0 c0) := HH2.out.pb.c 0
      have q3 : w2.cell? ⟨pb, 3, none⟩ = some (.int .i64 xr) := HH2.out.pb.c 3
      have HSC : Hid (∀ W, Kept (fun _ => False) wi W → W.cell? (ad.add i) = some (.string s) ∧ W.cell? ⟨pb, 0, none⟩ = some (.slice (some ad) n0 c0)) := fun W h => ⟨cell_kept h hsc id, cell_kept h p0 id⟩
      have b1 : decide (i < n0) = true := by simp; omega
      have b2 : decide (i < 4) = true := by simp; omega
      have b3 : decide ((i : Int) < 4) = true := by simp; omega
      have hi0 : (0 : Int) ≤ (i : Int) := by omega
      have hiN : (i : Int) < (n0 : Int) := by omega
      clear hk2 hR ht hlt2
      generalize hrb : wi.heap.size = tb at HR hcv
      clear hrb
      go_wp2_with fail
      have hNN := nums_new w2 [xr, -1, 0, 1, 2, 3, 100000] 3
      have hk3 : Kept (fun _ => False) w2 (w2.alloc (.cells ([xr, -1, 0, 1, 2, 3, 100000].map (Value.int .i64)).toArray 3)) := (Kept.refl _ w2).alloc _
      simp only [List.map_cons, List.map_nil, List.length_cons, List.length_nil] at hNN hk3
      obtain ⟨cb, hcb⟩ : ∃ cb, w2.heap.size = cb := ⟨_, rfl⟩
      rw [hcb] at hNN
      simp only [hcb]
      generalize w2.alloc (.cells #[.int .i64 xr, .int .i64 (-1), .int .i64 0, .int .i64 1, .int .i64 2, .int .i64 3, .int .i64 100000] 3) = w3 at *
      have HN3 := Lib.hid hNN
      have HK3 := Lib.hid (HK2.out.trans hk3)
      have HR3 := Lib.hid (HR.out.kept hk3 (fun _ _ => id))
      clear hNN hk3 hcb b1 b2 b3 q0 q3 hsc p0 hcv
      go_loopw [6] (fun v wr => ∃ q : Nat, q ≤ 7 ∧ v = .int .i64 q ∧ Kept (fun _ => False) w3 wr) (fun v _ => 7 - (intOf v).toNat)
      case atStart => exact ⟨0, Nat.zero_le _, rfl, Kept.refl _ _⟩
      case round =>
        obtain ⟨q, hq, rfl, hkq⟩ := hrel
        obtain ⟨wq, hwq⟩ : ∃ wq, wq = wr := ⟨_, rfl⟩
        subst hwq
        have HKQ := Lib.hid (HK3.out.trans hkq)
        have HKV := Lib.hid hkq
        have HN := Lib.hid (HN3.out.kept hkq (fun _ _ => id))
        have HRQ := Lib.hid (HR3.out.kept hkq (fun _ _ => id))
        clear hkq
        by_cases hq7 : q < 7
        · have b7 : decide (q < 7) = true := by simp; omega
          have b8 : decide ((q : Int) < 7) = true := by simp; omega
          go_upto_region 11 with fail
          clear b7 b8
          obtain ⟨xad, x, exa, hxl, cX⟩ := HN.out.cell hq7
          have hxb : x ≤ 9223372036854775807 := by
            have h1 := List.mem_of_getElem? hxl
            simp only [List.mem_cons, List.not_mem_nil, or_false] at h1
            have h2 := HXR.out.2
            omega
          have HXB := Lib.hid hxb
          clear hxb
          injection exa with exa
          subst exa
          rw [addr_add, Nat.zero_add] at cX
          have hq0 : (0 : Int) ≤ (q : Int) := by omega
          have hq7i : (q : Int) < 7 := by omega
          have HKS : Hid (∀ W, Kept (fun _ => False) wq W → W.cell? (ad.add i) = some (.string s) ∧ W.cell? ⟨pb, 0, none⟩ = some (.slice (some ad) n0 c0) ∧ W.cell? ⟨cb, q, none⟩ = some (.int .i64 x)) :=
            fun W h => ⟨(HSC.out W (HKQ.out.trans h)).1, (HSC.out W (HKQ.out.trans h)).2, cell_kept h cX id⟩
          have HHQ := Lib.hid (HHi.out.kept HKQ.out)
          clear cX hxl
          have hTd : Tabs wq.drew := HHQ.out.tabs
          have hMd : Mx wq.drew := HHQ.out.mx
          have KA := HKS.out _ (Kept.refl (fun _ => False) wq).drew
          go_cut [7, 8] from 45 to 57 (fun s7 s8 wx => ∃ X E : Int, s7 = .int .i64 X ∧ s8 = .int .i64 E ∧ ToldF s x X E ∧ Kept (fun _ => False) wq wx)
          case first =>
            go_region_held3 (fun (w' : World) => w'.cell? (ad.add i) = some (.string s) ∧ w'.cell? ⟨pb, 0, none⟩ = some (.slice (some ad) n0 c0) ∧ w'.cell? ⟨cb, q, none⟩ = some (.int .i64 x))
              (first | with_reducible exact KC | with_reducible exact KA)
              ((go_at_call 19; refine (lfirst_all s x _ hTd hMd (by omega)).mono ?_; rintro e w8 ⟨⟨X, E, rfl, htold⟩, hk8⟩; have HTD := Lib.hid htold; have HK8 : Hid (Kept (fun _ => False) wq w8) := (Kept.refl (fun _ => False) wq).drew.trans hk8; have KC := HKS.out _ HK8.out; clear htold hk8))
            all_goals
              go_wp2_with fail
              go_meet
              exact ⟨X, E, rfl, rfl, HTD.out, HK8.out⟩
          case rest =>
            obtain ⟨X, E, rfl, rfl, htold, hk8⟩ := hcut
            obtain ⟨wz, hwz⟩ : ∃ wz, wz = wc := ⟨_, rfl⟩
            subst hwz
            have HTD := Lib.hid htold
            have HK8 := Lib.hid hk8
            have HT8 : Hid (Tabs wz) := HHQ.out.tabs.kept hk8 id id
            have HR8 := Lib.hid (HRQ.out.kept hk8 (fun _ _ => id))
            have cMay := rmay_any s wz (by omega) HT8.out
            clear htold hk8 hTd hMd KA
            obtain ⟨r0, r1, r2⟩ := HKS.out _ HK8.out
            cases hm : mayB s with
            | false =>
              obtain ⟨rfl, rfl⟩ := HTD.out.2 hm
              rw [hm] at cMay
              clear HTD hm
              go_wp2_with (first
                | (go_at_call 8; refine cMay.mono ?_; rintro e w9 ⟨rfl, hk9⟩; have HK9 := Lib.hid (HK8.out.trans hk9); clear hk9 cMay)
                | (go_at_call 22; refine (num_any _ _).mono ?_; rintro e w' ⟨rfl, hw⟩; have hw2 := hw.symm; subst hw2))
              exact ⟨⟨q + 1, by omega, by go_num, HKV.out.trans HK9.out⟩, by simp [intOf]; omega⟩
            | true =>
              obtain ⟨hT1, hT2⟩ := HTD.out.1 hm
              rw [HTT.out] at hT1 hT2
              have HT1 := Lib.hid hT1
              have HT2 := Lib.hid hT2
              have hry : Runey t := by rw [← HTT.out]; exact rs_runey (mayB_valid hm)
              have HRY := Lib.hid hry
              rw [hm] at cMay
              clear HTD hm hT1 hT2 hry
              go_wp2_with fail
              refine cMay.mono ?_
              rintro e w9 ⟨rfl, hk9⟩
              have HK9 := Lib.hid (HK8.out.trans hk9)
              have HR9 := Lib.hid (HR8.out.kept hk9 (fun _ _ => id))
              clear r0 r1 r2
              obtain ⟨r0, r1, r2⟩ := HKS.out _ HK9.out
              clear hk9 cMay
              have cS := rstart_any (some ⟨tb, 0, none⟩) t.length cap t x w9 HR9.out (by have := HL.out; omega) HXB.out
              cases hst : stt t x with
              | none =>
                obtain ⟨rfl, rfl⟩ := HT2.out hst
                rw [hst] at cS
                clear hst
                go_wp2_with (first
                  | (go_at_call 20; refine cS.mono ?_; rintro e w' ⟨rfl, hw⟩; have hw2 := hw.symm; subst hw2)
                  | (go_at_call 22; refine (num_any _ _).mono ?_; rintro e w' ⟨rfl, hw⟩; have hw2 := hw.symm; subst hw2))
                exact ⟨⟨q + 1, by omega, by go_num, HKV.out.trans HK9.out⟩, by simp [intOf]; omega⟩
              | some a =>
                obtain ⟨rfl, rfl⟩ := HT1.out a hst
                have ha := stt_le hst
                rw [hst] at cS
                clear hst
                have cF := rfirst_any (some ⟨tb, 0, none⟩) t.length cap t a w9 HR9.out HRY.out ha (by have := HL.out; omega)
                have b9 : decide (0 ≤ (a : Int)) = true := decide_eq_true (by omega)
                generalize Rw.fst t a = FT at *
                go_wp2_with (first
                  | (go_at_call 20; refine cS.mono ?_; rintro e w' ⟨rfl, hw⟩; have hw2 := hw.symm; subst hw2)
                  | (go_at_call 21; refine cF.mono ?_; rintro e w' ⟨rfl, hw⟩; have hw2 := hw.symm; subst hw2)
                  | (go_at_call 22; refine (num_any _ _).mono ?_; rintro e w' ⟨rfl, hw⟩; have hw2 := hw.symm; subst hw2))
                exact ⟨⟨q + 1, by omega, by go_num, HKV.out.trans HK9.out⟩, by simp [intOf]; omega⟩
        · obtain rfl : q = 7 := by omega
          have b7 : decide ((7 : Int) < 7) = false := by decide
          go_wp2_with fail
          go_roundw
          case rel => exact ⟨i + 1, by omega, by omega, by go_num, HKW.out.trans (HK3.out.trans HKV.out)⟩
          case measure => simp [intOf]; omega
    · have hlast : (i = n0 ∧ i < 4) ∨ (i < n0 ∧ i = 4) ∨ (i = n0 ∧ i = 4) := by omega
      have cW := wakes_any wi HHi.out.tabs
      rcases hlast with ⟨h1, h2⟩ | ⟨h1, h2⟩ | ⟨h1, h2⟩
      case' inl | inr.inr => have b1 : decide (i < n0) = false := by simp; omega
      case' inr.inl =>
        have b1 : decide (i < n0) = true := by simp; omega
        have b2 : decide (i < 4) = false := by simp; omega
        have b3 : decide ((i : Int) < 4) = false := by simp; omega
      all_goals
        clear h1 h2
        go_wp2_with (go_at_call 23; refine cW.mono ?_; rintro e w9 ⟨rfl, hk9⟩)
        go_ret
        exact ⟨rfl, HKi.out.trans hk9⟩
end Go.Proofs.YtonenopfdoagcaaDoor
