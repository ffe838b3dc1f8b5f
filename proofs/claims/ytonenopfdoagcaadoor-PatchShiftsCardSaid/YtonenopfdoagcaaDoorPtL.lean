/-
  PatchShifts: the law's walk.
-/
import Derived.Test.YtonenopfdoagcaaDoorPtR
set_option linter.unusedVariables false
namespace Go.Proofs.YtonenopfdoagcaaDoor
open Go Go.RowKit

/-- Whether Shift takes these. -/
def GoodP (a d x : Int) (s : ByteArray) : Prop := (0 ≤ x ∧ x ≤ 4000) ∧ (0 ≤ a ∧ a ≤ 4000) ∧ (0 ≤ d ∧ d ≤ 4000) ∧ mayB s = true
def ToldP (a d x : Int) (s : ByteArray) (X E : Int) : Prop := (GoodP a d x s → X = shf a d (rs s).length x ∧ E = 0) ∧ (¬ GoodP a d x s → X = 0 ∧ E = 1)
theorem shift_all (s : ByteArray) (a d x : Int) (w : World) (hT : Tabs w) (hs : s.size ≤ 140737488351232) :
    Calls Tryd.prog 14 #[patV a d s, .int .i64 x] w fun e w' => (∃ X E : Int, e = .returned (.tuple #[.int .i64 X, .int .i64 E]) ∧ ToldP a d x s X E) ∧ Kept (fun _ => False) w w' := by
  by_cases hg : GoodP a d x s
  · obtain ⟨h1, h2, h3, h4⟩ := id hg
    exact (shift_yes s a d x w hT h1 h2 h3 h4).mono fun e w' ⟨he, hk⟩ => ⟨⟨_, _, he, fun _ => ⟨rfl, rfl⟩, fun h => absurd hg h⟩, hk⟩
  · exact (shift_no s a d x w hT hs hg).mono fun e w' ⟨he, hk⟩ => ⟨⟨_, _, he, fun h => absurd h hg, fun _ => ⟨rfl, rfl⟩⟩, hk⟩
set_option maxRecDepth 100000 in
set_option maxHeartbeats 4000000 in
theorem patchShifts_any (p : AskQ) (w : World) (hp : AskQOk w p) (hT : Tabs w) :
    Calls Tryd.prog 4 #[.agg p.cells] w fun e w' => e = .returned (.bool true) ∧ Kept (fun _ => False) w w' := by
  have hK0 : Hid (Kept (fun _ => False) w (w.alloc (.cells p.cells 29))) := (Kept.refl _ w).alloc _
  have hH0 : Hid (HeldQ (w.alloc (.cells p.cells 29)) w.heap.size p) := ⟨heap_alloc_new w _, hp.kept hK0.out, hT.kept hK0.out id id⟩
  have cH := heavy4_any p (w.alloc (.cells p.cells 29)) hH0.out.ask
  clear hp hT
  obtain ⟨A, n0, c0, ss, xa, xb, xr, xc, B, m, e0, ps, xq⟩ := p
  unfold AskQ.cells at *
  simp only at *
  go_enter Tryd.func4, Tryd.ntmps4
  go_wp2_with (go_at_call 6; refine cH.mono ?_; rintro e w1 ⟨⟨hv, rfl, hsm⟩, hk1⟩; have HS := Lib.hid hsm; have HK1 := Lib.hid (hK0.out.trans hk1); have HH := Lib.hid (hH0.out.kept hk1); clear hsm hk1 hH0 hK0 cH)
  · exact bodyPost_ret (results_tmp rfl _ _ _) rfl ⟨rfl, HK1.out⟩
  have hv0 : hv = false := by assumption
  subst hv0
  have HSS := Lib.hid (HS.out rfl).2
  clear HS
  generalize hpb : w.heap.size = pb at HH ⊢
  have HPB := Lib.hid hpb
  clear hpb
  go_loopw [3] (fun v wr => ∃ i : Nat, i ≤ m ∧ i ≤ 5 ∧ v = .int .i64 i ∧ Kept (fun _ => False) w1 wr) (fun v _ => m - (intOf v).toNat)
  case atStart => exact ⟨0, Nat.zero_le _, Nat.zero_le _, rfl, Kept.refl _ _⟩
  case round =>
    obtain ⟨i, hi, hi4, rfl, hki⟩ := hrel
    obtain ⟨wi, hwi⟩ : ∃ wi, wi = wr := ⟨_, rfl⟩
    subst hwi
    have HKi := Lib.hid (HK1.out.trans hki)
    have HHi := Lib.hid (HH.out.kept hki)
    have HKW := Lib.hid hki
    clear hki
    by_cases hgo : i < m ∧ i < 5
    · obtain ⟨g1, g2⟩ := hgo
      obtain ⟨ad, ⟨a, d, s⟩, rfl, hs, c0', c1', c2', i0, i1, hsz⟩ := HHi.out.ask.ps.at_ g1
      simp only at c0' c1' c2' i0 i1 hsz
      clear hs
      have p5 : wi.cell? ⟨pb, 5, none⟩ = some (.slice (some ad) m e0) := HHi.out.pb.c 5
      have p6 : wi.cell? ⟨pb, 6, none⟩ = some (.int .i64 xq) := HHi.out.pb.c 6
      have b1 : decide (i < m) = true := by simp; omega
      have b2 : decide (i < 5) = true := by simp; omega
      have b3 : decide ((i : Int) < 5) = true := by simp; omega
      have hi0 : (0 : Int) ≤ (i : Int) := by omega
      have him : (i : Int) < (m : Int) := by omega
      go_upto_region 6 with fail
      clear b1 b2 b3
      have K0 : wi.drew.cell? ⟨pb, 5, none⟩ = some (.slice (some ad) m e0) ∧ wi.drew.cell? ⟨pb, 6, none⟩ = some (.int .i64 xq) ∧ wi.drew.cell? (ad.add (i * 3)) = some (.int .i64 a) := ⟨p5, p6, c0'⟩
      go_cut [4] from 23 to 41 (fun v wx => ∃ (cb : Nat) (xs : List Int), v = .slice (some ⟨cb, 0, none⟩) 7 7 ∧ Nums wx (some ⟨cb, 0, none⟩) 7 xs ∧ Kept (fun _ => False) wi wx)
      case first =>
        go_region_held3 (fun (w' : World) => w'.cell? ⟨pb, 5, none⟩ = some (.slice (some ad) m e0) ∧ w'.cell? ⟨pb, 6, none⟩ = some (.int .i64 xq) ∧ w'.cell? (ad.add (i * 3)) = some (.int .i64 a)) (first | with_reducible exact K0 | go_keep)
          ((go_at_call 13; refine (within_any _ 30 (by omega) (by omega) _).mono ?_; rintro e w' ⟨x, hx, rfl, hw⟩; have hw2 := hw.symm; subst hw2))
        all_goals
          go_wp2_with fail
          go_meet
          exact ⟨_, [xq, (x : Int), a, IntKind.i64.wrap (a - 1), 0, 4000, 4001], rfl, nums_new _ [xq, (x : Int), a, IntKind.i64.wrap (a - 1), 0, 4000, 4001] 3, by first | exact (Kept.refl (fun _ => False) wi).drew.alloc _ | exact ((Kept.refl (fun _ => False) wi).alloc _).drew⟩
      case rest =>
        obtain ⟨cb, xs, rfl, hN, hkc⟩ := hcut
        obtain ⟨wb, hwb⟩ : ∃ wb, wb = wc := ⟨_, rfl⟩
        subst hwb
        have HN6 := Lib.hid hN
        have HKV6 := Lib.hid hkc
        have HD6 := Lib.hid (HHi.out.kept hkc)
        have HCS : Hid (∀ W, Kept (fun _ => False) wb W → W.cell? (ad.add (i * 3)) = some (.int .i64 a) ∧ W.cell? ⟨(ad.add (i * 3)).block, (ad.add (i * 3)).off + 1, none⟩ = some (.int .i64 d) ∧ W.cell? ⟨(ad.add (i * 3)).block, (ad.add (i * 3)).off + 2, none⟩ = some (.string s) ∧ W.cell? ⟨pb, 5, none⟩ = some (.slice (some ad) m e0)) :=
          fun W h => ⟨cell_kept (hkc.trans h) c0' id, cell_kept (hkc.trans h) c1' id, cell_kept (hkc.trans h) c2' id, cell_kept (hkc.trans h) p5 id⟩
        clear hN hkc p5 p6 K0 c0' c1' c2'
        go_wp2_with fail
        go_loopw [5] (fun v wr => ∃ q : Nat, q ≤ 7 ∧ v = .int .i64 q ∧ Kept (fun _ => False) wb wr) (fun v _ => 7 - (intOf v).toNat)
        case atStart => exact ⟨0, Nat.zero_le _, rfl, Kept.refl _ _⟩
        case round =>
          obtain ⟨q, hq, rfl, hkq⟩ := hrel
          obtain ⟨wq, hwq⟩ : ∃ wq, wq = wr := ⟨_, rfl⟩
          subst hwq
          have HKV7 := Lib.hid hkq
          have HD7 := Lib.hid (HD6.out.kept hkq)
          have HN7 := Lib.hid (HN6.out.kept hkq (fun _ _ => id))
          clear hkq
          by_cases hq7 : q < 7
          · have b7 : decide (q < 7) = true := by simp; omega
            have b8 : decide ((q : Int) < 7) = true := by simp; omega
            go_upto_region 10 with fail
            clear b7 b8
            obtain ⟨xad, x, exa, _, cX⟩ := HN7.out.cell hq7
            injection exa with exa
            subst exa
            rw [addr_add, Nat.zero_add] at cX
            have hq0 : (0 : Int) ≤ (q : Int) := by omega
            have hq7i : (q : Int) < 7 := by omega
            have HKS : Hid (∀ W, Kept (fun _ => False) wq W → W.cell? (ad.add (i * 3)) = some (.int .i64 a) ∧ W.cell? ⟨(ad.add (i * 3)).block, (ad.add (i * 3)).off + 1, none⟩ = some (.int .i64 d) ∧ W.cell? ⟨(ad.add (i * 3)).block, (ad.add (i * 3)).off + 2, none⟩ = some (.string s) ∧ W.cell? ⟨pb, 5, none⟩ = some (.slice (some ad) m e0) ∧ W.cell? ⟨cb, q, none⟩ = some (.int .i64 x)) :=
              fun W h => ⟨(HCS.out W (HKV7.out.trans h)).1, (HCS.out W (HKV7.out.trans h)).2.1, (HCS.out W (HKV7.out.trans h)).2.2.1, (HCS.out W (HKV7.out.trans h)).2.2.2, cell_kept h cX id⟩
            clear cX
            have hTd : Tabs wq.drew := HD7.out.tabs
            have KA := HKS.out _ (Kept.refl (fun _ => False) wq).drew
            go_cut [6, 7] from 49 to 60 (fun s6 s7 wx => ∃ X E : Int, s6 = .int .i64 X ∧ s7 = .int .i64 E ∧ ToldP a d x s X E ∧ Kept (fun _ => False) wq wx)
            case first =>
              go_region_held3 (fun (w' : World) => w'.cell? (ad.add (i * 3)) = some (.int .i64 a) ∧ w'.cell? ⟨(ad.add (i * 3)).block, (ad.add (i * 3)).off + 1, none⟩ = some (.int .i64 d) ∧ w'.cell? ⟨(ad.add (i * 3)).block, (ad.add (i * 3)).off + 2, none⟩ = some (.string s) ∧ w'.cell? ⟨pb, 5, none⟩ = some (.slice (some ad) m e0) ∧ w'.cell? ⟨cb, q, none⟩ = some (.int .i64 x))
                (first | with_reducible exact KC | with_reducible exact KA)
                ((go_at_call 14; refine (shift_all s a d x _ hTd hsz).mono ?_; rintro e w8 ⟨⟨X, E, rfl, htold⟩, hk8⟩; have HTD := Lib.hid htold; have HK8 : Hid (Kept (fun _ => False) wq w8) := (Kept.refl (fun _ => False) wq).drew.trans hk8; have KC := HKS.out _ HK8.out; clear htold hk8))
              all_goals
                go_wp2_with fail
                go_meet
                exact ⟨X, E, rfl, rfl, HTD.out, HK8.out⟩
            case rest =>
              obtain ⟨X, E, rfl, rfl, htold, hk8⟩ := hcut
              obtain ⟨wz, hwz⟩ : ∃ wz, wz = wc := ⟨_, rfl⟩
              subst hwz
              have HTD := Lib.hid htold
              have HK8 := Lib.hid hk8
              have HT8 : Hid (Tabs wz) := HD7.out.tabs.kept hk8 id id
              clear htold hk8 hTd KA
              obtain ⟨r0, r1, r2, r3, r4⟩ := HKS.out _ HK8.out
              by_cases hg : GoodP a d x s
              · obtain ⟨rfl, rfl⟩ := HTD.out.1 hg
                obtain ⟨h1, h2, h3, h4⟩ := hg
                have hms := mayB_size h4
                have cMv := rmoves_t s a d wz HT8.out h2 h3 h4
                clear HTD h4
                generalize hN : shf a d (rs s).length x = SH
                have HSH := Lib.hid hN
                clear hN
                go_wp2_with (go_at_call 15; refine (znum_t h1 _).mono ?_; rintro e w' ⟨rfl, hw⟩; have hwx := hw.symm; subst hwx)
                refine cMv.mono ?_
                rintro e w9 ⟨rfl, hk9⟩
                have HK9 := Lib.hid (HK8.out.trans hk9)
                clear hk9 cMv r0 r1 r2 r3 r4
                go_upto_region 13 with fail
                have KA := HKS.out _ HK9.out.drew
                go_region_held3 (fun (w' : World) => w'.cell? (ad.add (i * 3)) = some (.int .i64 a) ∧ w'.cell? ⟨(ad.add (i * 3)).block, (ad.add (i * 3)).off + 1, none⟩ = some (.int .i64 d) ∧ w'.cell? ⟨(ad.add (i * 3)).block, (ad.add (i * 3)).off + 2, none⟩ = some (.string s) ∧ w'.cell? ⟨pb, 5, none⟩ = some (.slice (some ad) m e0) ∧ w'.cell? ⟨cb, q, none⟩ = some (.int .i64 x))
                  (first | with_reducible exact KC | with_reducible exact KA)
                  ((go_at_call 17; refine (rshift_yes s a d x _ h1 h2 h3 hms).mono ?_; rintro e w10 ⟨rfl, hk10⟩; have HK10 : Hid (Kept (fun _ => False) wq w10) := HK9.out.drew.trans hk10; have KC := HKS.out _ HK10.out; rw [HSH.out]; clear hk10))
                all_goals
                  go_wp2_with (go_at_call 10; refine (pnum_any _ _).mono ?_; rintro e w' ⟨rfl, hw⟩; have hw2 := hw.symm; subst hw2)
                  exact ⟨⟨q + 1, by omega, by go_num, HKV7.out.trans HK10.out⟩, by simp [intOf]; omega⟩
              · obtain ⟨rfl, rfl⟩ := HTD.out.2 hg
                clear HTD
                by_cases h1 : 0 ≤ x ∧ x ≤ 4000
                · have hno : ¬ ((0 ≤ a ∧ a ≤ 4000) ∧ (0 ≤ d ∧ d ≤ 4000) ∧ mayB s = true) := fun h => hg ⟨h1, h⟩
                  have cMv := rmoves_f s a d wz HT8.out hsz hno
                  clear hg hno
                  go_wp2_with (go_at_call 15; refine (znum_t h1 _).mono ?_; rintro e w' ⟨rfl, hw⟩; have hwx := hw.symm; subst hwx)
                  refine cMv.mono ?_
                  rintro e w9 ⟨rfl, hk9⟩
                  have HK9 := Lib.hid (HK8.out.trans hk9)
                  clear hk9 cMv r0 r1 r2 r3 r4
                  go_wp2_with (go_at_call 10; refine (pnum_any _ _).mono ?_; rintro e w' ⟨rfl, hw⟩; have hw2 := hw.symm; subst hw2)
                  exact ⟨⟨q + 1, by omega, by go_num, HKV7.out.trans HK9.out⟩, by simp [intOf]; omega⟩
                · clear hg
                  go_wp2_with (first
                    | (go_at_call 15; refine (znum_f h1 _).mono ?_; rintro e w' ⟨rfl, hw⟩; have hwx := hw.symm; subst hwx)
                    | (go_at_call 10; refine (pnum_any _ _).mono ?_; rintro e w' ⟨rfl, hw⟩; have hw2 := hw.symm; subst hw2))
                  exact ⟨⟨q + 1, by omega, by go_num, HKV7.out.trans HK8.out⟩, by simp [intOf]; omega⟩
          · obtain rfl : q = 7 := by omega
            have b7 : decide ((7 : Int) < 7) = false := by decide
            go_wp2_with fail
            exact ⟨⟨i + 1, by omega, by omega, by go_num, HKW.out.trans (HKV6.out.trans HKV7.out)⟩, by simp [intOf]; omega⟩
    · have hlast : (i = m ∧ i < 5) ∨ (i < m ∧ i = 5) ∨ (i = m ∧ i = 5) := by omega
      have p5 : wi.cell? ⟨pb, 5, none⟩ = some (.slice B m e0) := HHi.out.pb.c 5
      have cW := pwakes_any wi HHi.out.tabs
      rcases hlast with ⟨h1, h2⟩ | ⟨h1, h2⟩ | ⟨h1, h2⟩
      case' inl | inr.inr => have b1 : decide (i < m) = false := by simp; omega
      case' inr.inl =>
        have b1 : decide (i < m) = true := by simp; omega
        have b2 : decide (i < 5) = false := by simp; omega
        have b3 : decide ((i : Int) < 5) = false := by simp; omega
      all_goals
        clear h1 h2
        go_wp2_with (go_at_call 12; refine cW.mono ?_; rintro e w9 ⟨rfl, hk9⟩)
        go_ret
        exact ⟨rfl, HKi.out.trans hk9⟩
end Go.Proofs.YtonenopfdoagcaaDoor
