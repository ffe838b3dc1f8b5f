/-
  THE LAW MarksSet: what is set is told, in the place of what had that name; others stay; a patch behind a mark leaves it.
-/
import Derived.Test.YtknoiehglfpepaaDoorMsE
set_option linter.unusedVariables false
namespace Go.Proofs.YtknoiehglfpepaaDoor
open Go Go.RowKit

/-- A number, brought within bounds. -/
def wi (x n : Int) : Nat := (IntKind.u64.wrap x % n).toNat
theorem wi_lt (x n : Int) (hn : 1 ≤ n) : (wi x n : Int) < n := by
  unfold wi
  have h1 := Int.emod_nonneg (IntKind.u64.wrap x) (show n ≠ 0 by omega)
  have h2 := Int.emod_lt_of_pos (IntKind.u64.wrap x) (show 0 < n by omega)
  omega
theorem within_is (x n : Int) (hn : 1 ≤ n) (hm : n ≤ 9223372036854775807) (w : World) : Calls Tryd.prog 10 #[.int .i64 x, .int .i64 n] w fun e w' => e = .returned (.int .i64 (wi x n)) ∧ w' = w := by
  have e1 : IntKind.u64.wrap n = n := IntWalk.u64_in n ⟨by omega, by omega⟩
  obtain ⟨q, hq, hq0⟩ : ∃ q, IntKind.u64.wrap x = q ∧ 0 ≤ q := ⟨_, rfl, by simp [IntKind.wrap, IntKind.bits, IntKind.signed]; omega⟩
  have e2 : q.tmod n = q % n := by rw [Int.tmod_eq_emod_of_nonneg hq0]
  have hlt := wi_lt x n hn
  have hwi : ((wi x n : Nat) : Int) = q % n := by
    unfold wi
    rw [hq]
    exact Int.toNat_of_nonneg (Int.emod_nonneg q (show n ≠ 0 by omega))
  obtain ⟨k, hk⟩ : ∃ k : Nat, wi x n = k := ⟨_, rfl⟩
  rw [hk] at hwi hlt ⊢
  have e4 : IntKind.u64.wrap (k : Int) = (k : Int) := IntWalk.u64_in _ ⟨by omega, by omega⟩
  have hn0 : (n == 0) = false := by rw [beq_eq_false_iff_ne]; omega
  have HK := Lib.hid hwi
  clear hwi hk
  go_enter Tryd.func10, Tryd.ntmps10
  go_wp2
  go_ret
  refine ⟨?_, rfl⟩
  show Ending.returned (.int .i64 (wrap64 (q % n))) = _
  rw [← HK.out, IntWalk.wrap64_in _ ⟨by omega, by omega⟩]
theorem getT_form (o : Option Int) : ∃ u v : Int, getT o = .tuple #[.int .i64 u, .int .i64 v] := by
  cases o with
  | none => exact ⟨_, _, rfl⟩
  | some y => exact ⟨_, _, rfl⟩
def xyzT : ByteArray := ⟨#[120, 121, 122]⟩
theorem xyzT_may : mayB xyzT = true := by decide
set_option maxRecDepth 100000 in
set_option maxHeartbeats 4000000 in
theorem marksSet_any (p : ScrM) (w : World) (hp : ScrMOk w p) (hT : Tabs w) :
    Calls Tryd.prog 4 #[.agg p.cells] w fun e w' => e = .returned (.bool true) ∧ Kept (fun _ => False) w w' := by
  have hK0 : Hid (Kept (fun _ => False) w (w.alloc (.cells p.cells 25))) := (Kept.refl _ w).alloc _
  have hH0 : Hid (HeldS (w.alloc (.cells p.cells 25)) w.heap.size p) := ⟨heap_alloc_new w _, hp.kept hK0.out⟩
  have HT0 := Lib.hid (hT.kept hK0.out id id)
  have cH := heavy6_any p (w.alloc (.cells p.cells 25)) hH0.out.scr
  clear hp hT
  obtain ⟨M, mn, mc, marks, L, ln, lc, acts⟩ := p
  unfold ScrM.cells at *
  simp only at *
  go_enter Tryd.func4, Tryd.ntmps4
  go_wp2_with fail
  refine cH.mono ?_
  rintro e w1 ⟨⟨hv, rfl, hsm⟩, hk1⟩
  have HS := Lib.hid hsm
  have HK1 := Lib.hid (hK0.out.trans hk1)
  have HH := Lib.hid (hH0.out.kept hk1)
  have HT1 := Lib.hid (HT0.out.kept hk1 id id)
  clear hsm hk1 hH0 hK0 cH HT0
  generalize hpb : w.heap.size = pb at HH ⊢
  clear hpb
  have p0 : w1.cell? ⟨pb, 0, none⟩ = some (.slice M mn mc) := HH.out.pb.c 0
  cases hv with
  | true =>
    go_wp2_with fail
    go_ret
    exact ⟨rfl, HK1.out⟩
  | false =>
    have hmn : mn ≤ 4000 := HS.out rfl
    have HMR := Lib.hid HH.out.scr.marks
    have HCP := Lib.hid HH.out.scr.cp
    have cC := pcheck_any M mn mc marks w1 HMR.out (by omega)
    clear HS
    go_wp2_with fail
    refine cC.mono ?_
    rintro e w2 ⟨⟨E, rfl, hE1, hE⟩, hk2⟩
    have HK2 := Lib.hid (HK1.out.trans hk2)
    have HH2 := Lib.hid (HH.out.kept hk2)
    have HT2 := Lib.hid (HT1.out.kept hk2 id id)
    have HEE := Lib.hid hE
    clear hk2 hE cC HK1 HH HT1 p0 HMR
    rcases hE1 with rfl | rfl
    case inr =>
      go_wp2_with (go_at_call 8; refine (num6_any _ _).mono ?_; rintro e w' ⟨rfl, hw⟩; have hw2 := hw.symm; subst hw2)
      go_ret
      exact ⟨rfl, HK2.out⟩
    have HO := Lib.hid (HEE.out.1 rfl)
    clear HEE
    go_wp2_with (go_at_call 8; refine (num6_any _ _).mono ?_; rintro e w' ⟨rfl, hw⟩; have hw2 := hw.symm; subst hw2)
    go_loopw [3] (fun v wr => ∃ i : Nat, i ≤ ln ∧ i ≤ 10 ∧ v = .int .i64 i ∧ Kept (fun _ => False) w2 wr) (fun v _ => ln - (intOf v).toNat)
    case atStart => exact ⟨0, Nat.zero_le _, Nat.zero_le _, rfl, Kept.refl _ _⟩
    case round =>
      obtain ⟨i, hi, hi4, rfl, hki⟩ := hrel
      obtain ⟨wi', hwi⟩ : ∃ wi', wi' = wr := ⟨_, rfl⟩
      subst hwi
      have HKW := Lib.hid hki
      clear hki
      have HHi := Lib.hid (HH2.out.kept HKW.out)
      have p0 : wi'.cell? ⟨pb, 0, none⟩ = some (.slice M mn mc) := HHi.out.pb.c 0
      have p1 : wi'.cell? ⟨pb, 1, none⟩ = some (.slice L ln lc) := HHi.out.pb.c 1
      by_cases hgo : i < ln ∧ i < 10
      · obtain ⟨g1, g2⟩ := hgo
        obtain ⟨ad, b, rfl, hb, c0, c1, c2, c3, c4, c5, _⟩ := HHi.out.scr.acts.at_ g1
        clear hb c0 c3 c4 c5
        have b1 : decide (i < ln) = true := by simp; omega
        have b2 : decide (i < 10) = true := by simp; omega
        have b3 : decide ((i : Int) < 10) = true := by simp; omega
        have b4 : decide ((i : Int) < (ln : Int)) = true := by simp; omega
        have t1 : (0 : Int) ≤ (i : Int) := by omega
        have t2 : (i : Int) < (ln : Int) := by omega
        have hK := wi_lt b.nm 26 (by omega)
        have hP := wi_lt b.pl 4000 (by omega)
        have cW1 := fun W => within_is b.nm 26 (by omega) (by omega) W
        have cW2 := fun W => within_is b.pl 4000 (by omega) (by omega) W
        generalize wi b.nm 26 = K at *
        generalize wi b.pl 4000 = P at *
        have hwz : IntKind.i64.wrap (97 + (K : Int)) = 97 + (K : Int) := IntWalk.i64_in _ ⟨by omega, by omega⟩
        go_upto_region 6 with fail
        go_quiet ((go_at_call 10; (first | with_reducible exact Calls.quiet_of_same (cW1 _) | with_reducible exact Calls.quiet_of_same (cW2 _))))
        clear hwz cW1 cW2 b1 b2 b3 b4 t1 t2 c1 c2
        have HMi := Lib.hid HHi.out.scr.marks
        have cS := fun q => mset_yes M mn mc marks (97 + K) P (wi'.drewN q) (HMi.out.kept ((Kept.refl (fun _ => False) wi').drewN q) (fun _ _ => id)) HCP.out (by omega) HO.out (by omega) (by omega)
        go_wp2_with fail
        refine (cS _).mono ?_
        rintro e w3 ⟨⟨m, f, hat, hm3⟩, hk3⟩
        obtain ⟨B, c', rfl, hR, _, hcp⟩ := hm3
        have hkV := HKW.out.trans (((Kept.refl (fun _ => False) wi').drewN _).trans hk3)
        have HKV := Lib.hid hkV
        have HR := Lib.hid hR
        have HG := Lib.hid (Rw.mget_set (y := (P : Int)) hat HO.out HMi.out.len2 (by omega) (by omega))
        have HOS := Lib.hid (Rw.mset_ok (y := (P : Int)) hat HO.out HMi.out.len2 (by omega) (by omega))
        have HL2 := Lib.hid (Rw.mset_rows (z := 97 + (K : Int)) (y := (P : Int)) (m := m) (f := f) HMi.out.len2 rfl)
        have hlen : (Rw.mset marks (97 + K) P m f).length ≤ 4001 := by rw [Rw.mset_len hat.mf, HMi.out.1]; omega
        have HHv := Lib.hid (HH2.out.kept hkV)
        clear hkV hk3 hR hcp hat cS p0 p1
        generalize Rw.mset marks (97 + K) P m f = RS at *
        go_wp2_with (go_at_call 8; refine (num6_any _ _).mono ?_; rintro e w' ⟨rfl, hw⟩; have hw2 := hw.symm; subst hw2)
        go_loopw [8] (fun v wr => ∃ kk : Int, 97 ≤ kk ∧ kk ≤ 123 ∧ v = .int .i64 kk ∧ Kept (fun _ => False) w3 wr) (fun v _ => (123 - intOf v).toNat)
        case atStart => exact ⟨97, by omega, by omega, rfl, Kept.refl _ _⟩
        case round =>
          obtain ⟨kk, hk97, hk123, rfl, hkk⟩ := hrel
          obtain ⟨wk, hwk⟩ : ∃ wk, wk = wr := ⟨_, rfl⟩
          subst hwk
          have HKK := Lib.hid hkk
          clear hkk
          have HHk := Lib.hid (HHv.out.kept HKK.out)
          by_cases hle : kk ≤ 122
          · have b1 : decide (kk ≤ 122) = true := decide_eq_true hle
            have q0 : wk.cell? ⟨pb, 0, none⟩ = some (.slice M mn mc) := HHk.out.pb.c 0
            have cG1 := mget_yes M mn mc marks kk wk HHk.out.scr.marks (by omega) HO.out
            have cG2 := fun W (h : Kept (fun _ => False) wk W) => mget_yes B RS.length c' RS kk W (HR.out.kept (HKK.out.trans h) (fun _ _ => id)) (by omega) HOS.out
            obtain ⟨u, v, e1⟩ := getT_form (Rw.mget marks kk)
            rw [e1] at cG1
            by_cases hz : kk = 97 + K
            · have e2 : Rw.mget RS kk = some (P : Int) := by rw [HG.out, if_pos hz]
              rw [e2] at cG2
              unfold getT at cG2
              simp only at cG2
              have d1 : (kk == 97 + (K : Int)) = true := by simp [hz]
              have d2 : (kk != 97 + (K : Int)) = false := by simp [hz]
              clear e1 e2 hz
              go_wp2_with fail
              refine cG1.mono ?_
              rintro e w4 ⟨rfl, hk4⟩
              have HK4 := Lib.hid hk4
              clear hk4 cG1
              go_wp2_with fail
              refine (cG2 _ HK4.out).mono ?_
              rintro e w5 ⟨rfl, hk5⟩
              have HK5 := Lib.hid (HK4.out.trans hk5)
              clear hk5 cG2
              go_wp2_with (go_at_call 8; refine (num6_any _ _).mono ?_; rintro e w' ⟨rfl, hw⟩; have hw2 := hw.symm; subst hw2)
              go_roundw
              case rel => exact ⟨kk + 1, by omega, by omega, by go_num, HKK.out.trans HK5.out⟩
              case measure => simp [intOf]; omega
            · have e2 : Rw.mget RS kk = Rw.mget marks kk := by rw [HG.out, if_neg hz]
              rw [e2, e1] at cG2
              have d1 : (kk == 97 + (K : Int)) = false := beq_eq_false_iff_ne.2 hz
              have d2 : (kk != 97 + (K : Int)) = true := by simp [hz]
              have d3 : (v != v) = false := by simp
              have d4 : (u != u) = false := by simp
              clear e1 e2 hz
              go_wp2_with fail
              refine cG1.mono ?_
              rintro e w4 ⟨rfl, hk4⟩
              have HK4 := Lib.hid hk4
              clear hk4 cG1
              go_wp2_with fail
              refine (cG2 _ HK4.out).mono ?_
              rintro e w5 ⟨rfl, hk5⟩
              have HK5 := Lib.hid (HK4.out.trans hk5)
              clear hk5 cG2
              go_wp2_with (go_at_call 8; refine (num6_any _ _).mono ?_; rintro e w' ⟨rfl, hw⟩; have hw2 := hw.symm; subst hw2)
              go_roundw
              case rel => exact ⟨kk + 1, by omega, by omega, by go_num, HKK.out.trans HK5.out⟩
              case measure => simp [intOf]; omega
          · obtain rfl : kk = 123 := by omega
            have cM := pmove_yes B RS.length c' RS P 0 xyzT wk ((HT2.out.kept HKV.out id id).kept HKK.out id id) (HR.out.kept HKK.out (fun _ _ => id)) (by omega) HOS.out (by omega) (by omega) xyzT_may
            generalize (rs xyzT).length = N3 at cM
            unfold xyzT at cM
            have hgM : Rw.mget RS (97 + K) = some (P : Int) := by rw [HG.out, if_pos rfl]
            have hgY := Rw.mmv0_at (n := N3) HOS.out HL2.out (show 0 ≤ (P : Int) ∧ (P : Int) ≤ 4000 by omega) hgM
            have HGY := Lib.hid hgY
            have HOY := Lib.hid (Rw.mmv0_ok (a := (P : Int)) (n := N3) HOS.out HL2.out (by omega))
            have hlY := Rw.mmv_len RS P 0 N3
            clear hgM hgY
            generalize Rw.mmv RS P 0 N3 = YS at *
            go_wp2_with fail
            refine cM.mono ?_
            rintro e w6 ⟨hm6, hk6⟩
            obtain ⟨C, c6, rfl, hR6, _, _⟩ := hm6
            have cG := mget_yes C YS.length c6 YS (97 + K) w6 hR6 (by omega) HOY.out
            rw [HGY.out] at cG
            unfold getT at cG
            simp only at cG
            have HK6 := Lib.hid (HKV.out.trans (HKK.out.trans hk6))
            clear hk6 hR6 cM
            go_wp2_with fail
            refine cG.mono ?_
            rintro e w7 ⟨rfl, hk7⟩
            have HK7 := Lib.hid (HK6.out.trans hk7)
            clear hk7 cG
            go_wp2_with (go_at_call 8; refine (num6_any _ _).mono ?_; rintro e w' ⟨rfl, hw⟩; have hw2 := hw.symm; subst hw2)
            go_roundw
            case rel => exact ⟨i + 1, by omega, by omega, by go_num, HK7.out⟩
            case measure => simp [intOf]; omega
      · have hlast : (i = ln ∧ i < 10) ∨ (i < ln ∧ i = 10) ∨ (i = ln ∧ i = 10) := by omega
        have cW := fun W => wakes6_any W
        have cH4 := fun W => heavy4_none W
        rcases hlast with ⟨h1, h2⟩ | ⟨h1, h2⟩ | ⟨h1, h2⟩
        case' inl | inr.inr => have b1 : decide (i < ln) = false := by simp; omega
        case' inr.inl =>
          have b1 : decide (i < ln) = true := by simp; omega
          have b2 : decide (i < 10) = false := by simp; omega
          have b3 : decide ((i : Int) < 10) = false := by simp; omega
        all_goals
          clear h1 h2
          go_wp2_with (first
            | (go_at_call 23; refine (cH4 _).mono ?_; rintro e w8 ⟨rfl, hk8⟩; have HK8 := Lib.hid (HKW.out.trans hk8); clear hk8)
            | (go_at_call 22; refine (cW _).mono ?_; rintro e w9 ⟨rfl, hk9⟩; have HK9 := Lib.hid (HK8.out.trans hk9); clear hk9))
          go_ret
          exact ⟨rfl, HK2.out.trans HK9.out⟩
end Go.Proofs.YtknoiehglfpepaaDoor
