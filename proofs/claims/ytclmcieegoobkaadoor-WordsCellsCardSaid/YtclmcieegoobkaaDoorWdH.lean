/-
  THE LAW WordsCells, walked.
-/
import Derived.Test.YtclmcieegoobkaaDoorWdG
set_option linter.unusedVariables false
namespace Go.Proofs.YtclmcieegoobkaaDoor
open Go Go.RowKit

theorem own_keep {w w' : World} {B : Nat} {e : TypeId} {sz n : Nat} {v : Value} {xs : List Value} (h : w.ownsRow B e sz v n xs) (hk : Kept (fun _ => False) w w') : w'.ownsRow B e sz v n xs := by
  refine ⟨h.1, ?_⟩
  rcases h.2 with hn | ⟨g, cap, cur, rfl, hb, hgg, rest⟩
  · exact .inl hn
  · exact .inr ⟨g, cap, cur, rfl, hb, (hk.block g (Array.getElem?_eq_some_iff.1 hgg).1 id).trans hgg, rest⟩
theorem nums_nil (w : World) : Nums w none 0 [] := ⟨rfl, fun j x h => by simp at h⟩
set_option maxRecDepth 100000 in
set_option maxHeartbeats 2000000 in
theorem wordsCells_any (p : AskV) (w : World) (hp : AskOk w p) (hT : Tabs w) : Calls Tryd.prog 7 #[.agg p.cells] w fun e w' => e = .returned (.bool true) ∧ Kept (fun _ => False) w w' := by
  have hK0 : Hid (Kept (fun _ => False) w (w.alloc (.cells p.cells 39))) := (Kept.refl _ w).alloc _
  have hH0 : Hid (Held (w.alloc (.cells p.cells 39)) w.heap.size p) := ⟨heap_alloc_new w _, hp.kept hK0.out, hT.kept hK0.out id id⟩
  have cH := heavy10_any p (w.alloc (.cells p.cells 39)) hH0.out.ask
  clear hp hT
  obtain ⟨A, n0, c0, ss, xa, xb, xr, xc, xk, xn, xq⟩ := p
  unfold AskV.cells at *
  simp only at *
  go_enter Tryd.func7, Tryd.ntmps7
  go_wp2_with (go_at_call 26; refine cH.mono ?_; rintro e w1 ⟨⟨hv, rfl, hsm⟩, hk1⟩; have HS := Lib.hid hsm; have HKA := Lib.hid (hK0.out.trans hk1); have HHA := Lib.hid (hH0.out.kept hk1); clear hsm hk1 hH0 hK0 cH)
  · exact bodyPost_ret (results_tmp rfl _ _ _) rfl ⟨rfl, HKA.out⟩
  have hv0 : hv = false := by assumption
  subst hv0
  have hss : ∀ s ∈ ss, s.size ≤ 6000 := HS.out rfl
  have HSS := Lib.hid hss
  clear hss HS
  generalize hpb : w.heap.size = pb at HHA ⊢
  clear hpb
  go_loopw [3] (fun v wr => ∃ i : Nat, i ≤ n0 ∧ i ≤ 4 ∧ v = .int .i64 i ∧ Kept (fun _ => False) w1 wr) (fun v _ => n0 - (intOf v).toNat)
  case atStart => exact ⟨0, Nat.zero_le _, Nat.zero_le _, rfl, Kept.refl _ _⟩
  case round =>
    obtain ⟨i, hi, hi4, rfl, hki⟩ := hrel
    obtain ⟨wi, hwi⟩ : ∃ wi, wi = wr := ⟨_, rfl⟩
    subst hwi
    have HKi := Lib.hid (HKA.out.trans hki)
    have HHi := Lib.hid (HHA.out.kept hki)
    have HKW := Lib.hid hki
    clear hki
    have p0 : wi.cell? ⟨pb, 0, none⟩ = some (.slice A n0 c0) := HHi.out.pb.c 0
    by_cases hgo : i < n0 ∧ i < 4
    · obtain ⟨g1, g2⟩ := hgo
      obtain ⟨ad, s, rfl, hs, hsc, _⟩ := HHi.out.ask.ss.cell g1
      have hsz : s.size ≤ 6000 := HSS.out s (List.mem_of_getElem? hs)
      have HSI := Lib.hid hs
      have b1 : decide (i < n0) = true := by simp; omega
      have b2 : decide (i < 4) = true := by simp; omega
      have b3 : decide ((i : Int) < 4) = true := by simp; omega
      have t1 : (0 : Int) ≤ (i : Int) := by omega
      have t2 : (i : Int) < (n0 : Int) := by omega
      clear hs
      go_wp2_with fail
      clear b1 b2 b3 p0 hsc
      go_loopw [4] (fun v wr => ∃ k : Nat, k ≤ 2 ∧ v = .int .i64 k ∧ Kept (fun _ => False) wi wr) (fun v _ => 2 - (intOf v).toNat)
      case atStart => exact ⟨0, Nat.zero_le _, rfl, Kept.refl _ _⟩
      case round =>
        obtain ⟨k, hk, rfl, hkk⟩ := hrel
        obtain ⟨wk, hwk⟩ : ∃ wk, wk = wr := ⟨_, rfl⟩
        subst hwk
        have HKK := Lib.hid hkk
        have HHk := Lib.hid (HHi.out.kept hkk)
        clear hkk
        by_cases hk2 : k < 2
        · have b1 : decide (k < 2) = true := by simp; omega
          have b2 : decide ((k : Int) < 2) = true := by simp; omega
          obtain ⟨big, hbig⟩ : ∃ big, ((k : Int) == 1) = big := ⟨_, rfl⟩
          have q0 : wk.cell? ⟨pb, 0, none⟩ = some (.slice (some ad) n0 c0) := HHk.out.pb.c 0
          have q1 := HHk.out.str rfl HSI.out
          cases hm : mayB s with
          | false =>
            have cC := pcells_no s big wk (by omega) HHk.out.tabs hm
            have cMay := fun W (hW : Tabs W) => rmay_any s W (by omega) hW
            rw [hm] at cMay
            clear hm
            go_wp2_with (first | (go_at_call 27; refine cC.mono ?_; rintro e w3 ⟨hk3, rfl⟩; have HK3 := Lib.hid (HKK.out.trans hk3); have HH3 := Lib.hid (HHk.out.kept hk3); have HKV3 := Lib.hid hk3; have r0 := cell_kept hk3 q0 id; have r1 := cell_kept hk3 q1 id; clear hk3 q0 q1 cC b1 b2) | (go_at_call 20; refine (cMay _ HH3.out.tabs).mono ?_; rintro e w4 ⟨rfl, hk4⟩; have HK4 := Lib.hid (HK3.out.trans hk4); clear hk4 cMay))
            refine (num_any _ _).mono ?_
            rintro e w' ⟨rfl, hw⟩
            have hw2 := hw.symm
            clear hw
            subst hw2
            go_wp2_with fail
            refine (eqnum_yes none none 0 0 0 [] w4 (nums_nil _) (nums_nil _) (by omega)).mono ?_
            rintro e w' ⟨rfl, q5, hw⟩
            subst hw
            go_wp2_with fail
            refine (eqnum_yes none none 0 0 0 [] (w4.drewN q5) (nums_nil _) (nums_nil _) (by omega)).mono ?_
            rintro e w' ⟨rfl, q6, hw⟩
            subst hw
            go_wp2_with fail
            refine (numbers_any 0 (.slice none 0 0) 0 [] _ (World.ownsRow_nil _ _ _ _) (by omega) (Nat.zero_le _)).mono ?_
            rintro e w7 ⟨rfl, hk7⟩
            have HK7 := Lib.hid (Kept.fresh (S := fun b => (Value.slice none 0 0).ownBlock = some b) (HK4.out.drewN (q5 + q6)) hk7 (fun b _ h => by cases h))
            clear hk7
            go_wp2_with fail
            exact ⟨⟨k + 1, by omega, by go_num, HK7.out⟩, by simp [intOf]; omega⟩
          | true =>
            have cC := pcells_yes s big wk HHk.out.tabs hm
            have cMay := fun W (hW : Tabs W) => rmay_any s W (by omega) hW
            rw [hm] at cMay
            have hl := rs_len s
            have hrn := rs_runey (mayB_valid hm)
            have hszm := mayB_size hm
            have cV := fun W => conv_rs s W (by omega)
            generalize rs s = t at *
            have HRN := Lib.hid hrn
            have hlm := Rw.cel_len t (t.length + 1)
            have cRc := fun (b c : Nat) (W : World) (hA : Rn W (some ⟨b, 0, none⟩) t.length t) => rcells_any (some ⟨b, 0, none⟩) t.length c t big W hA HRN.out (by omega)
            have hl1 : (ats (Rw.cel t (t.length + 1))).length = (Rw.cel t (t.length + 1)).length := by unfold ats; rw [List.length_map]
            have hl2 : (kls t big (Rw.cel t (t.length + 1))).length = (Rw.cel t (t.length + 1)).length := by unfold kls; rw [List.length_map]
            generalize hM : (Rw.cel t (t.length + 1)).length = M at *
            generalize ats (Rw.cel t (t.length + 1)) = xs at *
            generalize kls t big (Rw.cel t (t.length + 1)) = ys at *
            have HL1 := Lib.hid hl1
            have HL2 := Lib.hid hl2
            have hwik := HKK.out.size
            clear hm hrn hM hl1 hl2
            go_wp2_with (first | (go_at_call 27; refine cC.mono ?_; rintro e w3 ⟨hk3, v1, v2, B, rfl, hB1, hB2, hO1, hO2, hap⟩; have HK3 := Lib.hid (HKK.out.trans hk3); have HH3 := Lib.hid (HHk.out.kept hk3); have HO1 := Lib.hid hO1; have HO2 := Lib.hid hO2; have r0 := cell_kept hk3 q0 id; have r1 := cell_kept hk3 q1 id; clear hk3 q0 q1 cC b1 b2 hO1 hO2 hap) | (go_at_call 20; refine (cMay _ HH3.out.tabs).mono ?_; rintro e w4 ⟨rfl, hk4⟩; have HK4 := Lib.hid (HK3.out.trans hk4); have HK34 := Lib.hid hk4; have s0 := cell_kept hk4 r0 id; have s1 := cell_kept hk4 r1 id; obtain ⟨cap, w5, hcap, hcv, hk5, hlt5, hR⟩ := cV w4; have HK5 := Lib.hid hk5; have HR5 := Lib.hid hR; clear hk4 cMay cV r0 r1 hcap hlt5 hR hk5))
            refine (cRc _ cap w5 HR5.out).mono ?_
            rintro e w6 ⟨hk6, A1, c1, A2, c2, rfl, hN1, hN2⟩
            obtain ⟨B1, d1, rfl, hM1, _, _⟩ := owned_nums HO1.out HL1.out
            obtain ⟨B2, d2, rfl, hM2, _, _⟩ := owned_nums HO2.out HL2.out
            have hk36 := HK34.out.trans (HK5.out.trans hk6)
            have HO6 := Lib.hid (own_keep HO1.out hk36)
            have HK6 := Lib.hid (HK3.out.trans hk36)
            have HN1 := Lib.hid hN1
            have HN2 := Lib.hid hN2
            have HM1 := Lib.hid (hM1.kept hk36 (fun _ _ => id))
            have HM2 := Lib.hid (hM2.kept hk36 (fun _ _ => id))
            have hB3 := Nat.le_trans hB2 hk36.size
            clear hk6 hk36 hN1 hN2 hM1 hM2 s0 s1 cRc hcv
            go_wp2_with fail
            refine (num_any _ _).mono ?_
            rintro e w' ⟨rfl, hw⟩
            have hw2 := hw.symm
            clear hw
            subst hw2
            go_wp2_with fail
            refine (eqnum_yes B1 A1 M d1 c1 xs w6 HM1.out HN1.out (by omega)).mono ?_
            rintro e w' ⟨rfl, q5, hw⟩
            subst hw
            go_wp2_with fail
            refine (eqnum_yes B2 A2 M d2 c2 ys (w6.drewN q5) HM2.out HN2.out (by omega)).mono ?_
            rintro e w' ⟨rfl, q6, hw⟩
            subst hw
            go_wp2_with fail
            refine (numbers_any B (.slice B1 M d1) M (xs.map (Value.int .i64)) (w6.drewN (q5 + q6)) HO6.out (by omega) hB3).mono ?_
            rintro e w7 ⟨rfl, hk7⟩
            have HK7 := Lib.hid (Kept.fresh (S := fun b => (Value.slice B1 M d1).ownBlock = some b) (HK6.out.drewN (q5 + q6)) hk7 (fun b hb h => by have := (HO6.out.lt b h).1; omega))
            clear hk7
            go_wp2_with fail
            exact ⟨⟨k + 1, by omega, by go_num, HK7.out⟩, by simp [intOf]; omega⟩
        · obtain rfl : k = 2 := by omega
          go_wp2_with fail
          go_roundw
          case rel => exact ⟨i + 1, by omega, by omega, by go_num, HKW.out.trans HKK.out⟩
          case measure => simp [intOf] <;> omega
    · have hlast : (i = n0 ∧ i < 4) ∨ (i < n0 ∧ i = 4) ∨ (i = n0 ∧ i = 4) := by omega
      have cW := wakes_any wi HHi.out.tabs
      rcases hlast with ⟨h1, h2⟩ | ⟨h1, h2⟩ | ⟨h1, h2⟩
      case' inl | inr.inr => have b1 : decide (i < n0) = false := by simp; omega
      case' inr.inl =>
        have b1 : decide (i < n0) = true := by simp; omega
        have b2 : decide (i < 4) = false := by simp; omega
        have b3 : decide ((i : Int) < 4) = false := by simp; omega
      all_goals
        clear h1 h2
        go_wp2_with (go_at_call 32; refine cW.mono ?_; rintro e w9 ⟨rfl, hk9⟩)
        go_ret
        exact ⟨rfl, HKi.out.trans hk9⟩
end Go.Proofs.YtclmcieegoobkaaDoor
