/-
  MOTIONS BY WORDS, of the reference: e.
-/
import Derived.Test.YtclmcieegoobkaaDoorWdT
set_option linter.unusedVariables false
namespace Go.Proofs.YtclmcieegoobkaaDoor
open Go Go.RowKit

set_option maxRecDepth 100000 in
set_option maxHeartbeats 2000000 in
theorem rw101_any (A : Option Addr) (cap k cnt : Nat) (t : List Int) (w : World) (hA : Rn w A t.length t) (hr : Runey t) (hn : t.length ≤ 6000) (hk : k ≤ t.length) (hc : cnt ≤ 999) :
    Calls Tryd.prog 50 #[.slice A t.length cap, .int .i64 k, .int .i64 101, .int .i64 cnt] w fun e w' => Kept (fun _ => False) w w' ∧ e = .returned (ansW (Rw.wmv t k 101 cnt)) := by
  have cC := rcells_any A t.length cap t false w hA hr hn
  obtain ⟨m, hm⟩ := Rw.cel_pos t t.length
  have hw := Rw.w101 t k cnt
  unfold Rw.wmv
  rw [hw]
  obtain ⟨f, hf⟩ : ∃ f, f = Rw.nx (Rw.stp t false true) (Rw.lst t) := ⟨_, rfl⟩
  rw [← hf]
  obtain ⟨D, hD⟩ : ∃ D : Option Int, (if Rw.its f cnt k = k then none else some ((Rw.its f cnt k : Nat) : Int)) = D := ⟨_, rfl⟩
  rw [hD]
  have hfl : ∀ h, f h ≤ t.length := fun h => by rw [hf]; exact Rw.nx_le t false true h
  have hff : ∀ h, f h = (((Rw.cel t (t.length + 1)).drop 0).find? (fun a => Rw.isE t false a && decide (h < a))).getD (Rw.lst t) := fun h => by rw [hf, Rw.nx_fold]; simp
  have hlast := Rw.lst_at t m hm
  have hmn : m + 1 ≤ 6001 := by have := Rw.cel_len t (t.length + 1); omega
  rw [hm] at cC
  have HD := Lib.hid hD
  have HF := Lib.hid hff
  have HFL := Lib.hid hfl
  have HM := Lib.hid hm
  have HLA := Lib.hid hlast
  clear hD hff hfl hf hw hm hlast hA hr
  go_enter Tryd.func50, Tryd.ntmps50
  go_wp2_with (go_at_call 28; refine cC.mono ?_; rintro e w1 ⟨hk1, A1, c1, A2, c2, rfl, hN1, hN2⟩; have HK := Lib.hid hk1; have HN1 := Lib.hid hN1; have HN2 := Lib.hid hN2; clear hk1 hN1 hN2 cC)
  go_loopw [13, 14] (fun v u wr => ∃ h c q : Nat, v = .int .i64 h ∧ u = .int .i64 c ∧ c ≤ cnt ∧ h ≤ t.length ∧ Rw.its f (cnt - c) h = Rw.its f cnt k ∧ wr = w1.drewN q) (fun _ u _ => cnt - (intOf u).toNat)
  case atStart => exact ⟨k, 0, 0, rfl, rfl, Nat.zero_le _, hk, rfl, rfl⟩
  case round =>
    obtain ⟨h, c, q, rfl, rfl, hcc, hh, hits, rfl⟩ := hrel
    have HI := Lib.hid hits
    clear hits
    by_cases hlt : c < cnt
    · have hfh := HFL.out h
      have hfd : Hid (f h = (((Rw.cel t (t.length + 1)).drop 0).find? (fun a => Rw.isE t false a && decide (h < a))).getD (Rw.lst t)) := HF.out h
      have hstep : Hid (Rw.its f (cnt - (c + 1)) (f h) = Rw.its f cnt k) := by
        show _ = _
        rw [← HI.out, show cnt - c = (cnt - (c + 1)) + 1 by omega]
        rfl
      go_wp2
      go_loopw [15, 17] (fun v u wr => ∃ kk q : Nat, kk ≤ m + 1 ∧ u = .int .i64 ((kk : Int) - 1) ∧ v = .int .i64 (Rw.fnd1 (((Rw.cel t (t.length + 1)).drop kk).find? (fun a => Rw.isE t false a && decide (h < a)))) ∧ wr = w1.drewN q) (fun _ u _ => ((intOf u) + 1).toNat)
      case atStart =>
        refine ⟨m + 1, q, Nat.le_refl _, by simp, ?_, rfl⟩
        rw [List.drop_eq_nil_of_le (by rw [HM.out]; exact Nat.le_refl _)]
        rfl
      case round =>
        obtain ⟨kk, q, hkk, rfl, rfl, rfl⟩ := hrel
        obtain ⟨X, hX⟩ : ∃ X, Rw.fnd1 (((Rw.cel t (t.length + 1)).drop kk).find? (fun a => Rw.isE t false a && decide (h < a))) = X := ⟨_, rfl⟩
        rw [hX]
        have HX := Lib.hid hX
        clear hX
        rcases Nat.eq_zero_or_pos kk with hk0 | hk0
        · subst hk0
          cases hfx : ((Rw.cel t (t.length + 1)).drop 0).find? (fun a => Rw.isE t false a && decide (h < a)) with
          | none =>
            obtain ⟨y, hy⟩ : ∃ y, f h = y := ⟨_, rfl⟩
            have hyv : Rw.lst t = y := by rw [← hy, hfd.out, hfx]; rfl
            have hX1 : X = -1 := by rw [← HX.out, hfx]; rfl
            have HLA2 := HLA.out
            rw [hyv] at HLA2
            obtain ⟨a1, rfl, hjm, f1⟩ := ats_cell (HN1.out) HLA2
            have f1' : (w1.drewN q).cell? (a1.add m) = some (.int .i64 (y : Int)) := f1
            have HY := Lib.hid hy
            have hyl : y ≤ t.length := by rw [← hy]; exact hfh
            clear hy hyv hfx f1 HLA2 hfh
            subst hX1
            by_cases hyh : y = h
            · have HE : Hid (Rw.its f cnt k = h) := by
                show _ = _
                rw [← HI.out, Rw.its_same (by rw [HY.out, hyh])]
              subst hyh
              by_cases hx : y = k
              · subst hx
                have HD2 : Hid (D = none) := by show _ = _; rw [← HD.out, if_pos HE.out]
                go_wp2
                refine bodyPost_ret (v := .tuple #[.int .i64 0, .int .i64 6]) (by simp [results, Tryd.results50, go_sem]) rfl ⟨HK.out.drewN _, by rw [HD2.out]; rfl⟩
              · have HD2 : Hid (D = some ((y : Nat) : Int)) := by show _ = _; rw [← HD.out, HE.out, if_neg hx]
                have e1 : ((y : Int) == (k : Int)) = false := by rw [beq_eq_false_iff_ne]; omega
                have e2 : (y == k) = false := by rw [beq_eq_false_iff_ne]; exact hx
                clear hx
                go_wp2
                refine bodyPost_ret (v := .tuple #[.int .i64 (y : Nat), .int .i64 0]) (by simp [results, Tryd.results50, go_sem]) rfl ⟨HK.out.drewN _, by rw [HD2.out]; rfl⟩
            · have e3 : ((y : Int) == (h : Int)) = false := by rw [beq_eq_false_iff_ne]; omega
              have e4 : (y == h) = false := by rw [beq_eq_false_iff_ne]; exact hyh
              clear hyh
              go_wp2
              go_roundw
              case rel => exact ⟨y, c + 1, q, rfl, by go_num, by omega, hyl, by rw [← hstep.out, HY.out], rfl⟩
              case measure => simp [intOf] <;> omega
          | some y =>
            have hy : f h = y := by rw [hfd.out, hfx]; rfl
            have hX1 : X = (y : Int) := by rw [← HX.out, hfx]; rfl
            have HY := Lib.hid hy
            have hyl : y ≤ t.length := by rw [← hy]; exact hfh
            clear hy hfx hfh
            subst hX1
            by_cases hyh : y = h
            · have HE : Hid (Rw.its f cnt k = h) := by
                show _ = _
                rw [← HI.out, Rw.its_same (by rw [HY.out, hyh])]
              subst hyh
              by_cases hx : y = k
              · subst hx
                have HD2 : Hid (D = none) := by show _ = _; rw [← HD.out, if_pos HE.out]
                go_wp2
                refine bodyPost_ret (v := .tuple #[.int .i64 0, .int .i64 6]) (by simp [results, Tryd.results50, go_sem]) rfl ⟨HK.out.drewN _, by rw [HD2.out]; rfl⟩
              · have HD2 : Hid (D = some ((y : Nat) : Int)) := by show _ = _; rw [← HD.out, HE.out, if_neg hx]
                have e1 : ((y : Int) == (k : Int)) = false := by rw [beq_eq_false_iff_ne]; omega
                have e2 : (y == k) = false := by rw [beq_eq_false_iff_ne]; exact hx
                clear hx
                go_wp2
                refine bodyPost_ret (v := .tuple #[.int .i64 (y : Nat), .int .i64 0]) (by simp [results, Tryd.results50, go_sem]) rfl ⟨HK.out.drewN _, by rw [HD2.out]; rfl⟩
            · have e3 : ((y : Int) == (h : Int)) = false := by rw [beq_eq_false_iff_ne]; omega
              have e4 : (y == h) = false := by rw [beq_eq_false_iff_ne]; exact hyh
              clear hyh
              go_wp2
              go_roundw
              case rel => exact ⟨y, c + 1, q, rfl, by go_num, by omega, hyl, by rw [← hstep.out, HY.out], rfl⟩
              case measure => simp [intOf] <;> omega
        · obtain ⟨j, rfl⟩ : ∃ j, kk = j + 1 := ⟨kk - 1, by omega⟩
          obtain ⟨o, ho⟩ : ∃ o, (Rw.cel t (t.length + 1))[j]? = some o := ⟨_, List.getElem?_eq_getElem (by rw [HM.out]; omega)⟩
          obtain ⟨a1, rfl, hjm, f1⟩ := ats_cell (HN1.out) ho
          have f1' : (w1.drewN q).cell? (a1.add j) = some (.int .i64 (o : Int)) := f1
          have cE := fun W (h1 : Nums W (some a1) (m + 1) _) h2 => edge_e (some a1) A2 (m + 1) c1 c2 j o t false W ho h1 h2 (by omega) hn
          have hoi := Rw.cel_lt_n ho
          obtain ⟨V, hV⟩ : ∃ V, Rw.isE t false o = V := ⟨_, rfl⟩
          rw [hV] at cE
          have HO := Lib.hid ho
          have HV := Lib.hid hV
          have hz : ((j + 1 : Nat) : Int) - 1 = (j : Int) := by omega
          have hz2 : (j : Int) + 1 - 1 = (j : Int) := by omega
          have HN1d := Lib.hid (show Nums (w1.drewN q) (some a1) (m + 1) _ from HN1.out)
          have HN2d := Lib.hid (show Nums (w1.drewN q) A2 (m + 1) _ from HN2.out)
          have cE := cE (w1.drewN q) HN1d.out HN2d.out
          clear ho hV f1
          rw [hz]
          clear hz
          by_cases hoh : h < o
          · cases V
            · have HX2 : Hid (Rw.fnd1 (((Rw.cel t (t.length + 1)).drop j).find? (fun a => Rw.isE t false a && decide (h < a))) = X) := by show _ = _; rw [Rw.find_skip HO.out (by rw [HV.out]; rfl), HX.out]
              go_wp2_with (go_at_call 63; refine cE.mono ?_; rintro e w' ⟨rfl, q2, hw⟩; subst hw)
              go_roundw
              case rel => exact ⟨j, _, by omega, rfl, by rw [HX2.out], rfl⟩
              case measure => simp [intOf] <;> omega
            · have HX2 : Hid (Rw.fnd1 (((Rw.cel t (t.length + 1)).drop j).find? (fun a => Rw.isE t false a && decide (h < a))) = (o : Int)) := by show _ = _; rw [Rw.find_hit HO.out (by rw [HV.out]; simp; omega)]; rfl
              have f1'' : ∀ q2, (w1.drewN (q + q2)).cell? (a1.add j) = some (.int .i64 (o : Int)) := fun _ => f1'
              go_wp2_with (go_at_call 63; refine cE.mono ?_; rintro e w' ⟨rfl, q2, hw⟩; subst hw; have f2 := f1'' q2; clear f1'')
              go_roundw
              case rel => exact ⟨j, _, by omega, rfl, by rw [HX2.out], rfl⟩
              case measure => simp [intOf] <;> omega
          · have HX2 : Hid (Rw.fnd1 (((Rw.cel t (t.length + 1)).drop j).find? (fun a => Rw.isE t false a && decide (h < a))) = X) := by show _ = _; rw [Rw.find_skip HO.out (by rw [decide_eq_false hoh]; simp), HX.out]
            clear cE
            go_wp2
            go_roundw
            case rel => exact ⟨j, _, by omega, rfl, by rw [HX2.out], rfl⟩
            case measure => simp [intOf] <;> omega
    · obtain rfl : c = cnt := by omega
      have HE : Hid (Rw.its f c k = h) := by
        show _ = _
        rw [← HI.out, Nat.sub_self]
        rfl
      by_cases hx : h = k
      · subst hx
        have HD2 : Hid (D = none) := by show _ = _; rw [← HD.out, if_pos HE.out]
        go_wp2
        refine bodyPost_ret (v := .tuple #[.int .i64 0, .int .i64 6]) (by simp [results, Tryd.results50, go_sem]) rfl ⟨HK.out.drewN _, by rw [HD2.out]; rfl⟩
      · have HD2 : Hid (D = some ((h : Nat) : Int)) := by show _ = _; rw [← HD.out, HE.out, if_neg hx]
        have e1 : ((h : Int) == (k : Int)) = false := by rw [beq_eq_false_iff_ne]; omega
        have e2 : (h == k) = false := by rw [beq_eq_false_iff_ne]; exact hx
        clear hx
        go_wp2
        refine bodyPost_ret (v := .tuple #[.int .i64 (h : Nat), .int .i64 0]) (by simp [results, Tryd.results50, go_sem]) rfl ⟨HK.out.drewN _, by rw [HD2.out]; rfl⟩
end Go.Proofs.YtclmcieegoobkaaDoor
