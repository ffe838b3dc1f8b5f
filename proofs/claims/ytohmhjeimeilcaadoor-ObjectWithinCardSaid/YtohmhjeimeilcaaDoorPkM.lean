/-
  THE MATE OF A BRACKET, of the reference: by counting.
-/
import Derived.Test.YtohmhjeimeilcaaDoorPkR
import Derived.Deep.RegionWith
set_option linter.unusedVariables false
namespace Go.Proofs.YtohmhjeimeilcaaDoor
open Go Go.RowKit

theorem opens_at {k : Nat} {o : Int} (hk : k < 3) (ho : Rw.opn k = o) (w : World) : Calls Tryd.prog 38 #[] w fun e w' => ∃ b, e = .returned (.slice (some ⟨b, 0, none⟩) 3 3) ∧ w'.cell? ⟨b, k, none⟩ = some (.int .i32 o) ∧ Kept (fun _ => False) w w' :=
  (opens_any w).mono fun e w' ⟨b, h1, h2, h3⟩ => ⟨b, h1, ho ▸ h2 k hk, h3⟩
theorem shuts_at {k : Nat} {o : Int} (hk : k < 3) (ho : Rw.sht k = o) (w : World) : Calls Tryd.prog 39 #[] w fun e w' => ∃ b, e = .returned (.slice (some ⟨b, 0, none⟩) 3 3) ∧ w'.cell? ⟨b, k, none⟩ = some (.int .i32 o) ∧ Kept (fun _ => False) w w' :=
  (shuts_any w).mono fun e w' ⟨b, h1, h2, h3⟩ => ⟨b, h1, ho ▸ h2 k hk, h3⟩
theorem wrapI {a b : Int} (h : a = b) (h1 : -9223372036854775808 ≤ b) (h2 : b ≤ 9223372036854775807) : IntKind.i64.wrap a = b := by
  rw [h]
  exact IntWalk.i64_in _ ⟨h1, h2⟩
/-- A place as a number; -1: none. -/
def oI (o : Option Nat) : Int := match o with
  | some m => (m : Int)
  | none => -1
/-- A step of the count to the right. -/
theorem fsc_step {t : List Int} {k n a j d : Nat} {R : Option Nat} {y : Int} {B1 B2 : Bool} {D : Nat} (hn : t.length = n) (hj : j < n) (hy : t[j]? = some y) (h : (j = a ∧ d = 0) ∨ (a < j ∧ 1 ≤ d ∧ Rw.fsc t k (n - j) j d = R)) (ha : t[a]? = some (Rw.opn k)) (hR : Rw.mateO t k a = R)
    (hB1 : (y == Rw.opn k) = B1) (hB2 : (y == Rw.sht k) = B2) (hD : (if B1 = true then d + 1 else d) = D) :
    (∃ E, B2 = true ∧ D = E + 2 ∧ Rw.fsc t k (n - (j + 1)) (j + 1) (E + 1) = R) ∨ (B2 = true ∧ D = 1 ∧ R = some j) ∨ (B2 = false ∧ 1 ≤ D ∧ Rw.fsc t k (n - (j + 1)) (j + 1) D = R) := by
  have hne := Rw.opn_sht k k
  rcases h with ⟨rfl, rfl⟩ | ⟨h1, h2, h3⟩
  · rw [ha] at hy
    injection hy with hy
    subst hy
    have e1 : B1 = true := by rw [← hB1]; simp
    have e2 : B2 = false := by rw [← hB2, beq_eq_false_iff_ne]; exact hne
    subst e1 e2
    simp only [if_true] at hD
    subst hD
    refine .inr (.inr ⟨rfl, by omega, ?_⟩)
    rw [← hR, Rw.mateO, hn]
  · obtain ⟨f, hf⟩ : ∃ f, n - j = f + 1 := ⟨n - j - 1, by omega⟩
    have hf' : n - (j + 1) = f := by omega
    rw [hf] at h3
    rw [hf']
    unfold Rw.fsc at h3
    rw [hy] at h3
    by_cases c1 : y = Rw.opn k
    · have e1 : B1 = true := by rw [← hB1, c1]; simp
      have e2 : B2 = false := by rw [← hB2, beq_eq_false_iff_ne, c1]; exact hne
      subst e1 e2
      simp only [if_true] at hD
      subst hD
      rw [if_pos (by rw [c1])] at h3
      exact .inr (.inr ⟨rfl, by omega, h3⟩)
    · have e1 : B1 = false := by rw [← hB1, beq_eq_false_iff_ne]; exact c1
      subst e1
      simp only [Bool.false_eq_true, if_false] at hD
      subst hD
      rw [if_neg (fun e => c1 (Option.some.inj e))] at h3
      by_cases c2 : y = Rw.sht k
      · have e2 : B2 = true := by rw [← hB2, c2]; simp
        subst e2
        rw [if_pos (by rw [c2])] at h3
        by_cases c3 : d ≤ 1
        · rw [if_pos c3] at h3
          exact .inr (.inl ⟨rfl, by omega, h3.symm⟩)
        · rw [if_neg c3] at h3
          refine .inl ⟨d - 2, rfl, by omega, ?_⟩
          rw [show d - 2 + 1 = d - 1 by omega]
          exact h3
      · have e2 : B2 = false := by rw [← hB2, beq_eq_false_iff_ne]; exact c2
        subst e2
        rw [if_neg (fun e => c2 (Option.some.inj e))] at h3
        exact .inr (.inr ⟨rfl, h2, h3⟩)
/-- A step of the count to the left. -/
theorem rsc_step {t : List Int} {k a i d : Nat} {R : Option Nat} {y : Int} {B1 B2 : Bool} {D : Nat} (hy : t[i]? = some y) (h : (i = a ∧ d = 0) ∨ (i < a ∧ 1 ≤ d ∧ Rw.rsc t k (i + 1) d = R)) (ha : t[a]? = some (Rw.sht k)) (hR : (Rw.stk t k a).head? = R)
    (hB1 : (y == Rw.opn k) = B1) (hB2 : (y == Rw.sht k) = B2) (hD : (if B1 = true then d - 1 else d) = D) :
    (B1 = true → 1 ≤ d) ∧ ((B2 = true ∧ Rw.rsc t k i (D + 1) = R) ∨ (B2 = false ∧ D = 0 ∧ R = some i) ∨ (B2 = false ∧ 1 ≤ D ∧ Rw.rsc t k i D = R)) := by
  have hne := Rw.opn_sht k k
  rcases h with ⟨rfl, rfl⟩ | ⟨h1, h2, h3⟩
  · rw [ha] at hy
    injection hy with hy
    subst hy
    have e1 : B1 = false := by rw [← hB1, beq_eq_false_iff_ne]; exact fun e => hne e.symm
    have e2 : B2 = true := by rw [← hB2]; simp
    subst e1 e2
    simp only [Bool.false_eq_true, if_false] at hD
    subst hD
    refine ⟨fun h => (by cases h), .inl ⟨rfl, ?_⟩⟩
    rw [Rw.rsc_stk t k i 1 (by omega), ← hR, List.head?_eq_getElem?]
  · refine ⟨fun _ => h2, ?_⟩
    unfold Rw.rsc at h3
    rw [hy] at h3
    by_cases c1 : y = Rw.opn k
    · have e1 : B1 = true := by rw [← hB1, c1]; simp
      have e2 : B2 = false := by rw [← hB2, beq_eq_false_iff_ne, c1]; exact hne
      subst e1 e2
      simp only [if_true] at hD
      subst hD
      rw [if_pos (by rw [c1])] at h3
      by_cases c3 : d ≤ 1
      · rw [if_pos c3] at h3
        exact .inr (.inl ⟨rfl, by omega, h3.symm⟩)
      · rw [if_neg c3] at h3
        exact .inr (.inr ⟨rfl, by omega, h3⟩)
    · have e1 : B1 = false := by rw [← hB1, beq_eq_false_iff_ne]; exact c1
      subst e1
      simp only [Bool.false_eq_true, if_false] at hD
      subst hD
      rw [if_neg (fun e => c1 (Option.some.inj e))] at h3
      by_cases c2 : y = Rw.sht k
      · have e2 : B2 = true := by rw [← hB2, c2]; simp
        subst e2
        rw [if_pos (by rw [c2])] at h3
        exact .inl ⟨rfl, h3⟩
      · have e2 : B2 = false := by rw [← hB2, beq_eq_false_iff_ne]; exact c2
        subst e2
        rw [if_neg (fun e => c2 (Option.some.inj e))] at h3
        exact .inr (.inr ⟨rfl, h2, h3⟩)
set_option maxRecDepth 100000 in
set_option maxHeartbeats 1000000 in
theorem rmateO_any (A : Option Addr) (n c k at' : Nat) (t : List Int) (w : World) (hA : Rn w A n t) (hn : n ≤ 100000) (hk : k < 3) (hx : t[at']? = some (Rw.opn k)) :
    Calls Tryd.prog 19 #[.slice A n c, .int .i64 at'] w fun e w' => e = .returned (.int .i64 (Rw.mt t at')) ∧ Kept (fun _ => False) w w' := by
  have hmt : Rw.mt t at' = oI (Rw.mateO t k at') := by unfold Rw.mt; rw [Rw.mate_open hk hx]; cases Rw.mateO t k at' <;> rfl
  have hatn : at' < n := by rw [← hA.1]; exact (List.getElem?_eq_some_iff.1 hx).1
  have cBr := bracket_any (Rw.opn k) w
  rw [brV_o hk] at cBr
  obtain ⟨o, ho⟩ : ∃ o, Rw.opn k = o := ⟨_, rfl⟩
  obtain ⟨s, hs⟩ : ∃ s, Rw.sht k = s := ⟨_, rfl⟩
  obtain ⟨ad, x, rfl, hx2, hcx⟩ := hA.cell hatn
  have hxo : x = o := by rw [hx] at hx2; injection hx2 with e; rw [← e, ho]
  subst hxo
  rw [ho] at cBr
  obtain ⟨R, hR⟩ : ∃ R, Rw.mateO t k at' = R := ⟨_, rfl⟩
  rw [hmt, hR]
  have HA := Lib.hid hA
  have HR := Lib.hid hR
  have HO := Lib.hid ho
  have HS := Lib.hid hs
  have HX := Lib.hid hx
  have hlen := hA.1
  have HL := Lib.hid hlen
  clear hA hmt hx hx2 hR ho hs hlen
  have t1 : (0 : Int) ≤ (k : Int) := by omega
  have t2 : (k : Int) < 3 := by omega
  go_enter Tryd.func19, Tryd.ntmps19
  go_wp2_with (go_at_call 37; refine cBr.mono ?_; rintro e w1 ⟨rfl, hk1⟩; have HK1 := Lib.hid hk1; have HA1 := Lib.hid (HA.out.kept hk1 (fun _ _ => id)); clear hk1 cBr)
  clear hcx
  go_loopw [8, 9] (fun dv iv wr => ∃ j d : Nat, dv = .int .i64 d ∧ iv = .int .i64 j ∧ j ≤ n ∧ d ≤ j ∧ ((j = at' ∧ d = 0) ∨ (at' < j ∧ 1 ≤ d ∧ Rw.fsc t k (n - j) j d = R)) ∧ Kept (fun _ => False) w1 wr) (fun _ iv _ => n - (intOf iv).toNat)
  case atStart => exact ⟨at', 0, rfl, rfl, by omega, by omega, .inl ⟨rfl, rfl⟩, Kept.refl _ _⟩
  case round =>
    obtain ⟨j, d, rfl, rfl, hjn, hdj, hst, hkept⟩ := hrel
    have HST := Lib.hid hst
    have HK := Lib.hid hkept
    clear hst hkept
    have b0 : decide ((0 : Int) ≤ (j : Int)) = true := decide_eq_true (by omega)
    by_cases hlt : j < n
    · obtain ⟨ad', y, he, hy, hcy⟩ := HA1.out.cell hlt
      injection he with he
      subst he
      have f1 := cell_kept HK.out hcy id
      have HY := Lib.hid hy
      clear hy hcy
      have b1 : decide (j < n) = true := decide_eq_true hlt
      have b2 : decide ((j : Int) < (n : Int)) = true := decide_eq_true (by omega)
      obtain ⟨B1, hB1⟩ : ∃ B, (y == x) = B := ⟨_, rfl⟩
      obtain ⟨B2, hB2⟩ : ∃ B, (y == s) = B := ⟨_, rfl⟩
      have HB1 := Lib.hid hB1
      have HB2 := Lib.hid hB2
      clear hB2
      go_upto_region 13 with fail
      go_cut [46] from 38 to 46 (fun v wx => v = .bool B1 ∧ Kept (fun _ => False) wr wx)
      case first =>
        go_region_with (go_at_call 38; refine (opens_at (by omega) HO.out _).mono ?_; rintro e w8 ⟨b, rfl, g1, hk8⟩; have K2 := cell_kept hk8 f1 id; have HK8 := Lib.hid hk8; clear hk8)
        all_goals
          go_wp2_with fail
          go_meet
          exact ⟨rfl, (Kept.refl (fun _ => False) wr).drew.trans HK8.out⟩
      case rest =>
        obtain ⟨rfl, hk2⟩ := hcut
        have HK2 := Lib.hid (HK.out.trans hk2)
        have f2 := cell_kept hk2 f1 id
        clear hk2 hB1 f1
        obtain ⟨v2, hv2⟩ : ∃ v, v = wc := ⟨_, rfl⟩
        subst hv2
        obtain ⟨D, hD⟩ : ∃ D : Nat, (if B1 = true then d + 1 else d) = D := ⟨_, rfl⟩
        have HD := Lib.hid hD
        have hdn : d ≤ 100000 := by omega
        go_upto_if 46 with fail
        go_cut [8] from 47 to 49 (fun v wx => v = .int .i64 (D : Nat) ∧ wx = v2)
        case first =>
          cases B1 with
          | true =>
            have e : D = d + 1 := hD.symm
            subst e
            clear hD
            go_wp2_with fail
            go_meet
            exact ⟨by go_num, rfl⟩
          | false =>
            have e : D = d := hD.symm
            subst e
            clear hD
            go_wp2_with fail
            go_meet
            exact ⟨rfl, rfl⟩
        case rest =>
          obtain ⟨rfl, hw⟩ := hcut
          have hw2 := hw.symm
          clear hw
          subst hw2
          clear hD
          go_upto_region 15 with fail
          have hB2 := HB2.out
          go_cut [58] from 50 to 58 (fun v wx => v = .bool B2 ∧ Kept (fun _ => False) v2 wx)
          case first =>
            go_region_with (go_at_call 39; refine (shuts_at (by omega) HS.out _).mono ?_; rintro e w8 ⟨b, rfl, g1, hk8⟩; have K2 := cell_kept hk8 f2 id; have HK8 := Lib.hid hk8; clear hk8)
            all_goals
              go_wp2_with fail
              go_meet
              exact ⟨rfl, (Kept.refl (fun _ => False) v2).drew.trans HK8.out⟩
          case rest =>
            obtain ⟨rfl, hk3⟩ := hcut
            have HK3 := Lib.hid (HK2.out.trans hk3)
            clear hk3 hB2 f2
            have hend := fsc_step (B1 := B1) (B2 := B2) HL.out hlt HY.out HST.out HX.out HR.out (by rw [HO.out]; exact HB1.out) (by rw [HS.out]; exact HB2.out) HD.out
            have hDn : D ≤ j + 1 := by rw [← HD.out]; split <;> omega
            rcases hend with ⟨E, rfl, rfl, he⟩ | ⟨rfl, rfl, he⟩ | ⟨rfl, h1, he⟩
            · have HE := Lib.hid he
              have b5 : ((E : Int) + 1 == 0) = false := by rw [beq_eq_false_iff_ne]; omega
              have b6 : (E + 1 == 0) = false := by rw [beq_eq_false_iff_ne]; omega
              have b7 : IntKind.i64.wrap (((E + 2 : Nat) : Int) - 1) = ((E + 1 : Nat) : Int) := wrapI (by omega) (by omega) (by omega)
              clear he
              go_wp2_with fail
              go_roundw
              case rel => exact ⟨j + 1, E + 1, by go_num, by go_num, by omega, by omega, .inr ⟨by rcases HST.out with h | h <;> omega, by omega, HE.out⟩, HK3.out⟩
              case measure => simp [intOf] <;> omega
            · have HE := Lib.hid he
              clear he
              go_wp2_with fail
              go_ret
              rw [HE.out]
              exact ⟨rfl, HK1.out.trans HK3.out⟩
            · have HE := Lib.hid he
              have b5 : ((D : Int) == 0) = false := by rw [beq_eq_false_iff_ne]; omega
              have b6 : (D == 0) = false := by rw [beq_eq_false_iff_ne]; omega
              clear he
              go_wp2_with fail
              go_roundw
              case rel => exact ⟨j + 1, D, rfl, by go_num, by omega, by omega, .inr ⟨by rcases HST.out with h | h <;> omega, by omega, HE.out⟩, HK3.out⟩
              case measure => simp [intOf] <;> omega
    · obtain rfl : j = n := by omega
      have hR : R = none := by
        rcases HST.out with ⟨h, _⟩ | ⟨_, _, h⟩
        · omega
        · rw [← h, Nat.sub_self]; rfl
      subst hR
      have b1 : decide (j < j) = false := decide_eq_false (by omega)
      have b2 : decide ((j : Int) < (j : Int)) = false := decide_eq_false (by omega)
      go_wp2_with fail
      go_ret
      exact ⟨rfl, HK1.out.trans HK.out⟩
set_option maxRecDepth 100000 in
set_option maxHeartbeats 1000000 in
theorem rmateS_any (A : Option Addr) (n c k at' : Nat) (t : List Int) (w : World) (hA : Rn w A n t) (hn : n ≤ 100000) (hk : k < 3) (hx : t[at']? = some (Rw.sht k)) :
    Calls Tryd.prog 19 #[.slice A n c, .int .i64 at'] w fun e w' => e = .returned (.int .i64 (Rw.mt t at')) ∧ Kept (fun _ => False) w w' := by
  have hmt : Rw.mt t at' = oI (Rw.stk t k at').head? := by unfold Rw.mt; rw [Rw.mate_shut hk hx]; cases (Rw.stk t k at').head? <;> rfl
  have hatn : at' < n := by rw [← hA.1]; exact (List.getElem?_eq_some_iff.1 hx).1
  have cBr := bracket_any (Rw.sht k) w
  rw [brV_s hk] at cBr
  obtain ⟨o, ho⟩ : ∃ o, Rw.opn k = o := ⟨_, rfl⟩
  obtain ⟨s, hs⟩ : ∃ s, Rw.sht k = s := ⟨_, rfl⟩
  obtain ⟨ad, x, rfl, hx2, hcx⟩ := hA.cell hatn
  have hxs : x = s := by rw [hx] at hx2; injection hx2 with e; rw [← e, hs]
  subst hxs
  rw [hs] at cBr
  obtain ⟨R, hR⟩ : ∃ R, (Rw.stk t k at').head? = R := ⟨_, rfl⟩
  rw [hmt, hR]
  have HA := Lib.hid hA
  have HR := Lib.hid hR
  have HO := Lib.hid ho
  have HS := Lib.hid hs
  have HX := Lib.hid hx
  have hlen := hA.1
  have HL := Lib.hid hlen
  clear hA hmt hx hx2 hR ho hs hlen
  have t1 : (0 : Int) ≤ (k : Int) := by omega
  have t2 : (k : Int) < 3 := by omega
  go_enter Tryd.func19, Tryd.ntmps19
  go_wp2_with (go_at_call 37; refine cBr.mono ?_; rintro e w1 ⟨rfl, hk1⟩; have HK1 := Lib.hid hk1; have HA1 := Lib.hid (HA.out.kept hk1 (fun _ _ => id)); clear hk1 cBr)
  clear hcx
  go_loopw [8, 9] (fun dv iv wr => ∃ (j d : Nat) (I : Int), dv = .int .i64 d ∧ iv = .int .i64 I ∧ I + 1 = (j : Int) ∧ j ≤ at' + 1 ∧ d + j ≤ at' + 1 ∧ ((j = at' + 1 ∧ d = 0) ∨ (j ≤ at' ∧ 1 ≤ d ∧ Rw.rsc t k j d = R)) ∧ Kept (fun _ => False) w1 wr) (fun _ iv _ => (intOf iv + 1).toNat)
  case atStart => exact ⟨at' + 1, 0, at', rfl, rfl, by omega, by omega, by omega, .inl ⟨rfl, rfl⟩, Kept.refl _ _⟩
  case round =>
    obtain ⟨j, d, I, rfl, rfl, hIj, hjn, hdj, hst, hkept⟩ := hrel
    have HST := Lib.hid hst
    have HK := Lib.hid hkept
    clear hst hkept
    by_cases hj0 : 1 ≤ j
    · obtain ⟨i, rfl⟩ : ∃ i, j = i + 1 := ⟨j - 1, by omega⟩
      obtain rfl : I = (i : Int) := by omega
      have hlt : i < n := by omega
      have b0 : decide ((0 : Int) ≤ (i : Int)) = true := decide_eq_true (by omega)
      obtain ⟨ad', y, he, hy, hcy⟩ := HA1.out.cell hlt
      injection he with he
      subst he
      have f1 := cell_kept HK.out hcy id
      have HY := Lib.hid hy
      clear hy hcy hIj
      have b1 : decide (i < n) = true := decide_eq_true hlt
      have b2 : decide ((i : Int) < (n : Int)) = true := decide_eq_true (by omega)
      obtain ⟨B1, hB1⟩ : ∃ B, (y == o) = B := ⟨_, rfl⟩
      obtain ⟨B2, hB2⟩ : ∃ B, (y == x) = B := ⟨_, rfl⟩
      have HB1 := Lib.hid hB1
      have HB2 := Lib.hid hB2
      clear hB2
      go_upto_region 13 with fail
      go_cut [46] from 38 to 46 (fun v wx => v = .bool B1 ∧ Kept (fun _ => False) wr wx)
      case first =>
        go_region_with (go_at_call 38; refine (opens_at (by omega) HO.out _).mono ?_; rintro e w8 ⟨b, rfl, g1, hk8⟩; have K2 := cell_kept hk8 f1 id; have HK8 := Lib.hid hk8; clear hk8)
        all_goals
          go_wp2_with fail
          go_meet
          exact ⟨rfl, (Kept.refl (fun _ => False) wr).drew.trans HK8.out⟩
      case rest =>
        obtain ⟨rfl, hk2⟩ := hcut
        have HK2 := Lib.hid (HK.out.trans hk2)
        have f2 := cell_kept hk2 f1 id
        clear hk2 hB1 f1
        obtain ⟨v2, hv2⟩ : ∃ v, v = wc := ⟨_, rfl⟩
        subst hv2
        obtain ⟨D, hD⟩ : ∃ D : Nat, (if B1 = true then d - 1 else d) = D := ⟨_, rfl⟩
        have HD := Lib.hid hD
        have hend := rsc_step (B1 := B1) (B2 := B2) (d := d) HY.out (by rcases HST.out with h | h; exact .inl ⟨by omega, h.2⟩; exact .inr ⟨by omega, h.2⟩) HX.out HR.out (by rw [HO.out]; exact HB1.out) (by rw [HS.out]; exact HB2.out) HD.out
        have HEND := Lib.hid hend.2
        have hd1 := hend.1
        clear hend
        have hdn : d ≤ 100000 := by omega
        have hDn : D ≤ d := by rw [← HD.out]; split <;> omega
        go_upto_if 46 with fail
        go_cut [8] from 47 to 49 (fun v wx => v = .int .i64 (D : Nat) ∧ wx = v2)
        case first =>
          cases B1 with
          | true =>
            obtain ⟨e, rfl⟩ : ∃ e, d = e + 1 := ⟨d - 1, by have := hd1 rfl; omega⟩
            have e' : D = e := hD.symm
            subst e'
            clear hD hd1
            have b7 : IntKind.i64.wrap (((D + 1 : Nat) : Int) + -1) = (D : Int) := wrapI (by omega) (by omega) (by omega)
            have b8 : IntKind.i64.wrap ((D : Int) + 1 + -1) = (D : Int) := wrapI (by omega) (by omega) (by omega)
            go_wp2_with fail
            go_meet
            exact ⟨by go_num, rfl⟩
          | false =>
            have e : D = d := hD.symm
            subst e
            clear hD hd1
            go_wp2_with fail
            go_meet
            exact ⟨rfl, rfl⟩
        case rest =>
          obtain ⟨rfl, hw⟩ := hcut
          have hw2 := hw.symm
          clear hw
          subst hw2
          clear hD hd1
          go_upto_region 15 with fail
          have hB2 := HB2.out
          go_cut [58] from 50 to 58 (fun v wx => v = .bool B2 ∧ Kept (fun _ => False) v2 wx)
          case first =>
            go_region_with (go_at_call 39; refine (shuts_at (by omega) HS.out _).mono ?_; rintro e w8 ⟨b, rfl, g1, hk8⟩; have K2 := cell_kept hk8 f2 id; have HK8 := Lib.hid hk8; clear hk8)
            all_goals
              go_wp2_with fail
              go_meet
              exact ⟨rfl, (Kept.refl (fun _ => False) v2).drew.trans HK8.out⟩
          case rest =>
            obtain ⟨rfl, hk3⟩ := hcut
            have HK3 := Lib.hid (HK2.out.trans hk3)
            clear hk3 hB2 f2
            rcases HEND.out with ⟨rfl, he⟩ | ⟨rfl, rfl, he⟩ | ⟨rfl, h1, he⟩
            · have HE := Lib.hid he
              have b5 : ((D : Int) + 1 == 0) = false := by rw [beq_eq_false_iff_ne]; omega
              have b6 : (D + 1 == 0) = false := by rw [beq_eq_false_iff_ne]; omega
              have b7 : IntKind.i64.wrap ((D : Int) - -1) = (D : Int) + 1 := wrapI (by omega) (by omega) (by omega)
              have b8 : IntKind.i64.wrap ((i : Int) + -1) = (i : Int) - 1 := wrapI (by omega) (by omega) (by omega)
              clear he
              go_wp2_with fail
              go_roundw
              case rel => exact ⟨i, D + 1, (i : Int) - 1, by go_num, by go_num, by omega, by omega, by rcases HST.out with h | h <;> omega, .inr ⟨by omega, by omega, HE.out⟩, HK3.out⟩
              case measure => simp [intOf] <;> omega
            · have HE := Lib.hid he
              clear he
              go_wp2_with fail
              go_ret
              rw [HE.out]
              exact ⟨rfl, HK1.out.trans HK3.out⟩
            · have HE := Lib.hid he
              have b5 : ((D : Int) == 0) = false := by rw [beq_eq_false_iff_ne]; omega
              have b6 : (D == 0) = false := by rw [beq_eq_false_iff_ne]; omega
              have b8 : IntKind.i64.wrap ((i : Int) + -1) = (i : Int) - 1 := wrapI (by omega) (by omega) (by omega)
              clear he
              go_wp2_with fail
              go_roundw
              case rel => exact ⟨i, D, (i : Int) - 1, rfl, by go_num, by omega, by omega, by omega, .inr ⟨by omega, by omega, HE.out⟩, HK3.out⟩
              case measure => simp [intOf] <;> omega
    · obtain rfl : j = 0 := by omega
      obtain rfl : I = -1 := by omega
      have hR : R = none := by
        rcases HST.out with ⟨h, _⟩ | ⟨_, _, h⟩
        · omega
        · rw [← h]; rfl
      subst hR
      go_wp2_with fail
      go_ret
      exact ⟨rfl, HK1.out.trans HK.out⟩
set_option maxRecDepth 100000 in
theorem rmate_any (A : Option Addr) (n c at' : Nat) (t : List Int) (w : World) (hA : Rn w A n t) (hn : n ≤ 100000) :
    Calls Tryd.prog 19 #[.slice A n c, .int .i64 at'] w fun e w' => e = .returned (.int .i64 (Rw.mt t at')) ∧ Kept (fun _ => False) w w' := by
  by_cases hlt : at' < n
  · obtain ⟨ad, x, rfl, hx, hcx⟩ := hA.cell hlt
    cases ho : Rw.kdo x with
    | some k =>
      obtain ⟨rfl, hk⟩ := Rw.kdo_some ho
      exact rmateO_any _ n c k at' t w hA hn hk hx
    | none =>
      cases hs : Rw.kds x with
      | some k =>
        obtain ⟨rfl, hk⟩ := Rw.kds_some hs
        exact rmateS_any _ n c k at' t w hA hn hk hx
      | none =>
        have hmt : Rw.mt t at' = -1 := by unfold Rw.mt; rw [Rw.mate_none hx ho hs]
        have cBr := bracket_any x w
        rw [show brV x = .tuple #[.int .i64 (-1), .bool false] by simp [brV, ho, hs]] at cBr
        rw [hmt]
        clear hmt ho hs hx hA
        go_enter Tryd.func19, Tryd.ntmps19
        go_wp2_with (go_at_call 37; refine cBr.mono ?_; rintro e w1 ⟨rfl, hk1⟩; have HK1 := Lib.hid hk1; clear hk1 cBr)
        go_ret
        exact ⟨rfl, HK1.out⟩
  · have hmt : Rw.mt t at' = -1 := by unfold Rw.mt; rw [Rw.mate_far (by rw [hA.1]; omega)]
    have b1 : decide (n ≤ at') = true := decide_eq_true (by omega)
    have b2 : decide ((n : Int) ≤ (at' : Int)) = true := decide_eq_true (by omega)
    rw [hmt]
    clear hmt hA
    go_enter Tryd.func19, Tryd.ntmps19
    go_wp2
    go_ret
    exact ⟨rfl, Kept.refl _ _⟩
end Go.Proofs.YtohmhjeimeilcaaDoor
