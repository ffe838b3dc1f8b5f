/-
  COMMANDS OF SINGLE RUNES, THE REFERENCE's: J; by J, and by any key, both tell the same.
-/
import Derived.Test.YtkeojjojilfklaaDoorSmJ2
set_option linter.unusedVariables false
namespace Go.Proofs.YtkeojjojilfklaaDoor
open Go Go.RowKit

theorem nonempty_txt {t : List Int} (h : t ≠ []) (hv : Vld t) : runesBytes t ≠ ⟨#[]⟩ := fun e => by
  have h1 := rs_txt hv
  rw [e] at h1
  exact h (h1.symm.trans (by decide))
theorem Rw.skp_lt {u : List Int} {j : Nat} (h : j < Rw.skp u j) : Rw.skp u (j + 1) = Rw.skp u j := by
  cases hy : u[j]? with
  | none =>
    have := Rw.skp_end (t := u) (k := j) (by simpa using hy)
    omega
  | some y =>
    by_cases h1 : y = 10 ∨ Rw.cls y ≠ 0
    · have := Rw.skp_stop hy h1
      omega
    · exact Rw.skp_step hy (fun e => h1 (.inl e)) (Classical.byContradiction fun e => h1 (.inr e))
theorem cls_10 : Rw.cls 10 ≠ 0 := by decide
set_option maxRecDepth 100000 in
set_option maxHeartbeats 4000000 in
theorem rsmall_j (s : ByteArray) (r : Int) (k c : Nat) (w : World) (hT : Tabs w) (hm : mayB s = true) (hk : k ≤ (rs s).length) (hc1 : 1 ≤ c) (hc2 : c ≤ 999) :
    Calls Tryd.prog 51 (smArgs s k 74 r c) w fun e w' => (∃ v, e = .returned v ∧ TakeJ s k (max (c - 1) 1) v) ∧ Kept (fun _ => False) w w' := by
  have HG0 : Hid ((w.alloc zeroS).heap[w.heap.size]? = some zeroS) := heap_alloc_new w _
  have HKA : Hid (Kept (fun _ => False) w (w.alloc zeroS)) := (Kept.refl _ w).alloc _
  have HTA : Hid (Tabs (w.alloc zeroS)) := hT.kept HKA.out id id
  have hsm := mayB_size hm
  have hl4 : (rs s).length ≤ 4000 := by have := rs_len s; omega
  have cV := fun W => conv_rs s W (by omega)
  have cBe := fun b cap W hW => rbegin_any (some ⟨b, 0, none⟩) (rs s).length cap (rs s) k W hW hk (by omega)
  have cEn := fun b cap W hW => rend_any (some ⟨b, 0, none⟩) (rs s).length cap (rs s) k W hW hk (by omega)
  have HJ0 : Hid (JnI (rs s) k (rs s)) := JnI.first hm hk
  have HE0 : Hid (jst (rs s) k 0 = some (rs s, Rw.en (rs s) k)) := rfl
  have HSZ : Hid (∀ u, JnI (rs s) k u → (runesBytes u).size ≤ 4000) := fun u h => mayB_size (h.may hm)
  have HMD : Hid (∀ u (at' : Nat) W, Tabs W → Vld u → u.length ≤ 100000 → Calls Tryd.prog 62 #[.string s, .string (runesBytes u), .int .i64 at'] W fun e w' => (∃ (a d : Int) (p : ByteArray) (x : Int) (tk : ByteArray) (E : Int), e = .returned (chgT a d p x tk E) ∧ MadeV s u at' (chgT a d p x tk E)) ∧ Kept (fun _ => False) W w') := fun u at' W h1 h3 h4 => rmade_any s u at' W hsm h1 h3 h4
  obtain ⟨T, hTT⟩ : ∃ T, max (c - 1) 1 = T := ⟨_, rfl⟩
  rw [hTT]
  have hT1 : 1 ≤ T := by omega
  have HPN : Hid (jst (rs s) k T = none → TakeJ s k T (chgT 0 0 ⟨#[]⟩ 0 ⟨#[]⟩ 6)) := fun h => ⟨fun _ => rfl, fun u e h' => (by rw [h] at h'; cases h')⟩
  have HPY : Hid (∀ u e v, jst (rs s) k T = some (u, e) → MadeV s u (Rw.rst u e : Nat) v → TakeJ s k T v) := fun u e v h hv => ⟨fun h' => (by rw [h] at h'; cases h'), fun u' e' h' => (by rw [h] at h'; injection h' with h'; injection h' with h1 h2; rw [← h1, ← h2]; exact hv)⟩
  generalize TakeJ s k T = P at *
  generalize MadeV s = Q at *
  generalize Rw.beg (rs s) k = B0 at *
  generalize rs s = t at *
  have HENT : Hid (Rw.en t k = Rw.en t k) := rfl
  generalize Rw.en t k = E0 at *
  obtain ⟨g, hg⟩ : ∃ g, w.heap.size = g := ⟨_, rfl⟩
  have HGS := Lib.hid hg
  rw [hg] at HG0
  have hm1 : max (1 : Int) ((c : Int) - 1) = (T : Int) := by omega
  have hw1 : IntKind.i64.wrap ((c : Int) - 1) = (c : Int) - 1 := IntWalk.i64_in _ ⟨by omega, by omega⟩
  have hw2 : IntKind.i64.wrap ((k : Int) + (c : Int)) = (k : Int) + (c : Int) := IntWalk.i64_in _ ⟨by omega, by omega⟩
  clear hg hT hm hsm hTT HENT
  go_enter Tryd.func51, Tryd.ntmps51
  go_upto_region 1 with fail
  simp only [HGS.out]
  generalize w.alloc zeroS = W0 at *
  obtain ⟨cap, w1, hcap, hcv, hk1, hlt1, hR1⟩ := cV W0
  obtain ⟨b, hb⟩ : ∃ b, W0.heap.size = b := ⟨_, rfl⟩
  rw [hb] at hcv hR1
  have HT1 : Hid (Tabs w1) := HTA.out.kept hk1 id id
  have HG1 := Lib.hid ((hk1.block _ (heap_lt HG0.out) id).trans HG0.out)
  have HR1 := Lib.hid hR1
  have HK1 := Lib.hid (HKA.out.trans hk1)
  have cB1 := cBe b cap w1 hR1
  have cE1 := cEn b cap w1 hR1
  clear hR1 hk1 cV cBe cEn hb
  go_upto_region 4 with (first
    | (go_at_call 40; refine cB1.mono ?_; rintro e w2 ⟨rfl, hw⟩; have hw3 := hw.symm; subst hw3)
    | (go_at_call 25; refine cE1.mono ?_; rintro e w2 ⟨rfl, hw⟩; have hw3 := hw.symm; subst hw3))
  clear hcv cB1 cE1 hw2
  go_wp2_with fail
  go_loopw [12, 24, 25] (fun l tv v wr => ∃ (i b c2 : Nat) (u : List Int) (e x : Nat), i ≤ T ∧ v = .int .i64 i ∧ l = .slice (some ⟨b, 0, none⟩) u.length c2 ∧ u.length ≤ c2 ∧ Rn wr (some ⟨b, 0, none⟩) u.length u ∧ tv = .int .i64 x ∧ (0 < i → x = Rw.rst u e) ∧ jst t k i = some (u, e) ∧ JnI t k u ∧ Kept (fun _ => False) w1 wr) (fun _ _ v _ => T - (intOf v).toNat)
  case atStart => exact ⟨0, b, cap, t, E0, k, Nat.zero_le _, rfl, rfl, hcap, HR1.out, rfl, fun h => by omega, HE0.out, HJ0.out, Kept.refl _ _⟩
  case round =>
    obtain ⟨i, b, c2, u, e, x, hi, rfl, rfl, huc, hR, rfl, hx, hj, hJ, hkw⟩ := hrel
    have HX := Lib.hid hx
    have HJ := Lib.hid hj
    have HI := Lib.hid hJ
    have HKW := Lib.hid hkw
    have HR := Lib.hid hR
    have HTR : Hid (Tabs wr) := HT1.out.kept hkw id id
    have HGR := Lib.hid ((hkw.block g (heap_lt HG1.out) id).trans HG1.out)
    have hul : u.length ≤ 4000 := by have := hJ.len; omega
    have hku : k ≤ u.length := hJ.le
    clear hj hkw hJ hx
    by_cases hlt : i < T
    · have b1 : decide (i < T) = true := by simp; omega
      have b2 : decide ((i : Int) < (T : Int)) = true := by simp; omega
      have cE2 := rend_any (some ⟨b, 0, none⟩) u.length c2 u k wr hR hku (by omega)
      have cB2 := rbegin_any (some ⟨b, 0, none⟩) u.length c2 u k wr hR hku (by omega)
      have hele := Rw.en_le u k hku
      clear hR
      by_cases hl : Rw.en u k = u.length
      · have HN := Lib.hid (HPN.out (jst_none (jst_stop HJ.out hl) T (by omega)))
        rw [hl] at cE2
        clear hl hele
        obtain ⟨⟨e0, e1, e2, e3, e4, e5⟩, k0, k1, k2, k3, k4, k5⟩ := chg_facts HGR.out
        go_wp2_with (go_at_call 25; refine cE2.mono ?_; rintro e w2 ⟨rfl, hw⟩; have hw3 := hw.symm; subst hw3; clear cE2)
        refine bodyPost_ret (res_chg rfl _ _ g _ _ _ _ _ _ (0, 0) rfl (chg_six HGR.out _ _ _ _ _ _)) rfl ⟨⟨chgT 0 0 ⟨#[]⟩ 0 ⟨#[]⟩ 6, rfl, HN.out⟩, ?_⟩
        exact (HK1.out.trans HKW.out).fresh (Kept.six (Kept.refl (fun q => q = g) _) rfl _ _ _ _ _ _) (fun b hb e => by have := HGS.out; omega)
      · have hel : Rw.en u k < u.length := by omega
        obtain ⟨G, hG⟩ : ∃ G : Bool, G = true ↔ Rw.glu u k := by
          by_cases h : Rw.glu u k
          · exact ⟨true, fun _ => h, fun _ => rfl⟩
          · exact ⟨false, fun h' => Bool.noConfusion h', fun h' => absurd h' h⟩
        obtain ⟨hn1, hn2, hn3⟩ := Rw.nx_le u k hel
        have hnh := Rw.nx_high u k hel
        have hbe : Rw.beg u k ≤ Rw.en u k := Nat.le_trans (Rw.beg_le u k) (Rw.en_ge u k)
        have HJ1 := Lib.hid (jst_step HJ.out hel hG)
        have HI1 := Lib.hid (HI.out.next G hel)
        have HE1 : Hid (Rw.en u k ≤ (Rw.jn u k G).length) := by show _ ≤ _; rw [Rw.jn_len u k G hel]; omega
        have HJN : Hid (Rw.jn u k G = u.take (Rw.en u k) ++ (if G then [] else [32]) ++ u.drop (Rw.nx u k)) := rfl
        have HNX : Hid (Rw.nx u k = Rw.skp u (Rw.en u k + 1)) := rfl
        have hgl : Rw.glu u k ↔ (Rw.beg u k = Rw.en u k ∨ (∃ x, u[Rw.en u k - 1]? = some x ∧ Rw.cls x = 0) ∨ Rw.nx u k = Rw.en u (Rw.en u k + 1) ∨ u[Rw.nx u k]? = some 41) := Iff.rfl
        rw [hnh] at hgl
        have hn4 : Rw.nx u k ≤ u.length := by omega
        clear hn2 hn3 hnh hl hele
        generalize Rw.jn u k G = J at *
        generalize Rw.nx u k = X at *
        generalize Rw.glu u k = GL at *
        generalize Rw.beg u k = B at *
        generalize Rw.en u k = En at *
        have HG := Lib.hid hG
        have HGL := Lib.hid hgl
        have HRY : Hid (Runey u) := runey_vld HI.out.vld
        have d1 : ((En : Int) == (u.length : Int)) = false := by rw [beq_eq_false_iff_ne]; omega
        have d1' : ((En : Nat) == u.length) = false := by rw [beq_eq_false_iff_ne]; omega
        have hw3 : IntKind.i64.wrap ((En : Int) + 1) = ((En + 1 : Nat) : Int) := by rw [IntWalk.i64_in _ ⟨by omega, by omega⟩]; omega
        clear hG hgl
        go_wp2_with (go_at_call 25; refine cE2.mono ?_; rintro e w2 ⟨rfl, hw⟩; have hw4 := hw.symm; subst hw4; clear cE2)
        clear d1 d1' hw3
        go_loop [26] (fun v => ∃ j : Nat, En + 1 ≤ j ∧ j ≤ X ∧ v = .int .i64 j ∧ Rw.skp u j = X) (fun v => u.length - (intOf v).toNat)
        case atStart => exact ⟨En + 1, Nat.le_refl _, hn1, rfl, HNX.out.symm⟩
        case round =>
          obtain ⟨j, hj1, hj2, rfl, hs⟩ := hrel
          have HS := Lib.hid hs
          clear hs
          obtain ⟨BB, hBB⟩ : ∃ BB : Bool, BB = true ↔ j < X := by
            by_cases h : j < X
            · exact ⟨true, fun _ => h, fun _ => rfl⟩
            · exact ⟨false, fun h' => Bool.noConfusion h', fun h' => absurd h' h⟩
          have HBB := Lib.hid hBB
          clear hBB
          go_upto_region 44 with fail
          go_cut [178] from 166 to 180 (fun v wx => v = .bool BB ∧ wx = wr)
          case first =>
            by_cases hjl : j < u.length
            · obtain ⟨_, y, e1, hy, cy⟩ := HR.out.cell hjl
              injection e1 with e1
              subst e1
              rw [addr_add, Nat.zero_add] at cy
              obtain ⟨y1, y2⟩ := HRY.out.at_ hy
              have cC := fun w => rclass_any y y1 w
              have HY := Lib.hid hy
              have i1 : (0 : Int) ≤ (j : Int) := by omega
              have i2 : (j : Int) < (u.length : Int) := by omega
              have b4 : decide (j < u.length) = true := by simp; omega
              clear hy
              by_cases hz : Rw.cls y = 0
              · have hstep := Rw.skp_step HY.out (fun e => cls_10 (by rw [← e]; exact hz)) hz
                have hge := Rw.skp_ge u (j + 1)
                obtain rfl : BB = true := HBB.out.2 (by have := HS.out; omega)
                rw [hz] at cC
                clear hz hstep hge
                go_wp2_with (go_at_call 76; refine (cC _).mono ?_; rintro e w2 ⟨rfl, hw⟩; have hw4 := hw.symm; subst hw4)
                go_meet
                exact ⟨rfl, rfl⟩
              · have d2 : (Rw.cls y == 0) = false := by rw [beq_eq_false_iff_ne]; exact hz
                have hstop := Rw.skp_stop HY.out (.inr hz)
                obtain rfl : BB = false := bool_no HBB.out (by have := HS.out; omega)
                generalize Rw.cls y = CY at *
                clear hz hstop
                go_wp2_with (go_at_call 76; refine (cC _).mono ?_; rintro e w2 ⟨rfl, hw⟩; have hw4 := hw.symm; subst hw4)
                go_meet
                exact ⟨rfl, rfl⟩
            · have b4 : decide (j < u.length) = false := by simp; omega
              have hend := Rw.skp_end (show u.length ≤ j by omega)
              obtain rfl : BB = false := bool_no HBB.out (by have := HS.out; omega)
              clear hend
              go_wp2
              go_meet
              exact ⟨rfl, rfl⟩
          case rest =>
          obtain ⟨rfl, hw⟩ := hcut
          have hw4 := hw.symm
          subst hw4
          cases BB
          case true =>
            have HST : Hid (Rw.skp u (j + 1) = X) := by have h := HBB.out.1 rfl; show _ = _; rw [Rw.skp_lt (by rw [HS.out]; exact h)]; exact HS.out
            have hjx := HBB.out.1 rfl
            go_wp2
            go_round
            case rel => exact ⟨j + 1, by omega, by omega, by go_num, HST.out⟩
            case measure => simp [intOf]; omega
          case false =>
          obtain rfl : X = j := by
            have h : ¬ j < X := fun h => Bool.noConfusion (HBB.out.2 h)
            omega
          clear hj1 hj2
          have hcR := fun u' => run_cut_lh u' (some ⟨b, 0, none⟩) u.length c2 B En (B : Int) (En : Int) rfl rfl hbe (by omega)
          have htR := run_txt (c := c2 - B) (HR.out.cut hbe (by omega) huc)
          have hbe2 : (B : Int) ≤ (En : Int) := by omega
          have hrow : Hid ((B = En → runesBytes ((u.take En).drop B) = ⟨#[]⟩) ∧ (B ≠ En → runesBytes ((u.take En).drop B) ≠ ⟨#[]⟩)) := by
            refine ⟨fun h => ?_, fun h => nonempty_txt ?_ ?_⟩
            · rw [h, List.drop_eq_nil_of_le (by rw [List.length_take]; omega)]; rfl
            · intro h'
              have := congrArg List.length h'
              rw [List.length_drop, List.length_take] at this
              simp at this
              omega
            · exact fun r hr => HI.out.vld r (List.mem_of_mem_take (List.mem_of_mem_drop hr))
          generalize runesBytes ((u.take En).drop B) = RW at *
          go_upto_region 48 with (go_at_call 40; refine cB2.mono ?_; rintro e w2 ⟨rfl, hw⟩; have hw4 := hw.symm; subst hw4; clear cB2)
          clear hcR htR hbe2
          go_cut [219] from 149 to 235 (fun v wx => v = .bool G ∧ wx = wr)
          case first =>
            by_cases h1 : B = En
            · obtain rfl : G = true := HG.out.2 (HGL.out.2 (.inl h1))
              obtain rfl : RW = ⟨#[]⟩ := hrow.out.1 h1
              clear h1 HJN HGL HG
              go_wp2
              go_meet
              exact ⟨rfl, rfl⟩
            · have hne := hrow.out.2 h1
              have hne2 : ¬ RW.toList = [] := fun h => hne (ba_ext (by rw [← ByteArray.toList_eq, h]))
              have d2 : RW.toList.isEmpty = false := by
                cases h : RW.toList with
                | nil => exact absurd h hne2
                | cons _ _ => rfl
              have hw2 : IntKind.i64.wrap ((En : Int) - 1) = ((En - 1 : Nat) : Int) := by rw [IntWalk.i64_in _ ⟨by omega, by omega⟩]; omega
              obtain ⟨_, y, e1, hy, cy⟩ := HR.out.cell (j := En - 1) (by omega)
              injection e1 with e1
              subst e1
              rw [addr_add, Nat.zero_add] at cy
              obtain ⟨y1, y2⟩ := HRY.out.at_ hy
              have cC := fun w => rclass_any y y1 w
              have i1 : (0 : Int) ≤ ((En - 1 : Nat) : Int) := by omega
              have i2 : ((En - 1 : Nat) : Int) < (u.length : Int) := by omega
              have HY := Lib.hid hy
              clear hy hne
              by_cases h2 : Rw.cls y = 0
              · obtain rfl : G = true := HG.out.2 (HGL.out.2 (.inr (.inl ⟨y, HY.out, h2⟩)))
                rw [h2] at cC
                clear h1 h2 HJN HGL HG
                generalize En - 1 = E1 at *
                go_wp2_with (go_at_call 76; refine (cC _).mono ?_; rintro e w2 ⟨rfl, hw⟩; have hw4 := hw.symm; subst hw4)
                go_meet
                exact ⟨rfl, rfl⟩
              · have d3 : (Rw.cls y == 0) = false := by rw [beq_eq_false_iff_ne]; exact h2
                have H2 := Lib.hid h2
                generalize hCY : Rw.cls y = CY at *
                have HCY := Lib.hid hCY
                clear h2 hCY
                by_cases h3 : X = u.length
                · obtain rfl : G = true := HG.out.2 (HGL.out.2 (.inr (.inr (.inl (.inl h3)))))
                  have d4 : ((X : Int) == (u.length : Int)) = true := by rw [h3]; exact beq_self_eq_true _
                  have d4' : ((X : Nat) == u.length) = true := by rw [h3]; exact beq_self_eq_true _
                  clear h1 h3 HJN HGL HG
                  generalize En - 1 = E1 at *
                  go_wp2_with (go_at_call 76; refine (cC _).mono ?_; rintro e w2 ⟨rfl, hw⟩; have hw4 := hw.symm; subst hw4)
                  go_meet
                  exact ⟨rfl, rfl⟩
                · have d4 : ((X : Int) == (u.length : Int)) = false := by rw [beq_eq_false_iff_ne]; omega
                  have d4' : ((X : Nat) == u.length) = false := by rw [beq_eq_false_iff_ne]; omega
                  obtain ⟨_, z, e1, hz, cz⟩ := HR.out.cell (j := X) (by omega)
                  injection e1 with e1
                  subst e1
                  rw [addr_add, Nat.zero_add] at cz
                  have i3 : (0 : Int) ≤ (X : Int) := by omega
                  have i4 : (X : Int) < (u.length : Int) := by omega
                  have HZ := Lib.hid hz
                  clear hz
                  by_cases h4 : z = 10
                  · obtain rfl : G = true := HG.out.2 (HGL.out.2 (.inr (.inr (.inl (.inr (by rw [HZ.out, h4]))))))
                    subst h4
                    clear h1 h3 HJN HGL HG
                    generalize En - 1 = E1 at *
                    go_wp2_with (go_at_call 76; refine (cC _).mono ?_; rintro e w2 ⟨rfl, hw⟩; have hw4 := hw.symm; subst hw4)
                    go_meet
                    exact ⟨rfl, rfl⟩
                  · have d5 : (z == 10) = false := by rw [beq_eq_false_iff_ne]; exact h4
                    have hgy : G = (z == 41) := by
                      by_cases h5 : z = 41
                      · rw [HG.out.2 (HGL.out.2 (.inr (.inr (.inr (by rw [HZ.out, h5])))))]
                        rw [h5]; rfl
                      · have : (z == 41) = false := by rw [beq_eq_false_iff_ne]; exact h5
                        rw [this]
                        refine bool_no HG.out fun hg => ?_
                        rcases HGL.out.1 hg with h | ⟨x', hx', hc'⟩ | (h | h) | h
                        · exact h1 h
                        · rw [HY.out] at hx'; injection hx' with hx'; subst hx'; exact H2.out (HCY.out.symm.trans hc')
                        · exact h3 h
                        · rw [HZ.out] at h; injection h with h; exact h4 h
                        · rw [HZ.out] at h; injection h with h; exact h5 h
                    subst hgy
                    clear h1 h3 h4 HJN HGL HG
                    generalize En - 1 = E1 at *
                    go_wp2_with (go_at_call 76; refine (cC _).mono ?_; rintro e w2 ⟨rfl, hw⟩; have hw4 := hw.symm; subst hw4)
                    go_meet
                    exact ⟨rfl, rfl⟩
          case rest =>
            obtain ⟨rfl, hw⟩ := hcut
            have hw4 := hw.symm
            subst hw4
            have hcA := fun u' => run_cut_h u' (some ⟨b, 0, none⟩) u.length c2 En (En : Int) rfl (by omega)
            have hcC := fun u' => run_cut_l u' (some ⟨b, 0, none⟩) u.length c2 X (X : Int) rfl hn4 huc
            have hRA : Rn wr (cutB (some ⟨b, 0, none⟩) c2 0) En (u.take En) := by rw [cutB_zero]; exact HR.out.take (by omega)
            have hRC : Rn wr (cutB (some ⟨b, 0, none⟩) c2 X) (u.length - X) (u.drop X) := HR.out.drop hn4 huc
            generalize cutB (some ⟨b, 0, none⟩) c2 0 = CA at *
            generalize cutB (some ⟨b, 0, none⟩) c2 X = CC at *
            have htA : ∀ r, (convert 31 9 (.slice CA En c2)).run Tryd.prog (wr.drewN r) = .ok (.string (runesBytes (u.take En))) (wr.drewN r) := fun r => run_txt (w := wr.drewN r) hRA
            have htC : ∀ r, (convert 31 9 (.slice CC (u.length - X) (c2 - X))).run Tryd.prog (wr.drewN r) = .ok (.string (runesBytes (u.drop X))) (wr.drewN r) := fun r => run_txt (w := wr.drewN r) hRC
            have HTX : Hid (runesBytes (u.take En) ++ runesBytes (if G then [] else [32]) ++ runesBytes (u.drop X) = runesBytes J) := by show _ = _; rw [txt_append, txt_append, HJN.out]
            have hsA : (runesBytes (u.take En)).size ≤ 100000 := by have := txt_size4 (u.take En); rw [List.length_take] at this; omega
            have hsC : (runesBytes (u.drop X)).size ≤ 100000 := by have := txt_size4 (u.drop X); rw [List.length_drop] at this; omega
            have hsJ := HSZ.out J HI1.out
            have hvJ := HI1.out.vld
            have hlJ : J.length ≤ 4000 := by have := HI1.out.len; have := HJ0.out.len; omega
            clear hRA hRC
            generalize runesBytes (u.take En) = SA at *
            generalize runesBytes (u.drop X) = SC at *
            obtain ⟨NX, hNX⟩ : ∃ NX, runesBytes J = NX := ⟨_, rfl⟩
            have hrsJ : rs NX = J := by rw [← hNX]; exact rs_txt hvJ
            rw [hNX] at HTX hsJ
            have cU := fun W => conv_rs NX W (by omega)
            rw [hrsJ] at cU
            have HCU := Lib.hid cU
            have HVJ := Lib.hid hvJ
            clear cU hvJ hNX hrsJ
            cases G
            case' false =>
              have ad1 : ∀ u, (Op.stringOp .add SA ⟨#[32]⟩).run Tryd.prog u = .ok (.string (SA ++ ⟨#[32]⟩)) u := fun u => run_string_add_sum u SA ⟨#[32]⟩ (by rw [show (⟨#[32]⟩ : ByteArray).size = 1 from rfl]; omega)
              have ad2 : ∀ u, (Op.stringOp .add (SA ++ ⟨#[32]⟩) SC).run Tryd.prog u = .ok (.string NX) u := fun u => by
                have h := HTX.out
                rw [if_neg (by decide), show runesBytes [32] = (⟨#[32]⟩ : ByteArray) by decide] at h
                rw [← h]
                exact run_string_add_sum u (SA ++ ⟨#[32]⟩) SC (by rw [ByteArray.size_append, show (⟨#[32]⟩ : ByteArray).size = 1 from rfl]; omega)
            case' true =>
              have ad1 : ∀ u, (Op.stringOp .add SA ⟨#[]⟩).run Tryd.prog u = .ok (.string (SA ++ ⟨#[]⟩)) u := fun u => run_string_add_sum u SA ⟨#[]⟩ (by rw [show (⟨#[]⟩ : ByteArray).size = 0 from rfl]; omega)
              have ad2 : ∀ u, (Op.stringOp .add (SA ++ ⟨#[]⟩) SC).run Tryd.prog u = .ok (.string NX) u := fun u => by
                have h := HTX.out
                rw [if_pos rfl, show runesBytes [] = (⟨#[]⟩ : ByteArray) by decide] at h
                rw [← h]
                exact run_string_add_sum u (SA ++ ⟨#[]⟩) SC (by rw [ByteArray.size_append, show (⟨#[]⟩ : ByteArray).size = 0 from rfl]; omega)
            all_goals
              go_upto_region 50 with fail
              go_cut [29] from 149 to 235 (fun v wx => v = .string NX ∧ ∃ q, wx = wr.drewN q)
              case first =>
                go_quiet (fail)
                go_wp2_with fail
                go_meet
                exact ⟨rfl, _, by first | rfl | rw [drewN2]⟩
              case rest =>
                obtain ⟨rfl, q2, rfl⟩ := hcut
                clear htA htC hcA hcC ad1 ad2
                have hKq : Kept (fun _ => False) wr (wr.drewN q2) := (Kept.refl _ wr).drewN q2
                generalize wr.drewN q2 = wq at *
                obtain ⟨cp2, w3, hcp2, hcu, hk3, _, hR3⟩ := HCU.out wq
                obtain ⟨yy, hyy⟩ : ∃ yy, wq.heap.size = yy := ⟨_, rfl⟩
                rw [hyy] at hcu hR3
                have HK3 := Lib.hid (HKW.out.trans (hKq.trans hk3))
                have HR3 := Lib.hid hR3
                have cR := rrest_any (some ⟨yy, 0, none⟩) J.length cp2 J En w3 hR3 HE1.out (by omega)
                clear hyy hk3 hR3 hKq
                go_wp2_with (go_at_call 59; refine cR.mono ?_; rintro e w4 ⟨rfl, hw⟩; have hw4 := hw.symm; subst hw4)
                go_roundw
                case rel => exact ⟨i + 1, yy, cp2, J, En, Rw.rst J En, by omega, by go_num, rfl, hcp2, HR3.out, rfl, fun _ => rfl, HJ1.out, HI1.out, HK3.out⟩
                case measure => simp [intOf]; omega
    · obtain rfl : i = T := by omega
      have b1 : decide (i < i) = false := by simp
      have b2 : decide ((i : Int) < (i : Int)) = false := by simp
      have hcv := run_txt (c := c2) hR
      have hv := HI.out.vld
      have hxr : x = Rw.rst u e := HX.out (by omega)
      have cM := HMD.out u x wr HTR.out hv (by omega)
      have HPY2 : Hid (∀ v, Q u (x : Nat) v → P v) := fun v hv => HPY.out u e v HJ.out (by rw [← hxr]; exact hv)
      generalize runesBytes u = NX at *
      clear hR hv hxr
      go_wp2_with (go_at_call 62; refine cM.mono ?_; rintro e w3 ⟨⟨a, d, p, x', tk, E, rfl, hp⟩, hk3⟩; have HP := Lib.hid hp; have HK3 := Lib.hid hk3; have HG3 := Lib.hid ((hk3.block g (heap_lt HGR.out) id).trans HGR.out); obtain ⟨⟨e0, e1, e2, e3, e4, e5⟩, k0, k1, k2, k3, k4, k5⟩ := chg_facts HG3.out; clear hp hk3 cM; unfold chgT)
      refine bodyPost_ret (res_chg rfl _ _ g _ _ _ _ _ _ (0, 0) rfl (chg_six HG3.out _ _ _ _ _ _)) rfl ⟨⟨chgT a d p x' tk E, rfl, HPY2.out _ HP.out⟩, ?_⟩
      exact (HK1.out.trans (HKW.out.trans HK3.out)).fresh (Kept.six (Kept.refl (fun q => q = g) _) rfl _ _ _ _ _ _) (fun b hb e => by have := HGS.out; omega)
theorem keyS_j : KeyS 74 := keyS_of (fun s k r c w hs hT hno => sof_no s k 74 r c w hs hT hno) fun s k c r hm hk hc1 hc2 _ hr =>
  told_same (fun v => TakeJ s k (max (c - 1) 1) v) (by
    cases h : jst (rs s) k (max (c - 1) 1) with
    | none => exact .inl ⟨6, rfl, fun v h' => h'.1 h⟩
    | some x =>
      obtain ⟨u, e⟩ := x
      rcases madeV_case s u (Rw.rst u e : Nat) with ⟨E, hE, hv⟩ | ⟨a, d, p, x, tk, hv⟩
      · exact .inl ⟨E, hE, fun v h' => hv v (h'.2 u e h)⟩
      · exact .inr ⟨a, d, p, x, tk, fun v h' => hv v (h'.2 u e h)⟩)
    (fun w hT => sof_j s r k c w hT hm hk hc1 hc2) (fun w hT => rsmall_j s r k c w hT hm hk hc1 hc2)
theorem keyS_any (key : Int) : KeyS key := by
  by_cases h : key ∈ smKeys
  · simp only [smKeys, List.mem_cons, List.not_mem_nil, or_false] at h
    rcases h with rfl | rfl | rfl | rfl | rfl
    · exact keyS_x
    · exact keyS_X
    · exact keyS_r
    · exact keyS_t
    · exact keyS_j
  · exact keyS_no h
end Go.Proofs.YtkeojjojilfklaaDoor
