/-
  SmallSame: the reference's Len, Rows and May of a patch; the law's walk.
-/
import Derived.Test.YtkeojjojilfklaaDoorSsP
import Derived.Test.YtkeojjojilfklaaDoorAo2
set_option linter.unusedVariables false
namespace Go.Proofs.YtkeojjojilfklaaDoor
open Go Go.RowKit

theorem chgT_inj {a d x E a' d' x' E' : Int} {p tk p' tk' : ByteArray} (h : chgT a d p x tk E = chgT a' d' p' x' tk' E') : a = a' ∧ d = d' ∧ p = p' ∧ x = x' ∧ tk = tk' ∧ E = E' := by
  unfold chgT at h
  simp at h
  exact ⟨h.1.1, h.1.2.1, h.1.2.2.1, h.1.2.2.2.1, h.1.2.2.2.2, h.2⟩
set_option maxRecDepth 100000 in
theorem rlen_any (s : ByteArray) (w : World) (h : s.size ≤ 1000000) : Calls Tryd.prog 30 #[.string s] w fun e w' => e = .returned (.int .i64 (rs s).length) ∧ Kept (fun _ => False) w w' := by
  obtain ⟨cap, w2, hcap, hcv, hk2, hlt, hR⟩ := conv_rs s w (by omega)
  generalize rs s = t at *
  have HK := Lib.hid hk2
  clear hk2 hR
  go_enter Tryd.func30, Tryd.ntmps30
  go_wp2
  go_ret
  exact ⟨rfl, HK.out⟩
theorem infoStr : (Tryd.prog.info? 9).map (fun i => (i.zero, i.size, i.bytes)) = some (some (.string ⟨#[]⟩), 1, 16) := by kernel_rfl
theorem owned_slice {w : World} {base : Nat} {e : TypeId} {v : Value} {n : Nat} {xs : List Value} (h : w.ownsRow base e 1 v n xs) : ∃ A c, v = .slice A n c := by
  rcases h.2 with ⟨rfl, rfl⟩ | ⟨g, cap, cur, rfl, _⟩
  · exact ⟨none, 0, rfl⟩
  · exact ⟨_, _, rfl⟩
theorem one_new (w : World) (v : Value) (ty : TypeId) : ∀ j u, ([v] : List Value)[j]? = some u → (w.alloc (.cells #[v] ty)).cell? ((⟨w.heap.size, 0, none⟩ : Addr).add j) = some u := by
  intro j u hj
  match j, hj with
  | 0, hj =>
    injection hj with hj
    subst hj
    rw [addr_add, cell_of_row _ _ _ _ _ _ (heap_alloc_new w _)]
    rfl
  | _ + 1, hj => cases hj
set_option maxRecDepth 100000 in
set_option maxHeartbeats 1000000 in
theorem rrows_any (s : ByteArray) (w : World) (hs : s.size ≤ 100000) :
    Calls Tryd.prog 31 #[.string s] w fun e w' => (∃ A c, e = .returned (.slice A (s.data.toList.count 10 + 1 : Nat) c)) ∧ Kept (fun _ => False) w w' := by
  obtain ⟨i0, hi, hz0, hz1, hz2⟩ := info_parts infoStr
  have hcl : ∀ l : List UInt8, l.count 10 ≤ l.length := fun l => List.count_le_length
  have hlen : s.data.toList.length = s.size := (Lib.size_eq s).symm
  have HLEN := Lib.hid hlen
  clear hlen
  obtain ⟨CN, hCN⟩ : ∃ CN, s.data.toList.count 10 = CN := ⟨_, rfl⟩
  rw [hCN]
  have HCNT := Lib.hid hCN
  clear hCN
  go_enter Tryd.func31, Tryd.ntmps31
  go_wp2
  go_loopw [3, 4, 5] (fun lv fv v wr => ∃ (i f : Nat) (xs : List Value), i ≤ s.size ∧ f ≤ i ∧ v = .int .i64 i ∧ fv = .int .i64 f ∧ wr.ownsRow w.heap.size 9 1 lv ((s.data.toList.take i).count 10) xs ∧ Kept (fun _ => False) w wr) (fun _ _ v _ => s.size - (intOf v).toNat)
  case atStart => exact ⟨0, 0, [], Nat.zero_le _, Nat.le_refl _, rfl, rfl, World.ownsRow_nil _ _ _ _, Kept.refl _ _⟩
  case round =>
    obtain ⟨i, f, xs, hi1, hf, rfl, rfl, hown, hkw⟩ := hrel
    have HO := Lib.hid hown
    have HKW := Lib.hid hkw
    have HSZ : Hid (w.heap.size ≤ wr.heap.size) := hkw.size
    have HCN : Hid ((s.data.toList.take i).count 10 ≤ 100000) := by have := hcl (s.data.toList.take i); rw [List.length_take] at this; show _ ≤ _; have := HLEN.out; omega
    clear hown hkw
    have hfi : (f : Int) ≤ (i : Int) := by omega
    have his : (i : Int) ≤ (s.size : Int) := by omega
    have hf0 : (0 : Int) ≤ (f : Int) := by omega
    by_cases hlt : i < s.size
    · obtain ⟨b, hb⟩ : ∃ b, s[i]'hlt = b := ⟨_, rfl⟩
      have hlist : Hid (s.data.toList[i]? = some b) := by rw [← hb]; exact byte_at s i hlt
      have hr := UInt8.toNat_lt b
      have HTK : Hid ((s.data.toList.take (i + 1)).count 10 = (s.data.toList.take i).count 10 + (if b = 10 then 1 else 0)) := by
        show _ = _
        rw [List.take_add_one, hlist.out, List.count_append]
        congr 1
        by_cases h : b = 10
        · subst h; rfl
        · rw [if_neg h]
          simp [h]
      by_cases h10 : b = 10
      · have e3 : ((b.toNat : Int) == 10) = true := by rw [h10]; rfl
        have HTK2 : Hid ((s.data.toList.take i).count 10 + 1 = (s.data.toList.take (i + 1)).count 10) := by show _ = _; rw [HTK.out, if_pos h10]
        clear h10 HTK
        generalize (s.data.toList.take i).count 10 = n at *
        go_wp2_with (at_builtin; refine wpList_append_own _ rfl _ _ 22 rfl w.heap.size 9 i0 (.string ⟨#[]⟩) 1 16 Tryd.underlying22 hi hz0 hz1 hz2 rfl (by decide) _ _ _ rfl (HO.out.alloc _) ⟨_, 0, none⟩ 1 1 [.string (s.extract f i)] rfl rfl ?c1 ?c2 ?c3 ?c4 ?c5 ?_)
        case c1 => exact one_new _ _ _
        case c2 => intro u hu; simp at hu; subst hu; rfl
        case c3 => have := HCN.out; unfold maxLen; omega
        case c4 => have := HCN.out; omega
        case c5 => have := HSZ.out; simp; omega
        intro v' w2 hown' hgrow _
        have hK2 := Lib.hid (Kept.grew (HKW.out.alloc (.cells #[.string (s.extract f i)] 9)) hgrow (fun q hq => (HO.out.lt q hq).1))
        rw [HTK2.out] at hown'
        have HO2 := Lib.hid hown'
        clear hown' hgrow
        go_wp2
        go_roundw
        case rel => exact ⟨i + 1, i + 1, _, by omega, Nat.le_refl _, by go_num, by go_num, HO2.out, hK2.out⟩
        case measure => simp [intOf]; omega
      · have hbn : b.toNat ≠ 10 := fun e => h10 (UInt8.toNat_inj.1 (by rw [e]; rfl))
        have e3 : ((b.toNat : Int) == 10) = false := by rw [beq_eq_false_iff_ne]; omega
        have HTK2 : Hid ((s.data.toList.take i).count 10 = (s.data.toList.take (i + 1)).count 10) := by show _ = _; rw [HTK.out, if_neg h10]; rfl
        clear h10 HTK hbn
        go_wp2
        go_roundw
        case rel => exact ⟨i + 1, f, xs, by omega, by omega, by go_num, rfl, by rw [← HTK2.out]; exact HO.out, HKW.out⟩
        case measure => simp [intOf]; omega
    · obtain rfl : i = s.size := by omega
      have htk : s.data.toList.take s.size = s.data.toList := List.take_of_length_le (by have := HLEN.out; omega)
      rw [htk, HCNT.out] at HO HCN
      have b1 : decide (s.size < s.size) = false := by simp
      clear htk
      go_wp2_with (at_builtin; refine wpList_append_own _ rfl _ _ 22 rfl w.heap.size 9 i0 (.string ⟨#[]⟩) 1 16 Tryd.underlying22 hi hz0 hz1 hz2 rfl (by decide) _ _ _ rfl (HO.out.alloc _) ⟨_, 0, none⟩ 1 1 [.string (s.extract f s.size)] rfl rfl ?c1 ?c2 ?c3 ?c4 ?c5 ?_)
      case c1 => exact one_new _ _ _
      case c2 => intro u hu; simp at hu; subst hu; rfl
      case c3 => have := HCN.out; unfold maxLen; omega
      case c4 => have := HCN.out; omega
      case c5 => have := HSZ.out; simp; omega
      intro v' w2 hown' hgrow _
      have hK2 := Lib.hid (Kept.grew (HKW.out.alloc (.cells #[.string (s.extract f s.size)] 9)) hgrow (fun q hq => (HO.out.lt q hq).1))
      obtain ⟨A, c, rfl⟩ := owned_slice hown'
      clear hown' hgrow
      go_wp2
      go_ret
      exact ⟨⟨A, c, rfl⟩, hK2.out⟩
set_option maxRecDepth 100000 in
set_option maxHeartbeats 1000000 in
theorem rmay4_t (s : ByteArray) (a d : Nat) (x : List Int) (w : World) (hT : Tabs w) (hm : mayB s = true) (had : a + d ≤ (rs s).length) (hv : Vld x) (h0 : (0 : Int) ∉ x) (hl : x.length ≤ 100000) :
    Calls Tryd.prog 22 #[.string s, patV a d (runesBytes x)] w fun e w' => e = .returned (.bool true) ∧ Kept (fun _ => False) w w' := by
  have hsz := txt_size4 x
  have hms := mayB_size hm
  have hka : Kept (fun _ => False) w (w.alloc (patO a d (runesBytes x))) := (Kept.refl _ w).alloc _
  have HG0 : Hid ((w.alloc (patO a d (runesBytes x))).heap[w.heap.size]? = some (patO a d (runesBytes x))) := heap_alloc_new w _
  have HT0 := Lib.hid (hT.kept hka id id)
  have cL := rlen_any s (w.alloc (patO a d (runesBytes x))) (by omega)
  have cM := fun W hW => rmay_any s W (by omega) hW
  rw [hm] at cM
  have cV := fun W hW => valid_any (runesBytes x) W (by omega) hW
  have hval : Lib.validD (runesBytes x).data.toList = true := by rw [txt_list]; exact Utf.valid_bytes x hv
  rw [hval] at cV
  have hnz : ∀ b ∈ (runesBytes x).data.toList, b ≠ 0 := by rw [txt_list]; exact bytes_zero hv h0
  have HNZ := Lib.hid hnz
  have HLT : Hid ((rs s).length ≤ 100000000) := by have := rs_len s; show _ ≤ _; omega
  generalize rs s = t at *
  generalize runesBytes x = PI at *
  have HCM := Lib.hid cM
  have HCV := Lib.hid cV
  have HKA := Lib.hid hka
  obtain ⟨g, hg⟩ : ∃ g, w.heap.size = g := ⟨_, rfl⟩
  have HGS := Lib.hid hg
  rw [hg] at HG0
  clear hg hka hT hm hval hnz cM cV hv h0
  have n1 := fun w => znum_t (x := (a : Int)) (m := (t.length : Int)) (by omega) w
  have n2 := fun w => znum_t (x := (d : Int)) (m := (t.length : Int) - (a : Int)) (by omega) w
  go_enter Tryd.func22, Tryd.ntmps22
  go_upto_region 1 with fail
  simp only [HGS.out]
  generalize w.alloc (patO a d PI) = wa at *
  go_wp2_with fail
  refine cL.mono ?_
  rintro e w1 ⟨rfl, hk1⟩
  have HK1 := Lib.hid (HKA.out.trans hk1)
  have HT1 := Lib.hid (HT0.out.kept hk1 id id)
  have HG1 := Lib.hid ((hk1.block g (heap_lt HG0.out) id).trans HG0.out)
  clear hk1 cL
  go_wp2_with fail
  refine (HCM.out w1 HT1.out).mono ?_
  rintro e w2 ⟨rfl, hk2⟩
  have HK2 := Lib.hid (HK1.out.trans hk2)
  have HT2 := Lib.hid (HT1.out.kept hk2 id id)
  have HG2 := Lib.hid ((hk2.block g (heap_lt HG1.out) id).trans HG1.out)
  clear hk2
  obtain ⟨c0, c1, c2⟩ := pat_facts' HG2.out
  have hw1 : IntKind.i64.wrap ((t.length : Int) - (a : Int)) = (t.length : Int) - (a : Int) := by
    have : t.length ≤ 100000000 := HLT.out
    exact IntWalk.i64_in _ ⟨by omega, by omega⟩
  go_wp2_with (first
    | (go_at_call 35; refine (n1 _).mono ?_; rintro e w' ⟨rfl, hw⟩; have hw2 := hw.symm; subst hw2; clear n1)
    | (go_at_call 35; refine (n2 _).mono ?_; rintro e w' ⟨rfl, hw⟩; have hw2 := hw.symm; subst hw2; clear n2)
    | (go_at_call 38; refine (HCV.out _ HT2.out).mono ?_; rintro e w3 ⟨rfl, hk3⟩; have HK3 := Lib.hid (HK2.out.trans hk3); have HG3 := Lib.hid ((hk3.block g (heap_lt HG2.out) id).trans HG2.out); clear hk3))
  clear c0 c1 c2 hw1
  obtain ⟨c0, c1, c2⟩ := pat_facts' HG3.out
  go_loop [6] (fun v => ∃ k : Nat, k ≤ PI.size ∧ v = .int .i64 k) (fun v => PI.size - (intOf v).toNat)
  case atStart => exact ⟨0, Nat.zero_le _, rfl⟩
  case round =>
    obtain ⟨k, hk, rfl⟩ := hrel
    by_cases hlt : k < PI.size
    · obtain ⟨b, hb⟩ : ∃ b, PI[k]'hlt = b := ⟨_, rfl⟩
      have hne : b ≠ 0 := HNZ.out b (List.mem_of_getElem? (by rw [← hb]; exact byte_at PI k hlt))
      have hbn : b.toNat ≠ 0 := fun e => hne (UInt8.toNat_inj.1 (by rw [e]; rfl))
      have e3 : ((b.toNat : Int) == 0) = false := by rw [beq_eq_false_iff_ne]; omega
      clear hne hbn
      go_wp2
      go_round
      case rel => exact ⟨k + 1, by omega, by go_num⟩
      case measure => simp [intOf]; omega
    · obtain rfl : k = PI.size := by omega
      have b1 : decide (PI.size < PI.size) = false := by simp
      go_wp2
      go_ret
      exact ⟨rfl, HK3.out⟩
set_option maxRecDepth 100000 in
set_option maxHeartbeats 4000000 in
theorem smallSame_any (p : AskV) (w : World) (hp : AskOk w p) (hT : Tabs w) : Calls Tryd.prog 10 #[.agg p.cells] w fun e w' => e = .returned (.bool true) ∧ Kept (fun _ => False) w w' := by
  have hK0 : Hid (Kept (fun _ => False) w (w.alloc (.cells p.cells 28))) := (Kept.refl _ w).alloc _
  have hP0 : Hid (PB (w.alloc (.cells p.cells 28)) w.heap.size p) := heap_alloc_new w _
  have hA0 : Hid (AskOk (w.alloc (.cells p.cells 28)) p) := hp.kept hK0.out
  have hT0 : Hid (Tabs (w.alloc (.cells p.cells 28))) := hT.kept hK0.out id id
  have cH := heavy10_any p (w.alloc (.cells p.cells 28)) hA0.out
  clear hp hT
  obtain ⟨A, n0, c0, ss, xa, xb, xr, xc, xk, xn, xq⟩ := p
  unfold AskV.cells at *
  simp only at *
  go_enter Tryd.func10, Tryd.ntmps10
  go_wp2_with (go_at_call 16; refine cH.mono ?_; rintro e w1 ⟨⟨hv, rfl, hsm⟩, hk1⟩; have HS := Lib.hid hsm; have HK1 := Lib.hid (hK0.out.trans hk1); have HP := Lib.hid (hP0.out.kept hk1 id); have HA := Lib.hid (hA0.out.kept hk1); have HT := Lib.hid (hT0.out.kept hk1 id id); clear hsm hk1 hP0 hA0 hT0 hK0 cH)
  · exact bodyPost_ret (results_tmp rfl _ _ _) rfl ⟨rfl, HK1.out⟩
  have hv0 : hv = false := by assumption
  subst hv0
  have hss : ∀ s ∈ ss, s.size ≤ 6000 := HS.out rfl
  have HSS := Lib.hid hss
  clear hss HS
  generalize hpb : w.heap.size = pb at HP ⊢
  have HPB := Lib.hid hpb
  clear hpb
  go_loopw [3] (fun v wr => ∃ i : Nat, i ≤ n0 ∧ i ≤ 3 ∧ v = .int .i64 i ∧ Kept (fun _ => False) w1 wr) (fun v _ => n0 - (intOf v).toNat)
  case atStart => exact ⟨0, Nat.zero_le _, Nat.zero_le _, rfl, Kept.refl _ _⟩
  case round =>
    obtain ⟨i, hi, hi4, rfl, hki⟩ := hrel
    obtain ⟨wi, hwi⟩ : ∃ wi, wi = wr := ⟨_, rfl⟩
    subst hwi
    have HKi := Lib.hid (HK1.out.trans hki)
    have HTi := Lib.hid (HT.out.kept hki id id)
    have HAi := Lib.hid (HA.out.kept hki)
    have HKW := Lib.hid hki
    have p0 : wi.cell? ⟨pb, 0, none⟩ = some (.slice A n0 c0) := (HP.out.kept hki id).c 0
    clear hki
    by_cases hgo : i < n0 ∧ i < 3
    · obtain ⟨g1, g2⟩ := hgo
      obtain ⟨ad, s, rfl, hs, hsc, _⟩ := HAi.out.ss.cell g1
      have hsz : s.size ≤ 6000 := HSS.out s (List.mem_of_getElem? hs)
      have hl := rs_len s
      clear hs
      obtain ⟨cap, w2, hcap, hcv, hk2, hlt2, hR⟩ := conv_rs s wi (by omega)
      obtain ⟨tl, htl⟩ : ∃ tl, (rs s).length = tl := ⟨_, rfl⟩
      rw [htl] at hcv hl
      have HTL := Lib.hid htl
      have HK2 := Lib.hid (HKi.out.trans hk2)
      have HKW2 := Lib.hid (HKW.out.trans hk2)
      have HT2 := Lib.hid (HTi.out.kept hk2 id id)
      have cMay := rmay_any s w2 (by omega) HT2.out
      clear hk2 hR hcap hlt2 htl
      have b1 : decide (i < n0) = true := by simp; omega
      have b2 : decide (i < 3) = true := by simp; omega
      have b3 : decide ((i : Int) < 3) = true := by simp; omega
      obtain ⟨BM, hBM⟩ : ∃ BM, mayB s = BM := ⟨_, rfl⟩
      rw [hBM] at cMay
      have HBM := Lib.hid hBM
      clear hBM
      cases BM with
      | false =>
        go_wp2_with (go_at_call 17; refine cMay.mono ?_; rintro e w3 ⟨rfl, hk3⟩; have HK3 := Lib.hid (HKW2.out.trans hk3); clear hk3 cMay)
        go_roundw
        case rel => exact ⟨i + 1, by omega, by omega, by go_num, HK3.out⟩
        case measure => simp [intOf]; omega
      | true =>
        by_cases h1000 : s.size ≤ 1000
        · have b4 : decide (1000 < s.size) = false := by simp; omega
          have b4' : decide ((1000 : Int) < (s.size : Int)) = false := by simp; omega
          go_wp2_with (go_at_call 17; refine cMay.mono ?_; rintro e w3 ⟨rfl, hk3⟩; have HK3 := Lib.hid (HK2.out.trans hk3); have HKW3 := Lib.hid (HKW2.out.trans hk3); have HT3 := Lib.hid (HT2.out.kept hk3 id id); clear hk3 cMay)
          clear b4 b4' hcv p0
          go_loopw [6] (fun v wr => ∃ j : Nat, j ≤ tl + 1 ∧ j ≤ 60 ∧ v = .int .i64 j ∧ Kept (fun _ => False) w3 wr) (fun v _ => tl + 1 - (intOf v).toNat)
          case atStart => exact ⟨0, Nat.zero_le _, Nat.zero_le _, rfl, Kept.refl _ _⟩
          case round =>
            obtain ⟨j, hj, hj60, rfl, hkj⟩ := hrel
            obtain ⟨wj, hwj⟩ : ∃ wj, wj = wr := ⟨_, rfl⟩
            subst hwj
            have HKV4 := Lib.hid hkj
            have HT4 := Lib.hid (HT3.out.kept hkj id id)
            clear hkj
            by_cases hgo : j ≤ tl ∧ j < 60
            · obtain ⟨g3, g4⟩ := hgo
              have d1 : decide (j ≤ tl) = true := by simp; omega
              have d1' : decide ((j : Int) ≤ (tl : Int)) = true := by simp; omega
              have d2 : decide (j < 60) = true := by simp; omega
              have d2' : decide ((j : Int) < 60) = true := by simp; omega
              go_upto_region 12 with fail
              clear d1 d1' d2 d2'
              have hN : Nums (wj.alloc (.cells ([114, 126, 120, 88, 74].map (Value.int .i64)).toArray 3)) (some ⟨wj.heap.size, 0, none⟩) 5 [114, 126, 120, 88, 74] := nums_new wj [114, 126, 120, 88, 74] 3
              have hkc : Kept (fun _ => False) wj (wj.alloc (.cells ([114, 126, 120, 88, 74].map (Value.int .i64)).toArray 3)) := (Kept.refl _ wj).alloc _
              simp only [List.map_cons, List.map_nil] at hN hkc
              have HN6 := Lib.hid hN
              have HKV6 := Lib.hid hkc
              have HT6 := Lib.hid (HT4.out.kept hkc id id)
              clear hN hkc
              go_upto_region 13 with fail
              generalize hwb : wj.alloc (.cells #[.int .i64 114, .int .i64 126, .int .i64 120, .int .i64 88, .int .i64 74] 3) = wb at *
              clear hwb
              generalize wj.heap.size = cb at *
              go_wp2_with fail
              go_loopw [8] (fun v wr => ∃ q : Nat, q ≤ 5 ∧ v = .int .i64 q ∧ Kept (fun _ => False) wb wr) (fun v _ => 5 - (intOf v).toNat)
              case atStart => exact ⟨0, Nat.zero_le _, rfl, Kept.refl _ _⟩
              case round =>
                obtain ⟨q, hq, rfl, hkq⟩ := hrel
                obtain ⟨wq, hwq⟩ : ∃ wq, wq = wr := ⟨_, rfl⟩
                subst hwq
                have HKV7 := Lib.hid hkq
                have HT7 := Lib.hid (HT6.out.kept hkq id id)
                have HN7 := Lib.hid (HN6.out.kept hkq (fun _ _ => id))
                clear hkq
                by_cases hq5 : q < 5
                · have b7 : decide (q < 5) = true := by simp; omega
                  have b8 : decide ((q : Int) < 5) = true := by simp; omega
                  obtain ⟨xad, key, exa, hkey, cX⟩ := HN7.out.cell hq5
                  injection exa with exa
                  subst exa
                  rw [addr_add, Nat.zero_add] at cX
                  have hmem : key ∈ [114, 126, 120, 88, 74] := List.mem_of_getElem? hkey
                  have hq0 : (0 : Int) ≤ (q : Int) := by omega
                  have hq5i : (q : Int) < 5 := by omega
                  have cO := same_of s j key wq HT7.out HBM.out (by have := HTL.out; omega) hmem
                  have HMEM := Lib.hid hmem
                  clear hkey hmem
                  go_upto_region 17 with (go_at_call 28; refine cO.mono ?_; rintro e w8 ⟨⟨a, d, p, x, tk, E, rfl, hsame⟩, hk8⟩; have HSM := Lib.hid hsame; have HK8 := Lib.hid hk8; clear hsame hk8 cO; unfold chgT)
                  have HY := Lib.hid (heap_alloc_new w8 (chgO a d p x tk false))
                  have hk9 := HK8.out.alloc (chgO a d p x tk false)
                  have HK9 := Lib.hid hk9
                  have HT9 := Lib.hid (HT7.out.kept hk9 id id)
                  have cX9 := cell_kept hk9 cX id
                  clear hk9 cX b7 b8
                  generalize w8.alloc (chgO a d p x tk false) = w9 at *
                  generalize w8.heap.size = y at *
                  have hsm := HSM.out
                  rcases hsm with ⟨E', hE', hv⟩ | ⟨u, tl', x', hvu, hu0, hul, hvt, htl, hv, k1, k2, k3⟩
                  · obtain ⟨rfl, rfl, rfl, rfl, rfl, rfl⟩ := chgT_inj hv
                    go_wp2_with (go_at_call 29; refine (snum_any _ _).mono ?_; rintro e w' ⟨rfl, hw⟩; have hw2 := hw.symm; subst hw2)
                    exact ⟨⟨q + 1, by omega, by go_num, HKV7.out.trans HK9.out⟩, by simp [intOf]; omega⟩
                  · obtain ⟨rfl, rfl, rfl, rfl, rfl, rfl⟩ := chgT_inj hv
                    have hbin : Vld (Rw.bins (rs s) u) := fun r hr => hvu r (Rw.bins_mem hr)
                    have hbz : (0 : Int) ∉ Rw.bins (rs s) u := fun h => hu0 (Rw.bins_mem h)
                    have hbl : (Rw.bins (rs s) u).length ≤ 100000 := by unfold Rw.bins; rw [List.length_take, List.length_drop]; omega
                    have happ := Rw.app (rs s) u
                    have hale := Rw.app_le (rs s) u
                    have cMy := rmay4_t s (Rw.bat (rs s) u) (Rw.bdel (rs s) u) (Rw.bins (rs s) u) w9 HT9.out HBM.out hale hbin hbz hbl
                    have cAp := fun W => sapply_any s (Rw.bat (rs s) u) (Rw.bdel (rs s) u) (runesBytes (Rw.bins (rs s) u)) W hsz hale (by
                      have h1 := txt_size4 (Rw.bins (rs s) u)
                      have h2 : (Rw.bins (rs s) u).length ≤ u.length := by unfold Rw.bins; rw [List.length_take, List.length_drop]; omega
                      omega)
                    have happ2 : runesBytes ((rs s).take (Rw.bat (rs s) u)) ++ runesBytes (Rw.bins (rs s) u) ++ runesBytes ((rs s).drop (Rw.bat (rs s) u + Rw.bdel (rs s) u)) = runesBytes u := by rw [txt_append, txt_append, happ]
                    rw [happ2] at cAp
                    have hus := txt_size4 u
                    have hks := txt_size4 tl'
                    have cLn := fun W => rlen_any (runesBytes u) W (by omega)
                    rw [rs_txt hvu] at cLn
                    have cLk := fun W => rlen_any (runesBytes tl') W (by omega)
                    rw [rs_txt hvt] at cLk
                    have cRu := fun W => rrows_any (runesBytes u) W (by omega)
                    rw [txt_list, bytes_c10 hvu] at cRu
                    have cRs := fun W => rrows_any s W (by omega)
                    have hcs : s.data.toList.count 10 = c10 (rs s) := by
                      conv => lhs; rw [← txt_rs HBM.out]
                      rw [txt_list, bytes_c10 (rs_vld HBM.out)]
                    rw [hcs] at cRs
                    have hc1 : c10 u ≤ 5000 := Nat.le_trans List.count_le_length hul
                    have hc2 : c10 (rs s) ≤ 6000 := Nat.le_trans List.count_le_length (by have := HTL.out; omega)
                    rw [HTL.out] at k1 k3
                    obtain ⟨m1, hm1⟩ : ∃ m1, c10 u + 1 = m1 := ⟨_, rfl⟩
                    obtain ⟨m2, hm2⟩ : ∃ m2, c10 (rs s) + 1 = m2 := ⟨_, rfl⟩
                    rw [hm1] at cRu
                    rw [hm2] at cRs
                    have hm1' : c10 u = m1 - 1 := by omega
                    have hm2' : c10 (rs s) = m2 - 1 := by omega
                    rw [hm1', hm2'] at k1 k2 k3
                    have hb1 : 1 ≤ m1 ∧ m1 ≤ 5001 := by omega
                    have hb2 : 1 ≤ m2 ∧ m2 ≤ 6001 := by omega
                    have HF : Hid ((key = 114 ∨ key = 126 → u.length = tl ∧ m1 = m2) ∧ (key = 74 → m1 + 1 = m2) ∧ (key = 120 ∨ key = 88 → u.length + 1 = tl ∧ m1 = m2 ∧ tl'.length = 1)) := ⟨fun h => by have := k1 h; omega, fun h => by have := k2 h; omega, fun h => by have := k3 h; omega⟩
                    clear k1 k2 k3 hm1 hm2 hm1' hm2' hc1 hc2 hcs happ happ2 hbin hbz hbl hvu hu0 hvt hus hks hv hale
                    generalize ((Rw.bat (rs s) u : Nat) : Int) = pa at *
                    generalize ((Rw.bdel (rs s) u : Nat) : Int) = pd at *
                    generalize runesBytes (Rw.bins (rs s) u) = PI at *
                    generalize runesBytes u = U at *
                    generalize runesBytes tl' = TK at *
                    generalize hulen : u.length = ul at *
                    generalize htlen : tl'.length = kl at *
                    obtain ⟨⟨y0, y1, y2, y3, y4, y5⟩, _⟩ := chg_facts HY.out
                    have HAP := Lib.hid cAp
                    have HLN := Lib.hid cLn
                    have HLK := Lib.hid cLk
                    have HRU := Lib.hid cRu
                    have HRS := Lib.hid cRs
                    have HSM2 : Hid True := trivial
                    clear cAp cLn cLk cRu cRs hulen htlen HSM
                    go_wp2_with (first
                      | (go_at_call 29; refine (snum_any _ _).mono ?_; rintro e w' ⟨rfl, hw⟩; have hw2 := hw.symm; subst hw2)
                      | (go_at_call 22; refine cMy.mono ?_; rintro e w10 ⟨rfl, hk10⟩; have HK10 := Lib.hid hk10; have HY10 := Lib.hid ((hk10.block y (heap_lt HY.out) id).trans HY.out); have cX10 := cell_kept hk10 cX9 id; clear hk10 y0 y1 y2 y3 y4 y5 cX9 cMy; obtain ⟨⟨y0, y1, y2, y3, y4, y5⟩, _⟩ := chg_facts HY10.out)
                      | (go_at_call 23; refine (HAP.out _).mono ?_; rintro e w11 ⟨rfl, hk11⟩; have HK11 := Lib.hid (HK10.out.trans hk11); have HY11 := Lib.hid ((hk11.block y (heap_lt HY10.out) id).trans HY10.out); have cX11 := cell_kept hk11 cX10 id; clear hk11 y0 y1 y2 y3 y4 y5 cX10)
                      | (go_at_call 30; refine (HLN.out _).mono ?_; rintro e w12 ⟨rfl, hk12⟩; have HK12 := Lib.hid (HK11.out.trans hk12); have HY12 := Lib.hid ((hk12.block y (heap_lt HY11.out) id).trans HY11.out); have cX12 := cell_kept hk12 cX11 id; clear hk12 cX11))
                    refine (HRU.out _).mono ?_
                    rintro e w13 ⟨⟨A1, c1, rfl⟩, hk13⟩
                    have HK13 := Lib.hid (HK12.out.trans hk13)
                    have HY13 := Lib.hid ((hk13.block y (heap_lt HY12.out) id).trans HY12.out)
                    have cX13 := cell_kept hk13 cX12 id
                    clear hk13 cX12
                    go_wp2_with fail
                    refine (HRS.out _).mono ?_
                    rintro e w14 ⟨⟨A2, c2, rfl⟩, hk14⟩
                    have HK14 := Lib.hid (HK13.out.trans hk14)
                    have HY14 := Lib.hid ((hk14.block y (heap_lt HY13.out) id).trans HY13.out)
                    have cX14 := cell_kept hk14 cX13 id
                    clear hk14 cX13
                    obtain ⟨⟨y0, y1, y2, y3, y4, y5⟩, _⟩ := chg_facts HY14.out
                    have hk5 := HMEM.out
                    simp only [List.mem_cons, List.not_mem_nil, or_false] at hk5
                    have htl9 : tl ≤ 6000 := by omega
                    rcases hk5 with rfl | rfl | rfl | rfl | rfl
                    case' inl | inr.inl =>
                      obtain ⟨f1, f2⟩ := HF.out.1 (by decide)
                      have hn : IntKind.i64.wrap ((ul : Int) - (tl : Int)) = 0 := by rw [IntWalk.i64_in _ ⟨by omega, by omega⟩]; omega
                      have hr : IntKind.i64.wrap ((m1 : Int) - (m2 : Int)) = 0 := by rw [IntWalk.i64_in _ ⟨by omega, by omega⟩]; omega
                      have hn' : (ul : Int) - (tl : Int) = 0 := by omega
                      clear f1 f2
                    case' inr.inr.inl | inr.inr.inr.inl =>
                      obtain ⟨f1, f2, f3⟩ := HF.out.2.2 (by decide)
                      have hn : IntKind.i64.wrap ((ul : Int) - (tl : Int)) = -1 := by rw [IntWalk.i64_in _ ⟨by omega, by omega⟩]; omega
                      have hr : IntKind.i64.wrap ((m1 : Int) - (m2 : Int)) = 0 := by rw [IntWalk.i64_in _ ⟨by omega, by omega⟩]; omega
                      have hn' : (ul : Int) - (tl : Int) = -1 := by omega
                      have cK := HLK.out w14
                      rw [f3, show ((1 : Nat) : Int) = 1 from rfl] at cK
                      clear f1 f2 f3
                    case' inr.inr.inr.inr =>
                      have f2 := HF.out.2.1 rfl
                      obtain ⟨nn, hn⟩ : ∃ nn, IntKind.i64.wrap ((ul : Int) - (tl : Int)) = nn := ⟨_, rfl⟩
                      have hr : IntKind.i64.wrap ((m1 : Int) - (m2 : Int)) = -1 := by rw [IntWalk.i64_in _ ⟨by omega, by omega⟩]; omega
                      clear f2
                    case' inl | inr.inl | inr.inr.inr.inr =>
                      go_wp2_with fail
                      exact ⟨⟨q + 1, by omega, by go_num, HKV7.out.trans (HK9.out.trans HK14.out)⟩, by simp [intOf]; omega⟩
                    all_goals
                      go_wp2_with (go_at_call 30; refine cK.mono ?_; rintro e w15 ⟨rfl, hk15⟩; have HK15 := Lib.hid (HK14.out.trans hk15); clear hk15)
                      exact ⟨⟨q + 1, by omega, by go_num, HKV7.out.trans (HK9.out.trans HK15.out)⟩, by simp [intOf]; omega⟩
                · obtain rfl : q = 5 := by omega
                  have b7 : decide ((5 : Int) < 5) = false := by decide
                  go_wp2_with fail
                  go_roundw
                  case rel => exact ⟨j + 1, by omega, by omega, by go_num, HKV4.out.trans (HKV6.out.trans HKV7.out)⟩
                  case measure => simp [intOf]; omega
            · have hlast : (j = tl + 1 ∧ j < 60) ∨ (j ≤ tl ∧ j = 60) ∨ (j = tl + 1 ∧ j = 60) := by omega
              rcases hlast with ⟨h1, h2⟩ | ⟨h1, h2⟩ | ⟨h1, h2⟩
              case' inl | inr.inr =>
                have d1 : decide (j ≤ tl) = false := by simp; omega
                have d1' : decide ((j : Int) ≤ (tl : Int)) = false := by simp; omega
              case' inr.inl =>
                have d1 : decide (j ≤ tl) = true := by simp; omega
                have d1' : decide ((j : Int) ≤ (tl : Int)) = true := by simp; omega
                have d2 : decide (j < 60) = false := by simp; omega
                have d2' : decide ((j : Int) < 60) = false := by simp; omega
              all_goals
                clear h1 h2
                go_wp2_with fail
                go_roundw
                case rel => exact ⟨i + 1, by omega, by omega, by go_num, HKW3.out.trans HKV4.out⟩
                case measure => simp [intOf]; omega
        · have b4 : decide (1000 < s.size) = true := by simp; omega
          have b4' : decide ((1000 : Int) < (s.size : Int)) = true := by simp; omega
          go_wp2_with (go_at_call 17; refine cMay.mono ?_; rintro e w3 ⟨rfl, hk3⟩; have HK3 := Lib.hid (HKW2.out.trans hk3); clear hk3 cMay)
          go_roundw
          case rel => exact ⟨i + 1, by omega, by omega, by go_num, HK3.out⟩
          case measure => simp [intOf]; omega
    · have hlast : (i = n0 ∧ i < 3) ∨ (i < n0 ∧ i = 3) ∨ (i = n0 ∧ i = 3) := by omega
      have cW := swakes_any wi HTi.out
      rcases hlast with ⟨h1, h2⟩ | ⟨h1, h2⟩ | ⟨h1, h2⟩
      case' inl | inr.inr => have b1 : decide (i < n0) = false := by simp; omega
      case' inr.inl =>
        have b1 : decide (i < n0) = true := by simp; omega
        have b2 : decide (i < 3) = false := by simp; omega
        have b3 : decide ((i : Int) < 3) = false := by simp; omega
      all_goals
        clear h1 h2
        go_wp2_with (go_at_call 32; refine cW.mono ?_; rintro e w9 ⟨rfl, hk9⟩)
        go_ret
        exact ⟨rfl, HKi.out.trans hk9⟩
end Go.Proofs.YtkeojjojilfklaaDoor
