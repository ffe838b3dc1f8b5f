/-
  CELLS OF THE PROGRAM; the pair around a place, of both.
-/
import Derived.Test.YtbofjefblhnkoaaGreatDoorZMp
import Derived.Test.YtbofjefblhnkoaaGreatDoorZMg
import Derived.Maps.AppendAt
import Derived.Laws.OwnMore
set_option linter.unusedVariables false
set_option maxRecDepth 100000
namespace Go.Proofs.YtbofjefblhnkoaaGreatDoor
open Go Go.RowKit Pk


set_option maxRecDepth 100000 in
set_option maxHeartbeats 1000000 in
theorem pcells_yes (s : ByteArray) (big : Bool) (w : World) (hT : Tabs w) (hm : mayB s = true) :
    Calls Tryz.prog 80 #[.string s, .bool big] w fun e w' => Kept (fun _ => False) w w' ∧ ∃ v1 v2 B, e = .returned (.tuple #[v1, v2, .int .i64 0]) ∧ w.heap.size ≤ B ∧ B ≤ w'.heap.size ∧ w'.ownsRow B 3 1 v1 (Rw.cel (rs s) ((rs s).length + 1)).length ((ats (Rw.cel (rs s) ((rs s).length + 1))).map (Value.int .i64)) ∧ w'.ownsRow B 3 1 v2 (Rw.cel (rs s) ((rs s).length + 1)).length ((kls (rs s) big (Rw.cel (rs s) ((rs s).length + 1))).map (Value.int .i64)) ∧ Apart v1 v2 := by
  obtain ⟨i0, hi, hz0, hz1, hz2⟩ := info_parts info_int
  have cU := runes_yes s 0 w hT hm (Nat.zero_le _)
  have hl := rs_len s
  have hsz := mayB_size hm
  have hr := rs_runey (mayB_valid hm)
  generalize rs s = t at *
  have HR := Lib.hid hr
  clear hT hm hr
  obtain ⟨l, hll⟩ : ∃ l, Rw.cel t (t.length + 1) = l := ⟨_, rfl⟩
  have hlm := Rw.cel_len t (t.length + 1)
  rw [hll] at hlm
  have HLL := Lib.hid hll
  rw [hll]
  clear hll
  generalize hm : l.length = m at *
  have HM := Lib.hid hm
  clear hm
  go_enter Tryz.func80, Tryz.ntmps80
  go_wp2_with (first | (go_at_call 34; refine cU.mono ?_; rintro e w1 ⟨hk1, bb, cap, rfl, hbg, hR⟩; have HK1 := Lib.hid hk1; have HN := Lib.hid hR; clear cU hk1 hR hbg))
  refine (cells_any (some ⟨bb, 0, none⟩) t.length cap t big w1 HN.out HR.out (by omega)).mono ?_
  rintro e w2 ⟨hk2, g, cap2, rfl, hg, hC⟩
  have HK2 := Lib.hid (HK1.out.trans hk2)
  rw [HLL.out] at hC ⊢
  rw [HM.out]
  have HC := Lib.hid hC
  clear hk2 hC hg HK1
  go_wp2_with fail
  go_loopw [4, 5, 22] (fun v u i wr => ∃ k : Nat, k ≤ m ∧ i = .int .i64 k ∧ wr.ownsRow w2.heap.size 3 1 v k ((ats (l.take k)).map (Value.int .i64)) ∧ wr.ownsRow w2.heap.size 3 1 u k ((kls t big (l.take k)).map (Value.int .i64)) ∧ Apart v u ∧ Kept (fun _ => False) w2 wr) (fun _ _ i _ => m - (intOf i).toNat)
  case atStart => exact ⟨0, Nat.zero_le _, rfl, World.ownsRow_nil _ _ _ _, World.ownsRow_nil _ _ _ _, .inl rfl, Kept.refl _ _⟩
  case round =>
    obtain ⟨k, hk, rfl, hown, hown2, hap, hkept⟩ := hrel
    have HK := Lib.hid hkept
    have HCW := Lib.hid (HC.out.kept hkept id)
    have hsz2 := hkept.size
    have HSZ := Lib.hid hsz2
    clear hkept hsz2
    by_cases hkm : k < m
    · obtain ⟨o, ho⟩ : ∃ o, l[k]? = some o := ⟨_, List.getElem?_eq_getElem (by rw [HM.out]; exact hkm)⟩
      have h0 := HCW.out.c0 k o ho
      have h1 := HCW.out.c1 k o ho
      have h2 := HCW.out.c2 k o ho
      have h3 := HCW.out.c3 k o ho
      have HO := Lib.hid ho
      clear ho
      obtain ⟨q, hq⟩ : ∃ q, Rw.at_ t big o = q := ⟨_, rfl⟩
      obtain ⟨F, hF⟩ : ∃ F, decide (Rw.beg t o = o) = F := ⟨_, rfl⟩
      obtain ⟨G, hG⟩ : ∃ G, Rw.lastB t o = G := ⟨_, rfl⟩
      rw [hq] at h1
      rw [hF] at h2
      rw [hG] at h3
      have HQ := Lib.hid hq.symm
      clear hq hF hG
      obtain ⟨xs, hxs⟩ : ∃ xs, (ats (l.take k)).map (Value.int .i64) = xs := ⟨_, rfl⟩
      obtain ⟨ys, hys⟩ : ∃ ys, (kls t big (l.take k)).map (Value.int .i64) = ys := ⟨_, rfl⟩
      rw [hxs] at hown
      rw [hys] at hown2
      have HXS := Lib.hid hxs
      have HYS := Lib.hid hys
      clear hxs hys
      go_upto_region 7 with fail
      have hb := heap_alloc_new wr (.cells #[.int .i64 (o : Int), .int .i64 q, .bool F, .bool G] 150)
      have hkw : Kept (fun _ => False) wr (wr.alloc (.cells #[.int .i64 (o : Int), .int .i64 q, .bool F, .bool G] 150)) := (Kept.refl _ wr).alloc _
      have hownA := hown.alloc (.cells #[.int .i64 (o : Int), .int .i64 q, .bool F, .bool G] 150)
      have hownB := hown2.alloc (.cells #[.int .i64 (o : Int), .int .i64 q, .bool F, .bool G] 150)
      have hlt := hown.lt
      have hsz1 : wr.heap.size < (wr.alloc (.cells #[.int .i64 (o : Int), .int .i64 q, .bool F, .bool G] 150)).heap.size := by simp
      generalize wr.alloc (.cells #[.int .i64 (o : Int), .int .i64 q, .bool F, .bool G] 150) = W1 at *
      have HK1 := Lib.hid (HK.out.trans hkw)
      have HSZ1 := Lib.hid (HK1.out.size)
      generalize wr.heap.size = nb at *
      have f0 : W1.cell? ⟨nb, 0, none⟩ = some (.int .i64 (o : Int)) := by rw [cell_of_row _ _ _ _ _ _ hb]; rfl
      have f1 : W1.cell? ⟨nb, 1, none⟩ = some (.int .i64 q) := by rw [cell_of_row _ _ _ _ _ _ hb]; rfl
      have HLT := Lib.hid hlt
      clear h0 h1 h2 h3 hown hown2 hkw hb hsz1 hlt
      go_wp2_with (first
        | (at_builtin; refine wpList_append_own_at _ rfl (.tmp 26) (.tmp 29) 37 rfl w2.heap.size 3 i0 (.int .i64 0) 1 8 Tryz.underlying37 hi hz0 hz1 hz2 rfl (by decide) _ _ _ rfl (hownA.alloc _) ⟨_, 0, none⟩ 1 1 [.int .i64 (o : Int)] rfl rfl one_cell one_one (by unfold maxLen; omega) (by omega) (by have := HSZ1.out; simp; omega) ?_; intro v' w3 hown' hgrow _ hat; have ha := (hap.kept hownB hownA hgrow hat); have HK3 := Lib.hid (Kept.grew (HK1.out.alloc (.cells #[.int .i64 (o : Int)] 3)) hgrow (fun q hq => (hownA.lt q hq).1)); have hownC := ha.1; have hap1 := ha.2; have HSZ3 := Lib.hid HK3.out.size; have f2 : w3.cell? ⟨nb, 1, none⟩ = some (.int .i64 q) := hgrow.cell (cell_kept ((Kept.refl (fun _ => False) W1).alloc _) f1 id) (fun e => by have := (HLT.out nb e.symm).2; omega); clear hownB hownA hgrow hat hap ha f1 f0)
        | (at_builtin; refine wpList_append_own_at _ rfl (.tmp 31) (.tmp 34) 37 rfl w2.heap.size 3 i0 (.int .i64 0) 1 8 Tryz.underlying37 hi hz0 hz1 hz2 rfl (by decide) _ _ _ rfl (hownC.alloc _) ⟨_, 0, none⟩ 1 1 [.int .i64 q] rfl rfl one_cell one_one (by unfold maxLen; omega) (by omega) (by have := HSZ3.out; simp; omega) ?_; intro v2 w4 hown3 hgrow _ hat; have ha := (hap1.symm.kept hown' hownC hgrow hat); have HK4 := Lib.hid (Kept.grew (HK3.out.alloc (.cells #[.int .i64 q] 3)) hgrow (fun q hq => (hownC.lt q hq).1)); have hownD := ha.1; have hap2 := ha.2.symm; clear hown' hownC hgrow hat hap1 ha f2))
      rw [← HXS.out] at hownD
      rw [← HYS.out] at hown3
      have HO1 := Lib.hid (own_at2 HO.out hownD)
      have HO2 := Lib.hid (own_kls2 HO.out HQ.out hown3)
      clear hownD hown3
      go_roundw
      case rel => exact ⟨k + 1, by omega, by go_num, HO1.out, HO2.out, hap2, HK4.out⟩
      case measure => simp [intOf] <;> omega
    · obtain rfl : k = m := by omega
      have ht : l.take k = l := List.take_of_length_le (by rw [HM.out]; exact Nat.le_refl _)
      rw [ht] at hown hown2
      have HO1 := Lib.hid hown
      have HO2 := Lib.hid hown2
      clear hown hown2 ht
      go_wp2
      exact bodyPost_ret (v := .tuple #[_, _, .int .i64 0]) (by simp [results, Tryz.results80, go_sem]) rfl ⟨HK2.out.trans HK.out, _, _, w2.heap.size, rfl, HK2.out.size, HK.out.size, HO1.out, HO2.out, hap⟩
set_option maxRecDepth 100000 in
set_option maxHeartbeats 1000000 in
theorem paround_yes (s : ByteArray) (k cnt : Nat) (kind : Int) (w : World) (hT : Tabs w) (hm : mayB s = true) (hk : k ≤ (rs s).length) (hkind : kind = 40 ∨ kind = 91 ∨ kind = 123) (hc1 : 1 ≤ cnt) (hc2 : cnt ≤ 999) :
    Calls Tryz.prog 78 #[.string s, .int .i64 k, .int .i64 kind, .int .i64 cnt] w fun e w' => Kept (fun _ => False) w w' ∧ e = .returned (ansA (Rw.around (rs s) k kind cnt)) := by
  have cU := runes_yes s k w hT hm hk
  have hl := rs_len s
  have hsz := mayB_size hm
  have hv := vald_rs hm
  generalize rs s = t at *
  clear hT hm
  have b1 : decide ((cnt : Int) < 1) = false := decide_eq_false (by omega)
  have b2 : decide (999 < (cnt : Int)) = false := decide_eq_false (by omega)
  have b3 : decide (cnt < 1) = false := decide_eq_false (by omega)
  have b4 : decide (999 < cnt) = false := decide_eq_false (by omega)
  have b5 : decide (cnt = 0) = false := decide_eq_false (by omega)
  obtain ⟨R, hR⟩ : ∃ R, Rw.arn t k kind (min (k + 1) t.length) cnt = R := ⟨_, rfl⟩
  rw [show Rw.around t k kind cnt = R from hR]
  have HR := Lib.hid hR
  have HV := Lib.hid hv
  have hmin : min (k : Int) ((t.length : Int) - 1) + 1 = ((min (k + 1) t.length : Nat) : Int) := by omega
  have HMIN := Lib.hid hmin
  have hwr : IntKind.i64.wrap ((t.length : Int) - 1) = (t.length : Int) - 1 := wrapI rfl (by omega) (by omega)
  have hj0 : min (k + 1) t.length ≤ t.length := Nat.min_le_right _ _
  have HJ0 := Lib.hid hj0
  obtain ⟨MI, hMI⟩ : ∃ MI, min (k : Int) ((t.length : Int) - 1) = MI := ⟨_, rfl⟩
  rw [hMI] at HMIN
  clear hv hR hj0 hmin
  have hq : (kind != 40) = false ∨ ((kind != 40) = true ∧ (kind != 91) = false) ∨ ((kind != 40) = true ∧ (kind != 91) = true ∧ (kind != 123) = false) := by
    rcases hkind with rfl | rfl | rfl
    · exact .inl (by decide)
    · exact .inr (.inl ⟨by decide, by decide⟩)
    · exact .inr (.inr ⟨by decide, by decide, by decide⟩)
  have HKD := Lib.hid hkind
  clear hkind
  go_enter Tryz.func78, Tryz.ntmps78
  go_upto_region 2 with (go_at_call 34; refine cU.mono ?_; rintro e w1 ⟨hk1, bb, cap, rfl, hbg, hRn⟩)
  have cM := mates_any (some ⟨bb, 0, none⟩) t.length cap t w1 hRn HV.out (by omega)
  have HK1 := Lib.hid hk1
  have HRN := Lib.hid hRn
  clear cU hk1 hRn hbg
  go_cut [42] from 21 to 42 (fun v wx => v = .bool false ∧ wx = w1)
  case first =>
    rcases hq with h1 | ⟨h1, h2⟩ | ⟨h1, h2, h3⟩
    all_goals
      go_wp2_with fail
      go_meet
      exact ⟨rfl, rfl⟩
  case rest =>
    obtain ⟨rfl, hw⟩ := hcut
    have hw2 := hw.symm
    clear hw
    subst hw2
    clear hq b1 b2 b3 b4 b5
    go_wp2_with (go_at_call 96; refine cM.mono ?_; rintro e w2 ⟨b, rfl, hN, _, hk2⟩; have HN := Lib.hid hN; have HK2 := Lib.hid hk2; clear hN hk2 cM)
    clear hMI hwr
    go_loopw [14, 3] (fun v cv wr => ∃ (j c : Nat) (I : Int), v = .int .i64 I ∧ I + 1 = (j : Int) ∧ j ≤ t.length ∧ cv = .int .i64 c ∧ 1 ≤ c ∧ c ≤ 999 ∧ Rw.arn t k kind j c = R ∧ ∃ q, wr = w2.drewN q) (fun v _ _ => (intOf v + 1).toNat)
    case atStart => exact ⟨min (k + 1) t.length, cnt, _, rfl, HMIN.out, HJ0.out, rfl, hc1, hc2, HR.out, 0, rfl⟩
    case round =>
      obtain ⟨j, c, I, rfl, hIj, hjl, rfl, h1c, h2c, harn, q, rfl⟩ := hrel
      have HAR := Lib.hid harn
      clear harn
      by_cases hj0 : j = 0
      · subst hj0
        obtain rfl : I = -1 := by omega
        have hRn : Hid (R = none) := by show _ = _; rw [← HAR.out]; rfl
        go_wp2_with fail
        exact bodyPost_ret (v := .tuple #[.int .i64 0, .int .i64 0, .int .i64 6]) (by simp [results, Tryz.results78, go_sem]) rfl ⟨(HK1.out.trans HK2.out).drewN q, by rw [hRn.out]; rfl⟩
      · obtain ⟨i, rfl⟩ : ∃ i, j = i + 1 := ⟨j - 1, by omega⟩
        obtain rfl : I = (i : Int) := by omega
        obtain ⟨ad, x, he, hx, hcx⟩ := (HRN.out.kept HK2.out (fun _ _ => id)).cell (j := i) (by omega)
        injection he with he
        subst he
        rw [addr_add, Nat.zero_add] at hcx
        obtain ⟨x1, x2⟩ := HV.out.runey.at_ hx
        have hwx : IntKind.i64.wrap x = x := wrapI rfl (by omega) (by omega)
        have hg := Rw.mls_all (t := t) (i := i) (by omega)
        obtain ⟨M, hM⟩ : ∃ M, Rw.mt t i = M := ⟨_, rfl⟩
        rw [hM] at hg
        obtain ⟨ad1, e1, hcm⟩ := HN.out.2 i M hg
        injection e1 with e1
        subst e1
        rw [addr_add, Nat.zero_add] at hcm
        have HX := Lib.hid hx
        have HM := Lib.hid hM
        have hcx' : (w2.drewN q).cell? ⟨bb, i, none⟩ = some (.int .i32 x) := hcx
        have hcm' : (w2.drewN q).cell? ⟨b, i, none⟩ = some (.int .i64 M) := hcm
        have b1 : decide ((0 : Int) ≤ (i : Int)) = true := decide_eq_true (by omega)
        have t1 : (0 : Int) ≤ (i : Int) := by omega
        have t2 : (i : Int) < (t.length : Int) := by omega
        have b9 : IntKind.i64.wrap ((i : Int) - 1) = (i : Int) - 1 := wrapI rfl (by omega) (by omega)
        clear hx hM hg hIj hj0 hcx hcm
        by_cases hxk : x = kind
        · subst hxk
          have b2 : (x != x) = false := by simp
          by_cases hlt : M < (k : Int)
          · have b3 : decide (M < (k : Int)) = true := decide_eq_true hlt
            have HA2 := Lib.hid (show Rw.arn t k x i c = R by rw [← HAR.out, arn_skip (fun h => by have := h.2; rw [HM.out] at this; omega)])
            go_wp2_with fail
            go_roundw
            case rel => exact ⟨i, c, (i : Int) - 1, by go_num, by omega, by omega, rfl, h1c, h2c, HA2.out, q, rfl⟩
            case measure => simp [intOf] <;> omega
          · have b3 : decide (M < (k : Int)) = false := decide_eq_false hlt
            by_cases h1 : c = 1
            · subst h1
              have hRn : Hid (R = some (i, M)) := by show _ = _; rw [← HAR.out, arn_hit HX.out (by rw [HM.out]; omega), HM.out]
              go_upto_region 11 with fail
              have HKq : Hid (Kept (fun _ => False) w (w2.drewN q)) := (HK1.out.trans HK2.out).drewN q
              generalize w2.drewN q = w3 at *
              go_quiet (fail)
              go_wp2_with fail
              exact bodyPost_ret (v := .tuple #[.int .i64 (i : Int), .int .i64 M, .int .i64 0]) (by simp [results, Tryz.results78, go_sem]) rfl ⟨HKq.out.drewN _, by rw [hRn.out]; rfl⟩
            · obtain ⟨c', rfl⟩ : ∃ c', c = c' + 2 := ⟨c - 2, by omega⟩
              have HA2 := Lib.hid (show Rw.arn t k x i (c' + 1) = R by rw [← HAR.out, arn_next HX.out (by rw [HM.out]; omega)])
              have b10 : IntKind.i64.wrap (((c' + 2 : Nat) : Int) - 1) = ((c' + 1 : Nat) : Int) := wrapI (by omega) (by omega) (by omega)
              have b11 : ((c' : Int) + 1 == 0) = false := by rw [beq_eq_false_iff_ne]; omega
              clear h1
              go_wp2_with fail
              go_roundw
              case rel => exact ⟨i, c' + 1, (i : Int) - 1, by go_num, by omega, by omega, by go_num, by omega, by omega, HA2.out, q, rfl⟩
              case measure => simp [intOf] <;> omega
        · have b2 : (x != kind) = true := by rw [bne_iff_ne]; exact hxk
          have HXK := Lib.hid hxk
          have HA2 := Lib.hid (show Rw.arn t k kind i c = R by rw [← HAR.out, arn_skip (fun h => by have := h.1; rw [HX.out] at this; injection this with this; exact HXK.out this)])
          clear hxk
          go_wp2_with fail
          go_roundw
          case rel => exact ⟨i, c, (i : Int) - 1, by go_num, by omega, by omega, rfl, h1c, h2c, HA2.out, q, rfl⟩
          case measure => simp [intOf] <;> omega
set_option maxRecDepth 100000 in
set_option maxHeartbeats 1000000 in
theorem raround_any (A : Option Addr) (n cp k cnt : Nat) (kind : Int) (t : List Int) (w : World) (hA : Rn w A n t) (hr : Runey t) (hn : n ≤ 6000) (hk : k ≤ n) (hc1 : 1 ≤ cnt) (hc2 : cnt ≤ 999) :
    Calls Tryz.prog 66 #[.slice A n cp, .int .i64 k, .int .i64 kind, .int .i64 cnt] w fun e w' => Kept (fun _ => False) w w' ∧ e = .returned (ansB (Rw.around t k kind cnt)) := by
  have hlen := hA.1
  have HL := Lib.hid hlen
  obtain ⟨R, hR⟩ : ∃ R, Rw.arn t k kind (min (k + 1) n) cnt = R := ⟨_, rfl⟩
  rw [show Rw.around t k kind cnt = R by unfold Rw.around; rw [hlen]; exact hR]
  have HR := Lib.hid hR
  have HA := Lib.hid hA
  have HV := Lib.hid hr
  have hmin : min (k : Int) ((n : Int) - 1) + 1 = ((min (k + 1) n : Nat) : Int) := by omega
  have HMIN := Lib.hid hmin
  have hwr : IntKind.i64.wrap ((n : Int) - 1) = (n : Int) - 1 := wrapI rfl (by omega) (by omega)
  have hj0 : min (k + 1) n ≤ n := Nat.min_le_right _ _
  have HJ0 := Lib.hid hj0
  obtain ⟨MI, hMI⟩ : ∃ MI, min (k : Int) ((n : Int) - 1) = MI := ⟨_, rfl⟩
  rw [hMI] at HMIN
  clear hA hr hR hj0 hmin hlen
  go_enter Tryz.func66, Tryz.ntmps66
  go_wp2_with fail
  clear hMI hwr
  go_loopw [10, 3] (fun v cv wr => ∃ (j c : Nat) (I : Int), v = .int .i64 I ∧ I + 1 = (j : Int) ∧ j ≤ n ∧ cv = .int .i64 c ∧ 1 ≤ c ∧ c ≤ 999 ∧ Rw.arn t k kind j c = R ∧ Kept (fun _ => False) w wr) (fun v _ _ => (intOf v + 1).toNat)
  case atStart => exact ⟨min (k + 1) n, cnt, _, rfl, HMIN.out, HJ0.out, rfl, hc1, hc2, HR.out, Kept.refl _ _⟩
  case round =>
    obtain ⟨j, c, I, rfl, hIj, hjl, rfl, h1c, h2c, harn, hkept⟩ := hrel
    have HAR := Lib.hid harn
    have HK := Lib.hid hkept
    clear harn hkept
    by_cases hj0 : j = 0
    · subst hj0
      obtain rfl : I = -1 := by omega
      have hRn : Hid (R = none) := by show _ = _; rw [← HAR.out]; rfl
      go_wp2_with fail
      exact bodyPost_ret (v := .tuple #[.int .i64 (-1), .int .i64 (-1)]) (by simp [results, Tryz.results66, go_sem]) rfl ⟨HK.out, by rw [hRn.out]; rfl⟩
    · obtain ⟨i, rfl⟩ : ∃ i, j = i + 1 := ⟨j - 1, by omega⟩
      obtain rfl : I = (i : Int) := by omega
      obtain ⟨ad, x, rfl, hx, hcx⟩ := (HA.out.kept HK.out (fun _ _ => id)).cell (j := i) (by omega)
      obtain ⟨x1, x2⟩ := HV.out.at_ hx
      have hwx : IntKind.i64.wrap x = x := wrapI rfl (by omega) (by omega)
      have cM := rmate_any (some ad) n cp i t wr (HA.out.kept HK.out (fun _ _ => id)) (by omega)
      obtain ⟨M, hM⟩ : ∃ M, Rw.mt t i = M := ⟨_, rfl⟩
      rw [hM] at cM
      have HX := Lib.hid hx
      have HM := Lib.hid hM
      have b1 : decide ((0 : Int) ≤ (i : Int)) = true := decide_eq_true (by omega)
      have t1 : (0 : Int) ≤ (i : Int) := by omega
      have t2 : (i : Int) < (n : Int) := by omega
      have b9 : IntKind.i64.wrap ((i : Int) - 1) = (i : Int) - 1 := wrapI rfl (by omega) (by omega)
      clear hx hM hIj hj0
      by_cases hxk : x = kind
      · subst hxk
        have b2 : (x != x) = false := by simp
        by_cases hlt : M < (k : Int)
        · have b3 : decide ((k : Int) ≤ M) = false := decide_eq_false (by omega)
          have HA2 := Lib.hid (show Rw.arn t k x i c = R by rw [← HAR.out, arn_skip (fun h => by have := h.2; rw [HM.out] at this; omega)])
          go_wp2_with (go_at_call 105; refine cM.mono ?_; rintro e w2 ⟨rfl, hk2⟩; have HK2 := Lib.hid (HK.out.trans hk2); clear hk2 cM)
          go_roundw
          case rel => exact ⟨i, c, (i : Int) - 1, by go_num, by omega, by omega, rfl, h1c, h2c, HA2.out, HK2.out⟩
          case measure => simp [intOf] <;> omega
        · have b3 : decide ((k : Int) ≤ M) = true := decide_eq_true (by omega)
          by_cases h1 : c = 1
          · subst h1
            have hRn : Hid (R = some (i, M)) := by show _ = _; rw [← HAR.out, arn_hit HX.out (by rw [HM.out]; omega), HM.out]
            go_wp2_with (go_at_call 105; refine cM.mono ?_; rintro e w2 ⟨rfl, hk2⟩; have HK2 := Lib.hid (HK.out.trans hk2); clear hk2 cM)
            exact bodyPost_ret (v := .tuple #[.int .i64 (i : Int), .int .i64 M]) (by simp [results, Tryz.results66, go_sem]) rfl ⟨HK2.out, by rw [hRn.out]; rfl⟩
          · obtain ⟨c', rfl⟩ : ∃ c', c = c' + 2 := ⟨c - 2, by omega⟩
            have HA2 := Lib.hid (show Rw.arn t k x i (c' + 1) = R by rw [← HAR.out, arn_next HX.out (by rw [HM.out]; omega)])
            have b10 : IntKind.i64.wrap (((c' + 2 : Nat) : Int) - 1) = ((c' + 1 : Nat) : Int) := wrapI (by omega) (by omega) (by omega)
            have b11 : ((c' : Int) + 1 == 0) = false := by rw [beq_eq_false_iff_ne]; omega
            clear h1
            go_wp2_with (go_at_call 105; refine cM.mono ?_; rintro e w2 ⟨rfl, hk2⟩; have HK2 := Lib.hid (HK.out.trans hk2); clear hk2 cM)
            go_roundw
            case rel => exact ⟨i, c' + 1, (i : Int) - 1, by go_num, by omega, by omega, by go_num, by omega, by omega, HA2.out, HK2.out⟩
            case measure => simp [intOf] <;> omega
      · have b2 : (x != kind) = true := by rw [bne_iff_ne]; exact hxk
        have HXK := Lib.hid hxk
        have HA2 := Lib.hid (show Rw.arn t k kind i c = R by rw [← HAR.out, arn_skip (fun h => by have := h.1; rw [HX.out] at this; injection this with this; exact HXK.out this)])
        clear hxk cM
        go_wp2_with fail
        go_roundw
        case rel => exact ⟨i, c, (i : Int) - 1, by go_num, by omega, by omega, rfl, h1c, h2c, HA2.out, HK.out⟩
        case measure => simp [intOf] <;> omega
end Go.Proofs.YtbofjefblhnkoaaGreatDoor
