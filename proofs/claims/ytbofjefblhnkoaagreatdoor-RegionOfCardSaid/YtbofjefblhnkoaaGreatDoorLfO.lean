/-
  text.Offset OF A ROW's BEGIN; the reference's Start; lines.First.
-/
import Derived.Test.YtbofjefblhnkoaaGreatDoorLfP
import Derived.Test.YtbofjefblhnkoaaGreatDoorSfN
import Derived.Test.YtbofjefblhnkoaaGreatDoorZMg
import Derived.Test.YtbofjefblhnkoaaGreatDoorRgN
set_option linter.unusedVariables false
namespace Go.Proofs.YtbofjefblhnkoaaGreatDoor
open Go Go.RowKit

abbrev offV (o : Option Nat) : Value := match o with
  | some a => .tuple #[.int .i64 (a : Nat), .int .i64 0]
  | none => .tuple #[.int .i64 0, .int .i64 3]
set_option maxRecDepth 100000 in
set_option maxHeartbeats 2000000 in
theorem offset_yes (s : ByteArray) (row : Int) (w : World) (hT : Tabs w) (hM : Mx w) (hm : mayB s = true) :
    Calls Tryz.prog 48 #[.string s, .agg #[.int .i64 row, .int .i64 0]] w fun e w' => e = .returned (offV (stt (rs s) row)) ∧ Kept (fun _ => False) w w' := by
  have hsz := mayB_size hm
  have hl := rs_len s
  have hv := rs_vld hm
  have hka : Kept (fun _ => False) w (w.alloc (.cells #[.int .i64 row, .int .i64 0] 24)) := (Kept.refl _ w).alloc _
  have HG : Hid ((w.alloc (.cells #[.int .i64 row, .int .i64 0] 24)).heap[w.heap.size]? = some (.cells #[.int .i64 row, .int .i64 0] 24 (0, 0))) := heap_alloc_new w _
  have cC := check_any s _ (by omega) (hT.kept hka id id)
  rw [hm] at cC
  have cS := fun W hW => split_any (rs s) W hv (by omega) hW
  rw [txt_rs hm] at cS
  have hM1 := hM.kept hka
  have hrows : rowsOf ((rs s).drop 0) = rowsOf (rs s) := by rw [List.drop_zero]
  have hN := (rowsOf_all (rs s).length (rs s) (Nat.le_refl _)).2
  have hpos : 0 < (rowsOf (rs s)).length := by
    have := rowsOf_ne (rs s)
    exact List.length_pos_iff.2 this
  generalize rs s = t at *
  obtain ⟨RV, hRV⟩ : ∃ RV, offV (stt t row) = RV := ⟨_, rfl⟩
  have hRS : Hid (∀ a, stt t row = some a → RV = .tuple #[.int .i64 (a : Nat), .int .i64 0]) := fun a h => by rw [← hRV, h]
  have hRN : Hid (stt t row = none → RV = .tuple #[.int .i64 0, .int .i64 3]) := fun h => by rw [← hRV, h]
  rw [hRV]
  have HV := Lib.hid hv
  have HS := Lib.hid cS
  have HKA := Lib.hid hka
  have HM1 := Lib.hid hM1
  have HR0 := Lib.hid hrows
  clear hT hM hm hv cS hka hM1 hRV hrows
  obtain ⟨g, hg⟩ : ∃ g, w.heap.size = g := ⟨_, rfl⟩
  go_enter Tryz.func48, Tryz.ntmps48
  go_wp2_with fail
  simp only [hg] at HG ⊢
  generalize w.alloc (.cells #[.int .i64 row, .int .i64 0] 24) = wa at *
  refine cC.mono ?_
  rintro e w1 ⟨rfl, hk1⟩
  have HK1 := Lib.hid (HKA.out.trans hk1)
  have HG1 := Lib.hid ((hk1.block g (heap_lt HG.out) id).trans HG.out)
  have HM2 := Lib.hid (HM1.out.kept hk1)
  clear hk1 cC
  go_wp2_with fail
  refine (HS.out w1 HM2.out).mono ?_
  rintro e w2 ⟨rfl, hw2⟩
  obtain ⟨N, hNN⟩ : ∃ N, (rowsOf t).length = N := ⟨_, rfl⟩
  rw [hNN] at hN hpos ⊢
  have HNN := Lib.hid hNN
  obtain ⟨rb, hrb⟩ : ∃ rb, w1.heap.size = rb := ⟨_, rfl⟩
  rw [hrb]
  have HB : Hid (∀ (k : Nat) r, (rowsOf t)[k]? = some r → w2.cell? ⟨rb, k, none⟩ = some (.string (runesBytes r))) := fun k r hr => by
    have h1 := heap_alloc_new w1 (.cells (((rowsOf t).map runesBytes).map Value.string).toArray 9)
    rw [← hw2, hrb] at h1
    rw [cell_of_row _ _ _ _ _ _ h1]
    simp [hr]
  have hk2 : Kept (fun _ => False) w1 w2 := by rw [hw2]; exact (Kept.refl _ w1).alloc _
  have HK2 := Lib.hid (HK1.out.trans hk2)
  have HG2 := Lib.hid ((hk2.block g (heap_lt HG1.out) id).trans HG1.out)
  clear hk2 hw2 hrb hNN
  go_wp2_with fail
  go_loopw [7, 19] (fun h v wr => ∃ (ix ah : Nat), ix ≤ N ∧ ah ≤ t.length + 1 ∧ v = .int .i64 ix ∧ h = .int .i64 ah ∧ Kept (fun _ => False) w2 wr ∧
    ((ix < N ∧ ah ≤ t.length ∧ Rw.beg t ah = ah ∧ (rowsOf t).drop ix = rowsOf (t.drop ah) ∧ (0 ≤ row → ix ≤ row.toNat ∧ stt t row = Rw.dn t ah (row.toNat - ix))) ∨ (ix = N ∧ (0 ≤ row → stt t row = none)))) (fun _ v _ => N - (intOf v).toNat)
  case atStart =>
    refine ⟨0, 0, by omega, by omega, rfl, rfl, Kept.refl _ _, .inl ⟨hpos, by omega, beg_0 t, by rw [List.drop_zero, HR0.out], fun h => ⟨Nat.zero_le _, ?_⟩⟩⟩
    unfold stt
    rw [if_pos h, Nat.sub_zero]
  case round =>
    obtain ⟨ix, ah, hix, hah, rfl, rfl, hkr, hst⟩ := hrel
    obtain ⟨wx, hwx⟩ : ∃ wx, wx = wr := ⟨_, rfl⟩
    subst hwx
    have HKR := Lib.hid hkr
    have HGX := Lib.hid ((hkr.block g (heap_lt HG2.out) id).trans HG2.out)
    clear hkr
    have q0 : wx.cell? ⟨g, 0, none⟩ = some (.int .i64 row) := cell_of_row wx g 0 _ _ _ HGX.out
    have q1 : wx.cell? ⟨g, 1, none⟩ = some (.int .i64 0) := cell_of_row wx g 1 _ _ _ HGX.out
    rcases hst with ⟨h1, h2, h3, h4, h5⟩ | ⟨rfl, h5⟩
    · obtain ⟨r, rest, e1, e2, e3, e4, e5⟩ := rows_at h2
      have hr : (rowsOf t)[ix]? = some r := by
        have := congrArg (fun l => l[0]?) (h4.trans e1)
        simpa using this
      have cR0 := cell_kept HKR.out (HB.out ix r hr) id
      have hrv : Vld r := fun x hx => HV.out x (e3 x hx)
      have hel := Rw.en_le t ah h2
      have hrl : r.length ≤ t.length := by omega
      have hrsz : (runesBytes r).size ≤ 1000000 := by
        rw [txt_size]
        have h4' : ∀ l : List Int, (Utf.bytes l).length ≤ 4 * l.length := fun l => by
          induction l with
          | nil => exact Nat.le_refl _
          | cons c l ih => show (Utf.enc c ++ Utf.bytes l).length ≤ _; have := (Utf.enc_length c).2; rw [List.length_append, List.length_cons]; omega
        have := h4' r
        omega
      have cN := fun W => rcount_any (runesBytes r) W hrsz
      rw [rs_txt hrv] at cN
      have HCN := Lib.hid cN
      have hnx : Rw.en t ah ≠ t.length → (rowsOf t).drop (ix + 1) = rowsOf (t.drop (Rw.en t ah + 1)) ∧ Rw.en t ah + 1 ≤ t.length := fun h => by
        have h6 := e5 h
        refine ⟨?_, h6.2⟩
        rw [← h6.1, ← List.drop_drop, h4, e1]
        rfl
      have hend : Rw.en t ah = t.length → ix + 1 = N := fun h => by
        have h6 := e4 h
        have := congrArg List.length (h4.trans e1)
        rw [List.length_drop, HNN.out, h6] at this
        simp at this
        omega
      have hbt : Rw.en t ah ≠ t.length → ix + 1 < N := fun h => by
        have h6 := (hnx h).1
        have h7 := rowsOf_ne (t.drop (Rw.en t ah + 1))
        have h8 : (rowsOf t).drop (ix + 1) ≠ [] := by rw [h6]; exact h7
        have := congrArg List.length (rfl : (rowsOf t).drop (ix + 1) = (rowsOf t).drop (ix + 1))
        have h9 := List.length_pos_iff.2 h8
        rw [List.length_drop, HNN.out] at h9
        omega
      have HNX := Lib.hid hnx
      have HEND := Lib.hid hend
      have HBT := Lib.hid hbt
      have HH5 := Lib.hid h5
      have HH3 := Lib.hid h3
      clear hr cN e1 e3 e4 e5 h4 hnx hend hbt hrsz hrv h5 h3
      generalize runesBytes r = RB at *
      obtain ⟨L, hL⟩ : ∃ L, r.length = L := ⟨_, rfl⟩
      rw [hL] at e2 hrl HCN
      clear hL
      have hix0 : (0 : Int) ≤ (ix : Int) := by omega
      have hixN : (ix : Int) < (N : Int) := by omega
      have bN : decide (ix < N) = true := by simp; omega
      by_cases heq : (ix : Int) = row
      · have b1 : ((ix : Int) == row) = true := by simpa using heq
        have hfin : Hid (RV = .tuple #[.int .i64 (ah : Nat), .int .i64 0]) := by
          refine hRS.out ah ?_
          obtain ⟨h6, h7⟩ := HH5.out (by omega)
          rw [h7, show row.toNat - ix = 0 by omega, dn_zero HH3.out]
        clear heq
        go_wp2_with (go_at_call 85; refine (HCN.out _).mono ?_; rintro e w3 ⟨rfl, hk3⟩; have HK3 := Lib.hid (HKR.out.trans hk3); have HG3 := Lib.hid ((hk3.block g (heap_lt HGX.out) id).trans HGX.out); have r0 : w3.cell? ⟨g, 0, none⟩ = some (.int .i64 row) := cell_of_row w3 g 0 _ _ _ HG3.out; have r1 : w3.cell? ⟨g, 1, none⟩ = some (.int .i64 0) := cell_of_row w3 g 1 _ _ _ HG3.out; have bL : decide ((L : Int) < 0) = false := (by simp); clear hk3)
        rw [hfin.out]
        exact bodyPost_ret (v := .tuple #[.int .i64 (ah : Nat), .int .i64 0]) (by simp [results, Tryz.results48, go_sem]) rfl ⟨rfl, HK2.out.trans HK3.out⟩
      · have b1 : ((ix : Int) == row) = false := by simpa using heq
        go_wp2_with (go_at_call 85; refine (HCN.out _).mono ?_; rintro e w3 ⟨rfl, hk3⟩; have HK3 := Lib.hid (HKR.out.trans hk3); have HG3 := Lib.hid ((hk3.block g (heap_lt HGX.out) id).trans HGX.out); have r0 : w3.cell? ⟨g, 0, none⟩ = some (.int .i64 row) := cell_of_row w3 g 0 _ _ _ HG3.out; clear hk3)
        go_roundw
        case rel =>
          refine ⟨ix + 1, ah + (L + 1), by omega, by omega, by go_num, by go_num, HK3.out, ?_⟩
          by_cases he : Rw.en t ah = t.length
          · refine .inr ⟨HEND.out he, fun h => ?_⟩
            obtain ⟨h6, h7⟩ := HH5.out h
            obtain ⟨m, hm⟩ : ∃ m, row.toNat - ix = m + 1 := ⟨row.toNat - ix - 1, by omega⟩
            rw [h7, hm, dn_step, if_pos he]
          · have hnx := HNX.out he
            have e6 : ah + (L + 1) = Rw.en t ah + 1 := by omega
            refine .inl ⟨HBT.out he, by omega, by rw [e6]; exact beg_next h2 he, by rw [e6]; exact hnx.1, fun h => ?_⟩
            obtain ⟨h6, h7⟩ := HH5.out h
            refine ⟨by omega, ?_⟩
            obtain ⟨m, hm⟩ : ∃ m, row.toNat - ix = m + 1 := ⟨row.toNat - ix - 1, by omega⟩
            rw [h7, hm, dn_step, if_neg he, e6]
            congr 1
            omega
        case measure => simp [intOf]; omega
    · have hfin : Hid (RV = .tuple #[.int .i64 0, .int .i64 3]) := by
        refine hRN.out ?_
        by_cases h : 0 ≤ row
        · exact h5 h
        · unfold stt
          rw [if_neg h]
      clear h5
      have bN : decide (ix < ix) = false := by simp
      go_wp2
      rw [hfin.out]
      exact bodyPost_ret (v := .tuple #[.int .i64 0, .int .i64 3]) (by simp [results, Tryz.results48, go_sem]) rfl ⟨rfl, HK2.out.trans HKR.out⟩
end Go.Proofs.YtbofjefblhnkoaaGreatDoor
