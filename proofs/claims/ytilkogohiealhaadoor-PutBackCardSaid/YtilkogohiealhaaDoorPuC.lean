/-
  PutBack: what is taken by x and put back by P; a row put: each call's answer, by letters.
-/
import Derived.Test.YtilkogohiealhaaDoorPuB
set_option linter.unusedVariables false
namespace Go.Proofs.YtilkogohiealhaaDoor
open Go Go.RowKit

theorem tmod_small (x : Int) (m : Nat) (h : 0 ≤ x) (hm : 0 < m) : ∃ r : Nat, x.tmod m = (r : Int) ∧ r < m := by
  refine ⟨(x % m).toNat, ?_, ?_⟩
  · rw [Int.tmod_eq_emod_of_nonneg h]
    have := Int.emod_nonneg x (show (m : Int) ≠ 0 by omega)
    omega
  · have := Int.emod_lt_of_pos x (show (0 : Int) < m by omega)
    have := Int.emod_nonneg x (show (m : Int) ≠ 0 by omega)
    omega
theorem bins_len (s u : List Int) : (Rw.bins s u).length ≤ u.length := by unfold Rw.bins; rw [List.length_take, List.length_drop]; omega
theorem app_txt (s u : List Int) : runesBytes (s.take (Rw.bat s u)) ++ runesBytes (Rw.bins s u) ++ runesBytes (s.drop (Rw.bat s u + Rw.bdel s u)) = runesBytes u := by rw [txt_append, txt_append, Rw.app s u]
theorem sub_size {s : ByteArray} {a : List Int} (hm : mayB s = true) (h : List.Sublist a (rs s)) : (runesBytes a).size ≤ s.size := by
  have h1 := bytes_sub h
  have h2 := congrArg ByteArray.size (txt_rs hm)
  rw [txt_size] at h2
  rw [txt_size]
  omega
/-- What a patch between two texts that may be is, held against the page's May and Apply. -/
theorem pat_ok (s : ByteArray) (u : List Int) (hm : mayB s = true) (hu : Vld u) (h0 : (0 : Int) ∉ u) (hl : u.length ≤ 5000) :
    (∀ W, Tabs W → Calls Tryd.prog 10 #[.string s, patV (Rw.bat (rs s) u : Nat) (Rw.bdel (rs s) u : Nat) (runesBytes (Rw.bins (rs s) u))] W fun e w' => e = .returned (.bool true) ∧ Kept (fun _ => False) W w') ∧
    (∀ W, Calls Tryd.prog 7 #[.string s, patV (Rw.bat (rs s) u : Nat) (Rw.bdel (rs s) u : Nat) (runesBytes (Rw.bins (rs s) u))] W fun e w' => e = .returned (.string (runesBytes u)) ∧ Kept (fun _ => False) W w') := by
  have hsz := mayB_size hm
  have hbl := bins_len (rs s) u
  have hale := Rw.app_le (rs s) u
  refine ⟨fun W hW => rmay4_t s _ _ _ W hW hm hale (fun r hr => hu r (Rw.bins_mem hr)) (fun h => h0 (Rw.bins_mem h)) (by omega), fun W => ?_⟩
  have h := sapply_any s (Rw.bat (rs s) u) (Rw.bdel (rs s) u) (runesBytes (Rw.bins (rs s) u)) W (by omega) hale (by have := txt_size4 (Rw.bins (rs s) u); omega)
  rw [app_txt] at h
  exact h
/-- What x takes at a place, and P puts back. -/
structure PbF (s : ByteArray) (j c : Nat) (a d : Int) (p : ByteArray) (x : Int) (tk U : ByteArray) (a1 d1 : Int) (p1 V : ByteArray) : Prop where
  sm : ∀ W, Tabs W → Calls Tryd.prog 6 (smArgs s j 120 0 c) W fun e w' => e = .returned (chgT a d p x tk 0) ∧ Kept (fun _ => False) W w'
  ap : ∀ W, Calls Tryd.prog 7 #[.string s, patV a d p] W fun e w' => e = .returned (.string U) ∧ Kept (fun _ => False) W w'
  pu : ∀ W, Tabs W → Calls Tryd.prog 8 #[.string U, .int .i64 x, regV 0 tk false, .int .i64 80, .int .i64 1] W fun e w' => (∃ z : Int, e = .returned (chgT a1 d1 p1 z ⟨#[]⟩ 0)) ∧ Kept (fun _ => False) W w'
  ma : ∀ W, Tabs W → Calls Tryd.prog 10 #[.string U, patV a1 d1 p1] W fun e w' => e = .returned (.bool true) ∧ Kept (fun _ => False) W w'
  ap2 : ∀ W, Calls Tryd.prog 7 #[.string U, patV a1 d1 p1] W fun e w' => e = .returned (.string V) ∧ Kept (fun _ => False) W w'
  eq : x = (j : Int) → V = s
theorem pb_back (s : ByteArray) (j c : Nat) (hm : mayB s = true) (hsz : s.size ≤ 1000) (hj : j < (rs s).length) (hc1 : 1 ≤ c) (hc2 : c ≤ 999) :
    (∀ W, Tabs W → Calls Tryd.prog 6 (smArgs s j 120 0 c) W fun e w' => e = .returned (chgT 0 0 ⟨#[]⟩ 0 ⟨#[]⟩ 6) ∧ Kept (fun _ => False) W w') ∨
    (∃ a d p x tk U a1 d1 p1 V, PbF s j c a d p x tk U a1 d1 p1 V) := by
  have cS := fun W hW => rsmall_cut s 120 0 j c W hW hm (Nat.le_of_lt hj) hc1 hc2 (.inl rfl)
  have e1 : (cutS (rs s) 120 j c).1 = j := by unfold cutS; rw [if_pos rfl]
  have e2 : (cutS (rs s) 120 j c).2 = min (j + c) (Rw.en (rs s) j) := by unfold cutS; rw [if_pos rfl]
  rw [e1, e2] at cS
  obtain ⟨H, hH⟩ : ∃ H, min (j + c) (Rw.en (rs s) j) = H := ⟨_, rfl⟩
  rw [hH] at cS
  have hge := Rw.en_ge (rs s) j
  have hel := Rw.en_le (rs s) j (Nat.le_of_lt hj)
  by_cases he : j = H
  · exact .inl fun W hW => (cS W hW).mono fun e w' ⟨⟨v, h1, h2⟩, hk⟩ => ⟨by rw [h1, h2.1 he]; rfl, hk⟩
  · have hjH : j < H := by omega
    have hHl : H ≤ (rs s).length := by omega
    have hsub := Rw.lft_sub (rs s) j H (by omega)
    have htks := tkn_sub (rs s) j H
    have hu : Vld (Rw.lft (rs s) j H) := fun r hr => rs_vld hm r (hsub.subset hr)
    have hu0 : (0 : Int) ∉ Rw.lft (rs s) j H := fun h => rs_zero hm (hsub.subset h)
    have ht : Vld (Rw.tkn (rs s) j H) := fun r hr => rs_vld hm r (htks.subset hr)
    have ht0 : (0 : Int) ∉ Rw.tkn (rs s) j H := fun h => rs_zero hm (htks.subset h)
    have hmu := may_sub hm hsub
    have hs1 := sub_size hm hsub
    have hs2 := sub_size hm htks
    have hrl := rs_len s
    have hul := Rw.lft_len (rs s) j H (by omega) hHl
    have htl : (Rw.tkn (rs s) j H).length = H - j := by unfold Rw.tkn; rw [List.length_drop, List.length_take]; omega
    have h10 : (10 : Int) ∉ Rw.tkn (rs s) j H := fun h => by
      obtain ⟨i, hi, hie⟩ := List.getElem_of_mem h
      have h6 : (Rw.tkn (rs s) j H)[i]? = some 10 := by rw [List.getElem?_eq_getElem hi, hie]
      unfold Rw.tkn at h6
      rw [List.getElem?_drop, List.getElem?_take] at h6
      split at h6
      · exact Rw.en_none (rs s) j (j + i) (by omega) (by omega) h6
      · cases h6
    have hat := Rw.rst_le (Rw.lft (rs s) j H) j
    have hP := pat_ok s (Rw.lft (rs s) j H) hm hu hu0 (by omega)
    have hxr : rs (runesBytes (Rw.lft (rs s) j H)) = Rw.lft (rs s) j H := rs_txt hu
    have cP := fun W hW => put_P (runesBytes (Rw.lft (rs s) j H)) (Rw.tkn (rs s) j H) (Rw.rst (Rw.lft (rs s) j H) j) W hW hmu ht ht0 (by rw [hxr]; omega) (by omega) (by omega) h10
    rw [hxr] at cP
    have hvN : Vld (ptN (Rw.lft (rs s) j H) (Rw.rst (Rw.lft (rs s) j H) j) (Rw.tkn (rs s) j H)) := ptN_vld hu ht
    have h0N : (0 : Int) ∉ ptN (Rw.lft (rs s) j H) (Rw.rst (Rw.lft (rs s) j H) j) (Rw.tkn (rs s) j H) := ptN_zero hu0 ht0
    have hlN := ptN_len (Rw.lft (rs s) j H) (Rw.tkn (rs s) j H) (Rw.rst (Rw.lft (rs s) j H) j)
    have hQ := pat_ok (runesBytes (Rw.lft (rs s) j H)) _ hmu hvN h0N (by omega)
    refine .inr ⟨_, _, _, _, _, _, _, _, _, _, ⟨fun W hW => (cS W hW).mono fun e w' ⟨⟨v, h1, h2⟩, hk⟩ => ⟨by rw [h1, h2.2 hjH, if_pos rfl]; rfl, hk⟩, hP.2, fun W hW => (cP W hW).mono fun e w' ⟨⟨z, h1⟩, hk⟩ => ⟨⟨z, h1⟩, hk⟩, by rw [hxr] at hQ ⊢; exact hQ.1, by rw [hxr] at hQ ⊢; exact hQ.2, fun hx => ?_⟩⟩
    have hx' : Rw.rst (Rw.lft (rs s) j H) j = j := by omega
    rw [hx']
    have eN : ptN (Rw.lft (rs s) j H) j (Rw.tkn (rs s) j H) = rs s := by
      unfold ptN Rw.lft Rw.tkn
      have hj1 : ((rs s).take j).length = j := by rw [List.length_take]; omega
      have a1 : ((rs s).take j ++ (rs s).drop H).take j = (rs s).take j := by rw [List.take_append_of_le_length (by omega), List.take_take, Nat.min_self]
      have a2 : ((rs s).take j ++ (rs s).drop H).drop j = (rs s).drop H := by rw [List.drop_append_of_le_length (by omega), List.drop_eq_nil_of_le (by omega), List.nil_append]
      have a3 : (rs s).take j ++ ((rs s).take H).drop j = (rs s).take H := by
        have h1 : (rs s).take j = ((rs s).take H).take j := by rw [List.take_take, Nat.min_eq_left (by omega)]
        rw [h1, List.take_append_drop]
      rw [a1, a2, a3, List.take_append_drop]
    rw [eN]
    exact txt_rs hm
/-- A row put behind a place's. -/
structure PrF (s : ByteArray) (j : Nat) (a d : Int) (p V : ByteArray) (m : Nat) : Prop where
  pu : ∀ W, Tabs W → Calls Tryd.prog 8 #[.string s, .int .i64 j, regV 0 ⟨#[114, 111, 119]⟩ true, .int .i64 112, .int .i64 1] W fun e w' => (∃ z : Int, e = .returned (chgT a d p z ⟨#[]⟩ 0)) ∧ Kept (fun _ => False) W w'
  ma : ∀ W, Tabs W → Calls Tryd.prog 10 #[.string s, patV a d p] W fun e w' => e = .returned (.bool true) ∧ Kept (fun _ => False) W w'
  ap : ∀ W, Calls Tryd.prog 7 #[.string s, patV a d p] W fun e w' => e = .returned (.string V) ∧ Kept (fun _ => False) W w'
  rv : ∀ W, Calls Tryd.prog 11 #[.string V] W fun e w' => (∃ A c, e = .returned (.slice A (m + 2 : Nat) c)) ∧ Kept (fun _ => False) W w'
  rs : ∀ W, Calls Tryd.prog 11 #[.string s] W fun e w' => (∃ A c, e = .returned (.slice A (m + 1 : Nat) c)) ∧ Kept (fun _ => False) W w'
  le : m ≤ 5000
theorem pb_row (s : ByteArray) (j : Nat) (hm : mayB s = true) (hsz : s.size ≤ 1000) (hj : j < (rs s).length) : ∃ a d p V m, PrF s j a d p V m := by
  have cP := fun W hW => put_L s j W hW hm (Nat.le_of_lt hj) (by omega)
  have hrl := rs_len s
  have hv : Vld (ptN (rs s) (Rw.en (rs s) j) rowU) := ptN_vld (rs_vld hm) rowU_vld
  have h0 : (0 : Int) ∉ ptN (rs s) (Rw.en (rs s) j) rowU := ptN_zero (rs_zero hm) (by decide)
  have hl := ptN_len (rs s) rowU (Rw.en (rs s) j)
  have h4 : rowU.length = 4 := rfl
  have hQ := pat_ok s _ hm hv h0 (by omega)
  have hcs : s.data.toList.count 10 = c10 (rs s) := by
    conv => lhs; rw [← txt_rs hm]
    rw [txt_list, bytes_c10 (rs_vld hm)]
  have hcn : (runesBytes (ptN (rs s) (Rw.en (rs s) j) rowU)).data.toList.count 10 = c10 (rs s) + 1 := by
    rw [txt_list, bytes_c10 hv]
    unfold ptN
    rw [c10_app, c10_app, show c10 rowU = 1 by decide]
    have := c10_app ((rs s).take (Rw.en (rs s) j)) ((rs s).drop (Rw.en (rs s) j))
    rw [List.take_append_drop] at this
    omega
  have hc1 : c10 (rs s) ≤ 5000 := Nat.le_trans List.count_le_length (by omega)
  have hs4 := txt_size4 (ptN (rs s) (Rw.en (rs s) j) rowU)
  refine ⟨_, _, _, _, c10 (rs s), ⟨fun W hW => (cP W hW).mono fun e w' ⟨⟨z, h1⟩, hk⟩ => ⟨⟨z, h1⟩, hk⟩, hQ.1, hQ.2, fun W => ?_, fun W => ?_, hc1⟩⟩
  · have h := rrows_any (runesBytes (ptN (rs s) (Rw.en (rs s) j) rowU)) W (by omega)
    rw [hcn] at h
    exact h
  · have h := rrows_any s W (by omega)
    rw [hcs] at h
    exact h
theorem pnum_any (x : Int) (w : World) : Calls Tryd.prog 9 #[.int .i64 x] w fun e w' => e = .returned (.int .i64 x) ∧ w' = w := by
  go_enter Tryd.func9, Tryd.ntmps9
  go_wp2
  go_ret
  exact ⟨rfl, rfl⟩
theorem within32 (w : World) : Calls Tryd.prog 12 #[.int .i64 3, .int .i64 2] w fun e w' => e = .returned (.int .i64 1) ∧ w' = w := by
  go_enter Tryd.func12, Tryd.ntmps12
  go_wp2
  go_ret
  exact ⟨rfl, rfl⟩
set_option maxRecDepth 100000 in
theorem pwakes_any (w : World) (hT : Tabs w) : Calls Tryd.prog 13 #[] w fun e w' => e = .returned (.bool true) ∧ Kept (fun _ => False) w w' := by
  have cM := put_P ⟨#[97]⟩ [120] 0 w hT (by decide) (fun r hr => by simp only [List.mem_cons, List.not_mem_nil, or_false] at hr; subst hr; decide) (by decide) (by omega) (by decide) (by decide) (by decide)
  rw [show runesBytes [120] = ⟨#[120]⟩ by decide] at cM
  unfold PutR chgT at cM
  rw [show rs ⟨#[97]⟩ = [97] by decide, show Rw.bat [97] (ptN [97] 0 [120]) = 0 by decide, show Rw.bdel [97] (ptN [97] 0 [120]) = 0 by decide, show runesBytes (Rw.bins [97] (ptN [97] 0 [120])) = ⟨#[120]⟩ by decide] at cM
  have cA := fun w => sapply_any ⟨#[97]⟩ 0 0 ⟨#[120]⟩ w (by decide) (by decide) (by decide)
  rw [show runesBytes ((rs ⟨#[97]⟩).take 0) ++ (⟨#[120]⟩ : ByteArray) ++ runesBytes ((rs ⟨#[97]⟩).drop (0 + 0)) = ⟨#[120, 97]⟩ by decide] at cA
  have HCA := Lib.hid cA
  clear hT cA
  go_enter Tryd.func13, Tryd.ntmps13
  go_wp2_with (first | (go_at_call 8; refine cM.mono ?_; rintro e w1 ⟨⟨z, rfl⟩, hk1⟩; have HK1 := Lib.hid hk1; clear hk1 cM) | (go_at_call 9; refine (pnum_any _ _).mono ?_; rintro e w2 ⟨rfl, hw⟩; have hw2 := hw.symm; subst hw2) | (go_at_call 7; refine (HCA.out _).mono ?_; rintro e w3 ⟨rfl, hk3⟩))
  go_ret
  exact ⟨rfl, (HK1.out.alloc _).trans hk3⟩
end Go.Proofs.YtilkogohiealhaaDoor
