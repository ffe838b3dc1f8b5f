/-
  THE LAW's CALLS: rows that may be; what holds of a tree; what is handed out, spoilt.
-/
import Derived.Test.YtdgbaeliabaneaaDoorRoQ
import Derived.Laws.OwnMore
import Derived.Deep.RegionHeld3
set_option linter.unusedVariables false
namespace Go.Proofs.YtdgbaeliabaneaaDoor
open Go Go.RowKit

set_option maxRecDepth 100000 in
set_option maxHeartbeats 2000000 in
/-- What is handed out, written over. -/
theorem spoil_any (B n : Nat) (v : Value) (xs : List Value) (w : World) (h : w.ownsRow B 9 1 v n xs) (hn : n ≤ 100000) (hB : B ≤ w.heap.size) :
    Calls Tryd.prog 16 #[v] w fun e w' => (∃ u, e = .returned u) ∧ Kept (fun q => v.ownBlock = some q) w w' := by
  obtain ⟨i0, hi, hz0, hz1, hz2⟩ := info_parts info_str
  have hh := h
  rcases h.2 with ⟨rfl, rfl⟩ | ⟨g, cap, cur, rfl, hb, hg, _, _, _, _⟩
  · have HO := Lib.hid hh
    have HB := Lib.hid hB
    clear hh h hB hn
    go_enter Tryd.func16, Tryd.ntmps16
    go_wp2_with fail
    go_loopw [2] (fun i wr => i = .int .i64 0 ∧ wr = w) (fun i _ => 0)
    case atStart => exact ⟨rfl, rfl⟩
    case round =>
      obtain ⟨rfl, rfl⟩ := hrel
      have b1 : decide ((0 : Int) < ((0 : Nat) : Int)) = false := by decide
      go_wp2_with (at_builtin; refine wpList_append_own_at _ rfl (.tmp 12) (.tmp 13) 22 rfl B 9 i0 (.string ⟨#[]⟩) 1 16 Tryd.underlying22 hi hz0 hz1 hz2 rfl (by decide) _ _ _ rfl (HO.out.alloc _) ⟨_, 0, none⟩ 1 1 [.string ⟨#[120]⟩] rfl rfl one_cells one_str (by unfold maxLen; omega) (by omega) (by have := HB.out; simp; omega) ?_; intro v' w4 hown' hgrow _ hat; have HK4 := Lib.hid (Kept.grew ((Kept.refl (fun _ => False) _).alloc _) hgrow (fun b hb => by cases hb)); clear hown' hgrow hat)
      go_end0
      exact ⟨⟨_, rfl⟩, HK4.out.any⟩
  · have HO := Lib.hid hh
    have HB := Lib.hid hB
    clear hh h hB hg hb
    go_enter Tryd.func16, Tryd.ntmps16
    go_wp2_with fail
    go_loopw [2] (fun i wr => ∃ (k : Nat) (ys : List Value), k ≤ n ∧ i = .int .i64 k ∧ wr.ownsRow B 9 1 (.slice (some ⟨g, 0, none⟩) n cap) n ys ∧ Kept (fun q => q = g) w wr) (fun i _ => n - (intOf i).toNat)
    case atStart => exact ⟨0, xs, Nat.zero_le _, rfl, HO.out, Kept.refl _ _⟩
    case round =>
      obtain ⟨k, ys, hk, rfl, hown, hkept⟩ := hrel
      have HR := Lib.hid hown
      have HK := Lib.hid hkept
      have HYL : Hid (ys.length = n) := by have := hown.1; rw [Nat.mul_one] at this; exact this
      clear hkept
      by_cases hlt : k < n
      · have b1 : decide (k < n) = true := decide_eq_true hlt
        have b2 : decide ((k : Int) < (n : Int)) = true := decide_eq_true (by omega)
        have t1 : (0 : Int) ≤ (k : Int) := by omega
        have t2 : (k : Int) < (n : Int) := by omega
        obtain ⟨u, hu⟩ : ∃ u, ys[k]? = some u := ⟨ys[k]'(by rw [HYL.out]; exact hlt), List.getElem?_eq_getElem _⟩
        have f0 : wr.cell? ⟨g, k, none⟩ = some u := by rw [hown.cellAt k (by omega)]; exact hu
        have z0 := hown.frozenAt k
        have HS := Lib.hid (hown.stored k (.string ⟨#[115, 112, 111, 105, 108, 116]⟩)).1
        have HKS := Lib.hid (HK.out.setCell (p := ⟨g, k, none⟩) rfl (.string ⟨#[115, 112, 111, 105, 108, 116]⟩))
        clear hown hu
        go_wp2_with fail
        go_roundw
        case rel => exact ⟨k + 1, _, by omega, by go_num, HS.out, HKS.out⟩
        case measure => simp [intOf] <;> omega
      · obtain rfl : k = n := by omega
        have b1 : decide (k < k) = false := decide_eq_false (by omega)
        have b2 : decide ((k : Int) < (k : Int)) = false := decide_eq_false (by omega)
        clear hown
        go_wp2_with (at_builtin; refine wpList_append_own_at _ rfl (.tmp 12) (.tmp 13) 22 rfl B 9 i0 (.string ⟨#[]⟩) 1 16 Tryd.underlying22 hi hz0 hz1 hz2 rfl (by decide) _ _ _ rfl (HR.out.alloc _) ⟨_, 0, none⟩ 1 1 [.string ⟨#[120]⟩] rfl rfl one_cells one_str (by unfold maxLen; omega) (by omega) (by have := HB.out; have := HK.out.size; simp; omega) ?_; intro v' w4 hown' hgrow _ hat; have HK4 := Lib.hid ((HK.out.alloc _).trans (c := w4) ⟨hgrow.os, hgrow.tape, hgrow.output, hgrow.size, fun q hq hs => hgrow.block q hq (fun e => hs (by cases e; rfl))⟩); clear hown' hgrow hat)
        go_end0
        exact ⟨⟨_, rfl⟩, HK4.out.mono (fun q _ e => by rw [e]; rfl)⟩
set_option maxRecDepth 100000 in
set_option maxHeartbeats 2000000 in
/-- May rows be: the law's own. -/
theorem lmay_any (A : Option Addr) (n c : Nat) (L : List ByteArray) (w : World) (h : Strs w A n L) (hn : n ≤ 1000000) (hb : byL L ≤ 1000000) (hT : Tabs w) :
    Calls Tryd.prog 8 #[.slice A n c] w fun e w' => (∃ E, e = .returned (.bool E) ∧ (E = true ↔ MayL L)) ∧ Kept (fun _ => False) w w' := by
  have HS := Lib.hid h
  have HT := Lib.hid hT
  have HB := Lib.hid hb
  have e0 : IntKind.i64.wrap ((n : Int) - 1) = (n : Int) - 1 := IntWalk.i64_in _ ⟨by omega, by omega⟩
  clear h hT hb
  go_enter Tryd.func8, Tryd.ntmps8
  go_wp2_with fail
  go_loopw [3, 4] (fun v i wr => ∃ k : Nat, k ≤ n ∧ i = .int .i64 k ∧ v = .int .i64 ((n : Int) - 1 + (byL (L.take k) : Nat)) ∧ (L.take k).all rowB = true ∧ Kept (fun _ => False) w wr) (fun _ i _ => n - (intOf i).toNat)
  case atStart => exact ⟨0, Nat.zero_le _, rfl, by simp [byL], rfl, Kept.refl _ _⟩
  case round =>
    obtain ⟨k, hk, rfl, rfl, hall, hkept⟩ := hrel
    have HK := Lib.hid hkept
    have HALL := Lib.hid hall
    clear hkept hall
    by_cases hkn : k < n
    · obtain ⟨ad, x, rfl, hx, f0, _⟩ := (HS.out.kept HK.out).cell hkn
      have hxs : x.size ≤ 1000000 := by have := byL_mem (List.mem_of_getElem? hx); have := HB.out; omega
      have cR := rrow_any x wr (by omega) (HT.out.kept HK.out id id)
      have hbs := byL_take_succ hx
      have hbl := byL_take_le L (k + 1)
      have HAS : Hid ((L.take (k + 1)).all rowB = rowB x) := by
        show _ = _
        rw [List.take_add_one, hx, List.all_append, HALL.out]; simp
      have HNO : Hid (rowB x = false → ¬ MayL L) := fun e hm => by
        have := List.all_eq_true.1 hm.row x (List.mem_of_getElem? hx)
        rw [this] at e; cases e
      obtain ⟨V, hV⟩ : ∃ V, (n : Int) - 1 + (byL (L.take k) : Nat) = V := ⟨_, rfl⟩
      obtain ⟨V1, hV1⟩ : ∃ V1, (n : Int) - 1 + (byL (L.take (k + 1)) : Nat) = V1 := ⟨_, rfl⟩
      have e1 : IntKind.i64.wrap (V + (x.size : Int)) = V1 := by
        rw [show V + (x.size : Int) = V1 by omega]
        exact IntWalk.i64_in _ ⟨by omega, by have := HB.out; omega⟩
      have HV1 := Lib.hid hV1
      rw [hV]
      have b1 : decide (k < n) = true := decide_eq_true hkn
      have b2 : decide ((k : Int) < (n : Int)) = true := decide_eq_true (by omega)
      have t1 : (0 : Int) ≤ (k : Int) := by omega
      have t2 : (k : Int) < (n : Int) := by omega
      clear hx hbs hbl hV hV1
      cases hr : rowB x with
      | false =>
        rw [hr] at cR
        have HNN := Lib.hid (HNO.out hr)
        clear hr
        go_wp2_with (go_at_call 15; refine cR.mono ?_; rintro e w1 ⟨rfl, hk1⟩; have HK1 := Lib.hid (HK.out.trans hk1); clear hk1 cR)
        go_ret
        exact ⟨⟨false, rfl, (fun h => by cases h), fun h => absurd h HNN.out⟩, HK1.out⟩
      | true =>
        rw [hr] at cR HAS
        clear hr
        go_wp2_with (go_at_call 15; refine cR.mono ?_; rintro e w1 ⟨rfl, hk1⟩; have HK1 := Lib.hid (HK.out.trans hk1); have f1 := cell_kept hk1 f0 id; clear hk1 cR)
        go_roundw
        case rel => exact ⟨k + 1, by omega, by go_num, by rw [HV1.out], HAS.out, HK1.out⟩
        case measure => simp [intOf] <;> omega
    · obtain rfl : k = n := by omega
      have b1 : decide (k < k) = false := decide_eq_false (by omega)
      have b2 : decide ((k : Int) < (k : Int)) = false := decide_eq_false (by omega)
      have hL : L.take k = L := List.take_of_length_le (by rw [HS.out.1]; exact Nat.le_refl _)
      rw [hL] at HALL ⊢
      have hl := HS.out.1
      by_cases c1 : 1 ≤ (k : Int) ∧ (k : Int) ≤ 1100
      · have cZ := (mbtw_any (k : Int) 1 1100 wr).mono (R' := fun e w' => e = .returned (.bool true) ∧ w' = wr) (by rintro e w' ⟨rfl, hw⟩; exact ⟨by rw [decide_eq_true c1], hw⟩)
        by_cases c2 : (k : Int) - 1 + (byL L : Nat) ≤ 4000
        · have HE : Hid (MayL L) := ⟨HALL.out, by omega, by omega, by omega⟩
          generalize (k : Int) - 1 + (byL L : Nat) = V at *
          have b3 : decide (V ≤ 4000) = true := decide_eq_true c2
          clear hL hl c1 c2
          go_wp2_with (go_at_call 28; refine cZ.mono ?_; rintro e w1 ⟨rfl, hw⟩; have hw2 := hw.symm; subst hw2; clear cZ)
          go_ret
          exact ⟨⟨true, rfl, fun _ => HE.out, fun _ => rfl⟩, HK.out⟩
        · have HE : Hid (¬ MayL L) := fun h => c2 (by have := h.by_; omega)
          generalize (k : Int) - 1 + (byL L : Nat) = V at *
          have b3 : decide (V ≤ 4000) = false := decide_eq_false c2
          clear hL hl c1 c2
          go_wp2_with (go_at_call 28; refine cZ.mono ?_; rintro e w1 ⟨rfl, hw⟩; have hw2 := hw.symm; subst hw2; clear cZ)
          go_ret
          exact ⟨⟨false, rfl, (fun h => by cases h), fun h => absurd h HE.out⟩, HK.out⟩
      · have cZ := (mbtw_any (k : Int) 1 1100 wr).mono (R' := fun e w' => e = .returned (.bool false) ∧ w' = wr) (by rintro e w' ⟨rfl, hw⟩; exact ⟨by rw [decide_eq_false c1], hw⟩)
        have HE : Hid (¬ MayL L) := fun h => c1 (by have := h.lo; have := h.hi; omega)
        generalize (k : Int) - 1 + (byL L : Nat) = V at *
        clear hL hl c1
        go_wp2_with (go_at_call 28; refine cZ.mono ?_; rintro e w1 ⟨rfl, hw⟩; have hw2 := hw.symm; subst hw2; clear cZ)
        go_ret
        exact ⟨⟨false, rfl, (fun h => by cases h), fun h => absurd h HE.out⟩, HK.out⟩
theorem bits_le (n : Nat) : bitsN n ≤ n := by
  induction n using Nat.strongRecOn with
  | _ n ih =>
    rw [bitsN]
    split
    · omega
    · have := ih (n / 2) (by omega)
      omega
set_option maxRecDepth 100000 in
/-- One height, as long as the tree is kept. -/
theorem height_fix (T : Nat) (L : List ByteArray) (w : World) (h : Tree w T L) : ∃ H : Nat, H ≤ 1 + 2 * bitsN L.length ∧ (L ≠ [] → 1 ≤ H) ∧ ∀ W, Kept (fun _ => False) w W → Calls Tryd.prog 22 #[.pointer (some ⟨T, 0, none⟩)] W fun e w' => e = .returned (.int .i64 (H : Nat)) ∧ w' = W := by
  obtain ⟨v, h1, t, h2, rfl, h3⟩ := h.at_
  have hlow := t.low_bits h3
  rw [Tr.size_rows] at hlow
  have hpos : t.rows ≠ [] → 1 ≤ t.ht := by
    intro hne
    cases t with
    | nil => exact absurd rfl hne
    | node l s r => simp only [Tr.ht]; omega
  refine ⟨t.ht, hlow, hpos, fun W hk => ?_⟩
  have f0 : W.cell? ⟨T, 0, none⟩ = some v := cell_kept hk (treeX h1) id
  have cS := tall_any t v X0 W (h2.keptF hk)
  obtain ⟨p, rfl⟩ := h2.ptr
  generalize t.ht = H at *
  clear h1 h2 h hlow hpos
  go_enter Tryd.func22, Tryd.ntmps22
  go_wp2_with (go_at_call 40; refine cS.mono ?_; rintro e w1 ⟨rfl, hw⟩; have hw2 := hw.symm; subst hw2; clear cS)
  go_ret
  exact ⟨rfl, rfl⟩
set_option maxRecDepth 100000 in
set_option maxHeartbeats 8000000 in
/-- What the law asks of a tree holds. -/
theorem holds_yes (T : Nat) (A : Option Addr) (n c : Nat) (L : List ByteArray) (w : World) (h : Tree w T L) (hS : Strs w A n L) (h1 : 1 ≤ n) (hn : n ≤ 100000) (hb : byL L ≤ 1000000) :
    Calls Tryd.prog 11 #[.pointer (some ⟨T, 0, none⟩), .slice A n c] w fun e w' => e = .returned (.bool true) ∧ Kept (fun _ => False) w w' := by
  have hl := hS.1
  have HT := Lib.hid h
  have HS := Lib.hid hS
  have HB := Lib.hid hb
  have HLN := Lib.hid hl
  obtain ⟨H, hH1, hH2, hH3⟩ := height_fix T L w h
  have HH := Lib.hid hH3
  have hne : L ≠ [] := by intro e; rw [e] at hl; simp at hl; omega
  have hHpos := hH2 hne
  have hbl := bits_le L.length
  rw [hl] at hH1 hbl
  have HBI : Hid (∀ W, Calls Tryd.prog 23 #[.int .i64 (n : Nat)] W fun e w' => e = .returned (.int .i64 (bitsN n : Nat)) ∧ w' = W) := fun W => bits_any n W (by omega)
  generalize bitsN n = bn at *
  have e1 : IntKind.i64.wrap (2 * (bn : Int)) = 2 * (bn : Int) := IntWalk.i64_in _ ⟨by omega, by omega⟩
  have e2 : IntKind.i64.wrap (2 + 2 * (bn : Int)) = 2 + 2 * (bn : Int) := IntWalk.i64_in _ ⟨by omega, by omega⟩
  have d1 : decide ((H : Int) < 1) = false := decide_eq_false (by omega)
  have d2 : decide (2 + 2 * (bn : Int) < (H : Int)) = false := decide_eq_false (by omega)
  have cL := len_any T L w h
  rw [hl] at cL
  have HALL : Hid (∀ W, Kept (fun _ => False) w W → Calls Tryd.prog 17 #[.pointer (some ⟨T, 0, none⟩)] W fun e w' => (∃ B c2, e = .returned (.slice B n c2) ∧ Strs w' B n L) ∧ Kept (fun _ => False) W w') := fun W hk => (all_any T L W (h.kept hk) (by omega)).mono (by
    rintro e w' ⟨⟨v, rfl, hv⟩, hk⟩
    obtain ⟨B, c2, rfl, hs, _, _⟩ := own_strs hv HB.out
    rw [hl] at hs ⊢
    exact ⟨⟨B, c2, rfl, hs⟩, hk⟩)
  have HEQ : Hid (∀ W B c2, Kept (fun _ => False) w W → Strs W B n L → Calls Tryd.prog 10 #[.slice B n c2, .slice A n c] W fun e w' => e = .returned (.bool true) ∧ Kept (fun _ => False) W w') := fun W B c2 hk hs => eqstr_yes B A n n c2 c L W hs (hS.kept hk) (by omega)
  clear h hS hb hH1 hH2 hH3 hne hHpos hbl hl
  go_enter Tryd.func11, Tryd.ntmps11
  go_upto_region 4 with (first
    | (go_at_call 21; refine cL.mono ?_; rintro e w1 ⟨rfl, hk1⟩; have HK1 := Lib.hid hk1; clear hk1 cL; have cA := HALL.out w1 HK1.out)
    | (go_at_call 17; refine cA.mono ?_; rintro e w2 ⟨⟨B2, c2, rfl, hs2⟩, hk2⟩; have HK2 := Lib.hid (HK1.out.trans hk2); clear hk2 cA; have cE := HEQ.out w2 B2 c2 HK2.out hs2; clear hs2)
    | (go_at_call 10; refine cE.mono ?_; rintro e w3 ⟨rfl, hk3⟩; have HK3 := Lib.hid (HK2.out.trans hk3); clear hk3 cE; have cH := HH.out w3 HK3.out)
    | (go_at_call 22; refine cH.mono ?_; rintro e w4 ⟨rfl, hw⟩; have hw2 := hw.symm; subst hw2; clear cH; have cH2 := HH.out w3 HK3.out)
    | (go_at_call 22; refine cH2.mono ?_; rintro e w4 ⟨rfl, hw⟩; have hw2 := hw.symm; subst hw2; clear cH2; have cBI := HBI.out w3)
    | (go_at_call 23; refine cBI.mono ?_; rintro e w4 ⟨rfl, hw⟩; have hw2 := hw.symm; subst hw2; clear cBI))
  clear e1 e2 d1 d2
  have HAH : Hid (∀ W k, Kept (fun _ => False) w W → k ≤ n → Calls Tryd.prog 19 #[.pointer (some ⟨T, 0, none⟩), .int .i64 (k : Nat)] W fun e w' => e = .returned (.tuple #[.int .i64 (byL (L.take k) : Nat), .int .i64 (ruL (L.take k) : Nat), .int .i64 0]) ∧ Kept (fun _ => False) W w') := fun W k hk hkn => ahead_yes T L k W (HT.out.kept hk) (by rw [HLN.out]; exact hkn)
  have HRW : Hid (∀ W k s, Kept (fun _ => False) w W → L[k]? = some s → Calls Tryd.prog 18 #[.pointer (some ⟨T, 0, none⟩), .int .i64 (k : Nat)] W fun e w' => e = .returned (.tuple #[.string s, .int .i64 0]) ∧ Kept (fun _ => False) W w') := fun W k s hk hs => row_yes T L k s W (HT.out.kept hk) hs
  go_wp2_with fail
  go_loopw [5, 6, 7] (fun b r i wr => ∃ k : Nat, k ≤ n + 1 ∧ i = .int .i64 k ∧ b = .int .i64 (byL (L.take k) : Nat) ∧ r = .int .i64 (ruL (L.take k) : Nat) ∧ Kept (fun _ => False) w wr) (fun _ _ i _ => n + 1 - (intOf i).toNat)
  case atStart => exact ⟨0, Nat.zero_le _, rfl, rfl, rfl, HK3.out⟩
  case round =>
    obtain ⟨k, hk, rfl, rfl, rfl, hkept⟩ := hrel
    have HK := Lib.hid hkept
    clear hkept
    by_cases hkn : k ≤ n
    · have cA := HAH.out wr k HK.out hkn
      have b1 : decide (k ≤ n) = true := decide_eq_true hkn
      have b2 : decide ((k : Int) ≤ (n : Int)) = true := decide_eq_true (by omega)
      by_cases hlt : k < n
      · obtain ⟨ad, x, rfl, hx, f0, _⟩ := (HS.out.kept HK.out).cell hlt
        have hxs : x.size ≤ 1000000 := by have := byL_mem (List.mem_of_getElem? hx); have := HB.out; omega
        have hx3 := rs_len x
        have HX := Lib.hid hx
        have HR := Lib.hid (fun W hk => HRW.out W k x hk hx)
        have hbs := byL_take_succ hx
        have hrs : ruL (L.take (k + 1)) = ruL (L.take k) + (rs x).length := by rw [List.take_add_one, hx, ruL_app]; simp [ruL]
        have hbl := byL_take_le L (k + 1)
        have hrl := ruL_byL (L.take (k + 1))
        have b3 : decide (k < n) = true := decide_eq_true hlt
        have b4 : decide ((k : Int) < (n : Int)) = true := decide_eq_true (by omega)
        have t1 : (0 : Int) ≤ (k : Int) := by omega
        have t2 : (k : Int) < (n : Int) := by omega
        have cU := fun W => rlen_any x W hxs
        obtain ⟨b0, hb0⟩ : ∃ y, byL (L.take k) = y := ⟨_, rfl⟩
        obtain ⟨r0, hr0⟩ : ∃ y, ruL (L.take k) = y := ⟨_, rfl⟩
        obtain ⟨b9, hb9⟩ : ∃ y, byL (L.take (k + 1)) = y := ⟨_, rfl⟩
        obtain ⟨r9, hr9⟩ : ∃ y, ruL (L.take (k + 1)) = y := ⟨_, rfl⟩
        obtain ⟨rx, hrx⟩ : ∃ y, (rs x).length = y := ⟨_, rfl⟩
        rw [hb0, hr0] at cA ⊢
        rw [hb0, hb9] at hbs
        rw [hr0, hr9, hrx] at hrs
        rw [hrx] at cU
        rw [hb9] at hbl
        rw [hb9, hr9] at hrl
        have e1 : IntKind.i64.wrap ((b0 : Int) + (x.size : Int)) = (b9 : Int) := by rw [show (b0 : Int) + (x.size : Int) = (b9 : Int) by omega]; exact IntWalk.i64_in _ ⟨by omega, by have := HB.out; omega⟩
        have e2 : IntKind.i64.wrap ((r0 : Int) + (rx : Int)) = (r9 : Int) := by rw [show (r0 : Int) + (rx : Int) = (r9 : Int) by omega]; exact IntWalk.i64_in _ ⟨by omega, by have := HB.out; omega⟩
        have HB9 := Lib.hid hb9
        have HR9 := Lib.hid hr9
        clear hx hbs hrs hbl hrl hb0 hr0 hb9 hr9 hrx hx3
        go_upto_region 14 with (first
          | (go_at_call 19; refine cA.mono ?_; rintro e w4 ⟨rfl, hk4⟩; have HK4 := Lib.hid (HK.out.trans hk4); have f1 := cell_kept hk4 f0 id; clear hk4 cA; have cN := num3_any 0 w4)
          | (go_at_call 9; refine cN.mono ?_; rintro e w5 ⟨rfl, hw⟩; have hw2 := hw.symm; subst hw2; clear cN; have cR := HR.out w4 HK4.out)
          | (go_at_call 18; refine cR.mono ?_; rintro e w6 ⟨rfl, hk6⟩; have HK6 := Lib.hid (HK4.out.trans hk6); have f2 := cell_kept hk6 f1 id; clear hk6 cR; have cM := num3_any 0 w6)
          | (go_at_call 9; refine cM.mono ?_; rintro e w7 ⟨rfl, hw⟩; have hw2 := hw.symm; subst hw2; clear cM))
        have KF : Hid (∀ W, Kept (fun _ => False) w6 W → W.cell? (ad.add k) = some (.string x)) := fun W hk => cell_kept hk f2 id
        have HD : Hid (Kept (fun _ => False) w6 w6.drew) := (Kept.refl _ w6).drew
        have KA := KF.out w6.drew HD.out
        have cV := cU w6.drew
        go_region_held3 (fun (W : World) => W.cell? (ad.add k) = some (.string x))
          (first | with_reducible exact KB | with_reducible exact KA)
          (first
            | (go_at_call 29; refine cV.mono ?_; rintro e w8 ⟨rfl, hk8⟩; have HK8 := Lib.hid (HK6.out.trans (HD.out.trans hk8)); have KB := KF.out w8 (HD.out.trans hk8); clear hk8 cV))
        all_goals
          go_wp2_with fail
          go_roundw
          case rel => exact ⟨k + 1, by omega, by go_num, by rw [HB9.out], by rw [HR9.out], HK8.out⟩
          case measure => simp [intOf] <;> omega
      · obtain rfl : k = n := by omega
        have b3 : decide (k < k) = false := decide_eq_false (by omega)
        have b4 : decide ((k : Int) < (k : Int)) = false := decide_eq_false (by omega)
        have hT1 : L.take (k + 1) = L.take k := by rw [List.take_of_length_le (by rw [HLN.out]; omega), List.take_of_length_le (by rw [HLN.out]; omega)]
        have HT1 := Lib.hid hT1
        obtain ⟨b0, hb0⟩ : ∃ y, byL (L.take k) = y := ⟨_, rfl⟩
        obtain ⟨r0, hr0⟩ : ∃ y, ruL (L.take k) = y := ⟨_, rfl⟩
        have HB9 := Lib.hid hb0
        have HR9 := Lib.hid hr0
        rw [hb0, hr0] at cA ⊢
        clear hb0 hr0 hT1
        go_wp2_with (first
          | (go_at_call 19; refine cA.mono ?_; rintro e w4 ⟨rfl, hk4⟩; have HK4 := Lib.hid (HK.out.trans hk4); clear hk4 cA; have cN := num3_any 0 w4)
          | (go_at_call 9; refine cN.mono ?_; rintro e w5 ⟨rfl, hw⟩; have hw2 := hw.symm; subst hw2; clear cN))
        go_roundw
        case rel => exact ⟨k + 1, by omega, by go_num, by rw [HT1.out, HB9.out], by rw [HT1.out, HR9.out], HK4.out⟩
        case measure => simp [intOf] <;> omega
    · obtain rfl : k = n + 1 := by omega
      have b1 : decide (n + 1 ≤ n) = false := decide_eq_false (by omega)
      have b2 : decide (((n + 1 : Nat) : Int) ≤ (n : Int)) = false := decide_eq_false (by omega)
      have b3 : decide ((n : Int) + 1 ≤ (n : Int)) = false := decide_eq_false (by omega)
      have hT1 : L.take (n + 1) = L := List.take_of_length_le (by rw [HLN.out]; omega)
      rw [hT1]
      have cB := bytes_any T L wr (HT.out.kept HK.out)
      have HR : Hid (∀ W, Kept (fun _ => False) w W → Calls Tryd.prog 31 #[.pointer (some ⟨T, 0, none⟩)] W fun e w' => e = .returned (.int .i64 (ruL L : Nat)) ∧ Kept (fun _ => False) W w') := fun W hk => truns_any T L W (HT.out.kept hk)
      generalize byL L = b0 at *
      generalize ruL L = r0 at *
      clear hT1
      go_wp2_with (first
        | (go_at_call 30; refine cB.mono ?_; rintro e w4 ⟨rfl, hk4⟩; have HK4 := Lib.hid (HK.out.trans hk4); clear hk4 cB; have cR := HR.out w4 HK4.out)
        | (go_at_call 31; refine cR.mono ?_; rintro e w5 ⟨rfl, hk5⟩; have HK5 := Lib.hid (HK4.out.trans hk5); clear hk5 cR))
      go_ret
      exact ⟨rfl, HK5.out⟩
end Go.Proofs.YtdgbaeliabaneaaDoor
