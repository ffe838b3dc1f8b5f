/-
  MARKS: Set and Get of what may not be; the reference's Set.
-/
import Derived.Test.YtknoiehglfpepaaDoorMsB
set_option linter.unusedVariables false
namespace Go.Proofs.YtknoiehglfpepaaDoor
open Go Go.RowKit

set_option maxRecDepth 100000 in
theorem mset_no (A : Option Addr) (n c : Nat) (rows : List (List Int)) (z y : Int) (w : World) (hA : Rws w A n 2 rows) (hn : n ≤ 100000) (hno : ¬ (Rw.mOk rows ∧ (97 ≤ z ∧ z ≤ 122) ∧ 0 ≤ y ∧ y ≤ 4000)) :
    Calls Tryd.prog 11 #[.slice A n c, .int .i64 z, .int .i64 y] w fun e w' => e = .returned (.tuple #[.slice none 0 0, .int .i64 1]) ∧ Kept (fun _ => False) w w' := by
  have cC := pcheck_any A n c rows w hA hn
  by_cases ho : Rw.mOk rows
  · have cM := fun W => mmay_any z y W
    rw [decide_eq_false (show ¬ ((97 ≤ z ∧ z ≤ 122) ∧ 0 ≤ y ∧ y ≤ 4000) from fun h => hno ⟨ho, h⟩)] at cM
    have HO := Lib.hid ho
    clear hA ho hno
    go_enter Tryd.func11, Tryd.ntmps11
    go_wp2_with (first
      | (go_at_call 9; refine cC.mono ?_; rintro e w1 ⟨⟨E, rfl, _, hE⟩, hk1⟩; obtain rfl : E = 0 := hE.2 HO.out; have HK1 := Lib.hid hk1; clear hk1 hE)
      | (go_at_call 24; refine (cM _).mono ?_; rintro e w' ⟨rfl, hw⟩; have hw2 := hw.symm; subst hw2))
    exact bodyPost_ret (v := .tuple #[.slice none 0 0, .int .i64 1]) (by simp [results, Tryd.results11, go_sem]) rfl ⟨rfl, HK1.out⟩
  · have HO := Lib.hid ho
    clear hA ho hno
    go_enter Tryd.func11, Tryd.ntmps11
    go_wp2_with (go_at_call 9; refine cC.mono ?_; rintro e w1 ⟨⟨E, rfl, hE1, hE⟩, hk1⟩; obtain rfl : E = 1 := hE1.resolve_left (fun h => HO.out (hE.1 h)); have HK1 := Lib.hid hk1; clear hk1 hE hE1)
    exact bodyPost_ret (v := .tuple #[.slice none 0 0, .int .i64 1]) (by simp [results, Tryd.results11, go_sem]) rfl ⟨rfl, HK1.out⟩
set_option maxRecDepth 100000 in
theorem mget_no (A : Option Addr) (n c : Nat) (rows : List (List Int)) (z : Int) (w : World) (hA : Rws w A n 2 rows) (hn : n ≤ 100000) (ho : ¬ Rw.mOk rows) :
    Calls Tryd.prog 15 #[.slice A n c, .int .i64 z] w fun e w' => e = .returned (.tuple #[.int .i64 0, .int .i64 1]) ∧ Kept (fun _ => False) w w' := by
  have cC := pcheck_any A n c rows w hA hn
  have HO := Lib.hid ho
  clear hA ho
  go_enter Tryd.func15, Tryd.ntmps15
  go_wp2_with (go_at_call 9; refine cC.mono ?_; rintro e w1 ⟨⟨E, rfl, hE1, hE⟩, hk1⟩; obtain rfl : E = 1 := hE1.resolve_left (fun h => HO.out (hE.1 h)); have HK1 := Lib.hid hk1; clear hk1 hE hE1)
  exact bodyPost_ret (v := .tuple #[.int .i64 0, .int .i64 1]) (by simp [results, Tryd.results15, go_sem]) rfl ⟨rfl, HK1.out⟩
/-- A slice of marks, told. -/
def MsRet (w : World) (rows : List (List Int)) (e : Ending) (w' : World) : Prop := ∃ B c', e = .returned (.slice B rows.length c') ∧ Rws w' B rows.length 2 rows ∧ (∀ a, B = some a → w.heap.size ≤ a.block) ∧ Cp B rows.length c'
theorem mseg_len {M : List (List Int)} {z y : Int} {m f k : Nat} (h : m ≤ M.length) (hk : k ≤ M.length) : (Rw.mseg M z y m f k).length ≤ M.length + 1 := by
  unfold Rw.mseg
  split
  · rw [List.length_take]; omega
  · rw [List.length_append, List.length_cons, List.length_drop, List.length_take, List.length_take]; omega
theorem flat_nil : flat [] = [] := rfl
theorem flat_snoc (l : List (List Int)) (x y : Int) : flat (l ++ [[x, y]]) = flat l ++ [.int .i64 x, .int .i64 y] := by rw [flat_app, flat_two, flat_nil, List.append_nil]
theorem own_ret {w w' : World} {v : Value} {L : Nat} {xs : List Value} {rows : List (List Int)} (h : w'.ownsRow w.heap.size 61 2 v L xs) (hL : L = rows.length) (hx : xs = flat rows) (hl : ∀ r ∈ rows, r.length = 2 ∧ ∀ x ∈ r, I64 x) : MsRet w rows (.returned v) w' := by
  subst hL hx
  obtain ⟨B, c', rfl, h1, h2, h3⟩ := owned_rows h rfl hl
  exact ⟨B, c', rfl, h1, h2, h3.1⟩
/-- What stands in a slice that is owned, and one more. -/
def SnocAt (L : Nat) (xs : List Value) (rows' : List (List Int)) (x y : Int) : Prop := rows'.length = L + 1 ∧ flat rows' = xs ++ [.int .i64 x, .int .i64 y]
theorem snoc_at {l rows' : List (List Int)} {x y : Int} {L : Nat} {xs : List Value} (h : rows' = l ++ [[x, y]]) (hL : l.length = L) (hx : flat l = xs) : SnocAt L xs rows' x y := by
  subst h hL hx
  exact ⟨by simp, flat_snoc _ _ _⟩
set_option maxRecDepth 100000 in
set_option maxHeartbeats 4000000 in
theorem rset_any (A : Option Addr) (n c : Nat) (rows : List (List Int)) (z y : Int) (m f : Nat) (w : World) (hA : Rws w A n 2 rows) (hn : n ≤ 100000) (hat : Rw.SetAt rows z m f) (ho : Rw.mOk rows) (hz : 97 ≤ z ∧ z ≤ 122) (hy : 0 ≤ y ∧ y ≤ 4000) :
    Calls Tryd.prog 14 #[.slice A n c, .int .i64 z, .int .i64 y] w fun e w' => MsRet w (Rw.mset rows z y m f) e w' ∧ Kept (fun _ => False) w w' := by
  obtain ⟨i0, hi, hz0, hz1, hz2⟩ := info_parts info_mark
  have HA := Lib.hid hA
  have HAT := Lib.hid hat
  have hmf := hat.mf
  rw [hA.1] at hmf
  have hf1 := hat.f1
  have HRS : Hid (∀ r ∈ Rw.mset rows z y m f, r.length = 2 ∧ ∀ x ∈ r, I64 x) := fun r hr => ⟨Rw.mset_rows hA.len2 rfl r hr, Rw.mset_rows hA.i64s (fun x hx => by
      simp only [List.mem_cons, List.not_mem_nil, or_false] at hx
      unfold I64
      rcases hx with rfl | rfl <;> omega) r hr⟩
  have HL : Hid (∀ k, k ≤ n → (Rw.mseg rows z y m f k).length ≤ n + 1) := fun k hk => by have := mseg_len (z := z) (y := y) (f := f) hat.le (show k ≤ rows.length by rw [hA.1]; exact hk); rw [hA.1] at this; exact this
  have HO := Lib.hid ho
  clear hA hat ho
  go_enter Tryd.func14, Tryd.ntmps14
  go_wp2_with fail
  go_loopw [7, 8, 9] (fun v d i wr => ∃ k : Nat, k ≤ n ∧ i = .int .i64 k ∧ d = .bool (decide (m < k)) ∧ wr.ownsRow w.heap.size 61 2 v (Rw.mseg rows z y m f k).length (flat (Rw.mseg rows z y m f k)) ∧ Kept (fun _ => False) w wr) (fun _ _ i _ => n - (intOf i).toNat)
  case atStart =>
    refine ⟨0, Nat.zero_le _, rfl, by simp, ?_, Kept.refl _ _⟩
    have e : Rw.mseg rows z y m f 0 = [] := by unfold Rw.mseg; rw [if_pos (Nat.zero_le _)]; rfl
    rw [e]
    exact World.ownsRow_nil _ _ _ _
  case round =>
    obtain ⟨k, hk, rfl, rfl, hown, hkept⟩ := hrel
    have HK := Lib.hid hkept
    have hsz := hkept.size
    have hLL := HL.out k hk
    clear hkept
    obtain ⟨L, hL⟩ : ∃ L, (Rw.mseg rows z y m f k).length = L := ⟨_, rfl⟩
    obtain ⟨xs, hxs⟩ : ∃ xs, flat (Rw.mseg rows z y m f k) = xs := ⟨_, rfl⟩
    rw [hL, hxs] at hown
    rw [hL] at hLL
    have HLX := Lib.hid hL
    have HXS := Lib.hid hxs
    clear hL hxs
    by_cases hkn : k < n
    · obtain ⟨ad, x, v', rfl, hr, f0, f1⟩ := (HA.out.kept HK.out (fun _ _ => id)).two hkn
      have b1 : decide (k < n) = true := decide_eq_true hkn
      have b2 : decide ((k : Int) < (n : Int)) = true := decide_eq_true (by omega)
      have t1 : (0 : Int) ≤ (k : Int) := by omega
      have t2 : (k : Int) < (n : Int) := by omega
      have hlb := HAT.out.lb k x v' hr
      by_cases hkm : k < m
      · have hxz := hlb.1 hkm
        have hD : decide (m < k) = false := decide_eq_false (by omega)
        have hD' : decide (m < k + 1) = false := decide_eq_false (by omega)
        have b3 : decide (z ≤ x) = false := decide_eq_false (by omega)
        have b4 : (x != z) = true := by simp; omega
        have b5 : (x == z) = false := beq_eq_false_iff_ne.2 (by omega)
        have HS := Lib.hid (snoc_at (Rw.mseg_lt (z := z) (y := y) (f := f) hkm hr) HLX.out HXS.out)
        have HD' := Lib.hid hD'
        clear hlb hr hD'
        rw [hD]
        clear hD
        go_wp2_with (at_builtin; refine wpList_append_own_at _ rfl (.tmp 40) (.tmp 45) 22 rfl w.heap.size 61 i0 (.agg #[.int .i64 0, .int .i64 0]) 2 16 Tryd.underlying22 hi hz0 hz1 hz2 rfl (by decide) _ _ _ rfl (hown.alloc _) ⟨_, 0, none⟩ 1 1 [.int .i64 x, .int .i64 v'] rfl rfl two_cells two_one (by unfold maxLen; omega) (by omega) (by simp <;> omega) ?_; intro v5 w5 hown5 hgrow5 _ hat5; have HO5 := Lib.hid hown5; have HK5 := Lib.hid (Kept.grew (HK.out.alloc _) hgrow5 (fun b hb => (hown.lt b hb).1)); clear hown5 hgrow5 hat5)
        go_roundw
        case rel => exact ⟨k + 1, by omega, by go_num, by rw [HD'.out], by rw [HS.out.1, HS.out.2]; exact HO5.out, HK5.out⟩
        case measure => simp [intOf] <;> omega
      · by_cases hkm2 : m < k
        · have hD : decide (m < k) = true := decide_eq_true hkm2
          have hD' : decide (m < k + 1) = true := decide_eq_true (by omega)
          have hxz : x ≠ z := by
            rcases HAT.out.f with ⟨_, q, hq⟩ | ⟨_, hq⟩
            · have := HO.out.lt HA.out.len2 k m z q x v' hq hr hkm2; omega
            · intro e
              subst e
              have hm := HA.out.1
              have hml : m < rows.length := by omega
              obtain ⟨ad', x', v'', _, hr', _, _⟩ := HA.out.two (show m < n by omega)
              have h1 := (HAT.out.lb m x' v'' hr')
              have h2 := HO.out.lt HA.out.len2 k m x' v'' x v' hr' hr hkm2
              have := h1.2 h2
              omega
          have b4 : (x != z) = true := by simp; omega
          have b5 : (x == z) = false := beq_eq_false_iff_ne.2 (by omega)
          have HS := Lib.hid (snoc_at (Rw.mseg_gt (z := z) (y := y) hf1 hkm2 hr) HLX.out HXS.out)
          have HD' := Lib.hid hD'
          clear hlb hr hD'
          rw [hD]
          clear hD
          go_wp2_with (at_builtin; refine wpList_append_own_at _ rfl (.tmp 40) (.tmp 45) 22 rfl w.heap.size 61 i0 (.agg #[.int .i64 0, .int .i64 0]) 2 16 Tryd.underlying22 hi hz0 hz1 hz2 rfl (by decide) _ _ _ rfl (hown.alloc _) ⟨_, 0, none⟩ 1 1 [.int .i64 x, .int .i64 v'] rfl rfl two_cells two_one (by unfold maxLen; omega) (by omega) (by simp <;> omega) ?_; intro v5 w5 hown5 hgrow5 _ hat5; have HO5 := Lib.hid hown5; have HK5 := Lib.hid (Kept.grew (HK.out.alloc _) hgrow5 (fun b hb => (hown.lt b hb).1)); clear hown5 hgrow5 hat5)
          go_roundw
          case rel => exact ⟨k + 1, by omega, by go_num, by rw [HD'.out], by rw [HS.out.1, HS.out.2]; exact HO5.out, HK5.out⟩
          case measure => simp [intOf] <;> omega
        · obtain rfl : k = m := by omega
          have hD : decide (k < k) = false := decide_eq_false (by omega)
          have hD' : decide (k < k + 1) = true := decide_eq_true (by omega)
          have hzx : z ≤ x := by have := fun h => hlb.2 h; omega
          have b3 : decide (z ≤ x) = true := decide_eq_true hzx
          have HD' := Lib.hid hD'
          have HR := Lib.hid hr
          have hsz1 : w.heap.size ≤ wr.heap.size + 1 := by omega
          rcases HAT.out.f with ⟨rfl, q, hq⟩ | ⟨rfl, hq⟩
          · have hxz : x = z := by rw [hr] at hq; injection hq with hq; injection hq
            have b4 : (x != z) = false := by simp [hxz]
            have b5 : (x == z) = true := by simp [hxz]
            have HS := Lib.hid (snoc_at (Rw.mseg_at1 (M := rows) (z := z) (y := y) (m := k)) HLX.out HXS.out)
            clear hlb hr hD' hq hxz hzx
            rw [hD]
            clear hD
            go_wp2_with (at_builtin; refine wpList_append_own_at _ rfl (.tmp 27) (.tmp 31) 22 rfl w.heap.size 61 i0 (.agg #[.int .i64 0, .int .i64 0]) 2 16 Tryd.underlying22 hi hz0 hz1 hz2 rfl (by decide) _ _ _ rfl (hown.alloc _) ⟨_, 0, none⟩ 1 1 [.int .i64 z, .int .i64 y] rfl rfl two_cells two_one (by unfold maxLen; omega) (by omega) (by simp <;> omega) ?_; intro v5 w5 hown5 hgrow5 _ hat5; have HO5 := Lib.hid hown5; have HK5 := Lib.hid (Kept.grew (HK.out.alloc _) hgrow5 (fun b hb => (hown.lt b hb).1)); obtain ⟨g0, g1⟩ : w5.cell? (ad.add (k * 2)) = some (.int .i64 x) ∧ w5.cell? ⟨(ad.add (k * 2)).block, (ad.add (k * 2)).off + 1, none⟩ = some (.int .i64 v') := (by obtain ⟨ad', x', v'', e1, e2, e3, e4⟩ := (HA.out.kept HK5.out (fun _ _ => id)).two hkn; injection e1 with e1; subst e1; rw [HR.out] at e2; injection e2 with e2; injection e2 with q1 q2; injection q2 with q2 _; subst q1; subst q2; exact ⟨e3, e4⟩); clear hown5 hgrow5 hat5)
            go_roundw
            case rel => exact ⟨k + 1, by omega, by go_num, by rw [HD'.out], by rw [HS.out.1, HS.out.2]; exact HO5.out, HK5.out⟩
            case measure => simp [intOf] <;> omega
          · have hxz : x ≠ z := by rintro rfl; exact hq ⟨v', hr⟩
            have b4 : (x != z) = true := by simp [hxz]
            have b5 : (x == z) = false := by simp [hxz]
            have HS0 := Lib.hid (snoc_at (rows' := Rw.mseg rows z y k 0 k ++ [[z, y]]) (x := z) (y := y) rfl HLX.out HXS.out)
            have HS := Lib.hid (snoc_at (Rw.mseg_at0 (M := rows) (z := z) (y := y) hr) HS0.out.1 HS0.out.2)
            clear hlb hr hD' hq hxz hzx
            rw [hD]
            clear hD
            go_wp2_with (first
              | (at_builtin; refine wpList_append_own_at _ rfl (.tmp 27) (.tmp 31) 22 rfl w.heap.size 61 i0 (.agg #[.int .i64 0, .int .i64 0]) 2 16 Tryd.underlying22 hi hz0 hz1 hz2 rfl (by decide) _ _ _ rfl (hown.alloc _) ⟨_, 0, none⟩ 1 1 [.int .i64 z, .int .i64 y] rfl rfl two_cells two_one (by unfold maxLen; omega) (by omega) (by simp <;> omega) ?_; intro v5 w5 hown5 hgrow5 _ hat5; have HO5 := Lib.hid hown5; have HK5 := Lib.hid (Kept.grew (HK.out.alloc _) hgrow5 (fun b hb => (hown.lt b hb).1)); have hs5 : w.heap.size ≤ w5.heap.size := HK5.out.size; obtain ⟨g0, g1⟩ : w5.cell? (ad.add (k * 2)) = some (.int .i64 x) ∧ w5.cell? ⟨(ad.add (k * 2)).block, (ad.add (k * 2)).off + 1, none⟩ = some (.int .i64 v') := (by obtain ⟨ad', x', v'', e1, e2, e3, e4⟩ := (HA.out.kept HK5.out (fun _ _ => id)).two hkn; injection e1 with e1; subst e1; rw [HR.out] at e2; injection e2 with e2; injection e2 with q1 q2; injection q2 with q2 _; subst q1; subst q2; exact ⟨e3, e4⟩); clear hown5 hgrow5 hat5)
              | (at_builtin; refine wpList_append_own_at _ rfl (.tmp 40) (.tmp 45) 22 rfl w.heap.size 61 i0 (.agg #[.int .i64 0, .int .i64 0]) 2 16 Tryd.underlying22 hi hz0 hz1 hz2 rfl (by decide) _ _ _ rfl (HO5.out.alloc _) ⟨_, 0, none⟩ 1 1 [.int .i64 x, .int .i64 v'] rfl rfl two_cells two_one (by unfold maxLen; omega) (by omega) (by simp <;> omega) ?_; intro v6 w6 hown6 hgrow6 _ hat6; have HO6 := Lib.hid hown6; have HK6 := Lib.hid (Kept.grew (HK5.out.alloc _) hgrow6 (fun b hb => (HO5.out.lt b hb).1)); clear hown6 hgrow6 hat6))
            go_roundw
            case rel => exact ⟨k + 1, by omega, by go_num, by rw [HD'.out], by rw [HS.out.1, HS.out.2]; exact HO6.out, HK6.out⟩
            case measure => simp [intOf] <;> omega
    · obtain rfl : k = n := by omega
      have b1 : decide (k < k) = false := decide_eq_false (by omega)
      have b2 : decide ((k : Int) < (k : Int)) = false := decide_eq_false (by omega)
      by_cases hmk : m < k
      · have hD : decide (m < k) = true := decide_eq_true hmk
        have e : Rw.mseg rows z y m f k = Rw.mset rows z y m f := by
          have := Rw.mseg_all (M := rows) (z := z) (y := y) (f := f) (show m < rows.length by rw [HA.out.1]; exact hmk)
          rw [HA.out.1] at this
          exact this
        have HX := Lib.hid (own_ret hown (HLX.out.symm.trans (by rw [e])) (HXS.out.symm.trans (by rw [e])) HRS.out)
        rw [hD]
        clear hD e
        go_wp2_with fail
        go_ret
        exact ⟨HX.out, HK.out⟩
      · obtain rfl : m = k := by omega
        have hf0 : f = 0 := by omega
        subst hf0
        have hD : decide (m < m) = false := decide_eq_false (by omega)
        have e : Rw.mset rows z y m 0 = Rw.mseg rows z y m 0 m ++ [[z, y]] := by
          have hl := HA.out.1
          have := Rw.mseg_end (M := rows) (z := z) (y := y) (f := 0) (by omega)
          rw [hl] at this
          exact this.symm
        have HS := Lib.hid (snoc_at e HLX.out HXS.out)
        rw [hD]
        clear hD e
        go_wp2_with (at_builtin; refine wpList_append_own_at _ rfl (.tmp 49) (.tmp 53) 22 rfl w.heap.size 61 i0 (.agg #[.int .i64 0, .int .i64 0]) 2 16 Tryd.underlying22 hi hz0 hz1 hz2 rfl (by decide) _ _ _ rfl (hown.alloc _) ⟨_, 0, none⟩ 1 1 [.int .i64 z, .int .i64 y] rfl rfl two_cells two_one (by unfold maxLen; omega) (by omega) (by simp <;> omega) ?_; intro v5 w5 hown5 hgrow5 _ hat5; have HX5 := Lib.hid (own_ret hown5 HS.out.1.symm HS.out.2.symm HRS.out); have HK5 := Lib.hid (Kept.grew (HK.out.alloc _) hgrow5 (fun b hb => (hown.lt b hb).1)); clear hown5 hgrow5 hat5)
        go_ret
        exact ⟨HX5.out, HK5.out⟩
end Go.Proofs.YtknoiehglfpepaaDoor
