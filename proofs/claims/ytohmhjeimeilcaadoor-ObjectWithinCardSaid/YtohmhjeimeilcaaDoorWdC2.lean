/-
  THE CELLS OF A TEXT, of the program: the loop.
-/
import Derived.Test.YtohmhjeimeilcaaDoorWdC
import Derived.Test.YtohmhjeimeilcaaDoorAsk
set_option linter.unusedVariables false
namespace Go.Proofs.YtohmhjeimeilcaaDoor
open Go Go.RowKit

theorem four_cells {W : World} {a b : Int} {F L : Bool} {ty : TypeId} : ∀ j u, ([Value.int .i64 a, .int .i64 b, .bool F, .bool L] : List Value)[j]? = some u → (W.alloc (.cells #[.int .i64 a, .int .i64 b, .bool F, .bool L] ty)).cell? ((⟨W.heap.size, 0, none⟩ : Addr).add j) = some u := by
  intro j u hj
  rw [addr_add, cell_of_row _ _ _ _ _ _ (heap_alloc_new W _)]
  match j, hj with
  | 0, hj => simpa using hj
  | 1, hj => simpa using hj
  | 2, hj => simpa using hj
  | 3, hj => simpa using hj
theorem four_one {a b : Int} {F L : Bool} : ∀ u ∈ ([Value.int .i64 a, .int .i64 b, .bool F, .bool L] : List Value), u.oneCell' = true := by
  intro u hu
  simp only [List.mem_cons, List.not_mem_nil, or_false] at hu
  rcases hu with rfl | rfl | rfl | rfl <;> rfl
set_option maxRecDepth 100000 in
set_option maxHeartbeats 2000000 in
theorem cells_any (A : Option Addr) (n c : Nat) (t : List Int) (big : Bool) (w : World) (hA : Rn w A n t) (hr : Runey t) (hn : n ≤ 6000) :
    Calls Tryd.prog 71 #[.slice A n c, .bool big] w fun e w' => Kept (fun _ => False) w w' ∧ ∃ g cap, e = .returned (.slice (some ⟨g, 0, none⟩) (Rw.cel t (n + 1)).length cap) ∧ w.heap.size ≤ g ∧ Cels w' g t big (Rw.cel t (n + 1)) := by
  obtain ⟨i0, hi, hz0, hz1, hz2⟩ := info_parts info_cell
  have HA := Lib.hid hA
  have HR := Lib.hid hr
  clear hA hr
  go_enter Tryd.func71, Tryd.ntmps71
  go_wp2
  go_loopw [5, 6, 12] (fun v f i wr => ∃ k : Nat, k ≤ n ∧ i = .int .i64 k ∧ f = .bool (decide (Rw.beg t k = k)) ∧ wr.ownsRow w.heap.size 98 4 v (Rw.cel t k).length ((Rw.cel t k).flatMap (cellV t big)) ∧ Kept (fun _ => False) w wr) (fun _ _ i _ => n - (intOf i).toNat)
  case atStart => exact ⟨0, Nat.zero_le _, rfl, rfl, World.ownsRow_nil _ _ _ _, Kept.refl _ _⟩
  case round =>
    obtain ⟨k, hk, rfl, hf, hown, hkept⟩ := hrel
    obtain ⟨F, hF⟩ : ∃ F, F = decide (Rw.beg t k = k) := ⟨_, rfl⟩
    rw [← hF] at hf
    subst hf
    have HF := Lib.hid hF
    have HK := Lib.hid hkept
    have hsz := hkept.size
    have HSZ := Lib.hid hsz
    have hlen := Rw.cel_len t k
    clear hF hkept hsz
    generalize hm : (Rw.cel t k).length = m at hown hlen
    have HM := Lib.hid hm
    clear hm
    generalize hcv : (Rw.cel t k).flatMap (cellV t big) = xs at hown
    have HCV := Lib.hid hcv
    clear hcv
    by_cases hkn : k < n
    · obtain ⟨ad, x, rfl, hx, hc⟩ := HA.out.cell hkn
      obtain ⟨x1, x2⟩ := HR.out.at_ hx
      have hc2 := cell_kept HK.out hc id
      clear hc
      have HX := Lib.hid hx
      clear hx
      have hways0 : (k + 1 = n ∧ Rw.isR t (k + 1) = false) ∨ (k + 1 < n ∧ ∃ y, wr.cell? ⟨ad.block, ad.off + (k + 1), none⟩ = some (.int .i32 y) ∧ ((y = 10 ∧ Rw.isR t (k + 1) = false) ∨ (y ≠ 10 ∧ Rw.isR t (k + 1) = true))) := by
        have hl := HA.out.1
        by_cases h1 : k + 1 = n
        · exact .inl ⟨h1, Rw.isR_out (by omega)⟩
        · obtain ⟨ad', y, he, hy, hcy⟩ := HA.out.cell (j := k + 1) (by omega)
          injection he with he
          subst he
          rw [addr_far _ _ (by omega)] at hcy
          refine .inr ⟨by omega, y, cell_kept HK.out hcy id, ?_⟩
          by_cases hy10 : y = 10
          · subst hy10; exact .inl ⟨rfl, Rw.isR_10 hy⟩
          · exact .inr ⟨hy10, Rw.isR_of hy hy10⟩
      by_cases h10 : x = 10
      · subst h10
        have hR0 : Rw.isR t k = false := Rw.isR_10 HX.out
        have hA3 : Hid (3 = Rw.at_ t big k) := (Rw.at_no big hR0).symm
        have hL3 : Hid (true = Rw.lastB t k) := by show _ = _; unfold Rw.lastB; rw [hR0]; rfl
        have hnext : Hid (decide (Rw.beg t (k + 1) = k + 1) = true) := by show _ = _; rw [Rw.beg_stop HX.out]; simp
        have hR1 := Lib.hid hR0
        clear hR0
        cases F
        · have hC : Hid (Rw.isC t k = false) := by show _ = _; unfold Rw.isC; rw [hR1.out, ← HF.out]; rfl
          rcases hways0 with ⟨h1, _⟩ | ⟨h1, y, h2, ⟨rfl, _⟩ | ⟨h3, _⟩⟩
          · have d2 : ((k : Int) + 1 == (n : Int)) = true := by rw [beq_iff_eq]; omega
            go_wp2
            go_roundw
            case rel =>
              refine ⟨k + 1, by omega, by go_num, ?_, ?_, HK.out⟩
              · rw [hnext.out]
              · rw [Rw.cel_succ_no hC.out, HM.out, HCV.out]; exact hown
            case measure => simp [intOf]; omega
          · have d2 : ((k : Int) + 1 == (n : Int)) = false := by rw [beq_eq_false_iff_ne]; omega
            go_wp2
            go_roundw
            case rel =>
              refine ⟨k + 1, by omega, by go_num, ?_, ?_, HK.out⟩
              · rw [hnext.out]
              · rw [Rw.cel_succ_no hC.out, HM.out, HCV.out]; exact hown
            case measure => simp [intOf]; omega
          · have d2 : ((k : Int) + 1 == (n : Int)) = false := by rw [beq_eq_false_iff_ne]; omega
            have d3 : (y == 10) = false := by rw [beq_eq_false_iff_ne]; exact h3
            clear h3
            go_wp2
            go_roundw
            case rel =>
              refine ⟨k + 1, by omega, by go_num, ?_, ?_, HK.out⟩
              · rw [hnext.out]
              · rw [Rw.cel_succ_no hC.out, HM.out, HCV.out]; exact hown
            case measure => simp [intOf]; omega
        · have hC : Hid (Rw.isC t k = true) := by show _ = _; unfold Rw.isC; rw [hR1.out, ← HF.out]; rfl
          rcases hways0 with ⟨h1, _⟩ | ⟨h1, y, h2, ⟨rfl, _⟩ | ⟨h3, _⟩⟩
          · have d2 : ((k : Int) + 1 == (n : Int)) = true := by rw [beq_iff_eq]; omega
            go_wp2_with (first
              | fail
              | (at_builtin; refine wpList_append_own _ rfl _ _ 95 rfl w.heap.size 98 i0 (.agg #[.int .i64 0, .int .i64 0, .bool false, .bool false]) 4 24 Tryd.underlying95 hi hz0 hz1 hz2 rfl (by decide) _ _ _ rfl (hown.alloc _) ⟨_, 0, none⟩ 1 1 [.int .i64 (k : Int), .int .i64 3, .bool true, .bool true] rfl rfl four_cells four_one (by unfold maxLen; omega) (by omega) (by have := HSZ.out; simp; omega) ?_; intro v' w1 hown' hgrow _; have hK1 := Lib.hid (Kept.grew (HK.out.alloc (.cells #[.int .i64 (k : Int), .int .i64 3, .bool true, .bool true] 98)) hgrow (fun q hq => (hown.lt q hq).1)); rw [← HM.out, ← HCV.out] at hown'; have HO := Lib.hid (own_cell hC.out hA3.out HF.out hL3.out hown'); clear hown' hgrow hown hc2))
            go_roundw
            case rel => exact ⟨k + 1, by omega, by go_num, by rw [hnext.out], HO.out, hK1.out⟩
            case measure => simp [intOf]; omega
          · have d2 : ((k : Int) + 1 == (n : Int)) = false := by rw [beq_eq_false_iff_ne]; omega
            go_wp2_with (first
              | fail
              | (at_builtin; refine wpList_append_own _ rfl _ _ 95 rfl w.heap.size 98 i0 (.agg #[.int .i64 0, .int .i64 0, .bool false, .bool false]) 4 24 Tryd.underlying95 hi hz0 hz1 hz2 rfl (by decide) _ _ _ rfl (hown.alloc _) ⟨_, 0, none⟩ 1 1 [.int .i64 (k : Int), .int .i64 3, .bool true, .bool true] rfl rfl four_cells four_one (by unfold maxLen; omega) (by omega) (by have := HSZ.out; simp; omega) ?_; intro v' w1 hown' hgrow _; have hK1 := Lib.hid (Kept.grew (HK.out.alloc (.cells #[.int .i64 (k : Int), .int .i64 3, .bool true, .bool true] 98)) hgrow (fun q hq => (hown.lt q hq).1)); rw [← HM.out, ← HCV.out] at hown'; have HO := Lib.hid (own_cell hC.out hA3.out HF.out hL3.out hown'); clear hown' hgrow hown hc2))
            go_roundw
            case rel => exact ⟨k + 1, by omega, by go_num, by rw [hnext.out], HO.out, hK1.out⟩
            case measure => simp [intOf]; omega
          · have d2 : ((k : Int) + 1 == (n : Int)) = false := by rw [beq_eq_false_iff_ne]; omega
            have d3 : (y == 10) = false := by rw [beq_eq_false_iff_ne]; exact h3
            clear h3
            go_wp2_with (first
              | fail
              | (at_builtin; refine wpList_append_own _ rfl _ _ 95 rfl w.heap.size 98 i0 (.agg #[.int .i64 0, .int .i64 0, .bool false, .bool false]) 4 24 Tryd.underlying95 hi hz0 hz1 hz2 rfl (by decide) _ _ _ rfl (hown.alloc _) ⟨_, 0, none⟩ 1 1 [.int .i64 (k : Int), .int .i64 3, .bool true, .bool true] rfl rfl four_cells four_one (by unfold maxLen; omega) (by omega) (by have := HSZ.out; simp; omega) ?_; intro v' w1 hown' hgrow _; have hK1 := Lib.hid (Kept.grew (HK.out.alloc (.cells #[.int .i64 (k : Int), .int .i64 3, .bool true, .bool true] 98)) hgrow (fun q hq => (hown.lt q hq).1)); rw [← HM.out, ← HCV.out] at hown'; have HO := Lib.hid (own_cell hC.out hA3.out HF.out hL3.out hown'); clear hown' hgrow hown hc2))
            go_roundw
            case rel => exact ⟨k + 1, by omega, by go_num, by rw [hnext.out], HO.out, hK1.out⟩
            case measure => simp [intOf]; omega
      · have hRt : Rw.isR t k = true := Rw.isR_of HX.out h10
        have hC : Hid (Rw.isC t k = true) := Rw.isC_R hRt
        have hAt : Hid (Rw.clsB big x = Rw.at_ t big k) := (Rw.at_of big HX.out h10).symm
        have hnext : Hid (decide (Rw.beg t (k + 1) = k + 1) = false) := by
          show _ = _
          have hb := Rw.beg_le t k
          rw [Rw.beg_step (by rw [HX.out]; intro e; injection e with e; exact h10 e), decide_eq_false_iff_not]
          omega
        have n1 : (x != 10) = true := by rw [bne_iff_ne]; exact h10
        have n2 : (x == 10) = false := by rw [beq_eq_false_iff_ne]; exact h10
        have cO := fun W => classOf_any big x W x1 x2
        obtain ⟨q, hq⟩ : ∃ q, Rw.clsB big x = q := ⟨_, rfl⟩
        rw [hq] at hAt
        simp only [hq] at cO
        have HRt := Lib.hid hRt
        clear hRt h10 hq
        rcases hways0 with ⟨h1, hl1⟩ | ⟨h1, y, h2, ⟨rfl, hl1⟩ | ⟨h3, hl1⟩⟩
        · have d2 : ((k : Int) + 1 == (n : Int)) = true := by rw [beq_iff_eq]; omega
          have HL : Hid (true = Rw.lastB t k) := by show _ = _; unfold Rw.lastB; rw [HRt.out, hl1]; rfl
          clear hl1
          go_wp2_with (first
            | (go_at_call 75; refine (cO _).mono ?_; rintro e w' ⟨rfl, hw⟩; have hw2 := hw.symm; clear hw; subst hw2)
            | (at_builtin; refine wpList_append_own _ rfl _ _ 95 rfl w.heap.size 98 i0 (.agg #[.int .i64 0, .int .i64 0, .bool false, .bool false]) 4 24 Tryd.underlying95 hi hz0 hz1 hz2 rfl (by decide) _ _ _ rfl (hown.alloc _) ⟨_, 0, none⟩ 1 1 [.int .i64 (k : Int), .int .i64 q, .bool F, .bool true] rfl rfl four_cells four_one (by unfold maxLen; omega) (by omega) (by have := HSZ.out; simp; omega) ?_; intro v' w1 hown' hgrow _; have hK1 := Lib.hid (Kept.grew (HK.out.alloc (.cells #[.int .i64 (k : Int), .int .i64 q, .bool F, .bool true] 98)) hgrow (fun q hq => (hown.lt q hq).1)); rw [← HM.out, ← HCV.out] at hown'; have HO := Lib.hid (own_cell hC.out hAt.out HF.out HL.out hown'); clear hown' hgrow hown hc2))
          go_roundw
          case rel => exact ⟨k + 1, by omega, by go_num, by rw [hnext.out], HO.out, hK1.out⟩
          case measure => simp [intOf]; omega
        · have d2 : ((k : Int) + 1 == (n : Int)) = false := by rw [beq_eq_false_iff_ne]; omega
          have HL : Hid (true = Rw.lastB t k) := by show _ = _; unfold Rw.lastB; rw [HRt.out, hl1]; rfl
          clear hl1
          go_wp2_with (first
            | (go_at_call 75; refine (cO _).mono ?_; rintro e w' ⟨rfl, hw⟩; have hw2 := hw.symm; clear hw; subst hw2)
            | (at_builtin; refine wpList_append_own _ rfl _ _ 95 rfl w.heap.size 98 i0 (.agg #[.int .i64 0, .int .i64 0, .bool false, .bool false]) 4 24 Tryd.underlying95 hi hz0 hz1 hz2 rfl (by decide) _ _ _ rfl (hown.alloc _) ⟨_, 0, none⟩ 1 1 [.int .i64 (k : Int), .int .i64 q, .bool F, .bool true] rfl rfl four_cells four_one (by unfold maxLen; omega) (by omega) (by have := HSZ.out; simp; omega) ?_; intro v' w1 hown' hgrow _; have hK1 := Lib.hid (Kept.grew (HK.out.alloc (.cells #[.int .i64 (k : Int), .int .i64 q, .bool F, .bool true] 98)) hgrow (fun q hq => (hown.lt q hq).1)); rw [← HM.out, ← HCV.out] at hown'; have HO := Lib.hid (own_cell hC.out hAt.out HF.out HL.out hown'); clear hown' hgrow hown hc2))
          go_roundw
          case rel => exact ⟨k + 1, by omega, by go_num, by rw [hnext.out], HO.out, hK1.out⟩
          case measure => simp [intOf]; omega
        · have d2 : ((k : Int) + 1 == (n : Int)) = false := by rw [beq_eq_false_iff_ne]; omega
          have d3 : (y == 10) = false := by rw [beq_eq_false_iff_ne]; exact h3
          have HL : Hid (false = Rw.lastB t k) := by show _ = _; unfold Rw.lastB; rw [HRt.out, hl1]; rfl
          clear h3 hl1
          go_wp2_with (first
            | (go_at_call 75; refine (cO _).mono ?_; rintro e w' ⟨rfl, hw⟩; have hw2 := hw.symm; clear hw; subst hw2)
            | (at_builtin; refine wpList_append_own _ rfl _ _ 95 rfl w.heap.size 98 i0 (.agg #[.int .i64 0, .int .i64 0, .bool false, .bool false]) 4 24 Tryd.underlying95 hi hz0 hz1 hz2 rfl (by decide) _ _ _ rfl (hown.alloc _) ⟨_, 0, none⟩ 1 1 [.int .i64 (k : Int), .int .i64 q, .bool F, .bool false] rfl rfl four_cells four_one (by unfold maxLen; omega) (by omega) (by have := HSZ.out; simp; omega) ?_; intro v' w1 hown' hgrow _; have hK1 := Lib.hid (Kept.grew (HK.out.alloc (.cells #[.int .i64 (k : Int), .int .i64 q, .bool F, .bool false] 98)) hgrow (fun q hq => (hown.lt q hq).1)); rw [← HM.out, ← HCV.out] at hown'; have HO := Lib.hid (own_cell hC.out hAt.out HF.out HL.out hown'); clear hown' hgrow hown hc2))
          go_roundw
          case rel => exact ⟨k + 1, by omega, by go_num, by rw [hnext.out], HO.out, hK1.out⟩
          case measure => simp [intOf]; omega
    · obtain rfl : k = n := by omega
      have hR0 : Rw.isR t k = false := Rw.isR_out (by have := HA.out.1; omega)
      have hA3 : Hid (3 = Rw.at_ t big k) := (Rw.at_no big hR0).symm
      have hL3 : Hid (true = Rw.lastB t k) := by show _ = _; unfold Rw.lastB; rw [hR0]; rfl
      have hR1 := Lib.hid hR0
      clear hR0
      cases F
      · have hC : Hid (Rw.isC t k = false) := by show _ = _; unfold Rw.isC; rw [hR1.out, ← HF.out]; rfl
        go_wp2
        go_ret
        rw [Rw.cel_succ_no hC.out]
        rw [← HM.out, ← HCV.out] at hown
        obtain ⟨g, cap, rfl, hg, hcl⟩ := owned_cels hown (by
          rcases Nat.eq_zero_or_pos k with e | e
          · subst e; have := hC.out; rw [Rw.isC_zero] at this; cases this
          · obtain ⟨k', rfl⟩ : ∃ k', k = k' + 1 := ⟨k - 1, by omega⟩
            have h0 := Rw.cel_zero t k'
            rcases Nat.eq_zero_or_pos (Rw.cel t (k' + 1)).length with h | h
            · rw [List.getElem?_eq_none (by omega)] at h0; cases h0
            · exact h)
        exact ⟨HK.out, g, cap, rfl, hg, hcl⟩
      · have hC : Hid (Rw.isC t k = true) := by show _ = _; unfold Rw.isC; rw [hR1.out, ← HF.out]; rfl
        go_wp2_with (first
          | fail
          | (at_builtin; refine wpList_append_own _ rfl _ _ 95 rfl w.heap.size 98 i0 (.agg #[.int .i64 0, .int .i64 0, .bool false, .bool false]) 4 24 Tryd.underlying95 hi hz0 hz1 hz2 rfl (by decide) _ _ _ rfl (hown.alloc _) ⟨_, 0, none⟩ 1 1 [.int .i64 (k : Int), .int .i64 3, .bool true, .bool true] rfl rfl four_cells four_one (by unfold maxLen; omega) (by omega) (by have := HSZ.out; simp; omega) ?_; intro v' w1 hown' hgrow _; have hK1 := Lib.hid (Kept.grew (HK.out.alloc (.cells #[.int .i64 (k : Int), .int .i64 3, .bool true, .bool true] 98)) hgrow (fun q hq => (hown.lt q hq).1)); rw [← HM.out, ← HCV.out] at hown'; have HO := Lib.hid (own_cell hC.out hA3.out HF.out hL3.out hown'); clear hown' hgrow hown))
        go_ret
        obtain ⟨g, cap, rfl, hg, hcl⟩ := owned_cels HO.out (by rw [Rw.cel_succ_yes hC.out, List.length_append, List.length_singleton]; omega)
        exact ⟨hK1.out, g, cap, rfl, hg, hcl⟩
end Go.Proofs.YtohmhjeimeilcaaDoor
