/-
  THE CELLS OF A TEXT, of the reference.
-/
import Derived.Test.YtclmcieegoobkaaDoorWdM
import Derived.Maps.AppendAt
set_option linter.unusedVariables false
namespace Go.Proofs.YtclmcieegoobkaaDoor
open Go Go.RowKit

def ats (l : List Nat) : List Int := l.map fun (i : Nat) => (i : Int)
def kls (t : List Int) (big : Bool) (l : List Nat) : List Int := l.map (Rw.at_ t big)
/-- Two slices that don't lie in one row. -/
def Apart (v u : Value) : Prop := u.ownBlock = none ∨ u.ownBlock ≠ v.ownBlock
theorem Apart.symm {v u : Value} (h : Apart v u) : Apart u v := by
  unfold Apart at *
  rcases h with h | h
  · cases hv : v.ownBlock with
    | none => exact .inl rfl
    | some k => right; rw [h]; intro e; cases e
  · exact .inr fun e => h e.symm
theorem Apart.kept {w w1 : World} {o : Obj} {base : Nat} {e e' : TypeId} {n n' s s' : Nat} {v v' u : Value} {xs ys : List Value} (h : Apart v u) (hu : w.ownsRow base e s u n xs) (hv : w.ownsRow base e' s' v n' ys) (hg : (w.alloc o).grownBy w1 v.ownBlock) (hat : v'.ownBlock = v.ownBlock ∨ v'.ownBlock = some (w.alloc o).heap.size) : w1.ownsRow base e s u n xs ∧ Apart v' u := by
  refine ⟨(hu.alloc o).kept hg h, ?_⟩
  rcases hat with hat | hat
  · unfold Apart; rw [hat]; exact h
  · unfold Apart
    cases hb : u.ownBlock with
    | none => exact .inl rfl
    | some k =>
      right
      rw [hat]
      intro e
      injection e with e
      have := (hu.lt k hb).2
      simp at e
      omega
theorem own_at {w : World} {base : Nat} {v : Value} {t : List Int} {k : Nat} (hC : Rw.isC t k = true) (h : w.ownsRow base 3 1 v ((Rw.cel t k).length + 1) ((ats (Rw.cel t k)).map (Value.int .i64) ++ [.int .i64 (k : Int)])) : w.ownsRow base 3 1 v (Rw.cel t (k + 1)).length ((ats (Rw.cel t (k + 1))).map (Value.int .i64)) := by
  rw [Rw.cel_succ_yes hC, List.length_append]
  unfold ats at *
  rw [List.map_append, List.map_append]
  exact h
theorem own_kls {w : World} {base : Nat} {v : Value} {t : List Int} {big : Bool} {k : Nat} {q : Int} (hC : Rw.isC t k = true) (hq : q = Rw.at_ t big k) (h : w.ownsRow base 3 1 v ((Rw.cel t k).length + 1) ((kls t big (Rw.cel t k)).map (Value.int .i64) ++ [.int .i64 q])) : w.ownsRow base 3 1 v (Rw.cel t (k + 1)).length ((kls t big (Rw.cel t (k + 1))).map (Value.int .i64)) := by
  rw [Rw.cel_succ_yes hC, List.length_append]
  unfold kls at *
  rw [List.map_append, List.map_append]
  subst hq
  exact h
set_option maxRecDepth 100000 in
set_option maxHeartbeats 2000000 in
theorem rcells_any (A : Option Addr) (n c : Nat) (t : List Int) (big : Bool) (w : World) (hA : Rn w A n t) (hr : Runey t) (hn : n ≤ 6000) :
    Calls Tryd.prog 28 #[.slice A n c, .bool big] w fun e w' => Kept (fun _ => False) w w' ∧ ∃ A1 c1 A2 c2, e = .returned (.tuple #[.slice A1 (Rw.cel t (n + 1)).length c1, .slice A2 (Rw.cel t (n + 1)).length c2]) ∧ Nums w' A1 (Rw.cel t (n + 1)).length (ats (Rw.cel t (n + 1))) ∧ Nums w' A2 (Rw.cel t (n + 1)).length (kls t big (Rw.cel t (n + 1))) := by
  obtain ⟨i0, hi, hz0, hz1, hz2⟩ := info_parts info_int
  have HA := Lib.hid hA
  have HR := Lib.hid hr
  clear hA hr
  go_enter Tryd.func28, Tryd.ntmps28
  go_wp2
  go_loopw [6, 7, 8] (fun v u i wr => ∃ k : Nat, k ≤ n + 1 ∧ i = .int .i64 k ∧ wr.ownsRow w.heap.size 3 1 v (Rw.cel t k).length ((ats (Rw.cel t k)).map (Value.int .i64)) ∧ wr.ownsRow w.heap.size 3 1 u (Rw.cel t k).length ((kls t big (Rw.cel t k)).map (Value.int .i64)) ∧ Apart v u ∧ Kept (fun _ => False) w wr) (fun _ _ i _ => n + 1 - (intOf i).toNat)
  case atStart => exact ⟨0, Nat.zero_le _, rfl, World.ownsRow_nil _ _ _ _, World.ownsRow_nil _ _ _ _, .inl rfl, Kept.refl _ _⟩
  case round =>
    obtain ⟨k, hk, rfl, hown, hown2, hap, hkept⟩ := hrel
    have HK := Lib.hid hkept
    have hsz := hkept.size
    have HSZ := Lib.hid hsz
    have HAW := Lib.hid (HA.out.kept hkept (fun _ _ => id))
    have hlen := Rw.cel_len t k
    clear hkept hsz
    generalize hm : (Rw.cel t k).length = m at hown hown2 hlen
    have HM := Lib.hid hm
    generalize hx1 : (ats (Rw.cel t k)).map (Value.int .i64) = xs at hown
    generalize hx2 : (kls t big (Rw.cel t k)).map (Value.int .i64) = ys at hown2
    have HX1 := Lib.hid hx1
    have HX2 := Lib.hid hx2
    clear hm hx1 hx2
    have cG := fun (W : World) (hW : Rn W A n t) (hkn : k ≤ n) => rbegin_any A n c t k W hW hkn (by omega)
    by_cases hkn : k < n
    · have cG := fun (W : World) (hW : Rn W A n t) => cG W hW (by omega)
      obtain ⟨ad, x, rfl, hx, hc⟩ := HAW.out.cell hkn
      obtain ⟨x1, x2⟩ := HR.out.at_ hx
      have HX := Lib.hid hx
      clear hx
      have d2 : ((k : Int) == (n : Int)) = false := by rw [beq_eq_false_iff_ne]; omega
      by_cases h10 : x = 10
      · subst h10
        have hR0 : Rw.isR t k = false := Rw.isR_10 HX.out
        have hA3 : Hid (3 = Rw.at_ t big k) := (Rw.at_no big hR0).symm
        by_cases hb : Rw.beg t k = k
        · have hC : Hid (Rw.isC t k = true) := Rw.isC_beg hb
          rw [hb] at cG
          clear hb hR0
          go_wp2_with (first
            | (go_at_call 18; refine (cO _).mono ?_; rintro e w' ⟨rfl, hw⟩; have hw2 := hw.symm; clear hw; subst hw2)
            | (go_at_call 45; refine (cG _ HAW.out).mono ?_; rintro e w' ⟨rfl, hw⟩; have hw2 := hw.symm; clear hw; subst hw2)
            | (at_builtin; refine wpList_append_own_at _ rfl (.tmp 32) (.tmp 34) 41 rfl w.heap.size 3 i0 (.int .i64 0) 1 8 Tryd.underlying41 hi hz0 hz1 hz2 rfl (by decide) _ _ _ rfl (hown.alloc _) ⟨_, 0, none⟩ 1 1 [.int .i64 (k : Int)] rfl rfl one_cell one_one (by unfold maxLen; omega) (by omega) (by have := HSZ.out; simp; omega) ?_; intro v' w1 hown' hgrow _ hat; have ha := (hap.kept hown2 hown hgrow hat); have HK1 := Lib.hid (Kept.grew (HK.out.alloc (.cells #[.int .i64 (k : Int)] 3)) hgrow (fun q hq => (hown.lt q hq).1)); have hownB := ha.1; have hap1 := ha.2; have HSZ1 := Lib.hid HK1.out.size; clear hown2 hown hgrow hat hap ha)
            | (at_builtin; refine wpList_append_own_at _ rfl (.tmp 36) (.tmp 37) 41 rfl w.heap.size 3 i0 (.int .i64 0) 1 8 Tryd.underlying41 hi hz0 hz1 hz2 rfl (by decide) _ _ _ rfl (hownB.alloc _) ⟨_, 0, none⟩ 1 1 [.int .i64 3] rfl rfl one_cell one_one (by unfold maxLen; omega) (by omega) (by have := HSZ1.out; simp; omega) ?_; intro v2 w2 hown3 hgrow _ hat; have ha := (hap1.symm.kept hown' hownB hgrow hat); have HK2 := Lib.hid (Kept.grew (HK1.out.alloc (.cells #[.int .i64 3] 3)) hgrow (fun q hq => (hownB.lt q hq).1)); have hownA := ha.1; have hap2 := ha.2.symm; clear hown' hownB hgrow hat hap1 ha))
          rw [← HM.out, ← HX1.out] at hownA
          rw [← HM.out, ← HX2.out] at hown3
          have HO1 := Lib.hid (own_at hC.out hownA)
          have HO2 := Lib.hid (own_kls hC.out hA3.out hown3)
          clear hownA hown3
          go_roundw
          case rel => exact ⟨k + 1, by omega, by go_num, HO1.out, HO2.out, hap2, HK2.out⟩
          case measure => simp [intOf] <;> omega
        · have hC : Hid (Rw.isC t k = false) := by show _ = _; unfold Rw.isC; rw [hR0, decide_eq_false hb]; rfl
          have hb1 : ((Rw.beg t k : Nat) == k) = false := by rw [beq_eq_false_iff_ne]; exact hb
          obtain ⟨y, hy⟩ : ∃ y, Rw.beg t k = y := ⟨_, rfl⟩
          have hyy : ((y : Int) == (k : Int)) = false := by rw [beq_eq_false_iff_ne]; omega
          rw [hy] at cG
          clear hb hR0 hb1 hy
          go_wp2_with (go_at_call 45; refine (cG _ HAW.out).mono ?_; rintro e w' ⟨rfl, hw⟩; have hw2 := hw.symm; clear hw; subst hw2)
          go_roundw
          case rel => exact ⟨k + 1, by omega, by go_num, by rw [Rw.cel_succ_no hC.out, HM.out, HX1.out]; exact hown, by rw [Rw.cel_succ_no hC.out, HM.out, HX2.out]; exact hown2, hap, HK.out⟩
          case measure => simp [intOf] <;> omega
      · have hRt : Rw.isR t k = true := Rw.isR_of HX.out h10
        have hC : Hid (Rw.isC t k = true) := Rw.isC_R hRt
        have hAt := (Rw.at_of big HX.out h10).symm
        have n2 : (x == 10) = false := by rw [beq_eq_false_iff_ne]; exact h10
        have cO := fun W => rclass_any x x1 W
        have hqr := Rw.cls_range x
        unfold Rw.clsB at hAt
        obtain ⟨q, hq⟩ : ∃ q, Rw.cls x = q := ⟨_, rfl⟩
        rw [hq] at hAt hqr
        simp only [hq] at cO
        clear hRt h10 hq
        cases big
        · have hQ : Hid (q = Rw.at_ t false k) := by show _ = _; rw [if_neg (by simp)] at hAt; exact hAt
          clear hAt
          go_wp2_with (first
            | (go_at_call 18; refine (cO _).mono ?_; rintro e w' ⟨rfl, hw⟩; have hw2 := hw.symm; clear hw; subst hw2)
            | (go_at_call 45; refine (cG _ HAW.out).mono ?_; rintro e w' ⟨rfl, hw⟩; have hw2 := hw.symm; clear hw; subst hw2)
            | (at_builtin; refine wpList_append_own_at _ rfl (.tmp 50) (.tmp 52) 41 rfl w.heap.size 3 i0 (.int .i64 0) 1 8 Tryd.underlying41 hi hz0 hz1 hz2 rfl (by decide) _ _ _ rfl (hown.alloc _) ⟨_, 0, none⟩ 1 1 [.int .i64 (k : Int)] rfl rfl one_cell one_one (by unfold maxLen; omega) (by omega) (by have := HSZ.out; simp; omega) ?_; intro v' w1 hown' hgrow _ hat; have ha := (hap.kept hown2 hown hgrow hat); have HK1 := Lib.hid (Kept.grew (HK.out.alloc (.cells #[.int .i64 (k : Int)] 3)) hgrow (fun q hq => (hown.lt q hq).1)); have hownB := ha.1; have hap1 := ha.2; have HSZ1 := Lib.hid HK1.out.size; clear hown2 hown hgrow hat hap ha)
            | (at_builtin; refine wpList_append_own_at _ rfl (.tmp 54) (.tmp 56) 41 rfl w.heap.size 3 i0 (.int .i64 0) 1 8 Tryd.underlying41 hi hz0 hz1 hz2 rfl (by decide) _ _ _ rfl (hownB.alloc _) ⟨_, 0, none⟩ 1 1 [.int .i64 q] rfl rfl one_cell one_one (by unfold maxLen; omega) (by omega) (by have := HSZ1.out; simp; omega) ?_; intro v2 w2 hown3 hgrow _ hat; have ha := (hap1.symm.kept hown' hownB hgrow hat); have HK2 := Lib.hid (Kept.grew (HK1.out.alloc (.cells #[.int .i64 q] 3)) hgrow (fun q hq => (hownB.lt q hq).1)); have hownA := ha.1; have hap2 := ha.2.symm; clear hown' hownB hgrow hat hap1 ha))
          rw [← HM.out, ← HX1.out] at hownA
          rw [← HM.out, ← HX2.out] at hown3
          have HO1 := Lib.hid (own_at hC.out hownA)
          have HO2 := Lib.hid (own_kls hC.out hQ.out hown3)
          clear hownA hown3
          go_roundw
          case rel => exact ⟨k + 1, by omega, by go_num, HO1.out, HO2.out, hap2, HK2.out⟩
          case measure => simp [intOf] <;> omega
        · by_cases hq2 : q = 2
          · subst hq2
            have hQ : Hid (1 = Rw.at_ t true k) := by show _ = _; rw [if_pos ⟨rfl, rfl⟩] at hAt; exact hAt
            clear hAt
            go_wp2_with (first
              | (go_at_call 18; refine (cO _).mono ?_; rintro e w' ⟨rfl, hw⟩; have hw2 := hw.symm; clear hw; subst hw2)
              | (go_at_call 45; refine (cG _ HAW.out).mono ?_; rintro e w' ⟨rfl, hw⟩; have hw2 := hw.symm; clear hw; subst hw2)
              | (at_builtin; refine wpList_append_own_at _ rfl (.tmp 50) (.tmp 52) 41 rfl w.heap.size 3 i0 (.int .i64 0) 1 8 Tryd.underlying41 hi hz0 hz1 hz2 rfl (by decide) _ _ _ rfl (hown.alloc _) ⟨_, 0, none⟩ 1 1 [.int .i64 (k : Int)] rfl rfl one_cell one_one (by unfold maxLen; omega) (by omega) (by have := HSZ.out; simp; omega) ?_; intro v' w1 hown' hgrow _ hat; have ha := (hap.kept hown2 hown hgrow hat); have HK1 := Lib.hid (Kept.grew (HK.out.alloc (.cells #[.int .i64 (k : Int)] 3)) hgrow (fun q hq => (hown.lt q hq).1)); have hownB := ha.1; have hap1 := ha.2; have HSZ1 := Lib.hid HK1.out.size; clear hown2 hown hgrow hat hap ha)
              | (at_builtin; refine wpList_append_own_at _ rfl (.tmp 54) (.tmp 56) 41 rfl w.heap.size 3 i0 (.int .i64 0) 1 8 Tryd.underlying41 hi hz0 hz1 hz2 rfl (by decide) _ _ _ rfl (hownB.alloc _) ⟨_, 0, none⟩ 1 1 [.int .i64 1] rfl rfl one_cell one_one (by unfold maxLen; omega) (by omega) (by have := HSZ1.out; simp; omega) ?_; intro v2 w2 hown3 hgrow _ hat; have ha := (hap1.symm.kept hown' hownB hgrow hat); have HK2 := Lib.hid (Kept.grew (HK1.out.alloc (.cells #[.int .i64 1] 3)) hgrow (fun q hq => (hownB.lt q hq).1)); have hownA := ha.1; have hap2 := ha.2.symm; clear hown' hownB hgrow hat hap1 ha))
            rw [← HM.out, ← HX1.out] at hownA
            rw [← HM.out, ← HX2.out] at hown3
            have HO1 := Lib.hid (own_at hC.out hownA)
            have HO2 := Lib.hid (own_kls hC.out hQ.out hown3)
            clear hownA hown3
            go_roundw
            case rel => exact ⟨k + 1, by omega, by go_num, HO1.out, HO2.out, hap2, HK2.out⟩
            case measure => simp [intOf] <;> omega
          · have hQ : Hid (q = Rw.at_ t true k) := by show _ = _; rw [if_neg (by omega)] at hAt; exact hAt
            have d3 : (q == 2) = false := by rw [beq_eq_false_iff_ne]; exact hq2
            clear hAt hq2
            go_wp2_with (first
              | (go_at_call 18; refine (cO _).mono ?_; rintro e w' ⟨rfl, hw⟩; have hw2 := hw.symm; clear hw; subst hw2)
              | (go_at_call 45; refine (cG _ HAW.out).mono ?_; rintro e w' ⟨rfl, hw⟩; have hw2 := hw.symm; clear hw; subst hw2)
              | (at_builtin; refine wpList_append_own_at _ rfl (.tmp 50) (.tmp 52) 41 rfl w.heap.size 3 i0 (.int .i64 0) 1 8 Tryd.underlying41 hi hz0 hz1 hz2 rfl (by decide) _ _ _ rfl (hown.alloc _) ⟨_, 0, none⟩ 1 1 [.int .i64 (k : Int)] rfl rfl one_cell one_one (by unfold maxLen; omega) (by omega) (by have := HSZ.out; simp; omega) ?_; intro v' w1 hown' hgrow _ hat; have ha := (hap.kept hown2 hown hgrow hat); have HK1 := Lib.hid (Kept.grew (HK.out.alloc (.cells #[.int .i64 (k : Int)] 3)) hgrow (fun q hq => (hown.lt q hq).1)); have hownB := ha.1; have hap1 := ha.2; have HSZ1 := Lib.hid HK1.out.size; clear hown2 hown hgrow hat hap ha)
              | (at_builtin; refine wpList_append_own_at _ rfl (.tmp 54) (.tmp 56) 41 rfl w.heap.size 3 i0 (.int .i64 0) 1 8 Tryd.underlying41 hi hz0 hz1 hz2 rfl (by decide) _ _ _ rfl (hownB.alloc _) ⟨_, 0, none⟩ 1 1 [.int .i64 q] rfl rfl one_cell one_one (by unfold maxLen; omega) (by omega) (by have := HSZ1.out; simp; omega) ?_; intro v2 w2 hown3 hgrow _ hat; have ha := (hap1.symm.kept hown' hownB hgrow hat); have HK2 := Lib.hid (Kept.grew (HK1.out.alloc (.cells #[.int .i64 q] 3)) hgrow (fun q hq => (hownB.lt q hq).1)); have hownA := ha.1; have hap2 := ha.2.symm; clear hown' hownB hgrow hat hap1 ha))
            rw [← HM.out, ← HX1.out] at hownA
            rw [← HM.out, ← HX2.out] at hown3
            have HO1 := Lib.hid (own_at hC.out hownA)
            have HO2 := Lib.hid (own_kls hC.out hQ.out hown3)
            clear hownA hown3
            go_roundw
            case rel => exact ⟨k + 1, by omega, by go_num, HO1.out, HO2.out, hap2, HK2.out⟩
            case measure => simp [intOf] <;> omega
    · by_cases hkn1 : k = n
      · subst hkn1
        have cG := fun (W : World) (hW : Rn W A k t) => cG W hW (Nat.le_refl _)
        have hR0 : Rw.isR t k = false := Rw.isR_out (by have := HA.out.1; omega)
        have hA3 : Hid (3 = Rw.at_ t big k) := (Rw.at_no big hR0).symm
        by_cases hb : Rw.beg t k = k
        · have hC : Hid (Rw.isC t k = true) := Rw.isC_beg hb
          rw [hb] at cG
          clear hb hR0
          go_wp2_with (first
            | (go_at_call 18; refine (cO _).mono ?_; rintro e w' ⟨rfl, hw⟩; have hw2 := hw.symm; clear hw; subst hw2)
            | (go_at_call 45; refine (cG _ HAW.out).mono ?_; rintro e w' ⟨rfl, hw⟩; have hw2 := hw.symm; clear hw; subst hw2)
            | (at_builtin; refine wpList_append_own_at _ rfl (.tmp 32) (.tmp 34) 41 rfl w.heap.size 3 i0 (.int .i64 0) 1 8 Tryd.underlying41 hi hz0 hz1 hz2 rfl (by decide) _ _ _ rfl (hown.alloc _) ⟨_, 0, none⟩ 1 1 [.int .i64 (k : Int)] rfl rfl one_cell one_one (by unfold maxLen; omega) (by omega) (by have := HSZ.out; simp; omega) ?_; intro v' w1 hown' hgrow _ hat; have ha := (hap.kept hown2 hown hgrow hat); have HK1 := Lib.hid (Kept.grew (HK.out.alloc (.cells #[.int .i64 (k : Int)] 3)) hgrow (fun q hq => (hown.lt q hq).1)); have hownB := ha.1; have hap1 := ha.2; have HSZ1 := Lib.hid HK1.out.size; clear hown2 hown hgrow hat hap ha)
            | (at_builtin; refine wpList_append_own_at _ rfl (.tmp 36) (.tmp 37) 41 rfl w.heap.size 3 i0 (.int .i64 0) 1 8 Tryd.underlying41 hi hz0 hz1 hz2 rfl (by decide) _ _ _ rfl (hownB.alloc _) ⟨_, 0, none⟩ 1 1 [.int .i64 3] rfl rfl one_cell one_one (by unfold maxLen; omega) (by omega) (by have := HSZ1.out; simp; omega) ?_; intro v2 w2 hown3 hgrow _ hat; have ha := (hap1.symm.kept hown' hownB hgrow hat); have HK2 := Lib.hid (Kept.grew (HK1.out.alloc (.cells #[.int .i64 3] 3)) hgrow (fun q hq => (hownB.lt q hq).1)); have hownA := ha.1; have hap2 := ha.2.symm; clear hown' hownB hgrow hat hap1 ha))
          rw [← HM.out, ← HX1.out] at hownA
          rw [← HM.out, ← HX2.out] at hown3
          have HO1 := Lib.hid (own_at hC.out hownA)
          have HO2 := Lib.hid (own_kls hC.out hA3.out hown3)
          clear hownA hown3
          go_roundw
          case rel => exact ⟨k + 1, by omega, by go_num, HO1.out, HO2.out, hap2, HK2.out⟩
          case measure => simp [intOf] <;> omega
        · have hC : Hid (Rw.isC t k = false) := by show _ = _; unfold Rw.isC; rw [hR0, decide_eq_false hb]; rfl
          obtain ⟨y, hy⟩ : ∃ y, Rw.beg t k = y := ⟨_, rfl⟩
          have hyy : ((y : Int) == (k : Int)) = false := by rw [beq_eq_false_iff_ne]; omega
          rw [hy] at cG
          clear hb hR0 hy
          go_wp2_with (go_at_call 45; refine (cG _ HAW.out).mono ?_; rintro e w' ⟨rfl, hw⟩; have hw2 := hw.symm; clear hw; subst hw2)
          go_roundw
          case rel => exact ⟨k + 1, by omega, by go_num, by rw [Rw.cel_succ_no hC.out, HM.out, HX1.out]; exact hown, by rw [Rw.cel_succ_no hC.out, HM.out, HX2.out]; exact hown2, hap, HK.out⟩
          case measure => simp [intOf] <;> omega
      · obtain rfl : k = n + 1 := by omega
        rw [← HX1.out] at hown
        rw [← HX2.out] at hown2
        obtain ⟨A1, c1, rfl, hN1, _, _⟩ := owned_nums hown (by unfold ats; rw [List.length_map]; exact HM.out)
        obtain ⟨A2, c2, rfl, hN2, _, _⟩ := owned_nums hown2 (by unfold kls; rw [List.length_map]; exact HM.out)
        have HN1 := Lib.hid hN1
        have HN2 := Lib.hid hN2
        clear hN1 hN2 cG
        go_wp2
        refine bodyPost_ret (v := .tuple #[.slice A1 m c1, .slice A2 m c2]) (by simp [results, Tryd.results28, go_sem]) rfl ⟨HK.out, A1, c1, A2, c2, ?_, ?_, ?_⟩
        · rw [HM.out]
        · rw [HM.out]; exact HN1.out
        · rw [HM.out]; exact HN2.out
end Go.Proofs.YtclmcieegoobkaaDoor
