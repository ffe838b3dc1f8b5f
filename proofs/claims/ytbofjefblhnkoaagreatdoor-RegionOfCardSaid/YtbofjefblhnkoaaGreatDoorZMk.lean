/-
  THE CELLS OF A TEXT, of the reference.
  BEGINS AND ENDS, of the reference: edge, asked of a cell.
  ENDS, of the reference: edge, asked of a cell.
  MOTIONS BY WORDS, of the reference: w.
  MOTIONS BY WORDS, of the reference: W.
  MOTIONS BY WORDS, of the reference: e.
  MOTIONS BY WORDS, of the reference: E.
  MOTIONS BY WORDS, of the reference: b.
  MOTIONS BY WORDS, of the reference: B.
  MOTIONS BY WORDS: Move of whatever arguments; which keys they are; what the laws' loops hold.
-/
import Derived.Test.YtbofjefblhnkoaaGreatDoorZMj
import Derived.Maps.AppendAt
import Derived.Deep.RegionHeld3
import Derived.Deep.CutRange
set_option linter.unusedVariables false
namespace Go.Proofs.YtbofjefblhnkoaaGreatDoor
open Go Go.RowKit

def ats (l : List Nat) : List Int := l.map fun (i : Nat) => (i : Int)
def kls (t : List Int) (big : Bool) (l : List Nat) : List Int := l.map (Rw.at_ t big)
/-- Two slices that don't lie in one row. -/
def Apart (v u : Value) : Prop := u.ownBlock = none ∨ u.ownBlock ≠ v.ownBlock
theorem Apart.symm {v u : Value} (h : Apart v u) : Apart u v := by
  unfold Apart at *
  rcases h with h | h
  · cases hv : v.ownBlock with
    | none => exact .inl rfl
    | some k => right; rw [h]; intro e; cases e
  · exact .inr fun e => h e.symm
theorem Apart.kept {w w1 : World} {o : Obj} {base : Nat} {e e' : TypeId} {n n' s s' : Nat} {v v' u : Value} {xs ys : List Value} (h : Apart v u) (hu : w.ownsRow base e s u n xs) (hv : w.ownsRow base e' s' v n' ys) (hg : (w.alloc o).grownBy w1 v.ownBlock) (hat : v'.ownBlock = v.ownBlock ∨ v'.ownBlock = some (w.alloc o).heap.size) : w1.ownsRow base e s u n xs ∧ Apart v' u := by
  refine ⟨(hu.alloc o).kept hg h, ?_⟩
  rcases hat with hat | hat
  · unfold Apart; rw [hat]; exact h
  · unfold Apart
    cases hb : u.ownBlock with
    | none => exact .inl rfl
    | some k =>
      right
      rw [hat]
      intro e
      injection e with e
      have := (hu.lt k hb).2
      simp at e
      omega
theorem own_at {w : World} {base : Nat} {v : Value} {t : List Int} {k : Nat} (hC : Rw.isC t k = true) (h : w.ownsRow base 3 1 v ((Rw.cel t k).length + 1) ((ats (Rw.cel t k)).map (Value.int .i64) ++ [.int .i64 (k : Int)])) : w.ownsRow base 3 1 v (Rw.cel t (k + 1)).length ((ats (Rw.cel t (k + 1))).map (Value.int .i64)) := by
  rw [Rw.cel_succ_yes hC, List.length_append]
  unfold ats at *
  rw [List.map_append, List.map_append]
  exact h
theorem own_kls {w : World} {base : Nat} {v : Value} {t : List Int} {big : Bool} {k : Nat} {q : Int} (hC : Rw.isC t k = true) (hq : q = Rw.at_ t big k) (h : w.ownsRow base 3 1 v ((Rw.cel t k).length + 1) ((kls t big (Rw.cel t k)).map (Value.int .i64) ++ [.int .i64 q])) : w.ownsRow base 3 1 v (Rw.cel t (k + 1)).length ((kls t big (Rw.cel t (k + 1))).map (Value.int .i64)) := by
  rw [Rw.cel_succ_yes hC, List.length_append]
  unfold kls at *
  rw [List.map_append, List.map_append]
  subst hq
  exact h
set_option maxRecDepth 100000 in
set_option maxHeartbeats 2000000 in
theorem rcells_any (A : Option Addr) (n c : Nat) (t : List Int) (big : Bool) (w : World) (hA : Rn w A n t) (hr : Runey t) (hn : n ≤ 6000) :
    Calls Tryz.prog 107 #[.slice A n c, .bool big] w fun e w' => Kept (fun _ => False) w w' ∧ ∃ A1 c1 A2 c2, e = .returned (.tuple #[.slice A1 (Rw.cel t (n + 1)).length c1, .slice A2 (Rw.cel t (n + 1)).length c2]) ∧ Nums w' A1 (Rw.cel t (n + 1)).length (ats (Rw.cel t (n + 1))) ∧ Nums w' A2 (Rw.cel t (n + 1)).length (kls t big (Rw.cel t (n + 1))) := by
  obtain ⟨i0, hi, hz0, hz1, hz2⟩ := info_parts info_int
  have HA := Lib.hid hA
  have HR := Lib.hid hr
  clear hA hr
  go_enter Tryz.func107, Tryz.ntmps107
  go_wp2
  go_loopw [6, 7, 8] (fun v u i wr => ∃ k : Nat, k ≤ n + 1 ∧ i = .int .i64 k ∧ wr.ownsRow w.heap.size 3 1 v (Rw.cel t k).length ((ats (Rw.cel t k)).map (Value.int .i64)) ∧ wr.ownsRow w.heap.size 3 1 u (Rw.cel t k).length ((kls t big (Rw.cel t k)).map (Value.int .i64)) ∧ Apart v u ∧ Kept (fun _ => False) w wr) (fun _ _ i _ => n + 1 - (intOf i).toNat)
  case atStart => exact ⟨0, Nat.zero_le _, rfl, World.ownsRow_nil _ _ _ _, World.ownsRow_nil _ _ _ _, .inl rfl, Kept.refl _ _⟩
  case round =>
    obtain ⟨k, hk, rfl, hown, hown2, hap, hkept⟩ := hrel
    have HK := Lib.hid hkept
    have hsz := hkept.size
    have HSZ := Lib.hid hsz
    have HAW := Lib.hid (HA.out.kept hkept (fun _ _ => id))
    have hlen := Rw.cel_len t k
    clear hkept hsz
    generalize hm : (Rw.cel t k).length = m at hown hown2 hlen
    have HM := Lib.hid hm
    generalize hx1 : (ats (Rw.cel t k)).map (Value.int .i64) = xs at hown
    generalize hx2 : (kls t big (Rw.cel t k)).map (Value.int .i64) = ys at hown2
    have HX1 := Lib.hid hx1
    have HX2 := Lib.hid hx2
    clear hm hx1 hx2
    have cG := fun (W : World) (hW : Rn W A n t) (hkn : k ≤ n) => rbegin_any A n c t k W hW hkn (by omega)
    by_cases hkn : k < n
    · have cG := fun (W : World) (hW : Rn W A n t) => cG W hW (by omega)
      obtain ⟨ad, x, rfl, hx, hc⟩ := HAW.out.cell hkn
      obtain ⟨x1, x2⟩ := HR.out.at_ hx
      have HX := Lib.hid hx
      clear hx
      have d2 : ((k : Int) == (n : Int)) = false := by rw [beq_eq_false_iff_ne]; omega
      by_cases h10 : x = 10
      · subst h10
        have hR0 : Rw.isR t k = false := Rw.isR_10 HX.out
        have hA3 : Hid (3 = Rw.at_ t big k) := (Rw.at_no big hR0).symm
        by_cases hb : Rw.beg t k = k
        · have hC : Hid (Rw.isC t k = true) := Rw.isC_beg hb
          rw [hb] at cG
          clear hb hR0
          go_wp2_with (first
            | (go_at_call 106; refine (cO _).mono ?_; rintro e w' ⟨rfl, hw⟩; have hw2 := hw.symm; clear hw; subst hw2)
            | (go_at_call 36; refine (cG _ HAW.out).mono ?_; rintro e w' ⟨rfl, hw⟩; have hw2 := hw.symm; clear hw; subst hw2)
            | (at_builtin; refine wpList_append_own_at _ rfl (.tmp 32) (.tmp 34) 37 rfl w.heap.size 3 i0 (.int .i64 0) 1 8 Tryz.underlying37 hi hz0 hz1 hz2 rfl (by decide) _ _ _ rfl (hown.alloc _) ⟨_, 0, none⟩ 1 1 [.int .i64 (k : Int)] rfl rfl one_cell one_one (by unfold maxLen; omega) (by omega) (by have := HSZ.out; simp; omega) ?_; intro v' w1 hown' hgrow _ hat; have ha := (hap.kept hown2 hown hgrow hat); have HK1 := Lib.hid (Kept.grew (HK.out.alloc (.cells #[.int .i64 (k : Int)] 3)) hgrow (fun q hq => (hown.lt q hq).1)); have hownB := ha.1; have hap1 := ha.2; have HSZ1 := Lib.hid HK1.out.size; clear hown2 hown hgrow hat hap ha)
            | (at_builtin; refine wpList_append_own_at _ rfl (.tmp 36) (.tmp 37) 37 rfl w.heap.size 3 i0 (.int .i64 0) 1 8 Tryz.underlying37 hi hz0 hz1 hz2 rfl (by decide) _ _ _ rfl (hownB.alloc _) ⟨_, 0, none⟩ 1 1 [.int .i64 3] rfl rfl one_cell one_one (by unfold maxLen; omega) (by omega) (by have := HSZ1.out; simp; omega) ?_; intro v2 w2 hown3 hgrow _ hat; have ha := (hap1.symm.kept hown' hownB hgrow hat); have HK2 := Lib.hid (Kept.grew (HK1.out.alloc (.cells #[.int .i64 3] 3)) hgrow (fun q hq => (hownB.lt q hq).1)); have hownA := ha.1; have hap2 := ha.2.symm; clear hown' hownB hgrow hat hap1 ha))
          rw [← HM.out, ← HX1.out] at hownA
          rw [← HM.out, ← HX2.out] at hown3
          have HO1 := Lib.hid (own_at hC.out hownA)
          have HO2 := Lib.hid (own_kls hC.out hA3.out hown3)
          clear hownA hown3
          go_roundw
          case rel => exact ⟨k + 1, by omega, by go_num, HO1.out, HO2.out, hap2, HK2.out⟩
          case measure => simp [intOf] <;> omega
        · have hC : Hid (Rw.isC t k = false) := by show _ = _; unfold Rw.isC; rw [hR0, decide_eq_false hb]; rfl
          have hb1 : ((Rw.beg t k : Nat) == k) = false := by rw [beq_eq_false_iff_ne]; exact hb
          obtain ⟨y, hy⟩ : ∃ y, Rw.beg t k = y := ⟨_, rfl⟩
          have hyy : ((y : Int) == (k : Int)) = false := by rw [beq_eq_false_iff_ne]; omega
          rw [hy] at cG
          clear hb hR0 hb1 hy
          go_wp2_with (go_at_call 36; refine (cG _ HAW.out).mono ?_; rintro e w' ⟨rfl, hw⟩; have hw2 := hw.symm; clear hw; subst hw2)
          go_roundw
          case rel => exact ⟨k + 1, by omega, by go_num, by rw [Rw.cel_succ_no hC.out, HM.out, HX1.out]; exact hown, by rw [Rw.cel_succ_no hC.out, HM.out, HX2.out]; exact hown2, hap, HK.out⟩
          case measure => simp [intOf] <;> omega
      · have hRt : Rw.isR t k = true := Rw.isR_of HX.out h10
        have hC : Hid (Rw.isC t k = true) := Rw.isC_R hRt
        have hAt := (Rw.at_of big HX.out h10).symm
        have n2 : (x == 10) = false := by rw [beq_eq_false_iff_ne]; exact h10
        have cO := fun W => rclass_any x x1 W
        have hqr := Rw.cls_range x
        unfold Rw.clsB at hAt
        obtain ⟨q, hq⟩ : ∃ q, Rw.cls x = q := ⟨_, rfl⟩
        rw [hq] at hAt hqr
        simp only [hq] at cO
        clear hRt h10 hq
        cases big
        · have hQ : Hid (q = Rw.at_ t false k) := by show _ = _; rw [if_neg (by simp)] at hAt; exact hAt
          clear hAt
          go_wp2_with (first
            | (go_at_call 106; refine (cO _).mono ?_; rintro e w' ⟨rfl, hw⟩; have hw2 := hw.symm; clear hw; subst hw2)
            | (go_at_call 36; refine (cG _ HAW.out).mono ?_; rintro e w' ⟨rfl, hw⟩; have hw2 := hw.symm; clear hw; subst hw2)
            | (at_builtin; refine wpList_append_own_at _ rfl (.tmp 50) (.tmp 52) 37 rfl w.heap.size 3 i0 (.int .i64 0) 1 8 Tryz.underlying37 hi hz0 hz1 hz2 rfl (by decide) _ _ _ rfl (hown.alloc _) ⟨_, 0, none⟩ 1 1 [.int .i64 (k : Int)] rfl rfl one_cell one_one (by unfold maxLen; omega) (by omega) (by have := HSZ.out; simp; omega) ?_; intro v' w1 hown' hgrow _ hat; have ha := (hap.kept hown2 hown hgrow hat); have HK1 := Lib.hid (Kept.grew (HK.out.alloc (.cells #[.int .i64 (k : Int)] 3)) hgrow (fun q hq => (hown.lt q hq).1)); have hownB := ha.1; have hap1 := ha.2; have HSZ1 := Lib.hid HK1.out.size; clear hown2 hown hgrow hat hap ha)
            | (at_builtin; refine wpList_append_own_at _ rfl (.tmp 54) (.tmp 56) 37 rfl w.heap.size 3 i0 (.int .i64 0) 1 8 Tryz.underlying37 hi hz0 hz1 hz2 rfl (by decide) _ _ _ rfl (hownB.alloc _) ⟨_, 0, none⟩ 1 1 [.int .i64 q] rfl rfl one_cell one_one (by unfold maxLen; omega) (by omega) (by have := HSZ1.out; simp; omega) ?_; intro v2 w2 hown3 hgrow _ hat; have ha := (hap1.symm.kept hown' hownB hgrow hat); have HK2 := Lib.hid (Kept.grew (HK1.out.alloc (.cells #[.int .i64 q] 3)) hgrow (fun q hq => (hownB.lt q hq).1)); have hownA := ha.1; have hap2 := ha.2.symm; clear hown' hownB hgrow hat hap1 ha))
          rw [← HM.out, ← HX1.out] at hownA
          rw [← HM.out, ← HX2.out] at hown3
          have HO1 := Lib.hid (own_at hC.out hownA)
          have HO2 := Lib.hid (own_kls hC.out hQ.out hown3)
          clear hownA hown3
          go_roundw
          case rel => exact ⟨k + 1, by omega, by go_num, HO1.out, HO2.out, hap2, HK2.out⟩
          case measure => simp [intOf] <;> omega
        · by_cases hq2 : q = 2
          · subst hq2
            have hQ : Hid (1 = Rw.at_ t true k) := by show _ = _; rw [if_pos ⟨rfl, rfl⟩] at hAt; exact hAt
            clear hAt
            go_wp2_with (first
              | (go_at_call 106; refine (cO _).mono ?_; rintro e w' ⟨rfl, hw⟩; have hw2 := hw.symm; clear hw; subst hw2)
              | (go_at_call 36; refine (cG _ HAW.out).mono ?_; rintro e w' ⟨rfl, hw⟩; have hw2 := hw.symm; clear hw; subst hw2)
              | (at_builtin; refine wpList_append_own_at _ rfl (.tmp 50) (.tmp 52) 37 rfl w.heap.size 3 i0 (.int .i64 0) 1 8 Tryz.underlying37 hi hz0 hz1 hz2 rfl (by decide) _ _ _ rfl (hown.alloc _) ⟨_, 0, none⟩ 1 1 [.int .i64 (k : Int)] rfl rfl one_cell one_one (by unfold maxLen; omega) (by omega) (by have := HSZ.out; simp; omega) ?_; intro v' w1 hown' hgrow _ hat; have ha := (hap.kept hown2 hown hgrow hat); have HK1 := Lib.hid (Kept.grew (HK.out.alloc (.cells #[.int .i64 (k : Int)] 3)) hgrow (fun q hq => (hown.lt q hq).1)); have hownB := ha.1; have hap1 := ha.2; have HSZ1 := Lib.hid HK1.out.size; clear hown2 hown hgrow hat hap ha)
              | (at_builtin; refine wpList_append_own_at _ rfl (.tmp 54) (.tmp 56) 37 rfl w.heap.size 3 i0 (.int .i64 0) 1 8 Tryz.underlying37 hi hz0 hz1 hz2 rfl (by decide) _ _ _ rfl (hownB.alloc _) ⟨_, 0, none⟩ 1 1 [.int .i64 1] rfl rfl one_cell one_one (by unfold maxLen; omega) (by omega) (by have := HSZ1.out; simp; omega) ?_; intro v2 w2 hown3 hgrow _ hat; have ha := (hap1.symm.kept hown' hownB hgrow hat); have HK2 := Lib.hid (Kept.grew (HK1.out.alloc (.cells #[.int .i64 1] 3)) hgrow (fun q hq => (hownB.lt q hq).1)); have hownA := ha.1; have hap2 := ha.2.symm; clear hown' hownB hgrow hat hap1 ha))
            rw [← HM.out, ← HX1.out] at hownA
            rw [← HM.out, ← HX2.out] at hown3
            have HO1 := Lib.hid (own_at hC.out hownA)
            have HO2 := Lib.hid (own_kls hC.out hQ.out hown3)
            clear hownA hown3
            go_roundw
            case rel => exact ⟨k + 1, by omega, by go_num, HO1.out, HO2.out, hap2, HK2.out⟩
            case measure => simp [intOf] <;> omega
          · have hQ : Hid (q = Rw.at_ t true k) := by show _ = _; rw [if_neg (by omega)] at hAt; exact hAt
            have d3 : (q == 2) = false := by rw [beq_eq_false_iff_ne]; exact hq2
            clear hAt hq2
            go_wp2_with (first
              | (go_at_call 106; refine (cO _).mono ?_; rintro e w' ⟨rfl, hw⟩; have hw2 := hw.symm; clear hw; subst hw2)
              | (go_at_call 36; refine (cG _ HAW.out).mono ?_; rintro e w' ⟨rfl, hw⟩; have hw2 := hw.symm; clear hw; subst hw2)
              | (at_builtin; refine wpList_append_own_at _ rfl (.tmp 50) (.tmp 52) 37 rfl w.heap.size 3 i0 (.int .i64 0) 1 8 Tryz.underlying37 hi hz0 hz1 hz2 rfl (by decide) _ _ _ rfl (hown.alloc _) ⟨_, 0, none⟩ 1 1 [.int .i64 (k : Int)] rfl rfl one_cell one_one (by unfold maxLen; omega) (by omega) (by have := HSZ.out; simp; omega) ?_; intro v' w1 hown' hgrow _ hat; have ha := (hap.kept hown2 hown hgrow hat); have HK1 := Lib.hid (Kept.grew (HK.out.alloc (.cells #[.int .i64 (k : Int)] 3)) hgrow (fun q hq => (hown.lt q hq).1)); have hownB := ha.1; have hap1 := ha.2; have HSZ1 := Lib.hid HK1.out.size; clear hown2 hown hgrow hat hap ha)
              | (at_builtin; refine wpList_append_own_at _ rfl (.tmp 54) (.tmp 56) 37 rfl w.heap.size 3 i0 (.int .i64 0) 1 8 Tryz.underlying37 hi hz0 hz1 hz2 rfl (by decide) _ _ _ rfl (hownB.alloc _) ⟨_, 0, none⟩ 1 1 [.int .i64 q] rfl rfl one_cell one_one (by unfold maxLen; omega) (by omega) (by have := HSZ1.out; simp; omega) ?_; intro v2 w2 hown3 hgrow _ hat; have ha := (hap1.symm.kept hown' hownB hgrow hat); have HK2 := Lib.hid (Kept.grew (HK1.out.alloc (.cells #[.int .i64 q] 3)) hgrow (fun q hq => (hownB.lt q hq).1)); have hownA := ha.1; have hap2 := ha.2.symm; clear hown' hownB hgrow hat hap1 ha))
            rw [← HM.out, ← HX1.out] at hownA
            rw [← HM.out, ← HX2.out] at hown3
            have HO1 := Lib.hid (own_at hC.out hownA)
            have HO2 := Lib.hid (own_kls hC.out hQ.out hown3)
            clear hownA hown3
            go_roundw
            case rel => exact ⟨k + 1, by omega, by go_num, HO1.out, HO2.out, hap2, HK2.out⟩
            case measure => simp [intOf] <;> omega
    · by_cases hkn1 : k = n
      · subst hkn1
        have cG := fun (W : World) (hW : Rn W A k t) => cG W hW (Nat.le_refl _)
        have hR0 : Rw.isR t k = false := Rw.isR_out (by have := HA.out.1; omega)
        have hA3 : Hid (3 = Rw.at_ t big k) := (Rw.at_no big hR0).symm
        by_cases hb : Rw.beg t k = k
        · have hC : Hid (Rw.isC t k = true) := Rw.isC_beg hb
          rw [hb] at cG
          clear hb hR0
          go_wp2_with (first
            | (go_at_call 106; refine (cO _).mono ?_; rintro e w' ⟨rfl, hw⟩; have hw2 := hw.symm; clear hw; subst hw2)
            | (go_at_call 36; refine (cG _ HAW.out).mono ?_; rintro e w' ⟨rfl, hw⟩; have hw2 := hw.symm; clear hw; subst hw2)
            | (at_builtin; refine wpList_append_own_at _ rfl (.tmp 32) (.tmp 34) 37 rfl w.heap.size 3 i0 (.int .i64 0) 1 8 Tryz.underlying37 hi hz0 hz1 hz2 rfl (by decide) _ _ _ rfl (hown.alloc _) ⟨_, 0, none⟩ 1 1 [.int .i64 (k : Int)] rfl rfl one_cell one_one (by unfold maxLen; omega) (by omega) (by have := HSZ.out; simp; omega) ?_; intro v' w1 hown' hgrow _ hat; have ha := (hap.kept hown2 hown hgrow hat); have HK1 := Lib.hid (Kept.grew (HK.out.alloc (.cells #[.int .i64 (k : Int)] 3)) hgrow (fun q hq => (hown.lt q hq).1)); have hownB := ha.1; have hap1 := ha.2; have HSZ1 := Lib.hid HK1.out.size; clear hown2 hown hgrow hat hap ha)
            | (at_builtin; refine wpList_append_own_at _ rfl (.tmp 36) (.tmp 37) 37 rfl w.heap.size 3 i0 (.int .i64 0) 1 8 Tryz.underlying37 hi hz0 hz1 hz2 rfl (by decide) _ _ _ rfl (hownB.alloc _) ⟨_, 0, none⟩ 1 1 [.int .i64 3] rfl rfl one_cell one_one (by unfold maxLen; omega) (by omega) (by have := HSZ1.out; simp; omega) ?_; intro v2 w2 hown3 hgrow _ hat; have ha := (hap1.symm.kept hown' hownB hgrow hat); have HK2 := Lib.hid (Kept.grew (HK1.out.alloc (.cells #[.int .i64 3] 3)) hgrow (fun q hq => (hownB.lt q hq).1)); have hownA := ha.1; have hap2 := ha.2.symm; clear hown' hownB hgrow hat hap1 ha))
          rw [← HM.out, ← HX1.out] at hownA
          rw [← HM.out, ← HX2.out] at hown3
          have HO1 := Lib.hid (own_at hC.out hownA)
          have HO2 := Lib.hid (own_kls hC.out hA3.out hown3)
          clear hownA hown3
          go_roundw
          case rel => exact ⟨k + 1, by omega, by go_num, HO1.out, HO2.out, hap2, HK2.out⟩
          case measure => simp [intOf] <;> omega
        · have hC : Hid (Rw.isC t k = false) := by show _ = _; unfold Rw.isC; rw [hR0, decide_eq_false hb]; rfl
          obtain ⟨y, hy⟩ : ∃ y, Rw.beg t k = y := ⟨_, rfl⟩
          have hyy : ((y : Int) == (k : Int)) = false := by rw [beq_eq_false_iff_ne]; omega
          rw [hy] at cG
          clear hb hR0 hy
          go_wp2_with (go_at_call 36; refine (cG _ HAW.out).mono ?_; rintro e w' ⟨rfl, hw⟩; have hw2 := hw.symm; clear hw; subst hw2)
          go_roundw
          case rel => exact ⟨k + 1, by omega, by go_num, by rw [Rw.cel_succ_no hC.out, HM.out, HX1.out]; exact hown, by rw [Rw.cel_succ_no hC.out, HM.out, HX2.out]; exact hown2, hap, HK.out⟩
          case measure => simp [intOf] <;> omega
      · obtain rfl : k = n + 1 := by omega
        rw [← HX1.out] at hown
        rw [← HX2.out] at hown2
        obtain ⟨A1, c1, rfl, hN1, _, _⟩ := owned_nums hown (by unfold ats; rw [List.length_map]; exact HM.out)
        obtain ⟨A2, c2, rfl, hN2, _, _⟩ := owned_nums hown2 (by unfold kls; rw [List.length_map]; exact HM.out)
        have HN1 := Lib.hid hN1
        have HN2 := Lib.hid hN2
        clear hN1 hN2 cG
        go_wp2
        refine bodyPost_ret (v := .tuple #[.slice A1 m c1, .slice A2 m c2]) (by simp [results, Tryz.results107, go_sem]) rfl ⟨HK.out, A1, c1, A2, c2, ?_, ?_, ?_⟩
        · rw [HM.out]
        · rw [HM.out]; exact HN1.out
        · rw [HM.out]; exact HN2.out
end Go.Proofs.YtbofjefblhnkoaaGreatDoor
namespace Go.Proofs.YtbofjefblhnkoaaGreatDoor
open Go Go.RowKit

theorem ats_cell {w : World} {A : Option Addr} {m k i : Nat} {l : List Nat} (h : Nums w A m (ats l)) (hk : l[k]? = some i) : ∃ ad, A = some ad ∧ k < m ∧ w.cell? (ad.add k) = some (.int .i64 (i : Int)) := by
  have hx : (ats l)[k]? = some (i : Int) := by unfold ats; rw [List.getElem?_map, hk]; rfl
  obtain ⟨ad, e, hc⟩ := h.2 k _ hx
  refine ⟨ad, e, ?_, hc⟩
  have := (List.getElem?_eq_some_iff.1 hx).1
  rw [h.1] at this
  exact this
theorem kls_cell {w : World} {A : Option Addr} {m k i : Nat} {t : List Int} {big : Bool} {l : List Nat} (h : Nums w A m (kls t big l)) (hk : l[k]? = some i) : ∃ ad, A = some ad ∧ w.cell? (ad.add k) = some (.int .i64 (Rw.at_ t big i)) := by
  have hx : (kls t big l)[k]? = some (Rw.at_ t big i) := by unfold kls; rw [List.getElem?_map, hk]; rfl
  exact h.2 k _ hx
set_option maxRecDepth 100000 in
set_option maxHeartbeats 1000000 in
theorem edge_b (A1 A2 : Option Addr) (m c1 c2 n k i : Nat) (t : List Int) (big : Bool) (w : World) (hk : (Rw.cel t (n + 1))[k]? = some i) (h1 : Nums w A1 m (ats (Rw.cel t (n + 1)))) (h2 : Nums w A2 m (kls t big (Rw.cel t (n + 1)))) (hm : m ≤ 6001) (hn : n ≤ 6000) :
    Calls Tryz.prog 108 #[.slice A1 m c1, .slice A2 m c2, .int .i64 k, .int .i64 (-1)] w fun e w' => e = .returned (.bool (Rw.isB t big i)) ∧ ∃ q, w' = w.drewN q := by
  obtain ⟨a1, rfl, hkm, f1⟩ := ats_cell h1 hk
  obtain ⟨a2, rfl, f2⟩ := kls_cell h2 hk
  have hc := Rw.cel_C hk
  have hi := Rw.cel_lt_n hk
  have hlen := Rw.cel_len t (n + 1)
  obtain ⟨q, hq⟩ : ∃ q, Rw.at_ t big i = q := ⟨_, rfl⟩
  rw [hq] at f2
  obtain ⟨V, hV⟩ : ∃ V, Rw.isB t big i = V := ⟨_, rfl⟩
  rw [hV]
  have H1 := Lib.hid h1
  have H2 := Lib.hid h2
  have HK := Lib.hid hk
  have HV := Lib.hid hV
  clear h1 h2 hk hV
  by_cases q0 : q = 0
  · have hR : Hid (V = false) := by show _ = _; rw [← HV.out]; exact Rw.isB_0 (hq.trans q0)
    subst q0
    clear hq hc
    go_enter Tryz.func108, Tryz.ntmps108
    go_wp2
    go_ret
    rw [hR.out]
    exact ⟨rfl, 0, rfl⟩
  by_cases q3 : q = 3
  · have hR : Hid (V = true) := by show _ = _; rw [← HV.out]; exact Rw.isB_3 hc (hq.trans q3)
    subst q3
    clear hq hc q0
    go_enter Tryz.func108, Tryz.ntmps108
    go_wp2
    go_ret
    rw [hR.out]
    exact ⟨rfl, 0, rfl⟩
  have e0 : (q == 0) = false := by rw [beq_eq_false_iff_ne]; exact q0
  have e3 : (q == 3) = false := by rw [beq_eq_false_iff_ne]; exact q3
  have hq0 : Hid (Rw.at_ t big i ≠ 0) := by show _ ≠ _; rw [hq]; exact q0
  have hq3 : Hid (Rw.at_ t big i ≠ 3) := by show _ ≠ _; rw [hq]; exact q3
  have HQ := Lib.hid hq
  clear q0 q3 hq hc
  rcases Nat.eq_zero_or_pos k with hk0 | hk0
  · subst hk0
    have f1' : w.cell? a1 = some (.int .i64 (i : Int)) := by simpa [Addr.add] using f1
    have f2' : w.cell? a2 = some (.int .i64 q) := by simpa [Addr.add] using f2
    have hR : Hid (V = true) := by show _ = _; rw [← HV.out]; exact Rw.edgeB_first HK.out hq0.out
    go_enter Tryz.func108, Tryz.ntmps108
    go_wp2
    go_quiet (fail)
    go_wp2
    go_ret
    rw [hR.out]
    exact ⟨rfl, _, rfl⟩
  · obtain ⟨k', rfl⟩ : ∃ k', k = k' + 1 := ⟨k - 1, by omega⟩
    rw [addr_far _ _ (by omega)] at f1 f2
    have hkl : k' < (Rw.cel t (n + 1)).length := by have := (List.getElem?_eq_some_iff.1 HK.out).1; omega
    obtain ⟨j, hj⟩ : ∃ j, (Rw.cel t (n + 1))[k']? = some j := ⟨_, List.getElem?_eq_getElem hkl⟩
    have hji := Rw.cel_lt hj HK.out (by omega)
    obtain ⟨_, e1, hkm', f3⟩ := ats_cell H1.out hj
    injection e1 with e1
    subst e1
    obtain ⟨_, e2, f4⟩ := kls_cell H2.out hj
    injection e2 with e2
    subst e2
    obtain ⟨r, hr⟩ : ∃ r, Rw.at_ t big j = r := ⟨_, rfl⟩
    rw [hr] at f4
    have HJ := Lib.hid hj
    have HR := Lib.hid hr
    have hn1 : ((k' + 1 : Nat) : Int) + -1 = (k' : Int) := by omega
    have hn2 : (k' : Int) + 1 + -1 = (k' : Int) := by omega
    have b1 : decide ((k' : Int) < 0) = false := decide_eq_false (by omega)
    have b2 : decide (m ≤ k') = false := decide_eq_false (by omega)
    have x1 : (0 : Int) ≤ (k' : Int) + 1 := by omega
    have x2 : (k' : Int) + 1 < (m : Int) := by omega
    have x3 : ((k' : Int) + 1).toNat = k' + 1 := by omega
    clear hj hr hkl
    by_cases hne : j + 1 = i
    · subst hne
      have d1 : ((j : Int) != ((j + 1 : Nat) : Int) + -1) = false := by simp; omega
      have d2 : ((j : Int) != (j : Int) + 1 + -1) = false := by simp; omega
      have d3 : IntKind.i64.wrap ((j : Int) + 1 + -1) = (j : Int) := by rw [IntWalk.i64_in _ ⟨by omega, by omega⟩]; omega
      have hval : Hid (V = (r != q)) := by show _ = _; rw [← HV.out, Rw.edgeB_near HK.out HJ.out hq0.out hq3.out, HR.out, HQ.out]
      by_cases hrq : r = q
      · subst hrq
        have hR : Hid (V = false) := by show _ = _; rw [hval.out]; simp
        go_enter Tryz.func108, Tryz.ntmps108
        go_wp2
        go_quiet (fail)
        go_wp2
        go_ret
        rw [hR.out]
        exact ⟨rfl, _, rfl⟩
      · have r1 : (r != q) = true := by rw [bne_iff_ne]; exact hrq
        have hR : Hid (V = true) := by show _ = _; rw [hval.out]; exact r1
        clear hrq
        go_enter Tryz.func108, Tryz.ntmps108
        go_wp2
        go_quiet (fail)
        go_wp2
        go_ret
        rw [hR.out]
        exact ⟨rfl, _, rfl⟩
    · have hR : Hid (V = true) := by show _ = _; rw [← HV.out]; exact Rw.edgeB_far HK.out HJ.out hne hq0.out hq3.out
      obtain ⟨i', rfl⟩ : ∃ i', i = i' + 1 := ⟨i - 1, by omega⟩
      have d1 : ((j : Int) != ((i' + 1 : Nat) : Int) + -1) = true := by rw [bne_iff_ne]; omega
      have d2 : ((j : Int) != (i' : Int) + 1 + -1) = true := by rw [bne_iff_ne]; omega
      have d4 : ((j : Int) != (i' : Int)) = true := by rw [bne_iff_ne]; omega
      have d5 : (j != i') = true := by rw [bne_iff_ne]; omega
      have d3 : IntKind.i64.wrap ((i' : Int) + 1 + -1) = (i' : Int) := by rw [IntWalk.i64_in _ ⟨by omega, by omega⟩]; omega
      clear hne
      go_enter Tryz.func108, Tryz.ntmps108
      go_wp2
      go_quiet (fail)
      go_wp2
      go_ret
      rw [hR.out]
      exact ⟨rfl, _, rfl⟩
end Go.Proofs.YtbofjefblhnkoaaGreatDoor
namespace Go.Proofs.YtbofjefblhnkoaaGreatDoor
open Go Go.RowKit

set_option maxRecDepth 100000 in
set_option maxHeartbeats 1000000 in
theorem edge_e (A1 A2 : Option Addr) (m c1 c2 k i : Nat) (t : List Int) (big : Bool) (w : World) (hk : (Rw.cel t (t.length + 1))[k]? = some i) (h1 : Nums w A1 m (ats (Rw.cel t (t.length + 1)))) (h2 : Nums w A2 m (kls t big (Rw.cel t (t.length + 1)))) (hm : m ≤ 6001) (hn : t.length ≤ 6000) :
    Calls Tryz.prog 108 #[.slice A1 m c1, .slice A2 m c2, .int .i64 k, .int .i64 1] w fun e w' => e = .returned (.bool (Rw.isE t big i)) ∧ ∃ q, w' = w.drewN q := by
  obtain ⟨a1, rfl, hkm, f1⟩ := ats_cell h1 hk
  obtain ⟨a2, rfl, f2⟩ := kls_cell h2 hk
  have hc := Rw.cel_C hk
  have hi := Rw.cel_lt_n hk
  have hlen := Rw.cel_len t (t.length + 1)
  obtain ⟨q, hq⟩ : ∃ q, Rw.at_ t big i = q := ⟨_, rfl⟩
  rw [hq] at f2
  obtain ⟨V, hV⟩ : ∃ V, Rw.isE t big i = V := ⟨_, rfl⟩
  rw [hV]
  have H1 := Lib.hid h1
  have H2 := Lib.hid h2
  have HK := Lib.hid hk
  have HV := Lib.hid hV
  clear h1 h2 hk hV
  by_cases q0 : q = 0
  · have hR : Hid (V = false) := by show _ = _; rw [← HV.out]; exact Rw.isE_0 (hq.trans q0)
    subst q0
    clear hq hc
    go_enter Tryz.func108, Tryz.ntmps108
    go_wp2
    go_ret
    rw [hR.out]
    exact ⟨rfl, 0, rfl⟩
  by_cases q3 : q = 3
  · have hR : Hid (V = true) := by show _ = _; rw [← HV.out]; exact Rw.isE_3 hc (hq.trans q3)
    subst q3
    clear hq hc q0
    go_enter Tryz.func108, Tryz.ntmps108
    go_wp2
    go_ret
    rw [hR.out]
    exact ⟨rfl, 0, rfl⟩
  have e0 : (q == 0) = false := by rw [beq_eq_false_iff_ne]; exact q0
  have e3 : (q == 3) = false := by rw [beq_eq_false_iff_ne]; exact q3
  have hq0 : Hid (Rw.at_ t big i ≠ 0) := by show _ ≠ _; rw [hq]; exact q0
  have hq3 : Hid (Rw.at_ t big i ≠ 3) := by show _ ≠ _; rw [hq]; exact q3
  have HQ := Lib.hid hq
  clear q0 q3 hq hc
  have hall : (Rw.cel t (t.length + 1)).length = m := by have := H1.out.1; unfold ats at this; simpa using this
  have f1' : w.cell? (a1.add k) = some (.int .i64 (i : Int)) := f1
  have g1 : k = 0 → w.cell? a1 = some (.int .i64 (i : Int)) := fun h => by subst h; simpa [Addr.add] using f1
  clear f1'
  by_cases hkm1 : k + 1 < m
  · obtain ⟨j, hj⟩ : ∃ j, (Rw.cel t (t.length + 1))[k + 1]? = some j := ⟨_, List.getElem?_eq_getElem (by omega)⟩
    have hji := Rw.cel_lt HK.out hj (by omega)
    have hjn := Rw.cel_lt_n hj
    obtain ⟨_, e1, hkm', f3⟩ := ats_cell H1.out hj
    injection e1 with e1
    subst e1
    obtain ⟨_, e2, f4⟩ := kls_cell H2.out hj
    injection e2 with e2
    subst e2
    rw [addr_far _ _ (by omega)] at f3 f4
    obtain ⟨r, hr⟩ : ∃ r, Rw.at_ t big j = r := ⟨_, rfl⟩
    rw [hr] at f4
    have HJ := Lib.hid hj
    have HR := Lib.hid hr
    have b1 : decide ((k : Int) + 1 < 0) = false := decide_eq_false (by omega)
    have b2 : decide ((m : Int) ≤ (k : Int) + 1) = false := decide_eq_false (by omega)
    have b3 : decide (m ≤ k + 1) = false := decide_eq_false (by omega)
    have x1 : (0 : Int) ≤ (k : Int) + 1 := by omega
    have x2 : (k : Int) + 1 < (m : Int) := by omega
    have x3 : ((k : Int) + 1).toNat = k + 1 := by omega
    have x4 : (0 : Int) ≤ (k : Int) := by omega
    have x5 : (k : Int) < (m : Int) := by omega
    have d3 : IntKind.i64.wrap ((i : Int) + 1) = (i : Int) + 1 := IntWalk.i64_in _ ⟨by omega, by omega⟩
    have d4 : IntKind.i64.wrap ((k : Int) + 1) = (k : Int) + 1 := IntWalk.i64_in _ ⟨by omega, by omega⟩
    clear hj hr g1 hall
    by_cases hne : j = i + 1
    · have d1 : ((j : Int) != (i : Int) + 1) = false := by rw [bne_eq_false_iff_eq]; omega
      have hval : Hid (V = (r != q)) := by
        show _ = _
        rw [← HV.out, Rw.edgeE_near HK.out hq0.out hq3.out, HQ.out, ← HR.out, hne]
      clear hne
      by_cases hrq : r = q
      · subst hrq
        have hR : Hid (V = false) := by show _ = _; rw [hval.out]; simp
        go_enter Tryz.func108, Tryz.ntmps108
        go_wp2
        go_quiet (fail)
        go_wp2
        go_ret
        rw [hR.out]
        exact ⟨rfl, _, rfl⟩
      · have r1 : (r != q) = true := by rw [bne_iff_ne]; exact hrq
        have hR : Hid (V = true) := by show _ = _; rw [hval.out]; exact r1
        clear hrq
        go_enter Tryz.func108, Tryz.ntmps108
        go_wp2
        go_quiet (fail)
        go_wp2
        go_ret
        rw [hR.out]
        exact ⟨rfl, _, rfl⟩
    · have hR : Hid (V = true) := by show _ = _; rw [← HV.out]; exact Rw.edgeE_far HK.out HJ.out hne hq0.out
      have d1 : ((j : Int) != (i : Int) + 1) = true := by rw [bne_iff_ne]; omega
      clear hne
      go_enter Tryz.func108, Tryz.ntmps108
      go_wp2
      go_quiet (fail)
      go_wp2
      go_ret
      rw [hR.out]
      exact ⟨rfl, _, rfl⟩
  · have hR : Hid (V = true) := by show _ = _; rw [← HV.out]; exact Rw.edgeE_end HK.out (by omega) hq0.out
    have b1 : decide ((k : Int) + 1 < 0) = false := decide_eq_false (by omega)
    have b2 : decide ((m : Int) ≤ (k : Int) + 1) = true := decide_eq_true (by omega)
    have b3 : decide (m ≤ k + 1) = true := decide_eq_true (by omega)
    clear hall g1 hkm1
    go_enter Tryz.func108, Tryz.ntmps108
    go_wp2
    go_quiet (fail)
    go_wp2
    go_ret
    rw [hR.out]
    exact ⟨rfl, _, rfl⟩
end Go.Proofs.YtbofjefblhnkoaaGreatDoor
namespace Go.Proofs.YtbofjefblhnkoaaGreatDoor
open Go Go.RowKit

theorem Rw.its_len (f : Nat → Nat) : ∀ (c x : Nat), Rw.its f (c + 1) x = Rw.its f c (f x) := fun _ _ => rfl
/-- The stop found, as the reference keeps it: -1 for none. -/
def Rw.fnd1 (o : Option Nat) : Int := match o with | none => -1 | some x => (x : Int)
theorem Rw.nx_fold (t : List Int) (big e : Bool) (h : Nat) : Rw.nx (Rw.stp t big e) (Rw.lst t) h = (((Rw.cel t (t.length + 1)).drop 0).find? (fun a => (if e then Rw.isE t big a else Rw.isB t big a) && decide (h < a))).getD (Rw.lst t) := by
  unfold Rw.nx Rw.stp
  rw [List.find?_filter, List.drop_zero]
  congr 2
  funext a
  simp
theorem Rw.pv_fold (t : List Int) (big : Bool) (h : Nat) : Rw.pv (Rw.stp t big false) h = ((((Rw.cel t (t.length + 1)).take (Rw.cel t (t.length + 1)).length).filter (fun a => Rw.isB t big a && decide (a < h))).getLast?).getD 0 := by
  unfold Rw.pv Rw.stp
  rw [List.filter_filter, List.take_length]
  congr 3
  funext a
  simp [Bool.and_comm]
theorem Rw.find_skip {L : List Nat} {j o : Nat} {P : Nat → Bool} (ho : L[j]? = some o) (hP : P o = false) : (L.drop j).find? P = (L.drop (j + 1)).find? P := by
  obtain ⟨hl, e⟩ := List.getElem?_eq_some_iff.1 ho
  rw [List.drop_eq_getElem_cons hl, e, List.find?_cons_of_neg (by rw [hP]; decide)]
theorem Rw.find_hit {L : List Nat} {j o : Nat} {P : Nat → Bool} (ho : L[j]? = some o) (hP : P o = true) : (L.drop j).find? P = some o := by
  obtain ⟨hl, e⟩ := List.getElem?_eq_some_iff.1 ho
  rw [List.drop_eq_getElem_cons hl, e, List.find?_cons_of_pos hP]
theorem Rw.last_skip {L : List Nat} {j o : Nat} {P : Nat → Bool} (ho : L[j]? = some o) (hP : P o = false) : ((L.take (j + 1)).filter P).getLast? = ((L.take j).filter P).getLast? := by
  rw [List.take_add_one, ho, List.filter_append]
  simp [hP]
theorem Rw.last_hit {L : List Nat} {j o : Nat} {P : Nat → Bool} (ho : L[j]? = some o) (hP : P o = true) : ((L.take (j + 1)).filter P).getLast? = some o := by
  rw [List.take_add_one, ho, List.filter_append]
  simp [hP]
theorem Rw.nx_le (t : List Int) (big e : Bool) (h : Nat) : Rw.nx (Rw.stp t big e) (Rw.lst t) h ≤ t.length := by
  have hl : Rw.lst t ≤ t.length := by
    obtain ⟨m, hm⟩ := Rw.cel_pos t t.length
    have := Rw.cel_lt_n (Rw.lst_at t m hm)
    omega
  unfold Rw.nx
  cases hx : (Rw.stp t big e).find? (fun a => decide (h < a)) with
  | none => exact hl
  | some y => exact Nat.le_trans (Rw.stp_le t big e y (List.mem_of_find?_eq_some hx)) hl
theorem Rw.pv_le (t : List Int) (big : Bool) (h : Nat) : Rw.pv (Rw.stp t big false) h ≤ t.length := by
  have hl : Rw.lst t ≤ t.length := by
    obtain ⟨m, hm⟩ := Rw.cel_pos t t.length
    have := Rw.cel_lt_n (Rw.lst_at t m hm)
    omega
  unfold Rw.pv
  cases hx : ((Rw.stp t big false).filter (fun a => decide (a < h))).getLast? with
  | none => exact Nat.zero_le _
  | some y => exact Nat.le_trans (Rw.stp_le t big false y (List.mem_filter.1 (List.mem_of_getLast? hx)).1) hl
set_option maxRecDepth 100000 in
set_option maxHeartbeats 2000000 in
theorem rw119_any (A : Option Addr) (cap k cnt : Nat) (t : List Int) (w : World) (hA : Rn w A t.length t) (hr : Runey t) (hn : t.length ≤ 6000) (hk : k ≤ t.length) (hc : cnt ≤ 999) :
    Calls Tryz.prog 69 #[.slice A t.length cap, .int .i64 k, .int .i64 119, .int .i64 cnt] w fun e w' => Kept (fun _ => False) w w' ∧ e = .returned (ansW (Rw.wmv t k 119 cnt)) := by
  have cC := rcells_any A t.length cap t false w hA hr hn
  obtain ⟨m, hm⟩ := Rw.cel_pos t t.length
  have hw := Rw.w119 t k cnt
  unfold Rw.wmv
  rw [hw]
  obtain ⟨f, hf⟩ : ∃ f, f = Rw.nx (Rw.stp t false false) (Rw.lst t) := ⟨_, rfl⟩
  rw [← hf]
  obtain ⟨D, hD⟩ : ∃ D : Option Int, (if Rw.its f cnt k = k then none else some ((Rw.its f cnt k : Nat) : Int)) = D := ⟨_, rfl⟩
  rw [hD]
  have hfl : ∀ h, f h ≤ t.length := fun h => by rw [hf]; exact Rw.nx_le t false false h
  have hff : ∀ h, f h = (((Rw.cel t (t.length + 1)).drop 0).find? (fun a => Rw.isB t false a && decide (h < a))).getD (Rw.lst t) := fun h => by rw [hf, Rw.nx_fold]; simp
  have hlast := Rw.lst_at t m hm
  have hmn : m + 1 ≤ 6001 := by have := Rw.cel_len t (t.length + 1); omega
  rw [hm] at cC
  have HD := Lib.hid hD
  have HF := Lib.hid hff
  have HFL := Lib.hid hfl
  have HM := Lib.hid hm
  have HLA := Lib.hid hlast
  clear hD hff hfl hf hw hm hlast hA hr
  go_enter Tryz.func69, Tryz.ntmps69
  go_wp2_with (go_at_call 107; refine cC.mono ?_; rintro e w1 ⟨hk1, A1, c1, A2, c2, rfl, hN1, hN2⟩; have HK := Lib.hid hk1; have HN1 := Lib.hid hN1; have HN2 := Lib.hid hN2; clear hk1 hN1 hN2 cC)
  go_loopw [13, 14] (fun v u wr => ∃ h c q : Nat, v = .int .i64 h ∧ u = .int .i64 c ∧ c ≤ cnt ∧ h ≤ t.length ∧ Rw.its f (cnt - c) h = Rw.its f cnt k ∧ wr = w1.drewN q) (fun _ u _ => cnt - (intOf u).toNat)
  case atStart => exact ⟨k, 0, 0, rfl, rfl, Nat.zero_le _, hk, rfl, rfl⟩
  case round =>
    obtain ⟨h, c, q, rfl, rfl, hcc, hh, hits, rfl⟩ := hrel
    have HI := Lib.hid hits
    clear hits
    by_cases hlt : c < cnt
    · have hfh := HFL.out h
      have hfd : Hid (f h = (((Rw.cel t (t.length + 1)).drop 0).find? (fun a => Rw.isB t false a && decide (h < a))).getD (Rw.lst t)) := HF.out h
      have hstep : Hid (Rw.its f (cnt - (c + 1)) (f h) = Rw.its f cnt k) := by
        show _ = _
        rw [← HI.out, show cnt - c = (cnt - (c + 1)) + 1 by omega]
        rfl
      go_wp2
      go_loopw [15, 17] (fun v u wr => ∃ kk q : Nat, kk ≤ m + 1 ∧ u = .int .i64 ((kk : Int) - 1) ∧ v = .int .i64 (Rw.fnd1 (((Rw.cel t (t.length + 1)).drop kk).find? (fun a => Rw.isB t false a && decide (h < a)))) ∧ wr = w1.drewN q) (fun _ u _ => ((intOf u) + 1).toNat)
      case atStart =>
        refine ⟨m + 1, q, Nat.le_refl _, by simp, ?_, rfl⟩
        rw [List.drop_eq_nil_of_le (by rw [HM.out]; exact Nat.le_refl _)]
        rfl
      case round =>
        obtain ⟨kk, q, hkk, rfl, rfl, rfl⟩ := hrel
        obtain ⟨X, hX⟩ : ∃ X, Rw.fnd1 (((Rw.cel t (t.length + 1)).drop kk).find? (fun a => Rw.isB t false a && decide (h < a))) = X := ⟨_, rfl⟩
        rw [hX]
        have HX := Lib.hid hX
        clear hX
        rcases Nat.eq_zero_or_pos kk with hk0 | hk0
        · subst hk0
          cases hfx : ((Rw.cel t (t.length + 1)).drop 0).find? (fun a => Rw.isB t false a && decide (h < a)) with
          | none =>
            obtain ⟨y, hy⟩ : ∃ y, f h = y := ⟨_, rfl⟩
            have hyv : Rw.lst t = y := by rw [← hy, hfd.out, hfx]; rfl
            have hX1 : X = -1 := by rw [← HX.out, hfx]; rfl
            have HLA2 := HLA.out
            rw [hyv] at HLA2
            obtain ⟨a1, rfl, hjm, f1⟩ := ats_cell (HN1.out) HLA2
            have f1' : (w1.drewN q).cell? (a1.add m) = some (.int .i64 (y : Int)) := f1
            have HY := Lib.hid hy
            have hyl : y ≤ t.length := by rw [← hy]; exact hfh
            clear hy hyv hfx f1 HLA2 hfh
            subst hX1
            by_cases hyh : y = h
            · have HE : Hid (Rw.its f cnt k = h) := by
                show _ = _
                rw [← HI.out, Rw.its_same (by rw [HY.out, hyh])]
              subst hyh
              by_cases hx : y = k
              · subst hx
                have HD2 : Hid (D = none) := by show _ = _; rw [← HD.out, if_pos HE.out]
                go_wp2
                refine bodyPost_ret (v := .tuple #[.int .i64 0, .int .i64 6]) (by simp [results, Tryz.results69, go_sem]) rfl ⟨HK.out.drewN _, by rw [HD2.out]; rfl⟩
              · have HD2 : Hid (D = some ((y : Nat) : Int)) := by show _ = _; rw [← HD.out, HE.out, if_neg hx]
                have e1 : ((y : Int) == (k : Int)) = false := by rw [beq_eq_false_iff_ne]; omega
                have e2 : (y == k) = false := by rw [beq_eq_false_iff_ne]; exact hx
                clear hx
                go_wp2
                refine bodyPost_ret (v := .tuple #[.int .i64 (y : Nat), .int .i64 0]) (by simp [results, Tryz.results69, go_sem]) rfl ⟨HK.out.drewN _, by rw [HD2.out]; rfl⟩
            · have e3 : ((y : Int) == (h : Int)) = false := by rw [beq_eq_false_iff_ne]; omega
              have e4 : (y == h) = false := by rw [beq_eq_false_iff_ne]; exact hyh
              clear hyh
              go_wp2
              go_roundw
              case rel => exact ⟨y, c + 1, q, rfl, by go_num, by omega, hyl, by rw [← hstep.out, HY.out], rfl⟩
              case measure => simp [intOf] <;> omega
          | some y =>
            have hy : f h = y := by rw [hfd.out, hfx]; rfl
            have hX1 : X = (y : Int) := by rw [← HX.out, hfx]; rfl
            have HY := Lib.hid hy
            have hyl : y ≤ t.length := by rw [← hy]; exact hfh
            clear hy hfx hfh
            subst hX1
            by_cases hyh : y = h
            · have HE : Hid (Rw.its f cnt k = h) := by
                show _ = _
                rw [← HI.out, Rw.its_same (by rw [HY.out, hyh])]
              subst hyh
              by_cases hx : y = k
              · subst hx
                have HD2 : Hid (D = none) := by show _ = _; rw [← HD.out, if_pos HE.out]
                go_wp2
                refine bodyPost_ret (v := .tuple #[.int .i64 0, .int .i64 6]) (by simp [results, Tryz.results69, go_sem]) rfl ⟨HK.out.drewN _, by rw [HD2.out]; rfl⟩
              · have HD2 : Hid (D = some ((y : Nat) : Int)) := by show _ = _; rw [← HD.out, HE.out, if_neg hx]
                have e1 : ((y : Int) == (k : Int)) = false := by rw [beq_eq_false_iff_ne]; omega
                have e2 : (y == k) = false := by rw [beq_eq_false_iff_ne]; exact hx
                clear hx
                go_wp2
                refine bodyPost_ret (v := .tuple #[.int .i64 (y : Nat), .int .i64 0]) (by simp [results, Tryz.results69, go_sem]) rfl ⟨HK.out.drewN _, by rw [HD2.out]; rfl⟩
            · have e3 : ((y : Int) == (h : Int)) = false := by rw [beq_eq_false_iff_ne]; omega
              have e4 : (y == h) = false := by rw [beq_eq_false_iff_ne]; exact hyh
              clear hyh
              go_wp2
              go_roundw
              case rel => exact ⟨y, c + 1, q, rfl, by go_num, by omega, hyl, by rw [← hstep.out, HY.out], rfl⟩
              case measure => simp [intOf] <;> omega
        · obtain ⟨j, rfl⟩ : ∃ j, kk = j + 1 := ⟨kk - 1, by omega⟩
          obtain ⟨o, ho⟩ : ∃ o, (Rw.cel t (t.length + 1))[j]? = some o := ⟨_, List.getElem?_eq_getElem (by rw [HM.out]; omega)⟩
          obtain ⟨a1, rfl, hjm, f1⟩ := ats_cell (HN1.out) ho
          have f1' : (w1.drewN q).cell? (a1.add j) = some (.int .i64 (o : Int)) := f1
          have cE := fun W (h1 : Nums W (some a1) (m + 1) _) h2 => edge_b (some a1) A2 (m + 1) c1 c2 t.length j o t false W ho h1 h2 (by omega) hn
          have hoi := Rw.cel_lt_n ho
          obtain ⟨V, hV⟩ : ∃ V, Rw.isB t false o = V := ⟨_, rfl⟩
          rw [hV] at cE
          have HO := Lib.hid ho
          have HV := Lib.hid hV
          have hz : ((j + 1 : Nat) : Int) - 1 = (j : Int) := by omega
          have hz2 : (j : Int) + 1 - 1 = (j : Int) := by omega
          have HN1d := Lib.hid (show Nums (w1.drewN q) (some a1) (m + 1) _ from HN1.out)
          have HN2d := Lib.hid (show Nums (w1.drewN q) A2 (m + 1) _ from HN2.out)
          have cE := cE (w1.drewN q) HN1d.out HN2d.out
          clear ho hV f1
          rw [hz]
          clear hz
          by_cases hoh : h < o
          · cases V
            · have HX2 : Hid (Rw.fnd1 (((Rw.cel t (t.length + 1)).drop j).find? (fun a => Rw.isB t false a && decide (h < a))) = X) := by show _ = _; rw [Rw.find_skip HO.out (by rw [HV.out]; rfl), HX.out]
              go_wp2_with (go_at_call 108; refine cE.mono ?_; rintro e w' ⟨rfl, q2, hw⟩; subst hw)
              go_roundw
              case rel => exact ⟨j, _, by omega, rfl, by rw [HX2.out], rfl⟩
              case measure => simp [intOf] <;> omega
            · have HX2 : Hid (Rw.fnd1 (((Rw.cel t (t.length + 1)).drop j).find? (fun a => Rw.isB t false a && decide (h < a))) = (o : Int)) := by show _ = _; rw [Rw.find_hit HO.out (by rw [HV.out]; simp; omega)]; rfl
              have f1'' : ∀ q2, (w1.drewN (q + q2)).cell? (a1.add j) = some (.int .i64 (o : Int)) := fun _ => f1'
              go_wp2_with (go_at_call 108; refine cE.mono ?_; rintro e w' ⟨rfl, q2, hw⟩; subst hw; have f2 := f1'' q2; clear f1'')
              go_roundw
              case rel => exact ⟨j, _, by omega, rfl, by rw [HX2.out], rfl⟩
              case measure => simp [intOf] <;> omega
          · have HX2 : Hid (Rw.fnd1 (((Rw.cel t (t.length + 1)).drop j).find? (fun a => Rw.isB t false a && decide (h < a))) = X) := by show _ = _; rw [Rw.find_skip HO.out (by rw [decide_eq_false hoh]; simp), HX.out]
            clear cE
            go_wp2
            go_roundw
            case rel => exact ⟨j, _, by omega, rfl, by rw [HX2.out], rfl⟩
            case measure => simp [intOf] <;> omega
    · obtain rfl : c = cnt := by omega
      have HE : Hid (Rw.its f c k = h) := by
        show _ = _
        rw [← HI.out, Nat.sub_self]
        rfl
      by_cases hx : h = k
      · subst hx
        have HD2 : Hid (D = none) := by show _ = _; rw [← HD.out, if_pos HE.out]
        go_wp2
        refine bodyPost_ret (v := .tuple #[.int .i64 0, .int .i64 6]) (by simp [results, Tryz.results69, go_sem]) rfl ⟨HK.out.drewN _, by rw [HD2.out]; rfl⟩
      · have HD2 : Hid (D = some ((h : Nat) : Int)) := by show _ = _; rw [← HD.out, HE.out, if_neg hx]
        have e1 : ((h : Int) == (k : Int)) = false := by rw [beq_eq_false_iff_ne]; omega
        have e2 : (h == k) = false := by rw [beq_eq_false_iff_ne]; exact hx
        clear hx
        go_wp2
        refine bodyPost_ret (v := .tuple #[.int .i64 (h : Nat), .int .i64 0]) (by simp [results, Tryz.results69, go_sem]) rfl ⟨HK.out.drewN _, by rw [HD2.out]; rfl⟩
end Go.Proofs.YtbofjefblhnkoaaGreatDoor
namespace Go.Proofs.YtbofjefblhnkoaaGreatDoor
open Go Go.RowKit

set_option maxRecDepth 100000 in
set_option maxHeartbeats 2000000 in
theorem rw87_any (A : Option Addr) (cap k cnt : Nat) (t : List Int) (w : World) (hA : Rn w A t.length t) (hr : Runey t) (hn : t.length ≤ 6000) (hk : k ≤ t.length) (hc : cnt ≤ 999) :
    Calls Tryz.prog 69 #[.slice A t.length cap, .int .i64 k, .int .i64 87, .int .i64 cnt] w fun e w' => Kept (fun _ => False) w w' ∧ e = .returned (ansW (Rw.wmv t k 87 cnt)) := by
  have cC := rcells_any A t.length cap t true w hA hr hn
  obtain ⟨m, hm⟩ := Rw.cel_pos t t.length
  have hw := Rw.w87 t k cnt
  unfold Rw.wmv
  rw [hw]
  obtain ⟨f, hf⟩ : ∃ f, f = Rw.nx (Rw.stp t true false) (Rw.lst t) := ⟨_, rfl⟩
  rw [← hf]
  obtain ⟨D, hD⟩ : ∃ D : Option Int, (if Rw.its f cnt k = k then none else some ((Rw.its f cnt k : Nat) : Int)) = D := ⟨_, rfl⟩
  rw [hD]
  have hfl : ∀ h, f h ≤ t.length := fun h => by rw [hf]; exact Rw.nx_le t true false h
  have hff : ∀ h, f h = (((Rw.cel t (t.length + 1)).drop 0).find? (fun a => Rw.isB t true a && decide (h < a))).getD (Rw.lst t) := fun h => by rw [hf, Rw.nx_fold]; simp
  have hlast := Rw.lst_at t m hm
  have hmn : m + 1 ≤ 6001 := by have := Rw.cel_len t (t.length + 1); omega
  rw [hm] at cC
  have HD := Lib.hid hD
  have HF := Lib.hid hff
  have HFL := Lib.hid hfl
  have HM := Lib.hid hm
  have HLA := Lib.hid hlast
  clear hD hff hfl hf hw hm hlast hA hr
  go_enter Tryz.func69, Tryz.ntmps69
  go_wp2_with (go_at_call 107; refine cC.mono ?_; rintro e w1 ⟨hk1, A1, c1, A2, c2, rfl, hN1, hN2⟩; have HK := Lib.hid hk1; have HN1 := Lib.hid hN1; have HN2 := Lib.hid hN2; clear hk1 hN1 hN2 cC)
  go_loopw [13, 14] (fun v u wr => ∃ h c q : Nat, v = .int .i64 h ∧ u = .int .i64 c ∧ c ≤ cnt ∧ h ≤ t.length ∧ Rw.its f (cnt - c) h = Rw.its f cnt k ∧ wr = w1.drewN q) (fun _ u _ => cnt - (intOf u).toNat)
  case atStart => exact ⟨k, 0, 0, rfl, rfl, Nat.zero_le _, hk, rfl, rfl⟩
  case round =>
    obtain ⟨h, c, q, rfl, rfl, hcc, hh, hits, rfl⟩ := hrel
    have HI := Lib.hid hits
    clear hits
    by_cases hlt : c < cnt
    · have hfh := HFL.out h
      have hfd : Hid (f h = (((Rw.cel t (t.length + 1)).drop 0).find? (fun a => Rw.isB t true a && decide (h < a))).getD (Rw.lst t)) := HF.out h
      have hstep : Hid (Rw.its f (cnt - (c + 1)) (f h) = Rw.its f cnt k) := by
        show _ = _
        rw [← HI.out, show cnt - c = (cnt - (c + 1)) + 1 by omega]
        rfl
      go_wp2
      go_loopw [15, 17] (fun v u wr => ∃ kk q : Nat, kk ≤ m + 1 ∧ u = .int .i64 ((kk : Int) - 1) ∧ v = .int .i64 (Rw.fnd1 (((Rw.cel t (t.length + 1)).drop kk).find? (fun a => Rw.isB t true a && decide (h < a)))) ∧ wr = w1.drewN q) (fun _ u _ => ((intOf u) + 1).toNat)
      case atStart =>
        refine ⟨m + 1, q, Nat.le_refl _, by simp, ?_, rfl⟩
        rw [List.drop_eq_nil_of_le (by rw [HM.out]; exact Nat.le_refl _)]
        rfl
      case round =>
        obtain ⟨kk, q, hkk, rfl, rfl, rfl⟩ := hrel
        obtain ⟨X, hX⟩ : ∃ X, Rw.fnd1 (((Rw.cel t (t.length + 1)).drop kk).find? (fun a => Rw.isB t true a && decide (h < a))) = X := ⟨_, rfl⟩
        rw [hX]
        have HX := Lib.hid hX
        clear hX
        rcases Nat.eq_zero_or_pos kk with hk0 | hk0
        · subst hk0
          cases hfx : ((Rw.cel t (t.length + 1)).drop 0).find? (fun a => Rw.isB t true a && decide (h < a)) with
          | none =>
            obtain ⟨y, hy⟩ : ∃ y, f h = y := ⟨_, rfl⟩
            have hyv : Rw.lst t = y := by rw [← hy, hfd.out, hfx]; rfl
            have hX1 : X = -1 := by rw [← HX.out, hfx]; rfl
            have HLA2 := HLA.out
            rw [hyv] at HLA2
            obtain ⟨a1, rfl, hjm, f1⟩ := ats_cell (HN1.out) HLA2
            have f1' : (w1.drewN q).cell? (a1.add m) = some (.int .i64 (y : Int)) := f1
            have HY := Lib.hid hy
            have hyl : y ≤ t.length := by rw [← hy]; exact hfh
            clear hy hyv hfx f1 HLA2 hfh
            subst hX1
            by_cases hyh : y = h
            · have HE : Hid (Rw.its f cnt k = h) := by
                show _ = _
                rw [← HI.out, Rw.its_same (by rw [HY.out, hyh])]
              subst hyh
              by_cases hx : y = k
              · subst hx
                have HD2 : Hid (D = none) := by show _ = _; rw [← HD.out, if_pos HE.out]
                go_wp2
                refine bodyPost_ret (v := .tuple #[.int .i64 0, .int .i64 6]) (by simp [results, Tryz.results69, go_sem]) rfl ⟨HK.out.drewN _, by rw [HD2.out]; rfl⟩
              · have HD2 : Hid (D = some ((y : Nat) : Int)) := by show _ = _; rw [← HD.out, HE.out, if_neg hx]
                have e1 : ((y : Int) == (k : Int)) = false := by rw [beq_eq_false_iff_ne]; omega
                have e2 : (y == k) = false := by rw [beq_eq_false_iff_ne]; exact hx
                clear hx
                go_wp2
                refine bodyPost_ret (v := .tuple #[.int .i64 (y : Nat), .int .i64 0]) (by simp [results, Tryz.results69, go_sem]) rfl ⟨HK.out.drewN _, by rw [HD2.out]; rfl⟩
            · have e3 : ((y : Int) == (h : Int)) = false := by rw [beq_eq_false_iff_ne]; omega
              have e4 : (y == h) = false := by rw [beq_eq_false_iff_ne]; exact hyh
              clear hyh
              go_wp2
              go_roundw
              case rel => exact ⟨y, c + 1, q, rfl, by go_num, by omega, hyl, by rw [← hstep.out, HY.out], rfl⟩
              case measure => simp [intOf] <;> omega
          | some y =>
            have hy : f h = y := by rw [hfd.out, hfx]; rfl
            have hX1 : X = (y : Int) := by rw [← HX.out, hfx]; rfl
            have HY := Lib.hid hy
            have hyl : y ≤ t.length := by rw [← hy]; exact hfh
            clear hy hfx hfh
            subst hX1
            by_cases hyh : y = h
            · have HE : Hid (Rw.its f cnt k = h) := by
                show _ = _
                rw [← HI.out, Rw.its_same (by rw [HY.out, hyh])]
              subst hyh
              by_cases hx : y = k
              · subst hx
                have HD2 : Hid (D = none) := by show _ = _; rw [← HD.out, if_pos HE.out]
                go_wp2
                refine bodyPost_ret (v := .tuple #[.int .i64 0, .int .i64 6]) (by simp [results, Tryz.results69, go_sem]) rfl ⟨HK.out.drewN _, by rw [HD2.out]; rfl⟩
              · have HD2 : Hid (D = some ((y : Nat) : Int)) := by show _ = _; rw [← HD.out, HE.out, if_neg hx]
                have e1 : ((y : Int) == (k : Int)) = false := by rw [beq_eq_false_iff_ne]; omega
                have e2 : (y == k) = false := by rw [beq_eq_false_iff_ne]; exact hx
                clear hx
                go_wp2
                refine bodyPost_ret (v := .tuple #[.int .i64 (y : Nat), .int .i64 0]) (by simp [results, Tryz.results69, go_sem]) rfl ⟨HK.out.drewN _, by rw [HD2.out]; rfl⟩
            · have e3 : ((y : Int) == (h : Int)) = false := by rw [beq_eq_false_iff_ne]; omega
              have e4 : (y == h) = false := by rw [beq_eq_false_iff_ne]; exact hyh
              clear hyh
              go_wp2
              go_roundw
              case rel => exact ⟨y, c + 1, q, rfl, by go_num, by omega, hyl, by rw [← hstep.out, HY.out], rfl⟩
              case measure => simp [intOf] <;> omega
        · obtain ⟨j, rfl⟩ : ∃ j, kk = j + 1 := ⟨kk - 1, by omega⟩
          obtain ⟨o, ho⟩ : ∃ o, (Rw.cel t (t.length + 1))[j]? = some o := ⟨_, List.getElem?_eq_getElem (by rw [HM.out]; omega)⟩
          obtain ⟨a1, rfl, hjm, f1⟩ := ats_cell (HN1.out) ho
          have f1' : (w1.drewN q).cell? (a1.add j) = some (.int .i64 (o : Int)) := f1
          have cE := fun W (h1 : Nums W (some a1) (m + 1) _) h2 => edge_b (some a1) A2 (m + 1) c1 c2 t.length j o t true W ho h1 h2 (by omega) hn
          have hoi := Rw.cel_lt_n ho
          obtain ⟨V, hV⟩ : ∃ V, Rw.isB t true o = V := ⟨_, rfl⟩
          rw [hV] at cE
          have HO := Lib.hid ho
          have HV := Lib.hid hV
          have hz : ((j + 1 : Nat) : Int) - 1 = (j : Int) := by omega
          have hz2 : (j : Int) + 1 - 1 = (j : Int) := by omega
          have HN1d := Lib.hid (show Nums (w1.drewN q) (some a1) (m + 1) _ from HN1.out)
          have HN2d := Lib.hid (show Nums (w1.drewN q) A2 (m + 1) _ from HN2.out)
          have cE := cE (w1.drewN q) HN1d.out HN2d.out
          clear ho hV f1
          rw [hz]
          clear hz
          by_cases hoh : h < o
          · cases V
            · have HX2 : Hid (Rw.fnd1 (((Rw.cel t (t.length + 1)).drop j).find? (fun a => Rw.isB t true a && decide (h < a))) = X) := by show _ = _; rw [Rw.find_skip HO.out (by rw [HV.out]; rfl), HX.out]
              go_wp2_with (go_at_call 108; refine cE.mono ?_; rintro e w' ⟨rfl, q2, hw⟩; subst hw)
              go_roundw
              case rel => exact ⟨j, _, by omega, rfl, by rw [HX2.out], rfl⟩
              case measure => simp [intOf] <;> omega
            · have HX2 : Hid (Rw.fnd1 (((Rw.cel t (t.length + 1)).drop j).find? (fun a => Rw.isB t true a && decide (h < a))) = (o : Int)) := by show _ = _; rw [Rw.find_hit HO.out (by rw [HV.out]; simp; omega)]; rfl
              have f1'' : ∀ q2, (w1.drewN (q + q2)).cell? (a1.add j) = some (.int .i64 (o : Int)) := fun _ => f1'
              go_wp2_with (go_at_call 108; refine cE.mono ?_; rintro e w' ⟨rfl, q2, hw⟩; subst hw; have f2 := f1'' q2; clear f1'')
              go_roundw
              case rel => exact ⟨j, _, by omega, rfl, by rw [HX2.out], rfl⟩
              case measure => simp [intOf] <;> omega
          · have HX2 : Hid (Rw.fnd1 (((Rw.cel t (t.length + 1)).drop j).find? (fun a => Rw.isB t true a && decide (h < a))) = X) := by show _ = _; rw [Rw.find_skip HO.out (by rw [decide_eq_false hoh]; simp), HX.out]
            clear cE
            go_wp2
            go_roundw
            case rel => exact ⟨j, _, by omega, rfl, by rw [HX2.out], rfl⟩
            case measure => simp [intOf] <;> omega
    · obtain rfl : c = cnt := by omega
      have HE : Hid (Rw.its f c k = h) := by
        show _ = _
        rw [← HI.out, Nat.sub_self]
        rfl
      by_cases hx : h = k
      · subst hx
        have HD2 : Hid (D = none) := by show _ = _; rw [← HD.out, if_pos HE.out]
        go_wp2
        refine bodyPost_ret (v := .tuple #[.int .i64 0, .int .i64 6]) (by simp [results, Tryz.results69, go_sem]) rfl ⟨HK.out.drewN _, by rw [HD2.out]; rfl⟩
      · have HD2 : Hid (D = some ((h : Nat) : Int)) := by show _ = _; rw [← HD.out, HE.out, if_neg hx]
        have e1 : ((h : Int) == (k : Int)) = false := by rw [beq_eq_false_iff_ne]; omega
        have e2 : (h == k) = false := by rw [beq_eq_false_iff_ne]; exact hx
        clear hx
        go_wp2
        refine bodyPost_ret (v := .tuple #[.int .i64 (h : Nat), .int .i64 0]) (by simp [results, Tryz.results69, go_sem]) rfl ⟨HK.out.drewN _, by rw [HD2.out]; rfl⟩
end Go.Proofs.YtbofjefblhnkoaaGreatDoor
namespace Go.Proofs.YtbofjefblhnkoaaGreatDoor
open Go Go.RowKit

set_option maxRecDepth 100000 in
set_option maxHeartbeats 2000000 in
theorem rw101_any (A : Option Addr) (cap k cnt : Nat) (t : List Int) (w : World) (hA : Rn w A t.length t) (hr : Runey t) (hn : t.length ≤ 6000) (hk : k ≤ t.length) (hc : cnt ≤ 999) :
    Calls Tryz.prog 69 #[.slice A t.length cap, .int .i64 k, .int .i64 101, .int .i64 cnt] w fun e w' => Kept (fun _ => False) w w' ∧ e = .returned (ansW (Rw.wmv t k 101 cnt)) := by
  have cC := rcells_any A t.length cap t false w hA hr hn
  obtain ⟨m, hm⟩ := Rw.cel_pos t t.length
  have hw := Rw.w101 t k cnt
  unfold Rw.wmv
  rw [hw]
  obtain ⟨f, hf⟩ : ∃ f, f = Rw.nx (Rw.stp t false true) (Rw.lst t) := ⟨_, rfl⟩
  rw [← hf]
  obtain ⟨D, hD⟩ : ∃ D : Option Int, (if Rw.its f cnt k = k then none else some ((Rw.its f cnt k : Nat) : Int)) = D := ⟨_, rfl⟩
  rw [hD]
  have hfl : ∀ h, f h ≤ t.length := fun h => by rw [hf]; exact Rw.nx_le t false true h
  have hff : ∀ h, f h = (((Rw.cel t (t.length + 1)).drop 0).find? (fun a => Rw.isE t false a && decide (h < a))).getD (Rw.lst t) := fun h => by rw [hf, Rw.nx_fold]; simp
  have hlast := Rw.lst_at t m hm
  have hmn : m + 1 ≤ 6001 := by have := Rw.cel_len t (t.length + 1); omega
  rw [hm] at cC
  have HD := Lib.hid hD
  have HF := Lib.hid hff
  have HFL := Lib.hid hfl
  have HM := Lib.hid hm
  have HLA := Lib.hid hlast
  clear hD hff hfl hf hw hm hlast hA hr
  go_enter Tryz.func69, Tryz.ntmps69
  go_wp2_with (go_at_call 107; refine cC.mono ?_; rintro e w1 ⟨hk1, A1, c1, A2, c2, rfl, hN1, hN2⟩; have HK := Lib.hid hk1; have HN1 := Lib.hid hN1; have HN2 := Lib.hid hN2; clear hk1 hN1 hN2 cC)
  go_loopw [13, 14] (fun v u wr => ∃ h c q : Nat, v = .int .i64 h ∧ u = .int .i64 c ∧ c ≤ cnt ∧ h ≤ t.length ∧ Rw.its f (cnt - c) h = Rw.its f cnt k ∧ wr = w1.drewN q) (fun _ u _ => cnt - (intOf u).toNat)
  case atStart => exact ⟨k, 0, 0, rfl, rfl, Nat.zero_le _, hk, rfl, rfl⟩
  case round =>
    obtain ⟨h, c, q, rfl, rfl, hcc, hh, hits, rfl⟩ := hrel
    have HI := Lib.hid hits
    clear hits
    by_cases hlt : c < cnt
    · have hfh := HFL.out h
      have hfd : Hid (f h = (((Rw.cel t (t.length + 1)).drop 0).find? (fun a => Rw.isE t false a && decide (h < a))).getD (Rw.lst t)) := HF.out h
      have hstep : Hid (Rw.its f (cnt - (c + 1)) (f h) = Rw.its f cnt k) := by
        show _ = _
        rw [← HI.out, show cnt - c = (cnt - (c + 1)) + 1 by omega]
        rfl
      go_wp2
      go_loopw [15, 17] (fun v u wr => ∃ kk q : Nat, kk ≤ m + 1 ∧ u = .int .i64 ((kk : Int) - 1) ∧ v = .int .i64 (Rw.fnd1 (((Rw.cel t (t.length + 1)).drop kk).find? (fun a => Rw.isE t false a && decide (h < a)))) ∧ wr = w1.drewN q) (fun _ u _ => ((intOf u) + 1).toNat)
      case atStart =>
        refine ⟨m + 1, q, Nat.le_refl _, by simp, ?_, rfl⟩
        rw [List.drop_eq_nil_of_le (by rw [HM.out]; exact Nat.le_refl _)]
        rfl
      case round =>
        obtain ⟨kk, q, hkk, rfl, rfl, rfl⟩ := hrel
        obtain ⟨X, hX⟩ : ∃ X, Rw.fnd1 (((Rw.cel t (t.length + 1)).drop kk).find? (fun a => Rw.isE t false a && decide (h < a))) = X := ⟨_, rfl⟩
        rw [hX]
        have HX := Lib.hid hX
        clear hX
        rcases Nat.eq_zero_or_pos kk with hk0 | hk0
        · subst hk0
          cases hfx : ((Rw.cel t (t.length + 1)).drop 0).find? (fun a => Rw.isE t false a && decide (h < a)) with
          | none =>
            obtain ⟨y, hy⟩ : ∃ y, f h = y := ⟨_, rfl⟩
            have hyv : Rw.lst t = y := by rw [← hy, hfd.out, hfx]; rfl
            have hX1 : X = -1 := by rw [← HX.out, hfx]; rfl
            have HLA2 := HLA.out
            rw [hyv] at HLA2
            obtain ⟨a1, rfl, hjm, f1⟩ := ats_cell (HN1.out) HLA2
            have f1' : (w1.drewN q).cell? (a1.add m) = some (.int .i64 (y : Int)) := f1
            have HY := Lib.hid hy
            have hyl : y ≤ t.length := by rw [← hy]; exact hfh
            clear hy hyv hfx f1 HLA2 hfh
            subst hX1
            by_cases hyh : y = h
            · have HE : Hid (Rw.its f cnt k = h) := by
                show _ = _
                rw [← HI.out, Rw.its_same (by rw [HY.out, hyh])]
              subst hyh
              by_cases hx : y = k
              · subst hx
                have HD2 : Hid (D = none) := by show _ = _; rw [← HD.out, if_pos HE.out]
                go_wp2
                refine bodyPost_ret (v := .tuple #[.int .i64 0, .int .i64 6]) (by simp [results, Tryz.results69, go_sem]) rfl ⟨HK.out.drewN _, by rw [HD2.out]; rfl⟩
              · have HD2 : Hid (D = some ((y : Nat) : Int)) := by show _ = _; rw [← HD.out, HE.out, if_neg hx]
                have e1 : ((y : Int) == (k : Int)) = false := by rw [beq_eq_false_iff_ne]; omega
                have e2 : (y == k) = false := by rw [beq_eq_false_iff_ne]; exact hx
                clear hx
                go_wp2
                refine bodyPost_ret (v := .tuple #[.int .i64 (y : Nat), .int .i64 0]) (by simp [results, Tryz.results69, go_sem]) rfl ⟨HK.out.drewN _, by rw [HD2.out]; rfl⟩
            · have e3 : ((y : Int) == (h : Int)) = false := by rw [beq_eq_false_iff_ne]; omega
              have e4 : (y == h) = false := by rw [beq_eq_false_iff_ne]; exact hyh
              clear hyh
              go_wp2
              go_roundw
              case rel => exact ⟨y, c + 1, q, rfl, by go_num, by omega, hyl, by rw [← hstep.out, HY.out], rfl⟩
              case measure => simp [intOf] <;> omega
          | some y =>
            have hy : f h = y := by rw [hfd.out, hfx]; rfl
            have hX1 : X = (y : Int) := by rw [← HX.out, hfx]; rfl
            have HY := Lib.hid hy
            have hyl : y ≤ t.length := by rw [← hy]; exact hfh
            clear hy hfx hfh
            subst hX1
            by_cases hyh : y = h
            · have HE : Hid (Rw.its f cnt k = h) := by
                show _ = _
                rw [← HI.out, Rw.its_same (by rw [HY.out, hyh])]
              subst hyh
              by_cases hx : y = k
              · subst hx
                have HD2 : Hid (D = none) := by show _ = _; rw [← HD.out, if_pos HE.out]
                go_wp2
                refine bodyPost_ret (v := .tuple #[.int .i64 0, .int .i64 6]) (by simp [results, Tryz.results69, go_sem]) rfl ⟨HK.out.drewN _, by rw [HD2.out]; rfl⟩
              · have HD2 : Hid (D = some ((y : Nat) : Int)) := by show _ = _; rw [← HD.out, HE.out, if_neg hx]
                have e1 : ((y : Int) == (k : Int)) = false := by rw [beq_eq_false_iff_ne]; omega
                have e2 : (y == k) = false := by rw [beq_eq_false_iff_ne]; exact hx
                clear hx
                go_wp2
                refine bodyPost_ret (v := .tuple #[.int .i64 (y : Nat), .int .i64 0]) (by simp [results, Tryz.results69, go_sem]) rfl ⟨HK.out.drewN _, by rw [HD2.out]; rfl⟩
            · have e3 : ((y : Int) == (h : Int)) = false := by rw [beq_eq_false_iff_ne]; omega
              have e4 : (y == h) = false := by rw [beq_eq_false_iff_ne]; exact hyh
              clear hyh
              go_wp2
              go_roundw
              case rel => exact ⟨y, c + 1, q, rfl, by go_num, by omega, hyl, by rw [← hstep.out, HY.out], rfl⟩
              case measure => simp [intOf] <;> omega
        · obtain ⟨j, rfl⟩ : ∃ j, kk = j + 1 := ⟨kk - 1, by omega⟩
          obtain ⟨o, ho⟩ : ∃ o, (Rw.cel t (t.length + 1))[j]? = some o := ⟨_, List.getElem?_eq_getElem (by rw [HM.out]; omega)⟩
          obtain ⟨a1, rfl, hjm, f1⟩ := ats_cell (HN1.out) ho
          have f1' : (w1.drewN q).cell? (a1.add j) = some (.int .i64 (o : Int)) := f1
          have cE := fun W (h1 : Nums W (some a1) (m + 1) _) h2 => edge_e (some a1) A2 (m + 1) c1 c2 j o t false W ho h1 h2 (by omega) hn
          have hoi := Rw.cel_lt_n ho
          obtain ⟨V, hV⟩ : ∃ V, Rw.isE t false o = V := ⟨_, rfl⟩
          rw [hV] at cE
          have HO := Lib.hid ho
          have HV := Lib.hid hV
          have hz : ((j + 1 : Nat) : Int) - 1 = (j : Int) := by omega
          have hz2 : (j : Int) + 1 - 1 = (j : Int) := by omega
          have HN1d := Lib.hid (show Nums (w1.drewN q) (some a1) (m + 1) _ from HN1.out)
          have HN2d := Lib.hid (show Nums (w1.drewN q) A2 (m + 1) _ from HN2.out)
          have cE := cE (w1.drewN q) HN1d.out HN2d.out
          clear ho hV f1
          rw [hz]
          clear hz
          by_cases hoh : h < o
          · cases V
            · have HX2 : Hid (Rw.fnd1 (((Rw.cel t (t.length + 1)).drop j).find? (fun a => Rw.isE t false a && decide (h < a))) = X) := by show _ = _; rw [Rw.find_skip HO.out (by rw [HV.out]; rfl), HX.out]
              go_wp2_with (go_at_call 108; refine cE.mono ?_; rintro e w' ⟨rfl, q2, hw⟩; subst hw)
              go_roundw
              case rel => exact ⟨j, _, by omega, rfl, by rw [HX2.out], rfl⟩
              case measure => simp [intOf] <;> omega
            · have HX2 : Hid (Rw.fnd1 (((Rw.cel t (t.length + 1)).drop j).find? (fun a => Rw.isE t false a && decide (h < a))) = (o : Int)) := by show _ = _; rw [Rw.find_hit HO.out (by rw [HV.out]; simp; omega)]; rfl
              have f1'' : ∀ q2, (w1.drewN (q + q2)).cell? (a1.add j) = some (.int .i64 (o : Int)) := fun _ => f1'
              go_wp2_with (go_at_call 108; refine cE.mono ?_; rintro e w' ⟨rfl, q2, hw⟩; subst hw; have f2 := f1'' q2; clear f1'')
              go_roundw
              case rel => exact ⟨j, _, by omega, rfl, by rw [HX2.out], rfl⟩
              case measure => simp [intOf] <;> omega
          · have HX2 : Hid (Rw.fnd1 (((Rw.cel t (t.length + 1)).drop j).find? (fun a => Rw.isE t false a && decide (h < a))) = X) := by show _ = _; rw [Rw.find_skip HO.out (by rw [decide_eq_false hoh]; simp), HX.out]
            clear cE
            go_wp2
            go_roundw
            case rel => exact ⟨j, _, by omega, rfl, by rw [HX2.out], rfl⟩
            case measure => simp [intOf] <;> omega
    · obtain rfl : c = cnt := by omega
      have HE : Hid (Rw.its f c k = h) := by
        show _ = _
        rw [← HI.out, Nat.sub_self]
        rfl
      by_cases hx : h = k
      · subst hx
        have HD2 : Hid (D = none) := by show _ = _; rw [← HD.out, if_pos HE.out]
        go_wp2
        refine bodyPost_ret (v := .tuple #[.int .i64 0, .int .i64 6]) (by simp [results, Tryz.results69, go_sem]) rfl ⟨HK.out.drewN _, by rw [HD2.out]; rfl⟩
      · have HD2 : Hid (D = some ((h : Nat) : Int)) := by show _ = _; rw [← HD.out, HE.out, if_neg hx]
        have e1 : ((h : Int) == (k : Int)) = false := by rw [beq_eq_false_iff_ne]; omega
        have e2 : (h == k) = false := by rw [beq_eq_false_iff_ne]; exact hx
        clear hx
        go_wp2
        refine bodyPost_ret (v := .tuple #[.int .i64 (h : Nat), .int .i64 0]) (by simp [results, Tryz.results69, go_sem]) rfl ⟨HK.out.drewN _, by rw [HD2.out]; rfl⟩
end Go.Proofs.YtbofjefblhnkoaaGreatDoor
namespace Go.Proofs.YtbofjefblhnkoaaGreatDoor
open Go Go.RowKit

set_option maxRecDepth 100000 in
set_option maxHeartbeats 2000000 in
theorem rw69_any (A : Option Addr) (cap k cnt : Nat) (t : List Int) (w : World) (hA : Rn w A t.length t) (hr : Runey t) (hn : t.length ≤ 6000) (hk : k ≤ t.length) (hc : cnt ≤ 999) :
    Calls Tryz.prog 69 #[.slice A t.length cap, .int .i64 k, .int .i64 69, .int .i64 cnt] w fun e w' => Kept (fun _ => False) w w' ∧ e = .returned (ansW (Rw.wmv t k 69 cnt)) := by
  have cC := rcells_any A t.length cap t true w hA hr hn
  obtain ⟨m, hm⟩ := Rw.cel_pos t t.length
  have hw := Rw.w69 t k cnt
  unfold Rw.wmv
  rw [hw]
  obtain ⟨f, hf⟩ : ∃ f, f = Rw.nx (Rw.stp t true true) (Rw.lst t) := ⟨_, rfl⟩
  rw [← hf]
  obtain ⟨D, hD⟩ : ∃ D : Option Int, (if Rw.its f cnt k = k then none else some ((Rw.its f cnt k : Nat) : Int)) = D := ⟨_, rfl⟩
  rw [hD]
  have hfl : ∀ h, f h ≤ t.length := fun h => by rw [hf]; exact Rw.nx_le t true true h
  have hff : ∀ h, f h = (((Rw.cel t (t.length + 1)).drop 0).find? (fun a => Rw.isE t true a && decide (h < a))).getD (Rw.lst t) := fun h => by rw [hf, Rw.nx_fold]; simp
  have hlast := Rw.lst_at t m hm
  have hmn : m + 1 ≤ 6001 := by have := Rw.cel_len t (t.length + 1); omega
  rw [hm] at cC
  have HD := Lib.hid hD
  have HF := Lib.hid hff
  have HFL := Lib.hid hfl
  have HM := Lib.hid hm
  have HLA := Lib.hid hlast
  clear hD hff hfl hf hw hm hlast hA hr
  go_enter Tryz.func69, Tryz.ntmps69
  go_wp2_with (go_at_call 107; refine cC.mono ?_; rintro e w1 ⟨hk1, A1, c1, A2, c2, rfl, hN1, hN2⟩; have HK := Lib.hid hk1; have HN1 := Lib.hid hN1; have HN2 := Lib.hid hN2; clear hk1 hN1 hN2 cC)
  go_loopw [13, 14] (fun v u wr => ∃ h c q : Nat, v = .int .i64 h ∧ u = .int .i64 c ∧ c ≤ cnt ∧ h ≤ t.length ∧ Rw.its f (cnt - c) h = Rw.its f cnt k ∧ wr = w1.drewN q) (fun _ u _ => cnt - (intOf u).toNat)
  case atStart => exact ⟨k, 0, 0, rfl, rfl, Nat.zero_le _, hk, rfl, rfl⟩
  case round =>
    obtain ⟨h, c, q, rfl, rfl, hcc, hh, hits, rfl⟩ := hrel
    have HI := Lib.hid hits
    clear hits
    by_cases hlt : c < cnt
    · have hfh := HFL.out h
      have hfd : Hid (f h = (((Rw.cel t (t.length + 1)).drop 0).find? (fun a => Rw.isE t true a && decide (h < a))).getD (Rw.lst t)) := HF.out h
      have hstep : Hid (Rw.its f (cnt - (c + 1)) (f h) = Rw.its f cnt k) := by
        show _ = _
        rw [← HI.out, show cnt - c = (cnt - (c + 1)) + 1 by omega]
        rfl
      go_wp2
      go_loopw [15, 17] (fun v u wr => ∃ kk q : Nat, kk ≤ m + 1 ∧ u = .int .i64 ((kk : Int) - 1) ∧ v = .int .i64 (Rw.fnd1 (((Rw.cel t (t.length + 1)).drop kk).find? (fun a => Rw.isE t true a && decide (h < a)))) ∧ wr = w1.drewN q) (fun _ u _ => ((intOf u) + 1).toNat)
      case atStart =>
        refine ⟨m + 1, q, Nat.le_refl _, by simp, ?_, rfl⟩
        rw [List.drop_eq_nil_of_le (by rw [HM.out]; exact Nat.le_refl _)]
        rfl
      case round =>
        obtain ⟨kk, q, hkk, rfl, rfl, rfl⟩ := hrel
        obtain ⟨X, hX⟩ : ∃ X, Rw.fnd1 (((Rw.cel t (t.length + 1)).drop kk).find? (fun a => Rw.isE t true a && decide (h < a))) = X := ⟨_, rfl⟩
        rw [hX]
        have HX := Lib.hid hX
        clear hX
        rcases Nat.eq_zero_or_pos kk with hk0 | hk0
        · subst hk0
          cases hfx : ((Rw.cel t (t.length + 1)).drop 0).find? (fun a => Rw.isE t true a && decide (h < a)) with
          | none =>
            obtain ⟨y, hy⟩ : ∃ y, f h = y := ⟨_, rfl⟩
            have hyv : Rw.lst t = y := by rw [← hy, hfd.out, hfx]; rfl
            have hX1 : X = -1 := by rw [← HX.out, hfx]; rfl
            have HLA2 := HLA.out
            rw [hyv] at HLA2
            obtain ⟨a1, rfl, hjm, f1⟩ := ats_cell (HN1.out) HLA2
            have f1' : (w1.drewN q).cell? (a1.add m) = some (.int .i64 (y : Int)) := f1
            have HY := Lib.hid hy
            have hyl : y ≤ t.length := by rw [← hy]; exact hfh
            clear hy hyv hfx f1 HLA2 hfh
            subst hX1
            by_cases hyh : y = h
            · have HE : Hid (Rw.its f cnt k = h) := by
                show _ = _
                rw [← HI.out, Rw.its_same (by rw [HY.out, hyh])]
              subst hyh
              by_cases hx : y = k
              · subst hx
                have HD2 : Hid (D = none) := by show _ = _; rw [← HD.out, if_pos HE.out]
                go_wp2
                refine bodyPost_ret (v := .tuple #[.int .i64 0, .int .i64 6]) (by simp [results, Tryz.results69, go_sem]) rfl ⟨HK.out.drewN _, by rw [HD2.out]; rfl⟩
              · have HD2 : Hid (D = some ((y : Nat) : Int)) := by show _ = _; rw [← HD.out, HE.out, if_neg hx]
                have e1 : ((y : Int) == (k : Int)) = false := by rw [beq_eq_false_iff_ne]; omega
                have e2 : (y == k) = false := by rw [beq_eq_false_iff_ne]; exact hx
                clear hx
                go_wp2
                refine bodyPost_ret (v := .tuple #[.int .i64 (y : Nat), .int .i64 0]) (by simp [results, Tryz.results69, go_sem]) rfl ⟨HK.out.drewN _, by rw [HD2.out]; rfl⟩
            · have e3 : ((y : Int) == (h : Int)) = false := by rw [beq_eq_false_iff_ne]; omega
              have e4 : (y == h) = false := by rw [beq_eq_false_iff_ne]; exact hyh
              clear hyh
              go_wp2
              go_roundw
              case rel => exact ⟨y, c + 1, q, rfl, by go_num, by omega, hyl, by rw [← hstep.out, HY.out], rfl⟩
              case measure => simp [intOf] <;> omega
          | some y =>
            have hy : f h = y := by rw [hfd.out, hfx]; rfl
            have hX1 : X = (y : Int) := by rw [← HX.out, hfx]; rfl
            have HY := Lib.hid hy
            have hyl : y ≤ t.length := by rw [← hy]; exact hfh
            clear hy hfx hfh
            subst hX1
            by_cases hyh : y = h
            · have HE : Hid (Rw.its f cnt k = h) := by
                show _ = _
                rw [← HI.out, Rw.its_same (by rw [HY.out, hyh])]
              subst hyh
              by_cases hx : y = k
              · subst hx
                have HD2 : Hid (D = none) := by show _ = _; rw [← HD.out, if_pos HE.out]
                go_wp2
                refine bodyPost_ret (v := .tuple #[.int .i64 0, .int .i64 6]) (by simp [results, Tryz.results69, go_sem]) rfl ⟨HK.out.drewN _, by rw [HD2.out]; rfl⟩
              · have HD2 : Hid (D = some ((y : Nat) : Int)) := by show _ = _; rw [← HD.out, HE.out, if_neg hx]
                have e1 : ((y : Int) == (k : Int)) = false := by rw [beq_eq_false_iff_ne]; omega
                have e2 : (y == k) = false := by rw [beq_eq_false_iff_ne]; exact hx
                clear hx
                go_wp2
                refine bodyPost_ret (v := .tuple #[.int .i64 (y : Nat), .int .i64 0]) (by simp [results, Tryz.results69, go_sem]) rfl ⟨HK.out.drewN _, by rw [HD2.out]; rfl⟩
            · have e3 : ((y : Int) == (h : Int)) = false := by rw [beq_eq_false_iff_ne]; omega
              have e4 : (y == h) = false := by rw [beq_eq_false_iff_ne]; exact hyh
              clear hyh
              go_wp2
              go_roundw
              case rel => exact ⟨y, c + 1, q, rfl, by go_num, by omega, hyl, by rw [← hstep.out, HY.out], rfl⟩
              case measure => simp [intOf] <;> omega
        · obtain ⟨j, rfl⟩ : ∃ j, kk = j + 1 := ⟨kk - 1, by omega⟩
          obtain ⟨o, ho⟩ : ∃ o, (Rw.cel t (t.length + 1))[j]? = some o := ⟨_, List.getElem?_eq_getElem (by rw [HM.out]; omega)⟩
          obtain ⟨a1, rfl, hjm, f1⟩ := ats_cell (HN1.out) ho
          have f1' : (w1.drewN q).cell? (a1.add j) = some (.int .i64 (o : Int)) := f1
          have cE := fun W (h1 : Nums W (some a1) (m + 1) _) h2 => edge_e (some a1) A2 (m + 1) c1 c2 j o t true W ho h1 h2 (by omega) hn
          have hoi := Rw.cel_lt_n ho
          obtain ⟨V, hV⟩ : ∃ V, Rw.isE t true o = V := ⟨_, rfl⟩
          rw [hV] at cE
          have HO := Lib.hid ho
          have HV := Lib.hid hV
          have hz : ((j + 1 : Nat) : Int) - 1 = (j : Int) := by omega
          have hz2 : (j : Int) + 1 - 1 = (j : Int) := by omega
          have HN1d := Lib.hid (show Nums (w1.drewN q) (some a1) (m + 1) _ from HN1.out)
          have HN2d := Lib.hid (show Nums (w1.drewN q) A2 (m + 1) _ from HN2.out)
          have cE := cE (w1.drewN q) HN1d.out HN2d.out
          clear ho hV f1
          rw [hz]
          clear hz
          by_cases hoh : h < o
          · cases V
            · have HX2 : Hid (Rw.fnd1 (((Rw.cel t (t.length + 1)).drop j).find? (fun a => Rw.isE t true a && decide (h < a))) = X) := by show _ = _; rw [Rw.find_skip HO.out (by rw [HV.out]; rfl), HX.out]
              go_wp2_with (go_at_call 108; refine cE.mono ?_; rintro e w' ⟨rfl, q2, hw⟩; subst hw)
              go_roundw
              case rel => exact ⟨j, _, by omega, rfl, by rw [HX2.out], rfl⟩
              case measure => simp [intOf] <;> omega
            · have HX2 : Hid (Rw.fnd1 (((Rw.cel t (t.length + 1)).drop j).find? (fun a => Rw.isE t true a && decide (h < a))) = (o : Int)) := by show _ = _; rw [Rw.find_hit HO.out (by rw [HV.out]; simp; omega)]; rfl
              have f1'' : ∀ q2, (w1.drewN (q + q2)).cell? (a1.add j) = some (.int .i64 (o : Int)) := fun _ => f1'
              go_wp2_with (go_at_call 108; refine cE.mono ?_; rintro e w' ⟨rfl, q2, hw⟩; subst hw; have f2 := f1'' q2; clear f1'')
              go_roundw
              case rel => exact ⟨j, _, by omega, rfl, by rw [HX2.out], rfl⟩
              case measure => simp [intOf] <;> omega
          · have HX2 : Hid (Rw.fnd1 (((Rw.cel t (t.length + 1)).drop j).find? (fun a => Rw.isE t true a && decide (h < a))) = X) := by show _ = _; rw [Rw.find_skip HO.out (by rw [decide_eq_false hoh]; simp), HX.out]
            clear cE
            go_wp2
            go_roundw
            case rel => exact ⟨j, _, by omega, rfl, by rw [HX2.out], rfl⟩
            case measure => simp [intOf] <;> omega
    · obtain rfl : c = cnt := by omega
      have HE : Hid (Rw.its f c k = h) := by
        show _ = _
        rw [← HI.out, Nat.sub_self]
        rfl
      by_cases hx : h = k
      · subst hx
        have HD2 : Hid (D = none) := by show _ = _; rw [← HD.out, if_pos HE.out]
        go_wp2
        refine bodyPost_ret (v := .tuple #[.int .i64 0, .int .i64 6]) (by simp [results, Tryz.results69, go_sem]) rfl ⟨HK.out.drewN _, by rw [HD2.out]; rfl⟩
      · have HD2 : Hid (D = some ((h : Nat) : Int)) := by show _ = _; rw [← HD.out, HE.out, if_neg hx]
        have e1 : ((h : Int) == (k : Int)) = false := by rw [beq_eq_false_iff_ne]; omega
        have e2 : (h == k) = false := by rw [beq_eq_false_iff_ne]; exact hx
        clear hx
        go_wp2
        refine bodyPost_ret (v := .tuple #[.int .i64 (h : Nat), .int .i64 0]) (by simp [results, Tryz.results69, go_sem]) rfl ⟨HK.out.drewN _, by rw [HD2.out]; rfl⟩
end Go.Proofs.YtbofjefblhnkoaaGreatDoor
namespace Go.Proofs.YtbofjefblhnkoaaGreatDoor
open Go Go.RowKit

set_option maxRecDepth 100000 in
set_option maxHeartbeats 2000000 in
theorem rw98_any (A : Option Addr) (cap k cnt : Nat) (t : List Int) (w : World) (hA : Rn w A t.length t) (hr : Runey t) (hn : t.length ≤ 6000) (hk : k ≤ t.length) (hc : cnt ≤ 999) :
    Calls Tryz.prog 69 #[.slice A t.length cap, .int .i64 k, .int .i64 98, .int .i64 cnt] w fun e w' => Kept (fun _ => False) w w' ∧ e = .returned (ansW (Rw.wmv t k 98 cnt)) := by
  have cC := rcells_any A t.length cap t false w hA hr hn
  obtain ⟨m, hm⟩ := Rw.cel_pos t t.length
  have hw := Rw.w98 t k cnt
  unfold Rw.wmv
  rw [hw]
  obtain ⟨f, hf⟩ : ∃ f, f = Rw.pv (Rw.stp t false false) := ⟨_, rfl⟩
  rw [← hf]
  obtain ⟨D, hD⟩ : ∃ D : Option Int, (if Rw.its f cnt k = k then none else some ((Rw.its f cnt k : Nat) : Int)) = D := ⟨_, rfl⟩
  rw [hD]
  have hfl : ∀ h, f h ≤ t.length := fun h => by rw [hf]; exact Rw.pv_le t false h
  have hff : ∀ h, f h = ((((Rw.cel t (t.length + 1)).take (m + 1)).filter (fun a => Rw.isB t false a && decide (a < h))).getLast?).getD 0 := fun h => by rw [hf, Rw.pv_fold, hm]
  have hlast := Rw.lst_at t m hm
  have hmn : m + 1 ≤ 6001 := by have := Rw.cel_len t (t.length + 1); omega
  rw [hm] at cC
  have HD := Lib.hid hD
  have HF := Lib.hid hff
  have HFL := Lib.hid hfl
  have HM := Lib.hid hm
  have HLA := Lib.hid hlast
  clear hD hff hfl hf hw hm hlast hA hr
  go_enter Tryz.func69, Tryz.ntmps69
  go_wp2_with (go_at_call 107; refine cC.mono ?_; rintro e w1 ⟨hk1, A1, c1, A2, c2, rfl, hN1, hN2⟩; have HK := Lib.hid hk1; have HN1 := Lib.hid hN1; have HN2 := Lib.hid hN2; clear hk1 hN1 hN2 cC)
  go_loopw [13, 14] (fun v u wr => ∃ h c q : Nat, v = .int .i64 h ∧ u = .int .i64 c ∧ c ≤ cnt ∧ h ≤ t.length ∧ Rw.its f (cnt - c) h = Rw.its f cnt k ∧ wr = w1.drewN q) (fun _ u _ => cnt - (intOf u).toNat)
  case atStart => exact ⟨k, 0, 0, rfl, rfl, Nat.zero_le _, hk, rfl, rfl⟩
  case round =>
    obtain ⟨h, c, q, rfl, rfl, hcc, hh, hits, rfl⟩ := hrel
    have HI := Lib.hid hits
    clear hits
    by_cases hlt : c < cnt
    · have hfh := HFL.out h
      have hfd : Hid (f h = ((((Rw.cel t (t.length + 1)).take (m + 1)).filter (fun a => Rw.isB t false a && decide (a < h))).getLast?).getD 0) := HF.out h
      have hstep : Hid (Rw.its f (cnt - (c + 1)) (f h) = Rw.its f cnt k) := by
        show _ = _
        rw [← HI.out, show cnt - c = (cnt - (c + 1)) + 1 by omega]
        rfl
      go_wp2
      go_loopw [15, 18] (fun v u wr => ∃ kk q : Nat, kk ≤ m + 1 ∧ u = .int .i64 kk ∧ v = .int .i64 (Rw.fnd1 ((((Rw.cel t (t.length + 1)).take kk).filter (fun a => Rw.isB t false a && decide (a < h))).getLast?)) ∧ wr = w1.drewN q) (fun _ u _ => m + 1 - (intOf u).toNat)
      case atStart => exact ⟨0, q, Nat.zero_le _, rfl, rfl, rfl⟩
      case round =>
        obtain ⟨kk, q, hkk, rfl, rfl, rfl⟩ := hrel
        obtain ⟨X, hX⟩ : ∃ X, Rw.fnd1 ((((Rw.cel t (t.length + 1)).take kk).filter (fun a => Rw.isB t false a && decide (a < h))).getLast?) = X := ⟨_, rfl⟩
        rw [hX]
        have HX := Lib.hid hX
        clear hX
        by_cases hk0 : kk = m + 1
        · subst hk0
          cases hfx : (((Rw.cel t (t.length + 1)).take (m + 1)).filter (fun a => Rw.isB t false a && decide (a < h))).getLast? with
          | none =>
            obtain ⟨y, hy⟩ : ∃ y, f h = y := ⟨_, rfl⟩
            have hyv : 0 = y := by rw [← hy, hfd.out, hfx]; rfl
            have hX1 : X = -1 := by rw [← HX.out, hfx]; rfl
            have HLA0 : (Rw.cel t (t.length + 1))[0]? = some y := by rw [← hyv]; exact Rw.cel_zero t t.length
            obtain ⟨a1, rfl, hjm, f1⟩ := ats_cell (HN1.out) (k := 0) (i := y) HLA0
            have f1' : (w1.drewN q).cell? a1 = some (.int .i64 (y : Int)) := by simpa [Addr.add] using f1
            have HY := Lib.hid hy
            have hyl : y ≤ t.length := by rw [← hy]; exact hfh
            clear hy hyv hfx f1 HLA0 hfh
            subst hX1
            by_cases hyh : y = h
            · have HE : Hid (Rw.its f cnt k = h) := by
                show _ = _
                rw [← HI.out, Rw.its_same (by rw [HY.out, hyh])]
              subst hyh
              by_cases hx : y = k
              · subst hx
                have HD2 : Hid (D = none) := by show _ = _; rw [← HD.out, if_pos HE.out]
                go_wp2
                refine bodyPost_ret (v := .tuple #[.int .i64 0, .int .i64 6]) (by simp [results, Tryz.results69, go_sem]) rfl ⟨HK.out.drewN _, by rw [HD2.out]; rfl⟩
              · have HD2 : Hid (D = some ((y : Nat) : Int)) := by show _ = _; rw [← HD.out, HE.out, if_neg hx]
                have e1 : ((y : Int) == (k : Int)) = false := by rw [beq_eq_false_iff_ne]; omega
                have e2 : (y == k) = false := by rw [beq_eq_false_iff_ne]; exact hx
                clear hx
                go_wp2
                refine bodyPost_ret (v := .tuple #[.int .i64 (y : Nat), .int .i64 0]) (by simp [results, Tryz.results69, go_sem]) rfl ⟨HK.out.drewN _, by rw [HD2.out]; rfl⟩
            · have e3 : ((y : Int) == (h : Int)) = false := by rw [beq_eq_false_iff_ne]; omega
              have e4 : (y == h) = false := by rw [beq_eq_false_iff_ne]; exact hyh
              clear hyh
              go_wp2
              go_roundw
              case rel => exact ⟨y, c + 1, q, rfl, by go_num, by omega, hyl, by rw [← hstep.out, HY.out], rfl⟩
              case measure => simp [intOf] <;> omega
          | some y =>
            have hy : f h = y := by rw [hfd.out, hfx]; rfl
            have hX1 : X = (y : Int) := by rw [← HX.out, hfx]; rfl
            have HY := Lib.hid hy
            have hyl : y ≤ t.length := by rw [← hy]; exact hfh
            clear hy hfx hfh
            subst hX1
            by_cases hyh : y = h
            · have HE : Hid (Rw.its f cnt k = h) := by
                show _ = _
                rw [← HI.out, Rw.its_same (by rw [HY.out, hyh])]
              subst hyh
              by_cases hx : y = k
              · subst hx
                have HD2 : Hid (D = none) := by show _ = _; rw [← HD.out, if_pos HE.out]
                go_wp2
                refine bodyPost_ret (v := .tuple #[.int .i64 0, .int .i64 6]) (by simp [results, Tryz.results69, go_sem]) rfl ⟨HK.out.drewN _, by rw [HD2.out]; rfl⟩
              · have HD2 : Hid (D = some ((y : Nat) : Int)) := by show _ = _; rw [← HD.out, HE.out, if_neg hx]
                have e1 : ((y : Int) == (k : Int)) = false := by rw [beq_eq_false_iff_ne]; omega
                have e2 : (y == k) = false := by rw [beq_eq_false_iff_ne]; exact hx
                clear hx
                go_wp2
                refine bodyPost_ret (v := .tuple #[.int .i64 (y : Nat), .int .i64 0]) (by simp [results, Tryz.results69, go_sem]) rfl ⟨HK.out.drewN _, by rw [HD2.out]; rfl⟩
            · have e3 : ((y : Int) == (h : Int)) = false := by rw [beq_eq_false_iff_ne]; omega
              have e4 : (y == h) = false := by rw [beq_eq_false_iff_ne]; exact hyh
              clear hyh
              go_wp2
              go_roundw
              case rel => exact ⟨y, c + 1, q, rfl, by go_num, by omega, hyl, by rw [← hstep.out, HY.out], rfl⟩
              case measure => simp [intOf] <;> omega
        · obtain ⟨o, ho⟩ : ∃ o, (Rw.cel t (t.length + 1))[kk]? = some o := ⟨_, List.getElem?_eq_getElem (by rw [HM.out]; omega)⟩
          obtain ⟨a1, rfl, hjm, f1⟩ := ats_cell (HN1.out) ho
          have f1' : (w1.drewN q).cell? (a1.add kk) = some (.int .i64 (o : Int)) := f1
          have cE := fun W (h1 : Nums W (some a1) (m + 1) _) h2 => edge_b (some a1) A2 (m + 1) c1 c2 t.length kk o t false W ho h1 h2 (by omega) hn
          have hoi := Rw.cel_lt_n ho
          obtain ⟨V, hV⟩ : ∃ V, Rw.isB t false o = V := ⟨_, rfl⟩
          rw [hV] at cE
          have HO := Lib.hid ho
          have HV := Lib.hid hV
          have HN1d := Lib.hid (show Nums (w1.drewN q) (some a1) (m + 1) _ from HN1.out)
          have HN2d := Lib.hid (show Nums (w1.drewN q) A2 (m + 1) _ from HN2.out)
          have cE := cE (w1.drewN q) HN1d.out HN2d.out
          clear ho hV f1
          by_cases hoh : o < h
          · cases V
            · have HX2 : Hid (Rw.fnd1 ((((Rw.cel t (t.length + 1)).take (kk + 1)).filter (fun a => Rw.isB t false a && decide (a < h))).getLast?) = X) := by show _ = _; rw [Rw.last_skip HO.out (by rw [HV.out]; rfl), HX.out]
              go_wp2_with (go_at_call 108; refine cE.mono ?_; rintro e w' ⟨rfl, q2, hw⟩; subst hw)
              go_roundw
              case rel => exact ⟨kk + 1, _, by omega, by go_num, by rw [HX2.out], rfl⟩
              case measure => simp [intOf] <;> omega
            · have HX2 : Hid (Rw.fnd1 ((((Rw.cel t (t.length + 1)).take (kk + 1)).filter (fun a => Rw.isB t false a && decide (a < h))).getLast?) = (o : Int)) := by show _ = _; rw [Rw.last_hit HO.out (by rw [HV.out]; simp; omega)]; rfl
              have f1'' : ∀ q2, (w1.drewN (q + q2)).cell? (a1.add kk) = some (.int .i64 (o : Int)) := fun _ => f1'
              go_wp2_with (go_at_call 108; refine cE.mono ?_; rintro e w' ⟨rfl, q2, hw⟩; subst hw; have f2 := f1'' q2; clear f1'')
              go_roundw
              case rel => exact ⟨kk + 1, _, by omega, by go_num, by rw [HX2.out], rfl⟩
              case measure => simp [intOf] <;> omega
          · have HX2 : Hid (Rw.fnd1 ((((Rw.cel t (t.length + 1)).take (kk + 1)).filter (fun a => Rw.isB t false a && decide (a < h))).getLast?) = X) := by show _ = _; rw [Rw.last_skip HO.out (by rw [decide_eq_false hoh]; simp), HX.out]
            clear cE
            go_wp2
            go_roundw
            case rel => exact ⟨kk + 1, _, by omega, by go_num, by rw [HX2.out], rfl⟩
            case measure => simp [intOf] <;> omega
    · obtain rfl : c = cnt := by omega
      have HE : Hid (Rw.its f c k = h) := by
        show _ = _
        rw [← HI.out, Nat.sub_self]
        rfl
      by_cases hx : h = k
      · subst hx
        have HD2 : Hid (D = none) := by show _ = _; rw [← HD.out, if_pos HE.out]
        go_wp2
        refine bodyPost_ret (v := .tuple #[.int .i64 0, .int .i64 6]) (by simp [results, Tryz.results69, go_sem]) rfl ⟨HK.out.drewN _, by rw [HD2.out]; rfl⟩
      · have HD2 : Hid (D = some ((h : Nat) : Int)) := by show _ = _; rw [← HD.out, HE.out, if_neg hx]
        have e1 : ((h : Int) == (k : Int)) = false := by rw [beq_eq_false_iff_ne]; omega
        have e2 : (h == k) = false := by rw [beq_eq_false_iff_ne]; exact hx
        clear hx
        go_wp2
        refine bodyPost_ret (v := .tuple #[.int .i64 (h : Nat), .int .i64 0]) (by simp [results, Tryz.results69, go_sem]) rfl ⟨HK.out.drewN _, by rw [HD2.out]; rfl⟩
end Go.Proofs.YtbofjefblhnkoaaGreatDoor
namespace Go.Proofs.YtbofjefblhnkoaaGreatDoor
open Go Go.RowKit

set_option maxRecDepth 100000 in
set_option maxHeartbeats 2000000 in
theorem rw66_any (A : Option Addr) (cap k cnt : Nat) (t : List Int) (w : World) (hA : Rn w A t.length t) (hr : Runey t) (hn : t.length ≤ 6000) (hk : k ≤ t.length) (hc : cnt ≤ 999) :
    Calls Tryz.prog 69 #[.slice A t.length cap, .int .i64 k, .int .i64 66, .int .i64 cnt] w fun e w' => Kept (fun _ => False) w w' ∧ e = .returned (ansW (Rw.wmv t k 66 cnt)) := by
  have cC := rcells_any A t.length cap t true w hA hr hn
  obtain ⟨m, hm⟩ := Rw.cel_pos t t.length
  have hw := Rw.w66 t k cnt
  unfold Rw.wmv
  rw [hw]
  obtain ⟨f, hf⟩ : ∃ f, f = Rw.pv (Rw.stp t true false) := ⟨_, rfl⟩
  rw [← hf]
  obtain ⟨D, hD⟩ : ∃ D : Option Int, (if Rw.its f cnt k = k then none else some ((Rw.its f cnt k : Nat) : Int)) = D := ⟨_, rfl⟩
  rw [hD]
  have hfl : ∀ h, f h ≤ t.length := fun h => by rw [hf]; exact Rw.pv_le t true h
  have hff : ∀ h, f h = ((((Rw.cel t (t.length + 1)).take (m + 1)).filter (fun a => Rw.isB t true a && decide (a < h))).getLast?).getD 0 := fun h => by rw [hf, Rw.pv_fold, hm]
  have hlast := Rw.lst_at t m hm
  have hmn : m + 1 ≤ 6001 := by have := Rw.cel_len t (t.length + 1); omega
  rw [hm] at cC
  have HD := Lib.hid hD
  have HF := Lib.hid hff
  have HFL := Lib.hid hfl
  have HM := Lib.hid hm
  have HLA := Lib.hid hlast
  clear hD hff hfl hf hw hm hlast hA hr
  go_enter Tryz.func69, Tryz.ntmps69
  go_wp2_with (go_at_call 107; refine cC.mono ?_; rintro e w1 ⟨hk1, A1, c1, A2, c2, rfl, hN1, hN2⟩; have HK := Lib.hid hk1; have HN1 := Lib.hid hN1; have HN2 := Lib.hid hN2; clear hk1 hN1 hN2 cC)
  go_loopw [13, 14] (fun v u wr => ∃ h c q : Nat, v = .int .i64 h ∧ u = .int .i64 c ∧ c ≤ cnt ∧ h ≤ t.length ∧ Rw.its f (cnt - c) h = Rw.its f cnt k ∧ wr = w1.drewN q) (fun _ u _ => cnt - (intOf u).toNat)
  case atStart => exact ⟨k, 0, 0, rfl, rfl, Nat.zero_le _, hk, rfl, rfl⟩
  case round =>
    obtain ⟨h, c, q, rfl, rfl, hcc, hh, hits, rfl⟩ := hrel
    have HI := Lib.hid hits
    clear hits
    by_cases hlt : c < cnt
    · have hfh := HFL.out h
      have hfd : Hid (f h = ((((Rw.cel t (t.length + 1)).take (m + 1)).filter (fun a => Rw.isB t true a && decide (a < h))).getLast?).getD 0) := HF.out h
      have hstep : Hid (Rw.its f (cnt - (c + 1)) (f h) = Rw.its f cnt k) := by
        show _ = _
        rw [← HI.out, show cnt - c = (cnt - (c + 1)) + 1 by omega]
        rfl
      go_wp2
      go_loopw [15, 18] (fun v u wr => ∃ kk q : Nat, kk ≤ m + 1 ∧ u = .int .i64 kk ∧ v = .int .i64 (Rw.fnd1 ((((Rw.cel t (t.length + 1)).take kk).filter (fun a => Rw.isB t true a && decide (a < h))).getLast?)) ∧ wr = w1.drewN q) (fun _ u _ => m + 1 - (intOf u).toNat)
      case atStart => exact ⟨0, q, Nat.zero_le _, rfl, rfl, rfl⟩
      case round =>
        obtain ⟨kk, q, hkk, rfl, rfl, rfl⟩ := hrel
        obtain ⟨X, hX⟩ : ∃ X, Rw.fnd1 ((((Rw.cel t (t.length + 1)).take kk).filter (fun a => Rw.isB t true a && decide (a < h))).getLast?) = X := ⟨_, rfl⟩
        rw [hX]
        have HX := Lib.hid hX
        clear hX
        by_cases hk0 : kk = m + 1
        · subst hk0
          cases hfx : (((Rw.cel t (t.length + 1)).take (m + 1)).filter (fun a => Rw.isB t true a && decide (a < h))).getLast? with
          | none =>
            obtain ⟨y, hy⟩ : ∃ y, f h = y := ⟨_, rfl⟩
            have hyv : 0 = y := by rw [← hy, hfd.out, hfx]; rfl
            have hX1 : X = -1 := by rw [← HX.out, hfx]; rfl
            have HLA0 : (Rw.cel t (t.length + 1))[0]? = some y := by rw [← hyv]; exact Rw.cel_zero t t.length
            obtain ⟨a1, rfl, hjm, f1⟩ := ats_cell (HN1.out) (k := 0) (i := y) HLA0
            have f1' : (w1.drewN q).cell? a1 = some (.int .i64 (y : Int)) := by simpa [Addr.add] using f1
            have HY := Lib.hid hy
            have hyl : y ≤ t.length := by rw [← hy]; exact hfh
            clear hy hyv hfx f1 HLA0 hfh
            subst hX1
            by_cases hyh : y = h
            · have HE : Hid (Rw.its f cnt k = h) := by
                show _ = _
                rw [← HI.out, Rw.its_same (by rw [HY.out, hyh])]
              subst hyh
              by_cases hx : y = k
              · subst hx
                have HD2 : Hid (D = none) := by show _ = _; rw [← HD.out, if_pos HE.out]
                go_wp2
                refine bodyPost_ret (v := .tuple #[.int .i64 0, .int .i64 6]) (by simp [results, Tryz.results69, go_sem]) rfl ⟨HK.out.drewN _, by rw [HD2.out]; rfl⟩
              · have HD2 : Hid (D = some ((y : Nat) : Int)) := by show _ = _; rw [← HD.out, HE.out, if_neg hx]
                have e1 : ((y : Int) == (k : Int)) = false := by rw [beq_eq_false_iff_ne]; omega
                have e2 : (y == k) = false := by rw [beq_eq_false_iff_ne]; exact hx
                clear hx
                go_wp2
                refine bodyPost_ret (v := .tuple #[.int .i64 (y : Nat), .int .i64 0]) (by simp [results, Tryz.results69, go_sem]) rfl ⟨HK.out.drewN _, by rw [HD2.out]; rfl⟩
            · have e3 : ((y : Int) == (h : Int)) = false := by rw [beq_eq_false_iff_ne]; omega
              have e4 : (y == h) = false := by rw [beq_eq_false_iff_ne]; exact hyh
              clear hyh
              go_wp2
              go_roundw
              case rel => exact ⟨y, c + 1, q, rfl, by go_num, by omega, hyl, by rw [← hstep.out, HY.out], rfl⟩
              case measure => simp [intOf] <;> omega
          | some y =>
            have hy : f h = y := by rw [hfd.out, hfx]; rfl
            have hX1 : X = (y : Int) := by rw [← HX.out, hfx]; rfl
            have HY := Lib.hid hy
            have hyl : y ≤ t.length := by rw [← hy]; exact hfh
            clear hy hfx hfh
            subst hX1
            by_cases hyh : y = h
            · have HE : Hid (Rw.its f cnt k = h) := by
                show _ = _
                rw [← HI.out, Rw.its_same (by rw [HY.out, hyh])]
              subst hyh
              by_cases hx : y = k
              · subst hx
                have HD2 : Hid (D = none) := by show _ = _; rw [← HD.out, if_pos HE.out]
                go_wp2
                refine bodyPost_ret (v := .tuple #[.int .i64 0, .int .i64 6]) (by simp [results, Tryz.results69, go_sem]) rfl ⟨HK.out.drewN _, by rw [HD2.out]; rfl⟩
              · have HD2 : Hid (D = some ((y : Nat) : Int)) := by show _ = _; rw [← HD.out, HE.out, if_neg hx]
                have e1 : ((y : Int) == (k : Int)) = false := by rw [beq_eq_false_iff_ne]; omega
                have e2 : (y == k) = false := by rw [beq_eq_false_iff_ne]; exact hx
                clear hx
                go_wp2
                refine bodyPost_ret (v := .tuple #[.int .i64 (y : Nat), .int .i64 0]) (by simp [results, Tryz.results69, go_sem]) rfl ⟨HK.out.drewN _, by rw [HD2.out]; rfl⟩
            · have e3 : ((y : Int) == (h : Int)) = false := by rw [beq_eq_false_iff_ne]; omega
              have e4 : (y == h) = false := by rw [beq_eq_false_iff_ne]; exact hyh
              clear hyh
              go_wp2
              go_roundw
              case rel => exact ⟨y, c + 1, q, rfl, by go_num, by omega, hyl, by rw [← hstep.out, HY.out], rfl⟩
              case measure => simp [intOf] <;> omega
        · obtain ⟨o, ho⟩ : ∃ o, (Rw.cel t (t.length + 1))[kk]? = some o := ⟨_, List.getElem?_eq_getElem (by rw [HM.out]; omega)⟩
          obtain ⟨a1, rfl, hjm, f1⟩ := ats_cell (HN1.out) ho
          have f1' : (w1.drewN q).cell? (a1.add kk) = some (.int .i64 (o : Int)) := f1
          have cE := fun W (h1 : Nums W (some a1) (m + 1) _) h2 => edge_b (some a1) A2 (m + 1) c1 c2 t.length kk o t true W ho h1 h2 (by omega) hn
          have hoi := Rw.cel_lt_n ho
          obtain ⟨V, hV⟩ : ∃ V, Rw.isB t true o = V := ⟨_, rfl⟩
          rw [hV] at cE
          have HO := Lib.hid ho
          have HV := Lib.hid hV
          have HN1d := Lib.hid (show Nums (w1.drewN q) (some a1) (m + 1) _ from HN1.out)
          have HN2d := Lib.hid (show Nums (w1.drewN q) A2 (m + 1) _ from HN2.out)
          have cE := cE (w1.drewN q) HN1d.out HN2d.out
          clear ho hV f1
          by_cases hoh : o < h
          · cases V
            · have HX2 : Hid (Rw.fnd1 ((((Rw.cel t (t.length + 1)).take (kk + 1)).filter (fun a => Rw.isB t true a && decide (a < h))).getLast?) = X) := by show _ = _; rw [Rw.last_skip HO.out (by rw [HV.out]; rfl), HX.out]
              go_wp2_with (go_at_call 108; refine cE.mono ?_; rintro e w' ⟨rfl, q2, hw⟩; subst hw)
              go_roundw
              case rel => exact ⟨kk + 1, _, by omega, by go_num, by rw [HX2.out], rfl⟩
              case measure => simp [intOf] <;> omega
            · have HX2 : Hid (Rw.fnd1 ((((Rw.cel t (t.length + 1)).take (kk + 1)).filter (fun a => Rw.isB t true a && decide (a < h))).getLast?) = (o : Int)) := by show _ = _; rw [Rw.last_hit HO.out (by rw [HV.out]; simp; omega)]; rfl
              have f1'' : ∀ q2, (w1.drewN (q + q2)).cell? (a1.add kk) = some (.int .i64 (o : Int)) := fun _ => f1'
              go_wp2_with (go_at_call 108; refine cE.mono ?_; rintro e w' ⟨rfl, q2, hw⟩; subst hw; have f2 := f1'' q2; clear f1'')
              go_roundw
              case rel => exact ⟨kk + 1, _, by omega, by go_num, by rw [HX2.out], rfl⟩
              case measure => simp [intOf] <;> omega
          · have HX2 : Hid (Rw.fnd1 ((((Rw.cel t (t.length + 1)).take (kk + 1)).filter (fun a => Rw.isB t true a && decide (a < h))).getLast?) = X) := by show _ = _; rw [Rw.last_skip HO.out (by rw [decide_eq_false hoh]; simp), HX.out]
            clear cE
            go_wp2
            go_roundw
            case rel => exact ⟨kk + 1, _, by omega, by go_num, by rw [HX2.out], rfl⟩
            case measure => simp [intOf] <;> omega
    · obtain rfl : c = cnt := by omega
      have HE : Hid (Rw.its f c k = h) := by
        show _ = _
        rw [← HI.out, Nat.sub_self]
        rfl
      by_cases hx : h = k
      · subst hx
        have HD2 : Hid (D = none) := by show _ = _; rw [← HD.out, if_pos HE.out]
        go_wp2
        refine bodyPost_ret (v := .tuple #[.int .i64 0, .int .i64 6]) (by simp [results, Tryz.results69, go_sem]) rfl ⟨HK.out.drewN _, by rw [HD2.out]; rfl⟩
      · have HD2 : Hid (D = some ((h : Nat) : Int)) := by show _ = _; rw [← HD.out, HE.out, if_neg hx]
        have e1 : ((h : Int) == (k : Int)) = false := by rw [beq_eq_false_iff_ne]; omega
        have e2 : (h == k) = false := by rw [beq_eq_false_iff_ne]; exact hx
        clear hx
        go_wp2
        refine bodyPost_ret (v := .tuple #[.int .i64 (h : Nat), .int .i64 0]) (by simp [results, Tryz.results69, go_sem]) rfl ⟨HK.out.drewN _, by rw [HD2.out]; rfl⟩
end Go.Proofs.YtbofjefblhnkoaaGreatDoor
namespace Go.Proofs.YtbofjefblhnkoaaGreatDoor
open Go Go.RowKit

theorem btw_t {x l m : Int} (h : l ≤ x ∧ x ≤ m) (w : World) : Calls Tryz.prog 17 #[.int .i64 x, .int .i64 l, .int .i64 m] w fun e w' => e = .returned (.bool true) ∧ w' = w := by
  have b1 : decide (l ≤ x) = true := by simp; omega
  have b2 : decide (x ≤ m) = true := by simp; omega
  clear h
  go_enter Tryz.func17, Tryz.ntmps17
  go_wp2
  go_ret
  exact ⟨rfl, rfl⟩
theorem btw_f {x l m : Int} (h : ¬ (l ≤ x ∧ x ≤ m)) (w : World) : Calls Tryz.prog 17 #[.int .i64 x, .int .i64 l, .int .i64 m] w fun e w' => e = .returned (.bool false) ∧ w' = w := by
  by_cases h1 : l ≤ x
  · have b1 : decide (l ≤ x) = true := by simp; omega
    have b2 : decide (x ≤ m) = false := by simp; omega
    clear h h1
    go_enter Tryz.func17, Tryz.ntmps17
    go_wp2
    go_ret
    exact ⟨rfl, rfl⟩
  · have b1 : decide (l ≤ x) = false := by simp; omega
    clear h h1
    go_enter Tryz.func17, Tryz.ntmps17
    go_wp2
    go_ret
    exact ⟨rfl, rfl⟩
theorem wmove_no (s : ByteArray) (k key m : Int) (w : World) (hs : s.size ≤ 140737488351232) (hT : Tabs w) (hno : ¬ ((mayB s = true ∧ 0 ≤ k ∧ k ≤ (rs s).length) ∧ Rw.Word key ∧ 1 ≤ m ∧ m ≤ 999)) :
    Calls Tryz.prog 51 #[.string s, .int .i64 k, .int .i64 key, .int .i64 m] w fun e w' => Kept (fun _ => False) w w' ∧ e = .returned (.tuple #[.int .i64 0, .int .i64 1]) := by
  by_cases hy : mayB s = true ∧ 0 ≤ k ∧ k ≤ (rs s).length
  · obtain ⟨hm, h0, h1⟩ := hy
    obtain ⟨kk, rfl⟩ := Int.eq_ofNat_of_zero_le h0
    have cU := runes_yes s kk w hT hm (by omega)
    have hmm : m < 1 ∨ (1 ≤ m ∧ 999 < m) ∨ (1 ≤ m ∧ m ≤ 999 ∧ ¬ Rw.Word key) := by
      by_cases h2 : m < 1
      · exact .inl h2
      · by_cases h3 : 999 < m
        · exact .inr (.inl ⟨by omega, h3⟩)
        · exact .inr (.inr ⟨by omega, by omega, fun h => hno ⟨⟨hm, h0, h1⟩, h, by omega, by omega⟩⟩)
    clear hT hm hno h0 h1
    generalize rs s = t at *
    rcases hmm with h1 | ⟨h1, h2⟩ | ⟨h1, h2, h3⟩
    · have d1 : decide (m < 1) = true := decide_eq_true h1
      go_enter Tryz.func51, Tryz.ntmps51
      go_wp2_with (go_at_call 34; refine cU.mono ?_; rintro e w2 ⟨hk2, b, cap, rfl, hbg, hR⟩)
      exact bodyPost_ret (v := .tuple #[.int .i64 0, .int .i64 1]) (by simp [results, Tryz.results51, go_sem]) rfl ⟨hk2, rfl⟩
    · have d1 : decide (m < 1) = false := decide_eq_false (by omega)
      have d2 : decide (999 < m) = true := decide_eq_true h2
      go_enter Tryz.func51, Tryz.ntmps51
      go_wp2_with (go_at_call 34; refine cU.mono ?_; rintro e w2 ⟨hk2, b, cap, rfl, hbg, hR⟩)
      exact bodyPost_ret (v := .tuple #[.int .i64 0, .int .i64 1]) (by simp [results, Tryz.results51, go_sem]) rfl ⟨hk2, rfl⟩
    · have d1 : decide (m < 1) = false := decide_eq_false (by omega)
      have d2 : decide (999 < m) = false := decide_eq_false (by omega)
      have hne : ∀ a, Rw.Word a → (key == a) = false := fun a ha => by
        rw [beq_eq_false_iff_ne]
        rintro rfl
        exact h3 ha
      have e1 := hne 119 (by decide)
      have e2 := hne 98 (by decide)
      have e3 := hne 101 (by decide)
      have e4 := hne 87 (by decide)
      have e5 := hne 66 (by decide)
      have e6 := hne 69 (by decide)
      clear hne h3
      go_enter Tryz.func51, Tryz.ntmps51
      go_wp2_with (go_at_call 34; refine cU.mono ?_; rintro e w2 ⟨hk2, b, cap, rfl, hbg, hR⟩)
      exact bodyPost_ret (v := .tuple #[.int .i64 0, .int .i64 1]) (by simp [results, Tryz.results51, go_sem]) rfl ⟨hk2, rfl⟩
  · have cU := runes_no s k w hs hT hy
    clear hT hno hy
    go_enter Tryz.func51, Tryz.ntmps51
    go_wp2_with (go_at_call 34; refine cU.mono ?_; rintro e w2 ⟨hk2, rfl⟩)
    exact bodyPost_ret (v := .tuple #[.int .i64 0, .int .i64 1]) (by simp [results, Tryz.results51, go_sem]) rfl ⟨hk2, rfl⟩
theorem wmove_yes (s : ByteArray) (k c : Nat) (key : Int) (w : World) (hT : Tabs w) (hm : mayB s = true) (hk : k ≤ (rs s).length) (hc1 : 1 ≤ c) (hc : c ≤ 999) (hkey : Rw.Word key) :
    Calls Tryz.prog 51 #[.string s, .int .i64 k, .int .i64 key, .int .i64 c] w fun e w' => Kept (fun _ => False) w w' ∧ e = .returned (ansW (Rw.wmv (rs s) k key c)) := by
  obtain ⟨d, rfl⟩ : ∃ d, c = d + 1 := ⟨c - 1, by omega⟩
  rcases hkey with rfl | rfl | rfl | rfl | rfl | rfl
  · exact wm119_any s k d w hT hm hk (by omega)
  · exact wm98_any s k d w hT hm hk (by omega)
  · exact wm101_any s k d w hT hm hk (by omega)
  · exact wm87_any s k d w hT hm hk (by omega)
  · exact wm66_any s k d w hT hm hk (by omega)
  · exact wm69_any s k d w hT hm hk (by omega)
theorem rword_yes (A : Option Addr) (cap k c : Nat) (t : List Int) (key : Int) (w : World) (hA : Rn w A t.length t) (hr : Runey t) (hn : t.length ≤ 6000) (hk : k ≤ t.length) (hc : c ≤ 999) (hkey : Rw.Word key) :
    Calls Tryz.prog 69 #[.slice A t.length cap, .int .i64 k, .int .i64 key, .int .i64 c] w fun e w' => Kept (fun _ => False) w w' ∧ e = .returned (ansW (Rw.wmv t k key c)) := by
  rcases hkey with rfl | rfl | rfl | rfl | rfl | rfl
  · exact rw119_any A cap k c t w hA hr hn hk hc
  · exact rw98_any A cap k c t w hA hr hn hk hc
  · exact rw101_any A cap k c t w hA hr hn hk hc
  · exact rw87_any A cap k c t w hA hr hn hk hc
  · exact rw66_any A cap k c t w hA hr hn hk hc
  · exact rw69_any A cap k c t w hA hr hn hk hc
theorem ansW_form (o : Option Int) : ∃ X E : Int, ansW o = .tuple #[.int .i64 X, .int .i64 E] := by
  cases o with
  | none => exact ⟨0, 6, rfl⟩
  | some x => exact ⟨x, 0, rfl⟩
/-- Whether these arguments may be. -/
def GoodW (s : ByteArray) (k key m : Int) : Prop := mayB s = true ∧ (0 ≤ k ∧ k ≤ (rs s).length) ∧ Rw.Word key ∧ 1 ≤ m ∧ m ≤ 999
def ToldW (s : ByteArray) (k key m X E : Int) : Prop :=
  (GoodW s k key m → ansW (Rw.wmv (rs s) k.toNat key m.toNat) = .tuple #[.int .i64 X, .int .i64 E]) ∧ (¬ GoodW s k key m → X = 0 ∧ E = 1)
theorem wmove_all (s : ByteArray) (k key m : Int) (w : World) (hs : s.size ≤ 140737488351232) (hT : Tabs w) :
    Calls Tryz.prog 51 #[.string s, .int .i64 k, .int .i64 key, .int .i64 m] w fun e w' => (∃ X E : Int, e = .returned (.tuple #[.int .i64 X, .int .i64 E]) ∧ ToldW s k key m X E) ∧ Kept (fun _ => False) w w' := by
  by_cases hg : GoodW s k key m
  · obtain ⟨g1, ⟨g2, g3⟩, g4, g5, g6⟩ := id hg
    obtain ⟨kk, rfl⟩ := Int.eq_ofNat_of_zero_le g2
    obtain ⟨mm, rfl⟩ := Int.eq_ofNat_of_zero_le (show 0 ≤ m by omega)
    refine (wmove_yes s kk mm key w hT g1 (by omega) (by omega) (by omega) g4).mono ?_
    rintro e w' ⟨hk, rfl⟩
    obtain ⟨X, E, he⟩ := ansW_form (Rw.wmv (rs s) kk key mm)
    exact ⟨⟨X, E, by rw [he], fun _ => he, fun h => absurd hg h⟩, hk⟩
  · refine (wmove_no s k key m w hs hT (fun h => hg ⟨h.1.1, h.1.2, h.2.1, h.2.2.1, h.2.2.2⟩)).mono ?_
    rintro e w' ⟨hk, rfl⟩
    exact ⟨⟨0, 1, rfl, fun h => absurd h hg, fun _ => ⟨rfl, rfl⟩⟩, hk⟩
theorem rword_told {s : ByteArray} {A : Option Addr} {c : Nat} {t : List Int} {kk mm : Nat} {key X E : Int} (w : World) (hrs : rs s = t) (hA : Rn w A t.length t) (hn : t.length ≤ 6000) (hg : GoodW s kk key mm) (htold : ToldW s kk key mm X E) :
    Calls Tryz.prog 69 #[.slice A t.length c, .int .i64 kk, .int .i64 key, .int .i64 mm] w fun e w' => e = .returned (.tuple #[.int .i64 X, .int .i64 E]) ∧ Kept (fun _ => False) w w' := by
  obtain ⟨g1, ⟨g2, g3⟩, g4, g5, g6⟩ := id hg
  have ht := htold.1 hg
  rw [hrs] at ht g3
  have cR := rword_yes A c kk mm t key w hA (by rw [← hrs]; exact rs_runey (mayB_valid g1)) hn (by omega) (by omega) g4
  have ht' : ansW (Rw.wmv t kk key mm) = .tuple #[.int .i64 X, .int .i64 E] := ht
  rw [ht'] at cR
  exact cR.mono fun e w' h => ⟨h.2, h.1⟩
/-- Is it a key of these? -/
theorem word_any (key : Int) (w : World) : Calls Tryz.prog 61 #[.int .i64 key] w fun e w' => e = .returned (.bool (decide (Rw.Word key))) ∧ Kept (fun _ => False) w w' := by
  have hN := nums_new w [119, 98, 101, 87, 66, 69] 3
  have cI := zin_any (some ⟨w.heap.size, 0, none⟩) 6 6 _ key _ hN (by decide)
  have HL : Hid (key ∈ ([119, 98, 101, 87, 66, 69] : List Int) ↔ Rw.Word key) := by
    show _ ↔ _
    unfold Rw.Word
    simp
  clear hN
  go_enter Tryz.func61, Tryz.ntmps61
  go_wp2_with (go_at_call 59; refine cI.mono ?_; rintro e w' ⟨⟨r, rfl, h1, h2, h3⟩, rfl⟩; have H3 := Lib.hid h3; clear h3)
  have hb : decide (0 ≤ r) = decide (Rw.Word key) := decide_eq_decide.2 (H3.out.trans HL.out)
  have HB := Lib.hid hb
  clear hb H3
  go_ret
  rw [← HB.out]
  exact ⟨rfl, (Kept.refl _ w).alloc _⟩
theorem word_t {key : Int} (h : Rw.Word key) (w : World) : Calls Tryz.prog 61 #[.int .i64 key] w fun e w' => e = .returned (.bool true) ∧ Kept (fun _ => False) w w' := by
  have c := word_any key w
  rwa [decide_eq_true h] at c
theorem word_f {key : Int} (h : ¬ Rw.Word key) (w : World) : Calls Tryz.prog 61 #[.int .i64 key] w fun e w' => e = .returned (.bool false) ∧ Kept (fun _ => False) w w' := by
  have c := word_any key w
  rwa [decide_eq_false h] at c
/-- The text that wakes. -/
def abcd : ByteArray := ⟨#[97, 98, 32, 99, 100]⟩
theorem abcd_rs : rs abcd = [97, 98, 32, 99, 100] := by decide
theorem abcd_may : mayB abcd = true := by decide
theorem abcd_to : ansW (Rw.wmv (rs abcd) 0 119 1) = .tuple #[.int .i64 3, .int .i64 0] := by
  rw [abcd_rs]
  rfl
/-- What a law's loops hold of every world. -/
structure Held (w : World) (pb : Nat) (p : AskV) : Prop where
  pb : PB w pb p
  ask : AskOk w p
  tabs : Tabs w
theorem Held.kept {w w' : World} {pb : Nat} {p : AskV} (h : Held w pb p) (hk : Kept (fun _ => False) w w') : Held w' pb p :=
  ⟨h.pb.kept hk id, h.ask.kept hk, h.tabs.kept hk id id⟩
theorem Held.str {w : World} {pb : Nat} {p : AskV} (h : Held w pb p) {ad : Addr} (hA : p.A = some ad) {i : Nat} {s : ByteArray} (hs : p.ss[i]? = some s) : w.cell? (ad.add i) = some (.string s) := by
  obtain ⟨ad', e, hc, _⟩ := h.ask.ss.2 i s hs
  rw [hA] at e
  injection e with e
  subst e
  exact hc
end Go.Proofs.YtbofjefblhnkoaaGreatDoor
