/-
  REGISTERS: one is found, one is told.
-/
import Derived.Test.YtackgnkajffhiaaDoorRsC
set_option linter.unusedVariables false
namespace Go.Proofs.YtackgnkajffhiaaDoor
open Go Go.RowKit

set_option maxRecDepth 100000 in
theorem res_reg2 {fn : Func} {p u : Tmp} (h : fn.results = #[.cell p 41, .tmp u]) (tmps : Array Value) (w : World) (g : Nat) (r : RegS) (fr : Nat × Nat) (hp : tmps.getD p undef = .pointer (some ⟨g, 0, none⟩)) (hg : w.heap[g]? = some (.cells #[.int .i64 r.n, .string r.s, .bool r.b] 41 fr)) :
    (results fn tmps).run Tryd.prog w = .ok (.tuple #[regV r, tmps.getD u undef]) w := by
  rw [results_cell_tmp h, hp]
  simp [asAddr, Result.andThen, run_loadVar_row w g _ _ _ _ _ hg Tryd.underlying41 rfl (by kernel_rfl)]
theorem three {w : World} {g : Nat} {a0 a1 a2 : Value} {t : TypeId} {f : Nat × Nat} (h : w.heap[g]? = some (.cells #[a0, a1, a2] t f)) (u0 u1 u2 : Value) :
    (((w.setCell ⟨g, 0, none⟩ u0).setCell ⟨g, 1, none⟩ u1).setCell ⟨g, 2, none⟩ u2).heap[g]? = some (.cells #[u0, u1, u2] t f) := by
  have h0 : (w.setCell ⟨g, 0, none⟩ u0).heap[g]? = some (.cells #[u0, a1, a2] t f) := heap_set h u0
  have h1 : ((w.setCell ⟨g, 0, none⟩ u0).setCell ⟨g, 1, none⟩ u1).heap[g]? = some (.cells #[u0, u1, a2] t f) := heap_set h0 u1
  exact heap_set h1 u2
theorem Kept.three {S : Nat → Prop} {w w' : World} {g : Nat} (h : Kept S w w') (hg : S g) (u0 u1 u2 : Value) : Kept S w (((w'.setCell ⟨g, 0, none⟩ u0).setCell ⟨g, 1, none⟩ u1).setCell ⟨g, 2, none⟩ u2) :=
  ((h.setCell (p := ⟨g, 0, none⟩) hg _).setCell (p := ⟨g, 1, none⟩) hg _).setCell (p := ⟨g, 2, none⟩) hg _
theorem rzs {w : World} {rb : Nat} {r : RegS} (h : w.heap[rb]? = some (.cells #[.int .i64 r.n, .string r.s, .bool r.b] 41 (0, 0))) : (w.cell? ⟨rb, 0, none⟩ = some (.int .i64 r.n) ∧ w.cell? ⟨rb, 1, none⟩ = some (.string r.s) ∧ w.cell? ⟨rb, 2, none⟩ = some (.bool r.b)) ∧
    w.frozen? ⟨rb, 0, none⟩ = false ∧ w.frozen? ⟨rb, 1, none⟩ = false ∧ w.frozen? ⟨rb, 2, none⟩ = false :=
  ⟨⟨cell_of_row _ _ _ _ _ _ h, cell_of_row _ _ _ _ _ _ h, cell_of_row _ _ _ _ _ _ h⟩, frozen_of h, frozen_of h, frozen_of h⟩
/-- What find tells. -/
def fndV (o : Option RegS) : Value := match o with
  | some r => .tuple #[regV r, .bool true]
  | none => .tuple #[regV zReg, .bool false]
set_option maxRecDepth 100000 in
set_option maxHeartbeats 4000000 in
theorem find_any (A : Option Addr) (n c : Nat) (M : List RegS) (z : Int) (w : World) (hA : Rg w A n M) (hn : n ≤ 100000) :
    Calls Tryd.prog 31 #[.slice A n c, .int .i64 z] w fun e w' => e = .returned (fndV (Rs.get M z)) ∧ Kept (fun _ => False) w w' := by
  have hk0 : Kept (fun _ => False) w (w.alloc (regO zReg)) := (Kept.refl _ w).alloc _
  have hz : (w.alloc (regO zReg)).heap[w.heap.size]? = some (regO zReg) := heap_alloc_new w _
  have HA := Lib.hid (hA.kept hk0 (fun _ _ => id))
  have HK0 := Lib.hid hk0
  have HZ := Lib.hid hz
  have HLN : Hid (M.length = n) := hA.len
  obtain ⟨F, hF⟩ : ∃ F, fndV (Rs.get M z) = F := ⟨_, rfl⟩
  rw [hF]
  have HF := Lib.hid hF
  clear hA hk0 hz hF
  go_enter Tryd.func31, Tryd.ntmps31
  go_upto_region 1 with fail
  simp only [regO] at HA HK0 HZ
  generalize w.alloc (.cells #[.int .i64 0, .string ⟨#[]⟩, .bool false] 41) = w1 at *
  generalize hrb : w.heap.size = rb at *
  have HRB := Lib.hid hrb
  clear hrb
  go_wp2_with fail
  go_loopw [10] (fun v wr => ∃ k : Nat, k ≤ n ∧ v = .int .i64 k ∧ (∀ (j : Nat) (q : RegS), j < k → M[j]? = some q → q.n ≠ z) ∧ Kept (fun _ => False) w1 wr) (fun v _ => n - (intOf v).toNat)
  case atStart => exact ⟨0, Nat.zero_le _, rfl, fun j q hj => by omega, Kept.refl _ _⟩
  case round =>
    obtain ⟨k, hk, rfl, hat, hkept⟩ := hrel
    have HAT := Lib.hid hat
    have HK := Lib.hid hkept
    clear hat hkept
    by_cases hlt : k < n
    · obtain ⟨ad, r, rfl, hr, h3, hsz⟩ := (HA.out.kept HK.out (fun _ _ => id)).at_ hlt
      have b1 : decide (k < n) = true := decide_eq_true hlt
      have b2 : decide ((k : Int) < (n : Int)) = true := decide_eq_true (by omega)
      have t1 : (0 : Int) ≤ (k : Int) := by omega
      have t2 : (k : Int) < (n : Int) := by omega
      have c0 := h3.c0
      have c1 := h3.c1
      have c2 := h3.c2
      have HR := Lib.hid hr
      have hk1 : Kept (fun _ => False) wr (wr.alloc (regO r)) := (Kept.refl _ _).alloc _
      have HP := Lib.hid (rg3_new (w := wr) (r := r))
      have HKP := Lib.hid (HK.out.trans hk1)
      clear h3 hsz hr hk1
      go_upto_region 4 with fail
      clear c0 c1 c2
      simp only [regO] at HP HKP
      generalize wr.alloc (.cells #[.int .i64 r.n, .string r.s, .bool r.b] 41) = w2 at *
      generalize wr.heap.size = g at *
      obtain ⟨p0, p1, p2⟩ := HP.out.cs
      by_cases hx : r.n = z
      · have b3 : (r.n == z) = true := by simp [hx]
        have HE : Hid (F = .tuple #[regV r, .bool true]) := by
          show _ = _
          rw [← HF.out, ← hx, Rs.get_hit HR.out (fun j q hj hq => by rw [hx]; exact HAT.out j q hj hq)]
          rfl
        have hz2 := (HKP.out.block rb (heap_lt HZ.out) id).trans HZ.out
        obtain ⟨⟨d0, d1, d2⟩, f0, f1, f2⟩ := rzs (r := zReg) hz2
        have HZ2 := Lib.hid hz2
        clear hz2 hx
        go_wp2_with fail
        refine bodyPost_ret (res_reg2 rfl _ _ rb r (0, 0) rfl (three HZ2.out _ _ _)) rfl ⟨?_, (HK0.out.trans HKP.out).fresh (Kept.three (Kept.refl (fun q => q = rb) w2) rfl _ _ _) (fun q hq e => by have e : q = rb := e; have := HRB.out; omega)⟩
        rw [HE.out]
        rfl
      · have b3 : (r.n == z) = false := beq_eq_false_iff_ne.2 hx
        have HN : Hid (∀ (j : Nat) (q : RegS), j < k + 1 → M[j]? = some q → q.n ≠ z) := by
          show ∀ (j : Nat) (q : RegS), j < k + 1 → M[j]? = some q → q.n ≠ z
          intro j q hj hq
          by_cases hjk : j < k
          · exact HAT.out j q hjk hq
          · obtain rfl : j = k := by omega
            rw [HR.out] at hq
            injection hq with hq
            exact hq ▸ hx
        clear hx
        go_wp2_with fail
        go_roundw
        case rel => exact ⟨k + 1, by omega, by go_num, HN.out, HKP.out⟩
        case measure => simp [intOf] <;> omega
    · obtain rfl : k = n := by omega
      have b1 : decide (k < k) = false := decide_eq_false (by omega)
      have b2 : decide ((k : Int) < (k : Int)) = false := decide_eq_false (by omega)
      have HE : Hid (F = .tuple #[regV zReg, .bool false]) := by
        show _ = _
        rw [← HF.out, Rs.get_none (fun j q hq => HAT.out j q (by
          by_cases hj : j < k
          · exact hj
          · rw [List.getElem?_eq_none (by have := HLN.out; omega)] at hq; cases hq) hq)]
        rfl
      have hz2 := (HK.out.block rb (heap_lt HZ.out) id).trans HZ.out
      obtain ⟨⟨d0, d1, d2⟩, f0, f1, f2⟩ := rzs (r := zReg) hz2
      have HZ2 := Lib.hid hz2
      clear hz2
      go_wp2_with fail
      refine bodyPost_ret (res_reg2 rfl _ _ rb zReg (0, 0) rfl (three HZ2.out _ _ _)) rfl ⟨?_, (HK0.out.trans HK.out).fresh (Kept.three (Kept.refl (fun q => q = rb) wr) rfl _ _ _) (fun q hq e => by have e : q = rb := e; have := HRB.out; omega)⟩
      rw [HE.out]
      rfl
/-- What Get tells. -/
def gotV (o : Option RegS) : Value := match o with
  | some r => .tuple #[regV r, .int .i64 0]
  | none => .tuple #[regV zReg, .int .i64 7]
/-- Whose register a name means. -/
def nmOf (z : Int) : Int := if z = 0 then 34 else if Rs.Gt z then z + 32 else z
set_option maxRecDepth 100000 in
set_option maxHeartbeats 4000000 in
theorem pget_ok (A : Option Addr) (n c : Nat) (M : List RegS) (z : Int) (w : World) (hA : Rg w A n M) (hn : n ≤ 100000) (hM : Rs.ok M) (hz : Rs.Td z) (hT : Tabs w) :
    Calls Tryd.prog 14 #[.slice A n c, .int .i64 z] w fun e w' => e = .returned (gotV (Rs.get M (nmOf z))) ∧ Kept (fun _ => False) w w' := by
  have hk0 : Kept (fun _ => False) w (w.alloc (regO zReg)) := (Kept.refl _ w).alloc _
  have hz0 : (w.alloc (regO zReg)).heap[w.heap.size]? = some (regO zReg) := heap_alloc_new w _
  have hA1 := hA.kept hk0 (fun _ _ => id)
  have cC := pcheck_ok A n c M _ hA1 hn hM (hT.kept hk0 id id)
  have cT := fun W => told_any z W
  rw [decide_eq_true hz] at cT
  have cG := fun W => great_any (if z = 0 then 34 else z) W
  have cF := fun (x : Int) W (hk : Kept (fun _ => False) (w.alloc (regO zReg)) W) => find_any A n c M x W (hA1.kept hk (fun _ _ => id)) hn
  have HK0 := Lib.hid hk0
  have HZ := Lib.hid hz0
  obtain ⟨F, hF⟩ : ∃ F, gotV (Rs.get M (nmOf z)) = F := ⟨_, rfl⟩
  rw [hF]
  have HF := Lib.hid hF
  clear hA hk0 hz0 hF hA1 hM hT
  have hzz : z = 0 ∨ (z ≠ 0 ∧ Rs.Gt z) ∨ (z ≠ 0 ∧ ¬ Rs.Gt z) := by
    by_cases h : z = 0
    · exact .inl h
    · by_cases h2 : Rs.Gt z
      · exact .inr (.inl ⟨h, h2⟩)
      · exact .inr (.inr ⟨h, h2⟩)
  go_enter Tryd.func14, Tryd.ntmps14
  go_upto_region 1 with fail
  simp only [regO] at cC cF HK0 HZ
  generalize w.alloc (.cells #[.int .i64 0, .string ⟨#[]⟩, .bool false] 41) = w1 at *
  generalize hrb : w.heap.size = rb at *
  have HRB := Lib.hid hrb
  clear hrb
  rcases hzz with h0 | ⟨h0, hg0⟩ | ⟨h0, hg0⟩
  · subst h0
    rw [if_pos rfl, decide_eq_false (show ¬ Rs.Gt 34 by decide)] at cG
    cases hg : Rs.get M (34) with
    | none =>
      have HE : Hid (F = gotV (none)) := by
        show _ = _
        rw [← HF.out, show nmOf 0 = 34 from rfl, hg]
      have cF2 := fun W hk => cF (34) W hk
      rw [hg] at cF2
      unfold fndV at cF2
      simp only at cF2
      clear hg cF
      go_upto_region 8 with (first
        | (go_at_call 8; refine cC.mono ?_; rintro e w2 ⟨rfl, hk2⟩; have HK2 := Lib.hid hk2; clear hk2)
        | (go_at_call 29; refine (cT _).mono ?_; rintro e w' ⟨rfl, hw⟩; have hw2 := hw.symm; subst hw2)
        | (go_at_call 30; refine (cG _).mono ?_; rintro e w' ⟨rfl, hw⟩; have hw2 := hw.symm; subst hw2)
        | (go_at_call 31; refine (cF2 _ HK2.out).mono ?_; rintro e w3 ⟨rfl, hk3⟩; have HK3 := Lib.hid (HK2.out.trans hk3); clear hk3))
      have hk4 : Kept (fun _ => False) w3 (w3.alloc (regO zReg)) := (Kept.refl _ _).alloc _
      have HP := Lib.hid (rg3_new (w := w3) (r := zReg))
      have HK4 := Lib.hid (HK3.out.trans hk4)
      clear hk4 cF2 cC
      simp only [regO] at HP HK4
      generalize w3.alloc (.cells #[.int .i64 0, .string ⟨#[]⟩, .bool false] 41) = w4 at *
      generalize w3.heap.size = g at *
      have hz2 := (HK4.out.block rb (heap_lt HZ.out) id).trans HZ.out
      obtain ⟨⟨d0, d1, d2⟩, f0, f1, f2⟩ := rzs (r := zReg) hz2
      have HZ2 := Lib.hid hz2
      obtain ⟨p0, p1, p2⟩ := HP.out.cs
      clear hz2
      go_wp2_with fail
      refine bodyPost_ret (res_reg2 rfl _ _ rb zReg (0, 0) rfl (three HZ2.out _ _ _)) rfl ⟨?_, (HK0.out.trans HK4.out).fresh (Kept.three (Kept.refl (fun q => q = rb) w4) rfl _ _ _) (fun q hq e => by have e : q = rb := e; have := HRB.out; omega)⟩
      rw [HE.out]
      rfl
    | some r =>
      have HE : Hid (F = gotV (some r)) := by
        show _ = _
        rw [← HF.out, show nmOf 0 = 34 from rfl, hg]
      have cF2 := fun W hk => cF (34) W hk
      rw [hg] at cF2
      unfold fndV at cF2
      simp only at cF2
      clear hg cF
      go_upto_region 8 with (first
        | (go_at_call 8; refine cC.mono ?_; rintro e w2 ⟨rfl, hk2⟩; have HK2 := Lib.hid hk2; clear hk2)
        | (go_at_call 29; refine (cT _).mono ?_; rintro e w' ⟨rfl, hw⟩; have hw2 := hw.symm; subst hw2)
        | (go_at_call 30; refine (cG _).mono ?_; rintro e w' ⟨rfl, hw⟩; have hw2 := hw.symm; subst hw2)
        | (go_at_call 31; refine (cF2 _ HK2.out).mono ?_; rintro e w3 ⟨rfl, hk3⟩; have HK3 := Lib.hid (HK2.out.trans hk3); clear hk3))
      have hk4 : Kept (fun _ => False) w3 (w3.alloc (regO r)) := (Kept.refl _ _).alloc _
      have HP := Lib.hid (rg3_new (w := w3) (r := r))
      have HK4 := Lib.hid (HK3.out.trans hk4)
      clear hk4 cF2 cC
      simp only [regO] at HP HK4
      generalize w3.alloc (.cells #[.int .i64 r.n, .string r.s, .bool r.b] 41) = w4 at *
      generalize w3.heap.size = g at *
      have hz2 := (HK4.out.block rb (heap_lt HZ.out) id).trans HZ.out
      obtain ⟨⟨d0, d1, d2⟩, f0, f1, f2⟩ := rzs (r := zReg) hz2
      have HZ2 := Lib.hid hz2
      obtain ⟨p0, p1, p2⟩ := HP.out.cs
      clear hz2
      go_wp2_with fail
      refine bodyPost_ret (res_reg2 rfl _ _ rb r (0, 0) rfl (three HZ2.out _ _ _)) rfl ⟨?_, (HK0.out.trans HK4.out).fresh (Kept.three (Kept.refl (fun q => q = rb) w4) rfl _ _ _) (fun q hq e => by have e : q = rb := e; have := HRB.out; omega)⟩
      rw [HE.out]
      rfl
  · have b0 : (z == 0) = false := beq_eq_false_iff_ne.2 h0
    rw [if_neg h0, decide_eq_true hg0] at cG
    have ez : IntKind.i64.wrap (z + 32) = z + 32 := IntWalk.i64_in _ ⟨by have := hg0.1; omega, by have := hg0.2; omega⟩
    have hnm : nmOf z = z + 32 := by unfold nmOf; rw [if_neg h0, if_pos hg0]
    have hb1 := hg0.1
    have hb2 := hg0.2
    have HNM := Lib.hid hnm
    clear hnm hg0 h0
    cases hg : Rs.get M (z + 32) with
    | none =>
      have HE : Hid (F = gotV (none)) := by
        show _ = _
        rw [← HF.out, HNM.out, hg]
      have cF2 := fun W hk => cF (z + 32) W hk
      rw [hg] at cF2
      unfold fndV at cF2
      simp only at cF2
      clear hg cF
      go_upto_region 8 with (first
        | (go_at_call 8; refine cC.mono ?_; rintro e w2 ⟨rfl, hk2⟩; have HK2 := Lib.hid hk2; clear hk2)
        | (go_at_call 29; refine (cT _).mono ?_; rintro e w' ⟨rfl, hw⟩; have hw2 := hw.symm; subst hw2)
        | (go_at_call 30; refine (cG _).mono ?_; rintro e w' ⟨rfl, hw⟩; have hw2 := hw.symm; subst hw2)
        | (go_at_call 31; refine (cF2 _ HK2.out).mono ?_; rintro e w3 ⟨rfl, hk3⟩; have HK3 := Lib.hid (HK2.out.trans hk3); clear hk3))
      have hk4 : Kept (fun _ => False) w3 (w3.alloc (regO zReg)) := (Kept.refl _ _).alloc _
      have HP := Lib.hid (rg3_new (w := w3) (r := zReg))
      have HK4 := Lib.hid (HK3.out.trans hk4)
      clear hk4 cF2 cC
      simp only [regO] at HP HK4
      generalize w3.alloc (.cells #[.int .i64 0, .string ⟨#[]⟩, .bool false] 41) = w4 at *
      generalize w3.heap.size = g at *
      have hz2 := (HK4.out.block rb (heap_lt HZ.out) id).trans HZ.out
      obtain ⟨⟨d0, d1, d2⟩, f0, f1, f2⟩ := rzs (r := zReg) hz2
      have HZ2 := Lib.hid hz2
      obtain ⟨p0, p1, p2⟩ := HP.out.cs
      clear hz2
      go_wp2_with fail
      refine bodyPost_ret (res_reg2 rfl _ _ rb zReg (0, 0) rfl (three HZ2.out _ _ _)) rfl ⟨?_, (HK0.out.trans HK4.out).fresh (Kept.three (Kept.refl (fun q => q = rb) w4) rfl _ _ _) (fun q hq e => by have e : q = rb := e; have := HRB.out; omega)⟩
      rw [HE.out]
      rfl
    | some r =>
      have HE : Hid (F = gotV (some r)) := by
        show _ = _
        rw [← HF.out, HNM.out, hg]
      have cF2 := fun W hk => cF (z + 32) W hk
      rw [hg] at cF2
      unfold fndV at cF2
      simp only at cF2
      clear hg cF
      go_upto_region 8 with (first
        | (go_at_call 8; refine cC.mono ?_; rintro e w2 ⟨rfl, hk2⟩; have HK2 := Lib.hid hk2; clear hk2)
        | (go_at_call 29; refine (cT _).mono ?_; rintro e w' ⟨rfl, hw⟩; have hw2 := hw.symm; subst hw2)
        | (go_at_call 30; refine (cG _).mono ?_; rintro e w' ⟨rfl, hw⟩; have hw2 := hw.symm; subst hw2)
        | (go_at_call 31; refine (cF2 _ HK2.out).mono ?_; rintro e w3 ⟨rfl, hk3⟩; have HK3 := Lib.hid (HK2.out.trans hk3); clear hk3))
      have hk4 : Kept (fun _ => False) w3 (w3.alloc (regO r)) := (Kept.refl _ _).alloc _
      have HP := Lib.hid (rg3_new (w := w3) (r := r))
      have HK4 := Lib.hid (HK3.out.trans hk4)
      clear hk4 cF2 cC
      simp only [regO] at HP HK4
      generalize w3.alloc (.cells #[.int .i64 r.n, .string r.s, .bool r.b] 41) = w4 at *
      generalize w3.heap.size = g at *
      have hz2 := (HK4.out.block rb (heap_lt HZ.out) id).trans HZ.out
      obtain ⟨⟨d0, d1, d2⟩, f0, f1, f2⟩ := rzs (r := zReg) hz2
      have HZ2 := Lib.hid hz2
      obtain ⟨p0, p1, p2⟩ := HP.out.cs
      clear hz2
      go_wp2_with fail
      refine bodyPost_ret (res_reg2 rfl _ _ rb r (0, 0) rfl (three HZ2.out _ _ _)) rfl ⟨?_, (HK0.out.trans HK4.out).fresh (Kept.three (Kept.refl (fun q => q = rb) w4) rfl _ _ _) (fun q hq e => by have e : q = rb := e; have := HRB.out; omega)⟩
      rw [HE.out]
      rfl
  · have b0 : (z == 0) = false := beq_eq_false_iff_ne.2 h0
    rw [if_neg h0, decide_eq_false hg0] at cG
    have hnm : nmOf z = z := by unfold nmOf; rw [if_neg h0, if_neg hg0]
    have HNM := Lib.hid hnm
    clear hnm hg0 h0
    cases hg : Rs.get M (z) with
    | none =>
      have HE : Hid (F = gotV (none)) := by
        show _ = _
        rw [← HF.out, HNM.out, hg]
      have cF2 := fun W hk => cF (z) W hk
      rw [hg] at cF2
      unfold fndV at cF2
      simp only at cF2
      clear hg cF
      go_upto_region 8 with (first
        | (go_at_call 8; refine cC.mono ?_; rintro e w2 ⟨rfl, hk2⟩; have HK2 := Lib.hid hk2; clear hk2)
        | (go_at_call 29; refine (cT _).mono ?_; rintro e w' ⟨rfl, hw⟩; have hw2 := hw.symm; subst hw2)
        | (go_at_call 30; refine (cG _).mono ?_; rintro e w' ⟨rfl, hw⟩; have hw2 := hw.symm; subst hw2)
        | (go_at_call 31; refine (cF2 _ HK2.out).mono ?_; rintro e w3 ⟨rfl, hk3⟩; have HK3 := Lib.hid (HK2.out.trans hk3); clear hk3))
      have hk4 : Kept (fun _ => False) w3 (w3.alloc (regO zReg)) := (Kept.refl _ _).alloc _
      have HP := Lib.hid (rg3_new (w := w3) (r := zReg))
      have HK4 := Lib.hid (HK3.out.trans hk4)
      clear hk4 cF2 cC
      simp only [regO] at HP HK4
      generalize w3.alloc (.cells #[.int .i64 0, .string ⟨#[]⟩, .bool false] 41) = w4 at *
      generalize w3.heap.size = g at *
      have hz2 := (HK4.out.block rb (heap_lt HZ.out) id).trans HZ.out
      obtain ⟨⟨d0, d1, d2⟩, f0, f1, f2⟩ := rzs (r := zReg) hz2
      have HZ2 := Lib.hid hz2
      obtain ⟨p0, p1, p2⟩ := HP.out.cs
      clear hz2
      go_wp2_with fail
      refine bodyPost_ret (res_reg2 rfl _ _ rb zReg (0, 0) rfl (three HZ2.out _ _ _)) rfl ⟨?_, (HK0.out.trans HK4.out).fresh (Kept.three (Kept.refl (fun q => q = rb) w4) rfl _ _ _) (fun q hq e => by have e : q = rb := e; have := HRB.out; omega)⟩
      rw [HE.out]
      rfl
    | some r =>
      have HE : Hid (F = gotV (some r)) := by
        show _ = _
        rw [← HF.out, HNM.out, hg]
      have cF2 := fun W hk => cF (z) W hk
      rw [hg] at cF2
      unfold fndV at cF2
      simp only at cF2
      clear hg cF
      go_upto_region 8 with (first
        | (go_at_call 8; refine cC.mono ?_; rintro e w2 ⟨rfl, hk2⟩; have HK2 := Lib.hid hk2; clear hk2)
        | (go_at_call 29; refine (cT _).mono ?_; rintro e w' ⟨rfl, hw⟩; have hw2 := hw.symm; subst hw2)
        | (go_at_call 30; refine (cG _).mono ?_; rintro e w' ⟨rfl, hw⟩; have hw2 := hw.symm; subst hw2)
        | (go_at_call 31; refine (cF2 _ HK2.out).mono ?_; rintro e w3 ⟨rfl, hk3⟩; have HK3 := Lib.hid (HK2.out.trans hk3); clear hk3))
      have hk4 : Kept (fun _ => False) w3 (w3.alloc (regO r)) := (Kept.refl _ _).alloc _
      have HP := Lib.hid (rg3_new (w := w3) (r := r))
      have HK4 := Lib.hid (HK3.out.trans hk4)
      clear hk4 cF2 cC
      simp only [regO] at HP HK4
      generalize w3.alloc (.cells #[.int .i64 r.n, .string r.s, .bool r.b] 41) = w4 at *
      generalize w3.heap.size = g at *
      have hz2 := (HK4.out.block rb (heap_lt HZ.out) id).trans HZ.out
      obtain ⟨⟨d0, d1, d2⟩, f0, f1, f2⟩ := rzs (r := zReg) hz2
      have HZ2 := Lib.hid hz2
      obtain ⟨p0, p1, p2⟩ := HP.out.cs
      clear hz2
      go_wp2_with fail
      refine bodyPost_ret (res_reg2 rfl _ _ rb r (0, 0) rfl (three HZ2.out _ _ _)) rfl ⟨?_, (HK0.out.trans HK4.out).fresh (Kept.three (Kept.refl (fun q => q = rb) w4) rfl _ _ _) (fun q hq e => by have e : q = rb := e; have := HRB.out; omega)⟩
      rw [HE.out]
      rfl
end Go.Proofs.YtackgnkajffhiaaDoor
