/-
  REGISTERS: turn.
-/
import Derived.Test.YtackgnkajffhiaaDoorRsK
set_option linter.unusedVariables false
namespace Go.Proofs.YtackgnkajffhiaaDoor
open Go Go.RowKit

theorem flatR_set : ∀ {L : List RegS} {k : Nat} {r : RegS} (z : Int), L[k]? = some r → (flatR L).set (k * 3) (.int .i64 z) = flatR (L.set k ⟨z, r.s, r.b⟩)
  | [], k, r, z, h => by simp at h
  | q :: L, 0, r, z, h => by
    simp only [List.getElem?_cons_zero, Option.some.injEq] at h
    subst h
    simp [flatR, RegS.vs]
  | q :: L, k + 1, r, z, h => by
    have ih := flatR_set (L := L) (k := k) z (by simpa using h)
    have e : ∀ (x : RegS) (l : List RegS), flatR (x :: l) = .int .i64 x.n :: .string x.s :: .bool x.b :: flatR l := fun x l => by simp [flatR, RegS.vs]
    rw [List.set_cons_succ, e, e, show (k + 1) * 3 = k * 3 + 1 + 1 + 1 by omega, List.set_cons_succ, List.set_cons_succ, List.set_cons_succ, ih]
theorem Rm.name {w : World} {g cap : Nat} {L : List RegS} (h : Rm w g cap L) {k : Nat} {r : RegS} (hr : L[k]? = some r) (z : Int) : Rm (w.setCell ⟨g, k * 3, none⟩ (.int .i64 z)) g cap (L.set k ⟨z, r.s, r.b⟩) := by
  obtain ⟨cur, h1, h2, h3⟩ := h.h
  have hk : k < L.length := by
    by_cases hl : k < L.length
    · exact hl
    · rw [List.getElem?_eq_none (by omega)] at hr; cases hr
  refine ⟨⟨_, heap_set h1 _, by simp [h2], ?_⟩, by rw [List.length_set]; exact h.le⟩
  rw [List.length_set, Array.toList_setIfInBounds, List.take_set, h3, flatR_set z hr]
theorem turn_step {X : List RegS} {k : Nat} {r : RegS} (hr : X[k]? = some r) : (X.take (k + 1)).map Rs.turn1 ++ X.drop (k + 1) = ((X.take k).map Rs.turn1 ++ X.drop k).set k (Rs.turn1 r) := by
  have hk : k < X.length := by
    by_cases hl : k < X.length
    · exact hl
    · rw [List.getElem?_eq_none (by omega)] at hr; cases hr
  have e : X.drop k = r :: X.drop (k + 1) := by
    rw [List.drop_eq_getElem_cons hk]
    rw [List.getElem?_eq_getElem hk] at hr
    injection hr with hr
    rw [hr]
  have hl : ((X.take k).map Rs.turn1).length = k := by rw [List.length_map, List.length_take]; omega
  rw [List.take_add_one, hr, e, List.set_append_right _ _ (by omega), hl, Nat.sub_self, List.set_cons_zero]
  simp
theorem turn_at {X : List RegS} {k : Nat} {r : RegS} (hr : X[k]? = some r) : ((X.take k).map Rs.turn1 ++ X.drop k)[k]? = some r := by
  have hk : k < X.length := by
    by_cases hl : k < X.length
    · exact hl
    · rw [List.getElem?_eq_none (by omega)] at hr; cases hr
  have hl : ((X.take k).map Rs.turn1).length = k := by rw [List.length_map, List.length_take]; omega
  rw [List.getElem?_append_right (by omega), hl, Nat.sub_self, List.getElem?_drop]
  exact hr
theorem turn_len (X : List RegS) (k : Nat) : ((X.take k).map Rs.turn1 ++ X.drop k).length = X.length := by
  rw [List.length_append, List.length_map, List.length_take, List.length_drop]
  omega
theorem rm_at {w : World} {g cap : Nat} {L : List RegS} (h : Rm w g cap L) {k : Nat} {r : RegS} (hr : L[k]? = some r) {ad : Addr} (had : (⟨g, 0, none⟩ : Addr) = ad) : Rg3 w (ad.add (k * 3)) r := by
  subst had
  have e : (⟨g, 0, none⟩ : Addr).add (k * 3) = ⟨g, k * 3, none⟩ := by rw [addr_add, Nat.zero_add]
  rw [e]
  exact h.row hr
theorem rm_name {w : World} {g cap : Nat} {L : List RegS} (h : Rm w g cap L) {k : Nat} {r : RegS} (hr : L[k]? = some r) (z : Int) {ad : Addr} (had : (⟨g, 0, none⟩ : Addr) = ad) : Rm (w.setCell (ad.add (k * 3)) (.int .i64 z)) g cap (L.set k ⟨z, r.s, r.b⟩) := by
  subst had
  have e : (⟨g, 0, none⟩ : Addr).add (k * 3) = ⟨g, k * 3, none⟩ := by rw [addr_add, Nat.zero_add]
  rw [e]
  exact h.name hr z
theorem rm_fr {w : World} {g cap : Nat} {L : List RegS} (h : Rm w g cap L) (k : Nat) {ad : Addr} (had : (⟨g, 0, none⟩ : Addr) = ad) : w.frozen? (ad.add (k * 3)) = false := by
  subst had
  have e : (⟨g, 0, none⟩ : Addr).add (k * 3) = ⟨g, k * 3, none⟩ := by rw [addr_add, Nat.zero_add]
  rw [e]
  exact h.free _
theorem turn1_no {r : RegS} (h : ¬ (49 ≤ r.n ∧ r.n ≤ 56)) : Rs.turn1 r = r := if_neg h
theorem set_self {L : List RegS} {k : Nat} {r : RegS} (h : L[k]? = some r) : L.set k r = L := by
  apply List.ext_getElem?
  intro j
  rw [List.getElem?_set]
  split
  · rename_i e
    subst e
    split
    · exact h.symm
    · rw [List.getElem?_eq_none (by omega)]
  · rfl
set_option maxRecDepth 100000 in
set_option maxHeartbeats 4000000 in
theorem turn_any (A : Option Addr) (n c : Nat) (M : List RegS) (w : World) (hA : Rg w A n M) (hn : n ≤ 100000) :
    Calls Tryd.prog 28 #[.slice A n c] w fun e w' => (∃ g, e = .returned (.slice (some ⟨g, 0, none⟩) (Rs.turn M).length (n + 1)) ∧ Rm w' g (n + 1) (Rs.turn M) ∧ w.heap.size ≤ g) ∧ Kept (fun _ => False) w w' := by
  have cW := without_any A n c M 57 _ hA hn
  obtain ⟨X, hX⟩ : ∃ X, Rs.wo M 57 = X := ⟨_, rfl⟩
  have hsz : ∀ q ∈ X, q.s.size ≤ 140737488351232 := fun q hq => hA.sz q (by rw [← hX] at hq; exact (List.mem_filter.1 hq).1)
  have hpe : Rs.turn M = X.map Rs.turn1 := by rw [← hX]; rfl
  have hl := Rs.wo_len M 57
  rw [hA.len] at hl
  rw [hX] at cW hl
  rw [hpe, List.length_map]
  obtain ⟨N, hN⟩ : ∃ N, X.length = N := ⟨_, rfl⟩
  rw [hN] at cW hl ⊢
  have HN := Lib.hid hN
  have HSZ := Lib.hid hsz
  obtain ⟨w0, hw0⟩ : ∃ w0, w.heap.size = w0 := ⟨_, rfl⟩
  rw [hw0] at cW ⊢
  have HW0 := Lib.hid hw0
  clear hA hX hsz hpe hN hw0
  go_enter Tryd.func28, Tryd.ntmps28
  go_upto_region 2 with (go_at_call 43; refine cW.mono ?_; rintro e w2 ⟨⟨g, he, hrm, hge⟩, hk2⟩; obtain ⟨ad, had⟩ : ∃ ad : Addr, (⟨g, 0, none⟩ : Addr) = ad := ⟨_, rfl⟩; rw [had] at he; subst he; have HAD := Lib.hid had; have HRM := Lib.hid hrm; have HK2 := Lib.hid hk2; have HGE := Lib.hid hge; clear had hrm hk2 cW hge)
  go_wp2_with fail
  go_loopw [10] (fun v wr => ∃ k : Nat, k ≤ N ∧ v = .int .i64 k ∧ Rm wr g (n + 1) ((X.take k).map Rs.turn1 ++ X.drop k) ∧ Kept (fun q => q = g) w2 wr) (fun v _ => N - (intOf v).toNat)
  case atStart => exact ⟨0, Nat.zero_le _, rfl, by simpa using HRM.out, Kept.refl _ _⟩
  case round =>
    obtain ⟨k, hk, rfl, hrm, hkept⟩ := hrel
    have HK := Lib.hid hkept
    have HR := Lib.hid hrm
    clear hkept hrm
    by_cases hlt : k < N
    · obtain ⟨r, hr⟩ : ∃ r, X[k]? = some r := ⟨_, List.getElem?_eq_getElem (by rw [HN.out]; exact hlt)⟩
      have HST := Lib.hid (turn_step hr)
      have HAT := Lib.hid (turn_at hr)
      clear hr
      generalize (X.take k).map Rs.turn1 ++ X.drop k = L at HR HST HAT
      have b1 : decide (k < N) = true := decide_eq_true hlt
      have b2 : decide ((k : Int) < (N : Int)) = true := decide_eq_true (by omega)
      have t1 : (0 : Int) ≤ (k : Int) := by omega
      have t2 : (k : Int) < (N : Int) := by omega
      obtain ⟨c0, c1, c2⟩ := rm_at HR.out HAT.out HAD.out
      have hk1 : Kept (fun _ => False) wr (wr.alloc (regO r)) := (Kept.refl _ _).alloc _
      have HP := Lib.hid (rg3_new (w := wr) (r := r))
      have HK1 := Lib.hid hk1
      have HR3 := Lib.hid (HR.out.kept hk1 id)
      clear hk1 HR
      go_upto_region 5 with fail
      clear c0 c1 c2
      simp only [regO] at HP HK1 HR3
      generalize wr.alloc (.cells #[.int .i64 r.n, .string r.s, .bool r.b] 41) = w3 at *
      generalize wr.heap.size = q at *
      obtain ⟨p0, p1, p2⟩ := HP.out.cs
      by_cases hx : 49 ≤ r.n
      · have b3 : decide (49 ≤ r.n) = true := decide_eq_true hx
        by_cases hy : r.n ≤ 56
        · have b4 : decide (r.n ≤ 56) = true := decide_eq_true hy
          have HE : Hid (Rs.turn1 r = ⟨r.n + 1, r.s, r.b⟩) := if_pos ⟨hx, hy⟩
          have ez : IntKind.i64.wrap (r.n + 1) = r.n + 1 := IntWalk.i64_in _ ⟨by omega, by omega⟩
          have HS := Lib.hid (rm_name HR3.out HAT.out (r.n + 1) HAD.out)
          have c0 := (rm_at HR3.out HAT.out HAD.out).c0
          have f0 := rm_fr HR3.out k HAD.out
          have HKS : Hid (Kept (fun q => q = g) w3 (w3.setCell (ad.add (k * 3)) (.int .i64 (r.n + 1)))) := (Kept.refl (fun q => q = g) w3).setCell (p := ad.add (k * 3)) (by rw [addr_blk, ← HAD.out]) _
          clear hx hy
          go_wp2_with fail
          go_roundw
          case rel => exact ⟨k + 1, by omega, by go_num, by rw [HST.out, HE.out]; exact HS.out, (HK.out.trans HK1.out.any).trans HKS.out⟩
          case measure => simp [intOf] <;> omega
        · have b4 : decide (r.n ≤ 56) = false := decide_eq_false hy
          have HE : Hid (Rs.turn1 r = r) := turn1_no (fun h => hy h.2)
          clear hx hy
          go_wp2_with fail
          go_roundw
          case rel => exact ⟨k + 1, by omega, by go_num, by rw [HST.out, HE.out, set_self HAT.out]; exact HR3.out, HK.out.trans HK1.out.any⟩
          case measure => simp [intOf] <;> omega
      · have b3 : decide (49 ≤ r.n) = false := decide_eq_false hx
        have HE : Hid (Rs.turn1 r = r) := turn1_no (fun h => hx h.1)
        clear hx
        go_wp2_with fail
        go_roundw
        case rel => exact ⟨k + 1, by omega, by go_num, by rw [HST.out, HE.out, set_self HAT.out]; exact HR3.out, HK.out.trans HK1.out.any⟩
        case measure => simp [intOf] <;> omega
    · obtain rfl : k = N := by omega
      have b1 : decide (k < k) = false := decide_eq_false (by omega)
      have b2 : decide ((k : Int) < (k : Int)) = false := decide_eq_false (by omega)
      have hall : (X.take k).map Rs.turn1 ++ X.drop k = X.map Rs.turn1 := by rw [List.take_of_length_le (by rw [HN.out]; exact Nat.le_refl _), List.drop_of_length_le (by rw [HN.out]; exact Nat.le_refl _), List.append_nil]
      rw [hall] at HR
      clear hall
      have had := HAD.out
      subst had
      go_wp2_with fail
      go_ret
      exact ⟨⟨g, rfl, HR.out, HGE.out⟩, HK2.out.fresh HK.out (fun q hq e => by have e : q = g := e; have := HGE.out; have := HW0.out; omega)⟩
end Go.Proofs.YtackgnkajffhiaaDoor
