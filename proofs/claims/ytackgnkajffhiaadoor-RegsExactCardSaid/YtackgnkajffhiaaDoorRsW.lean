/-
  REGISTERS: a row with room; those of other names.
-/
import Derived.Test.YtackgnkajffhiaaDoorRsF
import Derived.Laws.MakeOwn
import Derived.OwnWalk
set_option linter.unusedVariables false
namespace Go.Proofs.YtackgnkajffhiaaDoor
open Go Go.RowKit

/-- A row of the call's own, with room for so many registers. -/
structure Rm (w : World) (g cap : Nat) (L : List RegS) : Prop where
  h : ∃ cur : Array Value, w.heap[g]? = some (.cells cur 41 (0, 0)) ∧ cur.size = cap * 3 ∧ cur.toList.take (L.length * 3) = flatR L
  le : L.length ≤ cap
theorem Rm.lt {w : World} {g cap : Nat} {L : List RegS} (h : Rm w g cap L) : g < w.heap.size := by
  obtain ⟨cur, h1, _⟩ := h.h
  exact heap_lt h1
theorem Rm.kept {S : Nat → Prop} {w w' : World} {g cap : Nat} {L : List RegS} (h : Rm w g cap L) (hk : Kept S w w') (hs : ¬ S g) : Rm w' g cap L := by
  obtain ⟨cur, h1, h2⟩ := h.h
  exact ⟨⟨cur, (hk.block g (heap_lt h1) hs).trans h1, h2⟩, h.le⟩
theorem Rm.cell {w : World} {g cap : Nat} {L : List RegS} (h : Rm w g cap L) {j : Nat} {u : Value} (hu : (flatR L)[j]? = some u) : w.cell? ⟨g, j, none⟩ = some u := by
  obtain ⟨cur, h1, h2, h3⟩ := h.h
  rw [cell_of_row w g j cur _ _ h1]
  rw [← h3, List.getElem?_take] at hu
  split at hu
  · simpa using hu
  · cases hu
theorem Rm.row {w : World} {g cap : Nat} {L : List RegS} (h : Rm w g cap L) {k : Nat} {r : RegS} (hr : L[k]? = some r) : Rg3 w ⟨g, k * 3, none⟩ r :=
  ⟨h.cell (j := k * 3) (by simpa using flatR_get hr (f := 0) rfl), h.cell (flatR_get hr (f := 1) rfl), h.cell (flatR_get hr (f := 2) rfl)⟩
theorem Rm.free {w : World} {g cap : Nat} {L : List RegS} (h : Rm w g cap L) (j : Nat) : w.frozen? ⟨g, j, none⟩ = false := by
  obtain ⟨cur, h1, _⟩ := h.h
  exact frozen_of h1
theorem Rm.rg {w : World} {g cap n : Nat} {L : List RegS} (h : Rm w g cap L) (hl : L.length = n) (hs : ∀ r ∈ L, r.s.size ≤ 140737488351232) : Rg w (some ⟨g, 0, none⟩) n L :=
  ⟨hl, fun k r hr => ⟨_, rfl, by
    have e : (⟨g, 0, none⟩ : Addr).add (k * 3) = ⟨g, k * 3, none⟩ := by rw [addr_add, Nat.zero_add]
    rw [e]
    exact h.row hr⟩, hs⟩
/-- A row that is owned whole, told by its cells. -/
theorem Rm.app {w : World} {g cap : Nat} {L : List RegS} (h : Rm w g cap L) {r : RegS} (hroom : L.length < cap) (a : Addr) (c : Nat) (ty : TypeId) (hn : ∀ j u, r.vs[j]? = some u → w.cell? (a.add j) = some u) :
    ∃ w', (Builtin.append_ #[22, 22] ty #[.slice (some ⟨g, 0, none⟩) L.length cap, .slice (some a) 1 c]).run Tryd.prog w = .ok (.slice (some ⟨g, 0, none⟩) (L.length + 1) cap) w' ∧ Rm w' g cap (L ++ [r]) ∧ Kept (fun q => q = g) w w' := by
  obtain ⟨cur, h1, h2, h3⟩ := h.h
  obtain ⟨i0, hi, hz0, hz1, hz2⟩ := info_parts info_reg
  have hvl : r.vs.length = 3 := rfl
  have hr := run_append_room (P := Tryd.prog) w 22 ty 41 i0 Tryd.underlying22 hi g L.length cap cur h1 a 1 c r.vs (by rw [hz1]; rfl) hn three_one (by omega) (by rw [hz1, hvl]; omega)
  refine ⟨_, hr, ⟨⟨_, setRow_heap w g cur _ _ _ h1, ?_, ?_⟩, by rw [List.length_append]; exact hroom⟩, (Kept.refl (fun q => q = g) w).setRow rfl _⟩
  · have hcl : cur.toList.length = cap * 3 := by rw [Array.length_toList]; exact h2
    rw [hz1, hvl, List.size_toArray, List.length_append, List.length_append, List.length_take, List.length_drop, hcl, hvl]
    omega
  · rw [hz1, hvl, h3, List.length_append, List.length_singleton, flatR_app, flatR_one]
    rw [List.take_append_of_le_length (by rw [List.length_append, flatR_len, hvl]; omega), List.take_of_length_le (by rw [List.length_append, flatR_len, hvl]; omega)]
theorem wpList_rm {w : World} {g cap : Nat} {L : List RegS} {ops : Array Oper} {rest : List Oper} {o : Oper} {a : Act} {Q : Exit → Act → World → Prop} (hgd : o.guard = none) (s x : Operand) (ho : o.op = .call { callee := .builtin .append, args := #[s, x], argTypes := #[22, 22] })
    (h : Rm w g cap L) (r : RegS) (N : Nat) (hN : L.length = N) (hroom : N < cap) (hs : a.eval s = .slice (some ⟨g, 0, none⟩) N cap) (ad : Addr) (c : Nat) (hx : a.eval x = .slice (some ad) 1 c) (hn : ∀ j u, r.vs[j]? = some u → w.cell? (ad.add j) = some u)
    (hK : ∀ w', Rm w' g cap (L ++ [r]) → Kept (fun q => q = g) w w' → wpList Tryd.prog ops Q rest (a.put o.dst (.slice (some ⟨g, 0, none⟩) (N + 1) cap)) w') : wpList Tryd.prog ops Q (o :: rest) a w := by
  subst hN
  refine wpList_plain hgd fun K hK' => ?_
  obtain ⟨w', hrun, h1, h2⟩ := h.app (r := r) hroom ad c o.type hn
  unfold Oper.wp
  simp [execOp, ho, resolve, invoke, builtin, hs, hx, hrun, Result.andThen]
  exact hK' _ _ (hK w' h1 h2)
theorem make_regs (n : Nat) (w : World) (hn : n ≤ 1000000) : ∃ w', (Instr.makeSlice 22 (.int .i64 0) (.int .i64 ((n : Int) + 1))).run Tryd.prog w = .ok (.slice (some ⟨w.heap.size, 0, none⟩) 0 (n + 1)) w' ∧ Rm w' w.heap.size (n + 1) [] ∧ Kept (fun _ => False) w w' := by
  obtain ⟨i0, hi, hz0, hz1, hz2⟩ := info_parts info_reg
  have hr := run_make (P := Tryd.prog) w 22 41 i0 _ Tryd.underlying22 hi hz0 .i64 .i64 0 ((n + 1 : Nat) : Int) (by omega) (by omega) (by rw [hz2]; omega) (by omega)
  rw [hz1] at hr
  simp only [Int.toNat_zero, Int.toNat_natCast] at hr
  refine ⟨_, by rw [show ((n : Int) + 1) = ((n + 1 : Nat) : Int) by omega]; exact hr, ⟨⟨_, heap_alloc_new w _, size_madeCells _ _, ?_⟩, Nat.zero_le _⟩, (Kept.refl _ w).alloc _⟩
  simp [flatR]
set_option maxRecDepth 100000 in
set_option maxHeartbeats 4000000 in
theorem without_any (A : Option Addr) (n c : Nat) (M : List RegS) (z : Int) (w : World) (hA : Rg w A n M) (hn : n ≤ 100000) :
    Calls Tryd.prog 43 #[.slice A n c, .int .i64 z] w fun e w' => (∃ g, e = .returned (.slice (some ⟨g, 0, none⟩) (Rs.wo M z).length (n + 1)) ∧ Rm w' g (n + 1) (Rs.wo M z) ∧ w.heap.size ≤ g) ∧ Kept (fun _ => False) w w' := by
  obtain ⟨w1, hmk, hrm, hkm⟩ := make_regs n w (by omega)
  have HA := Lib.hid (hA.kept hkm (fun _ _ => id))
  have HA0 := Lib.hid hA
  have HLN : Hid (M.length = n) := hA.len
  have HRM := Lib.hid hrm
  have HKM := Lib.hid hkm
  have ew : IntKind.i64.wrap ((n : Int) + 1) = (n : Int) + 1 := IntWalk.i64_in _ ⟨by omega, by omega⟩
  obtain ⟨g, hg⟩ : ∃ g, w.heap.size = g := ⟨_, rfl⟩
  have HG := Lib.hid hg
  rw [hg] at hmk HRM
  clear hA hrm hkm hg
  go_enter Tryd.func43, Tryd.ntmps43
  go_wp2_with fail
  go_loopw [5, 14] (fun v i wr => ∃ k : Nat, k ≤ n ∧ i = .int .i64 k ∧ v = .slice (some ⟨g, 0, none⟩) (Rs.wo (M.take k) z).length (n + 1) ∧ Rm wr g (n + 1) (Rs.wo (M.take k) z) ∧ Kept (fun q => q = g) w1 wr) (fun _ i _ => n - (intOf i).toNat)
  case atStart => exact ⟨0, Nat.zero_le _, rfl, rfl, HRM.out, Kept.refl _ _⟩
  case round =>
    obtain ⟨k, hk, rfl, rfl, hrm, hkept⟩ := hrel
    have HR2 := Lib.hid hrm
    have HK := Lib.hid hkept
    clear hrm hkept hmk ew
    by_cases hlt : k < n
    · obtain ⟨ad, r, rfl, hr, h3, hsz⟩ := (HA.out.kept HK.out (fun a ha e => by
        obtain ⟨ad0, r0, e0, _, h30, _⟩ := HA0.out.at_ hlt
        rw [ha] at e0
        injection e0 with e0
        subst e0
        have := World.block_lt_of_cell? w _ h30.c0
        rw [addr_blk] at this
        have e : a.block = g := e
        have := HG.out
        omega)).at_ hlt
      have b1 : decide (k < n) = true := decide_eq_true hlt
      have b2 : decide ((k : Int) < (n : Int)) = true := decide_eq_true (by omega)
      have t1 : (0 : Int) ≤ (k : Int) := by omega
      have t2 : (k : Int) < (n : Int) := by omega
      have c0 := h3.c0
      have c1 := h3.c1
      have c2 := h3.c2
      have HST := Lib.hid (Rs.wo_step (z := z) hr)
      have hwl := Rs.wo_len (M.take k) z
      have hwl2 : (Rs.wo (M.take k) z).length ≤ k := by rw [List.length_take] at hwl; omega
      have hk1 : Kept (fun _ => False) wr (wr.alloc (regO r)) := (Kept.refl _ _).alloc _
      have HP := Lib.hid (rg3_new (w := wr) (r := r))
      have HK1 := Lib.hid hk1
      have HR3 := Lib.hid (HR2.out.kept hk1 id)
      clear h3 hsz hr hk1 hwl HR2
      go_upto_region 5 with fail
      clear c0 c1 c2
      simp only [regO] at HP HK1 HR3
      generalize wr.alloc (.cells #[.int .i64 r.n, .string r.s, .bool r.b] 41) = w2 at *
      generalize wr.heap.size = q at *
      obtain ⟨p0, p1, p2⟩ := HP.out.cs
      by_cases hx : r.n = z
      · have b3 : (r.n != z) = false := by simp [hx]
        have HE : Hid (Rs.wo (M.take (k + 1)) z = Rs.wo (M.take k) z) := by show _ = _; rw [HST.out, if_neg (fun h => h hx), List.append_nil]
        clear hx
        go_wp2_with fail
        go_roundw
        case rel => exact ⟨k + 1, by omega, by go_num, by rw [HE.out], by rw [HE.out]; exact HR3.out, HK.out.trans HK1.out.any⟩
        case measure => simp [intOf] <;> omega
      · have b3 : (r.n != z) = true := by simp [hx]
        have HE : Hid (Rs.wo (M.take (k + 1)) z = Rs.wo (M.take k) z ++ [r]) := by show _ = _; rw [HST.out, if_pos hx]
        clear hx
        generalize hLL : Rs.wo (M.take k) z = LL at *
        have HLL := Lib.hid hLL
        clear hLL
        have hra := HR3.out.kept ((Kept.refl (fun _ => False) w2).alloc (regO r)) id
        simp only [regO] at hra
        go_wp2_with (at_builtin; refine wpList_rm rfl (.tmp 22) (.tmp 24) rfl hra r _ rfl (by omega) rfl ⟨_, 0, none⟩ 1 rfl three_cells ?_; intro w4 hrm4 hk4; have HR4 := Lib.hid hrm4; have HK4 := Lib.hid (HK.out.trans (((HK1.out.alloc _).any).trans hk4)); clear hrm4 hk4)
        go_roundw
        case rel => exact ⟨k + 1, by omega, by go_num, by rw [HE.out, List.length_append]; rfl, by rw [HE.out]; exact HR4.out, HK4.out⟩
        case measure => simp [intOf] <;> omega
    · obtain rfl : k = n := by omega
      have b1 : decide (k < k) = false := decide_eq_false (by omega)
      have b2 : decide ((k : Int) < (k : Int)) = false := decide_eq_false (by omega)
      have hall : M.take k = M := List.take_of_length_le (by rw [HLN.out]; exact Nat.le_refl _)
      rw [hall] at HR2 ⊢
      clear hall
      go_wp2_with fail
      go_ret
      exact ⟨⟨g, rfl, HR2.out, by have := HG.out; omega⟩, HKM.out.fresh HK.out (fun q hq e => by have e : q = g := e; have := HG.out; omega)⟩
end Go.Proofs.YtackgnkajffhiaaDoor
