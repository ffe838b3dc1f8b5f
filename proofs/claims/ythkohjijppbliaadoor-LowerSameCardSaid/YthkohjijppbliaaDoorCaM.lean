/-
  CAUSAL ORDER: own.Ops: a copy of operations; what they have seen is cut from one list.
-/
import Derived.Test.YthkohjijppbliaaDoorLMh
set_option linter.unusedVariables false
namespace Go.Proofs.YthkohjijppbliaaDoor
open Go Go.RowKit

/-- Numbers appended where there is room. -/
theorem Vm.app {w : World} {g cap : Nat} {L : List Int} (h : Vm w g cap L) {l2 : List Int} {m : Nat} (hm : l2.length = m) (hroom : L.length + m ≤ cap) (a : Addr) (c : Nat) (ty : TypeId) (hn : ∀ j u, (l2.map (Value.int .i64))[j]? = some u → w.cell? (a.add j) = some u) :
    ∃ w', (Builtin.append_ #[40, 40] ty #[.slice (some ⟨g, 0, none⟩) L.length cap, .slice (some a) m c]).run Tryd.prog w = .ok (.slice (some ⟨g, 0, none⟩) (L.length + m) cap) w' ∧ Vm w' g cap (L ++ l2) ∧ Kept (fun q => q = g) w w' := by
  subst hm
  obtain ⟨cur, h1, h2, h3⟩ := h.h
  obtain ⟨i0, hi, hz0, hz1, hz2⟩ := info_parts info_int
  have hr := run_append_room (P := Tryd.prog) w 40 ty 3 i0 Tryd.underlying40 hi g L.length cap cur h1 a l2.length c (l2.map (Value.int .i64)) (by rw [hz1, List.length_map, Nat.mul_one]) hn (int_ones l2) hroom (by rw [hz1, List.length_map]; omega)
  refine ⟨_, hr, ⟨⟨_, setRow_heap w g cur _ _ _ h1, ?_, ?_⟩, by rw [List.length_append]; exact hroom⟩, (Kept.refl (fun q => q = g) w).setRow rfl _⟩
  · have hcl : cur.toList.length = cap := by rw [Array.length_toList]; exact h2
    rw [hz1, List.size_toArray, List.length_append, List.length_append, List.length_take, List.length_drop, hcl, List.length_map]
    omega
  · rw [hz1, Nat.mul_one, h3, List.length_append, List.map_append]
    simp only []
    rw [List.take_append_of_le_length (by simp), List.take_of_length_le (by simp)]
theorem wpList_vm {w : World} {g cap : Nat} {L : List Int} {ops : Array Oper} {rest : List Oper} {o : Oper} {a : Act} {Q : Exit → Act → World → Prop} (hgd : o.guard = none) (s x : Operand) (ho : o.op = .call { callee := .builtin .append, args := #[s, x], argTypes := #[40, 40] })
    (h : Vm w g cap L) (l2 : List Int) (N m : Nat) (hN : L.length = N) (hm : l2.length = m) (hroom : N + m ≤ cap) (hs : a.eval s = .slice (some ⟨g, 0, none⟩) N cap) (ad : Addr) (c : Nat) (hx : a.eval x = .slice (some ad) m c) (hn : ∀ j u, (l2.map (Value.int .i64))[j]? = some u → w.cell? (ad.add j) = some u)
    (hK : ∀ w', Vm w' g cap (L ++ l2) → Kept (fun q => q = g) w w' → wpList Tryd.prog ops Q rest (a.put o.dst (.slice (some ⟨g, 0, none⟩) (N + m) cap)) w') : wpList Tryd.prog ops Q (o :: rest) a w := by
  subst hN
  refine wpList_plain hgd fun K hK' => ?_
  obtain ⟨w', hrun, h1, h2⟩ := h.app hm hroom ad c o.type hn
  unfold Oper.wp
  simp [execOp, ho, resolve, invoke, builtin, hs, hx, hrun, Result.andThen]
  exact hK' _ _ (hK w' h1 h2)
theorem make_ints (n : Nat) (w : World) (hn : n ≤ 1000000) : ∃ w', (Instr.makeSlice 40 (.int .i64 0) (.int .i64 (n : Int))).run Tryd.prog w = .ok (.slice (some ⟨w.heap.size, 0, none⟩) 0 n) w' ∧ Vm w' w.heap.size n [] ∧ Kept (fun _ => False) w w' := by
  obtain ⟨i0, hi, hz0, hz1, hz2⟩ := info_parts info_int
  have hr := run_make (P := Tryd.prog) w 40 3 i0 _ Tryd.underlying40 hi hz0 .i64 .i64 0 (n : Int) (by omega) (by omega) (by rw [hz2]; omega) (by omega)
  rw [hz1] at hr
  simp only [Int.toNat_zero, Int.toNat_natCast, Nat.mul_one] at hr
  exact ⟨_, hr, ⟨⟨_, heap_alloc_new w _, size_madeCells _ _, rfl⟩, Nat.zero_le _⟩, (Kept.refl _ w).alloc _⟩
/-- A row of operations of the call's own. -/
structure Xm (w : World) (g cap : Nat) (L : List OpS) : Prop where
  h : ∃ cur : Array Value, w.heap[g]? = some (.cells cur 42 (0, 0)) ∧ cur.size = cap * 9 ∧ cur.toList.take (L.length * 9) = flatO L
  le : L.length ≤ cap
theorem Xm.kept {S : Nat → Prop} {w w' : World} {g cap : Nat} {L : List OpS} (h : Xm w g cap L) (hk : Kept S w w') (hs : ¬ S g) : Xm w' g cap L := by
  obtain ⟨cur, h1, h2⟩ := h.h
  exact ⟨⟨cur, (hk.block g (heap_lt h1) hs).trans h1, h2⟩, h.le⟩
theorem Xm.lt {w : World} {g cap : Nat} {L : List OpS} (h : Xm w g cap L) : g < w.heap.size := by
  obtain ⟨cur, h1, _⟩ := h.h
  exact heap_lt h1
theorem Xm.cell {w : World} {g cap : Nat} {L : List OpS} (h : Xm w g cap L) {j : Nat} {u : Value} (hu : (flatO L)[j]? = some u) : w.cell? ⟨g, j, none⟩ = some u := by
  obtain ⟨cur, h1, h2, h3⟩ := h.h
  rw [cell_of_row w g j cur _ _ h1]
  rw [← h3, List.getElem?_take] at hu
  split at hu
  · simpa using hu
  · cases hu
theorem Xm.free {w : World} {g cap : Nat} {L : List OpS} (h : Xm w g cap L) (j : Nat) : w.frozen? ⟨g, j, none⟩ = false := by
  obtain ⟨cur, h1, _⟩ := h.h
  exact frozen_of h1
theorem flatO_set : ∀ {al : List OpS} {i : Nat} {b : OpS} (A : Option Addr) (n c : Nat), al[i]? = some b → flatO (al.set i ⟨b.o, A, n, c⟩) = (flatO al).set (i * 9 + 8) (.slice A n c)
  | [], i, b, A, n, c, h => by simp at h
  | q :: al, 0, b, A, n, c, h => by
    simp only [List.getElem?_cons_zero, Option.some.injEq] at h
    subst h
    rw [List.set_cons_zero, flatO_cons, flatO_cons, List.set_append_left _ _ (by rw [vals_len]; omega)]
    rfl
  | q :: al, i + 1, b, A, n, c, h => by
    have ih := flatO_set (al := al) (i := i) A n c (by simpa using h)
    rw [List.set_cons_succ, flatO_cons, flatO_cons, ih, List.set_append_right _ _ (by rw [vals_len]; omega), vals_len, show (i + 1) * 9 + 8 - 9 = i * 9 + 8 by omega]
theorem Xm.set {w : World} {g cap : Nat} {L : List OpS} (h : Xm w g cap L) {k : Nat} {b : OpS} (hb : L[k]? = some b) (A : Option Addr) (n c : Nat) : Xm (w.setCell ⟨g, k * 9 + 8, none⟩ (.slice A n c)) g cap (L.set k ⟨b.o, A, n, c⟩) := by
  obtain ⟨cur, h1, h2, h3⟩ := h.h
  refine ⟨⟨_, heap_set h1 _, by simp [h2], ?_⟩, by rw [List.length_set]; exact h.le⟩
  rw [List.length_set, Array.toList_setIfInBounds, List.take_set, h3, flatO_set A n c hb]
/-- The copies: each vector a piece of one list. -/
def cps (s : Nat) : Nat → List OpS → List OpS
  | _, [] => []
  | j, b :: l => ⟨b.o, some ⟨s, 4 * j, none⟩, 4, 4⟩ :: cps s (j + 1) l
theorem cps_get (s : Nat) : ∀ (l : List OpS) (j k : Nat), (cps s j l)[k]? = (l[k]?).map fun b => ⟨b.o, some ⟨s, 4 * (j + k), none⟩, 4, 4⟩
  | [], j, k => by simp [cps]
  | b :: l, j, 0 => by simp [cps]
  | b :: l, j, k + 1 => by
    rw [cps, List.getElem?_cons_succ, cps_get s l (j + 1) k, List.getElem?_cons_succ, show j + 1 + k = j + (k + 1) by omega]
theorem cps_len (s : Nat) : ∀ (l : List OpS) (j : Nat), (cps s j l).length = l.length
  | [], _ => rfl
  | b :: l, j => by simp [cps, cps_len s l (j + 1)]
theorem cps_o (s : Nat) : ∀ (l : List OpS) (j : Nat), (cps s j l).map (·.o) = l.map (·.o)
  | [], _ => rfl
  | b :: l, j => by simp [cps, cps_o s l (j + 1)]
/-- As far as it is copied. -/
def mid {α : Type} (P Q : List α) (k : Nat) : List α := P.take k ++ Q.drop k
theorem mid_zero {α : Type} (P Q : List α) : mid P Q 0 = Q := by simp [mid]
theorem mid_len {α : Type} {P Q : List α} (h : P.length = Q.length) (k : Nat) : (mid P Q k).length = Q.length := by
  simp only [mid, List.length_append, List.length_take, List.length_drop]
  omega
theorem mid_get {α : Type} {P Q : List α} (h : P.length = Q.length) {k : Nat} (hk : k < Q.length) : (mid P Q k)[k]? = Q[k]? := by
  unfold mid
  rw [List.getElem?_append_right (by rw [List.length_take]; omega), List.length_take, List.getElem?_drop]
  congr 1
  omega
theorem mid_set {α : Type} {P Q : List α} (h : P.length = Q.length) {k : Nat} {p : α} (hk : k < Q.length) (hp : P[k]? = some p) : (mid P Q k).set k p = mid P Q (k + 1) := by
  have hkp : k < P.length := by omega
  have hp' : P[k] = p := by
    rw [List.getElem?_eq_getElem hkp] at hp
    injection hp
  unfold mid
  rw [List.set_append_right _ _ (by rw [List.length_take]; omega), List.length_take, show k - min k P.length = 0 by omega, List.drop_eq_getElem_cons hk, List.set_cons_zero, List.take_add_one, List.getElem?_eq_getElem hkp, hp']
  simp
theorem mid_end {α : Type} {P Q : List α} (h : P.length = Q.length) {k : Nat} (hk : Q.length ≤ k) : mid P Q k = P := by
  unfold mid
  rw [List.take_of_length_le (by omega), List.drop_eq_nil_of_le hk, List.append_nil]
/-- All that was seen, one behind another. -/
def seens (al : List OpS) : List Int := al.flatMap (·.o.seen)
theorem seens_len : ∀ {al : List OpS}, (∀ b ∈ al, b.o.seen.length = 4) → (seens al).length = 4 * al.length
  | [], _ => rfl
  | b :: al, h => by
    have h1 := seens_len (al := al) (fun q hq => h q (List.mem_cons_of_mem _ hq))
    have h2 := h b List.mem_cons_self
    unfold seens at *
    rw [List.flatMap_cons, List.length_append, h1, h2, List.length_cons]
    omega
theorem seens_get : ∀ {al : List OpS} {i f : Nat} {b : OpS} {x : Int}, (∀ b ∈ al, b.o.seen.length = 4) → al[i]? = some b → b.o.seen[f]? = some x → (seens al)[4 * i + f]? = some x
  | [], i, f, b, x, _, h, _ => by simp at h
  | q :: al, 0, f, b, x, hl, h, hf => by
    simp only [List.getElem?_cons_zero, Option.some.injEq] at h
    subst h
    have hf2 := (List.getElem?_eq_some_iff.1 hf).1
    unfold seens
    rw [List.flatMap_cons, List.getElem?_append_left (by omega), Nat.mul_zero, Nat.zero_add]
    exact hf
  | q :: al, i + 1, f, b, x, hl, h, hf => by
    have ih := seens_get (al := al) (i := i) (fun q hq => hl q (List.mem_cons_of_mem _ hq)) (by simpa using h) hf
    have hq := hl q List.mem_cons_self
    unfold seens at *
    rw [List.flatMap_cons, List.getElem?_append_right (by omega), hq, show 4 * (i + 1) + f - 4 = 4 * i + f by omega]
    exact ih
theorem seens_snoc {al : List OpS} {k : Nat} {b : OpS} (h : al[k]? = some b) : seens (al.take (k + 1)) = seens (al.take k) ++ b.o.seen := by
  unfold seens
  rw [List.take_add_one, h]
  simp
/-- The copies lie in two blocks of the call's own. -/
def Own2 (w : World) (N M : Nat) (A : Option Addr) (n c : Nat) (bl : List OpS) : Prop :=
  n = 0 ∨ ∃ (g s sc : Nat) (al : List OpS), A = some ⟨g, 0, none⟩ ∧ bl = cps s 0 al ∧ Xm w g c bl ∧ Vm w s sc (seens al) ∧ (∀ b ∈ al, b.o.seen.length = 4) ∧ (N ≤ s ∧ s < M) ∧ (N ≤ g ∧ g < M) ∧ g ≠ s
theorem Own2.keepS {S : Nat → Prop} {w w' : World} {N M : Nat} {A : Option Addr} {n c : Nat} {bl : List OpS} (h : Own2 w N M A n c bl) (hk : Kept S w w') (hs : ∀ q, N ≤ q → q < M → ¬ S q) : Own2 w' N M A n c bl := by
  rcases h with h | ⟨g, s, sc, al, h1, h2, h3, h4, h5, h6, h7, h8⟩
  · exact .inl h
  · exact .inr ⟨g, s, sc, al, h1, h2, h3.kept hk (hs g h7.1 h7.2), h4.kept hk (hs s h6.1 h6.2), h5, h6, h7, h8⟩
theorem Own2.keep {w w' : World} {N M : Nat} {A : Option Addr} {n c : Nat} {bl : List OpS} (h : Own2 w N M A n c bl) (hk : Kept (fun _ => False) w w') : Own2 w' N M A n c bl := h.keepS hk (fun _ _ _ => id)
theorem Own2.of {w : World} {N N' M : Nat} {A : Option Addr} {n c : Nat} {bl : List OpS} (h : Own2 w N M A n c bl) (hN : N' ≤ N) : Own2 w N' M A n c bl := by
  rcases h with h | ⟨g, s, sc, al, h1, h2, h3, h4, h5, h6, h7, h8⟩
  · exact .inl h
  · exact .inr ⟨g, s, sc, al, h1, h2, h3, h4, h5, ⟨Nat.le_trans hN h6.1, h6.2⟩, ⟨Nat.le_trans hN h7.1, h7.2⟩, h8⟩
/-- The copies, read. -/
theorem cps_ok {w : World} {g cap s sc n : Nat} {al : List OpS} (hx : Xm w g cap (cps s 0 al)) (hs : Vm w s sc (seens al)) (hl : al.length = n) (h4 : ∀ b ∈ al, b.o.seen.length = 4) (hok : ∀ b ∈ al, (∀ x ∈ b.o.seen, I64 x) ∧ I64s b.o) : OpsM w (some ⟨g, 0, none⟩) n (cps s 0 al) := by
  refine ⟨by rw [cps_len]; exact hl, fun k b hk => ?_⟩
  have hk2 := hk
  rw [cps_get, Option.map_eq_some_iff] at hk2
  obtain ⟨q, hq, rfl⟩ := hk2
  obtain ⟨h1, h2⟩ := hok q (List.mem_of_getElem? hq)
  refine ⟨⟨_, rfl, op9_of fun f u hf => by
    rw [addr_add, Nat.zero_add]
    exact hx.cell (flatO_get hk hf)⟩, ⟨⟨h4 q (List.mem_of_getElem? hq), fun j x hj => ⟨_, rfl, ?_⟩⟩, h1, by show 4 ≤ 17592186044416; omega, Nat.le_refl _, h2⟩⟩
  have hc := (hs.nums rfl).2 (4 * k + j) x (seens_get h4 hq hj)
  obtain ⟨ad, e, hc⟩ := hc
  cases e
  rw [addr_add, Nat.zero_add] at hc
  rw [addr_add, Nat.zero_add]
  exact hc
end Go.Proofs.YthkohjijppbliaaDoor
