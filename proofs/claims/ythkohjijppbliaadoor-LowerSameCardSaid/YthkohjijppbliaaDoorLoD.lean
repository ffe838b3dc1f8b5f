/-
  ELEMENTS: one inserted.
-/
import Derived.Test.YthkohjijppbliaaDoorLoT
import Derived.Laws.ResultCell
import Derived.Deep.CutRange
import Derived.Deep.RegionHeld3
import Derived.Deep.AppendLies
import Derived.Laws.MakeOwn
import Derived.OwnWalk
set_option linter.unusedVariables false
namespace Go.Proofs.YthkohjijppbliaaDoor
open Go Go.RowKit

theorem add_blkE (a : Addr) (j : Nat) : (a.add j).block = a.block := by unfold Addr.add; split <;> rfl
theorem addr_add2E (a : Addr) (x y : Nat) : (a.add x).add y = a.add (x + y) := by
  unfold Addr.add
  by_cases hx : x = 0
  · subst hx
    rw [if_pos rfl, Nat.zero_add]
  · by_cases hy : y = 0
    · subst hy
      rw [if_pos rfl, Nat.add_zero]
    · rw [if_neg hx, if_neg hy, if_neg (by omega), Nat.add_assoc]
theorem Eg.take_ {w : World} {A : Option Addr} {n k : Nat} {L : List ElemS} (h : Eg w A n L) (hk : k ≤ n) : Eg w A k (L.take k) := by
  refine ⟨by rw [List.length_take, h.1]; omega, fun j b hj => ?_⟩
  rw [List.getElem?_take] at hj
  split at hj
  · exact h.2 j b hj
  · cases hj
theorem Eg.drop_ {w : World} {ad : Addr} {n c : Nat} {L : List ElemS} (h : Eg w (some ad) n L) (hc : n ≤ c) (m : Nat) : Eg w (if c = m then some ad else some (ad.add (m * 4))) (n - m) (L.drop m) := by
  refine ⟨by rw [List.length_drop, h.1], fun j b hj => ?_⟩
  rw [List.getElem?_drop] at hj
  have hl := (List.getElem?_eq_some_iff.1 hj).1
  have hn := h.1
  obtain ⟨a, e, h9⟩ := h.2 _ b hj
  cases e
  rw [if_neg (by omega)]
  refine ⟨_, rfl, ?_⟩
  rw [addr_add2E, ← Nat.add_mul]
  exact h9
theorem el_news {w : World} {ad : Addr} {n : Nat} {L : List ElemS} (h : Eg w (some ad) n L) : ∀ j u, (flatE L)[j]? = some u → w.cell? (ad.add j) = some u := by
  intro j u hj
  have hlt : j < L.length * 4 := by
    by_cases hl : j < L.length * 4
    · exact hl
    · rw [List.getElem?_eq_none (by rw [flatE_len]; omega)] at hj; cases hj
  have hk : j / 4 < L.length := by omega
  have hr : L[j / 4]? = some L[j / 4] := List.getElem?_eq_getElem hk
  obtain ⟨ad', he, h4⟩ := h.at' _ _ hr
  injection he with he
  subst he
  generalize L[j / 4] = r at *
  have off : ∀ f, 0 < f → (⟨(ad.add (j / 4 * 4)).block, (ad.add (j / 4 * 4)).off + f, none⟩ : Addr) = ad.add (j / 4 * 4 + f) := by
    intro f hf
    unfold Addr.add
    by_cases h0 : j / 4 * 4 = 0
    · rw [if_pos h0, if_neg (by omega), h0, Nat.zero_add]
    · rw [if_neg h0, if_neg (by omega), Nat.add_assoc]
  rcases (by omega : j % 4 = 0 ∨ j % 4 = 1 ∨ j % 4 = 2 ∨ j % 4 = 3) with hm | hm | hm | hm
  · have e : j / 4 * 4 + 0 = j := by omega
    have h0 := flatE_get hr (f := 0) rfl
    rw [e] at h0
    rw [h0] at hj
    cases hj
    have := h4.c0
    rwa [show j / 4 * 4 = j by omega] at this
  · have e : j / 4 * 4 + 1 = j := by omega
    have h0 := flatE_get hr (f := 1) rfl
    rw [e] at h0
    rw [h0] at hj
    cases hj
    have := h4.c1
    rwa [off 1 (by omega), e] at this
  · have e : j / 4 * 4 + 2 = j := by omega
    have h0 := flatE_get hr (f := 2) rfl
    rw [e] at h0
    rw [h0] at hj
    cases hj
    have := h4.c2
    rwa [off 2 (by omega), e] at this
  · have e : j / 4 * 4 + 3 = j := by omega
    have h0 := flatE_get hr (f := 3) rfl
    rw [e] at h0
    rw [h0] at hj
    cases hj
    have := h4.c3
    rwa [off 3 (by omega), e] at this
theorem flatE_one' {L : List ElemS} : ∀ u ∈ flatE L, u.oneCell' = true := by
  intro u hu
  obtain ⟨e, he, hu⟩ := List.mem_flatMap.1 hu
  exact four_one u hu
theorem run_app_els {w : World} {base : Nat} {v : Value} {bl : List ElemS} (hown : Oe w base v bl) (A : Option Addr) (m c : Nat) (l : List ElemS) (hM : Eg w A m l) (hC : A = none → m = 0 ∧ c = 0) (hb : bl.length + m ≤ 100000) (hbase : base ≤ w.heap.size) (ty : TypeId) :
    ∃ v' w', (Builtin.append_ #[22, 22] ty #[v, .slice A m c]).run Tryd.prog w = .ok v' w' ∧ Oe w' base v' (bl ++ l) ∧ w.grownBy w' v.ownBlock ∧ (v'.ownBlock = v.ownBlock ∨ v'.ownBlock = some w.heap.size) := by
  obtain ⟨i0, hi, hz0, hz1, hz2⟩ := info_parts info_elem
  have hl := hM.1
  match A, hM, hC with
  | none, hM, hC =>
    obtain ⟨rfl, rfl⟩ := hC rfl
    obtain rfl := List.eq_nil_of_length_eq_zero hl
    rw [List.append_nil]
    exact ⟨v, w, run_append_owned_none (P := Tryd.prog) (w := w) base 22 ty 71 i0 4 Tryd.underlying22 hi v bl.length (flatE bl) hown, hown, ⟨rfl, rfl, rfl, Nat.le_refl _, fun _ _ _ => rfl⟩, .inl rfl⟩
  | some ad, hM, hC =>
    obtain ⟨v', w', h1, h2, h3, _, h5⟩ := run_append_own_at (P := Tryd.prog) w base 22 ty 71 i0 (.agg #[.int .i64 0, .int .i64 0, .int .i64 0, .bool false]) 4 32 Tryd.underlying22 hi hz0 hz1 hz2 rfl (by decide) v bl.length (flatE bl) hown ad m c (flatE l) (by rw [flatE_len, hl]) (el_news hM) flatE_one' (by unfold maxLen; omega) (by omega) hbase
    exact ⟨v', w', h1, by unfold Oe; rw [List.length_append, hl, flatE_app]; exact h2, h3, h5⟩
theorem wpList_app_els {w : World} {ops : Array Oper} {rest : List Oper} {o : Oper} {a : Act} {Q : Exit → Act → World → Prop} (hgd : o.guard = none) (s x : Operand) (ho : o.op = .call { callee := .builtin .append, args := #[s, x], argTypes := #[22, 22] })
    (base : Nat) (v : Value) (bl : List ElemS) (hs : a.eval s = v) (hown : Oe w base v bl) (A : Option Addr) (m c : Nat) (l : List ElemS) (hx : a.eval x = .slice A m c) (hM : Eg w A m l) (hC : A = none → m = 0 ∧ c = 0) (hb : bl.length + m ≤ 100000) (hbase : base ≤ w.heap.size)
    (hK : ∀ v' w', Oe w' base v' (bl ++ l) → w.grownBy w' v.ownBlock → (v'.ownBlock = v.ownBlock ∨ v'.ownBlock = some w.heap.size) → wpList Tryd.prog ops Q rest (a.put o.dst v') w') : wpList Tryd.prog ops Q (o :: rest) a w := by
  refine wpList_plain hgd fun K hK' => ?_
  obtain ⟨v', w', hrun, h1, h2, h3⟩ := run_app_els hown A m c l hM hC hb hbase o.type
  unfold Oper.wp
  simp [execOp, ho, resolve, invoke, builtin, hs, hx, hrun, Result.andThen]
  exact hK' _ _ (hK v' w' h1 h2 h3)
theorem step_app_els {w : World} {ops : Array Oper} {o : Oper} {a : Act} {K : Act → World → Prop} {Q : Exit → Act → World → Prop} {E : Prop} (hgd : o.guard = none) (s x : Operand) (ho : o.op = .call { callee := .builtin .append, args := #[s, x], argTypes := #[22, 22] })
    (base : Nat) (v : Value) (bl : List ElemS) (hs : a.eval s = v) (hown : Oe w base v bl) (A : Option Addr) (m c : Nat) (l : List ElemS) (hx : a.eval x = .slice A m c) (hM : Eg w A m l) (hC : A = none → m = 0 ∧ c = 0) (hb : bl.length + m ≤ 100000) (hbase : base ≤ w.heap.size)
    (hK : ∀ v' w', Oe w' base v' (bl ++ l) → w.grownBy w' v.ownBlock → (v'.ownBlock = v.ownBlock ∨ v'.ownBlock = some w.heap.size) → K (a.put o.dst v') w') :
    if Region.wanted o (yielded ops a.tmps) = true then Oper.wp Tryd.prog o a w K Q else E := by
  have hw : Region.wanted o (yielded ops a.tmps) = true := by simp [Region.wanted, hgd]
  rw [if_pos hw]
  obtain ⟨v', w', hrun, h1, h2, h3⟩ := run_app_els hown A m c l hM hC hb hbase o.type
  unfold Oper.wp
  simp [execOp, ho, resolve, invoke, builtin, hs, hx, hrun, Result.andThen]
  exact hK v' w' h1 h2 h3
theorem make_els (m : Nat) (w : World) (hm : m ≤ 100000) : ∃ w', (Instr.makeSlice 22 (.int .i64 0) (.int .i64 (m : Int))).run Tryd.prog w = .ok (.slice (some ⟨w.heap.size, 0, none⟩) 0 m) w' ∧ Oe w' w.heap.size (.slice (some ⟨w.heap.size, 0, none⟩) 0 m) [] ∧ Kept (fun _ => False) w w' := by
  obtain ⟨i0, hi, hz0, hz1, hz2⟩ := info_parts info_elem
  obtain ⟨w', h1, h2, h3⟩ := run_make_own (P := Tryd.prog) w w.heap.size 22 71 i0 (.agg #[.int .i64 0, .int .i64 0, .int .i64 0, .bool false]) 4 Tryd.underlying22 hi hz0 hz1 .i64 .i64 m (by rw [hz2]; omega) (by unfold maxLen; omega) (Nat.le_refl _)
  exact ⟨w', h1, h2, (Kept.refl _ w).grown h3⟩
/-- One element, just laid, as a slice. -/
theorem one_el (w : World) (e : ElemS) : Eg (w.alloc (elemO e)) (some ⟨w.heap.size, 0, none⟩) 1 [e] := by
  refine ⟨rfl, fun k q hk => ⟨_, rfl, ?_⟩⟩
  match k, hk with
  | 0, hk =>
    injection hk with hk
    subst hk
    exact el4_new
  | k + 1, hk => simp at hk
/-- Where an insert comes to stand. -/
structure StopAt (L : List ElemS) (t s : Int) (i j : Nat) : Prop where
  lo : i ≤ j
  hi : j ≤ L.length
  les : ∀ (k : Nat) (e : ElemS), i ≤ k → k < j → L[k]? = some e → Cd.lessP t s e.t e.si
  stp : ∀ e, L[j]? = some e → ¬ Cd.lessP t s e.t e.si
def insE (L : List ElemS) (j : Nat) (e : ElemS) : List ElemS := L.take j ++ [e] ++ L.drop j
theorem insE_len {L : List ElemS} {j : Nat} {e : ElemS} (h : j ≤ L.length) : (insE L j e).length = L.length + 1 := by
  unfold insE
  simp
  omega
end Go.Proofs.YthkohjijppbliaaDoor
