/-
  APPENDS TO WHAT A CALL OWNS, OF WHAT MAY BE NOTHING; the head and the tail of a slice of runes.
-/
import Derived.Test.YthhlchgnjdfpeaaDoorExact0
import Derived.Laws.AppendOwn
import Derived.Laws.AppendOwnNone
import Derived.RegionTactic
set_option linter.unusedVariables false
namespace Go.Proofs.YthhlchgnjdfpeaaDoor
open Go Go.RowKit

/-- Append, whatever is appended: a list that lies somewhere, or nothing. -/
theorem wp_append_opt {w : World} {o : Oper} {a : Act} {K : Act → World → Prop} {Q : Exit → Act → World → Prop} (s x : Operand) (ho : o.op = .call { callee := .builtin .append, args := #[s, x], argTypes := #[34, 34] })
    (base : Nat) (v : Value) (n : Nat) (xs : List Value) (hs : a.eval s = v) (hown : w.ownsRow base 21 1 v n xs) (X : Option Addr) (m c : Nat) (news : List Value) (hx : a.eval x = .slice X m c)
    (hnone : X = none → m = 0 ∧ c = 0) (hl : news.length = m) (hnews : ∀ ad, X = some ad → ∀ j u, news[j]? = some u → w.cell? (ad.add j) = some u) (h1 : ∀ u ∈ news, u.oneCell' = true) (hb : n + m ≤ 1000000) (hbase : base ≤ w.heap.size)
    (h : ∀ v' w', w'.ownsRow base 21 1 v' (n + m) (xs ++ news) → w.grownBy w' v.ownBlock → (v'.ownBlock = v.ownBlock ∨ v'.ownBlock = some w.heap.size) → K (a.put o.dst v') w') : o.wp Tryd.prog a w K Q := by
  obtain ⟨i0, hi, hz0, hz1, hz2⟩ := info_parts infoRune
  cases X with
  | some ad =>
    obtain ⟨v', w', hrun, h2, h3, h4, h5⟩ := run_append_own_at (P := Tryd.prog) w base 34 o.type 21 i0 (.int .i32 0) 1 4 Tryd.underlying34 hi hz0 hz1 hz2 rfl (by decide) v n xs hown ad m c news (by rw [hl, Nat.mul_one]) (hnews ad rfl) h1 (by unfold maxLen; omega) (by omega) hbase
    unfold Oper.wp
    simp [execOp, ho, resolve, invoke, builtin, hs, hx, hrun, Result.andThen]
    exact h v' w' h2 h3 h5
  | none =>
    obtain ⟨rfl, rfl⟩ := hnone rfl
    obtain rfl := List.eq_nil_of_length_eq_zero hl
    have hrun := run_append_owned_none (P := Tryd.prog) (w := w) base 34 o.type 21 i0 1 Tryd.underlying34 hi v n xs hown
    unfold Oper.wp
    simp [execOp, ho, resolve, invoke, builtin, hs, hx, hrun, Result.andThen]
    exact h v w (by simpa using hown) (World.grownBy.refl w _) (Or.inl rfl)
theorem wpList_append_opt {w : World} {ops : Array Oper} {rest : List Oper} {o : Oper} {a : Act} {Q : Exit → Act → World → Prop} (hgd : o.guard = none) (s x : Operand) (ho : o.op = .call { callee := .builtin .append, args := #[s, x], argTypes := #[34, 34] })
    (base : Nat) (v : Value) (n : Nat) (xs : List Value) (hs : a.eval s = v) (hown : w.ownsRow base 21 1 v n xs) (X : Option Addr) (m c : Nat) (news : List Value) (hx : a.eval x = .slice X m c)
    (hnone : X = none → m = 0 ∧ c = 0) (hl : news.length = m) (hnews : ∀ ad, X = some ad → ∀ j u, news[j]? = some u → w.cell? (ad.add j) = some u) (h1 : ∀ u ∈ news, u.oneCell' = true) (hb : n + m ≤ 1000000) (hbase : base ≤ w.heap.size)
    (h : ∀ v' w', w'.ownsRow base 21 1 v' (n + m) (xs ++ news) → w.grownBy w' v.ownBlock → (v'.ownBlock = v.ownBlock ∨ v'.ownBlock = some w.heap.size) → wpList Tryd.prog ops Q rest (a.put o.dst v') w') : wpList Tryd.prog ops Q (o :: rest) a w :=
  wpList_plain hgd fun _ hK => wp_append_opt s x ho base v n xs hs hown X m c news hx hnone hl hnews h1 hb hbase fun v' w' h2 h3 h4 => hK _ _ (h v' w' h2 h3 h4)
theorem step_append_opt {w : World} {ops : Array Oper} {o : Oper} {a : Act} {K : Act → World → Prop} {Q : Exit → Act → World → Prop} {E : Prop} (hgd : o.guard = none) (s x : Operand) (ho : o.op = .call { callee := .builtin .append, args := #[s, x], argTypes := #[34, 34] })
    (base : Nat) (v : Value) (n : Nat) (xs : List Value) (hs : a.eval s = v) (hown : w.ownsRow base 21 1 v n xs) (X : Option Addr) (m c : Nat) (news : List Value) (hx : a.eval x = .slice X m c)
    (hnone : X = none → m = 0 ∧ c = 0) (hl : news.length = m) (hnews : ∀ ad, X = some ad → ∀ j u, news[j]? = some u → w.cell? (ad.add j) = some u) (h1 : ∀ u ∈ news, u.oneCell' = true) (hb : n + m ≤ 1000000) (hbase : base ≤ w.heap.size)
    (h : ∀ v' w', w'.ownsRow base 21 1 v' (n + m) (xs ++ news) → w.grownBy w' v.ownBlock → (v'.ownBlock = v.ownBlock ∨ v'.ownBlock = some w.heap.size) → K (a.put o.dst v') w') :
    if Region.wanted o (yielded ops a.tmps) = true then Oper.wp Tryd.prog o a w K Q else E := by
  have hw : Region.wanted o (yielded ops a.tmps) = true := by simp [Region.wanted, hgd]
  rw [if_pos hw]
  exact wp_append_opt s x ho base v n xs hs hown X m c news hx hnone hl hnews h1 hb hbase h

/-- The head of a slice of runes. -/
theorem cut_head {w : World} {base rb cb L ct i : Nat} {At : Option Addr} {t : List Int} (h : Own w base rb cb (.slice At L ct) t) (hL : L = t.length) (hct : L ≤ ct) (hform : (At = none ∧ t = [] ∧ ct = 0) ∨ ∃ g, At = some ⟨g, 0, none⟩ ∧ base ≤ g ∧ g < w.heap.size ∧ g ≠ rb ∧ g ≠ cb) (hi : i ≤ L) :
    ∃ X, (∀ u, (Instr.slice 34 (.slice At L ct) none (some (.int .i64 (i : Int))) none).run Tryd.prog u = .ok (.slice X i ct) u) ∧ (X = none → i = 0 ∧ ct = 0) ∧
      ∀ w', Own w' base rb cb (.slice At L ct) t → ∀ ad, X = some ad → ∀ j u, ((t.take i).map (Value.int .i32))[j]? = some u → w'.cell? (ad.add j) = some u := by
  rcases hform with ⟨rfl, rfl, rfl⟩ | ⟨g, rfl, hb, hg, _, _⟩
  · obtain rfl : L = 0 := by omega
    obtain rfl : i = 0 := by omega
    refine ⟨none, fun u => ?_, fun _ => ⟨rfl, rfl⟩, fun w' _ ad h => by cases h⟩
    rw [run_slice_h (P := Tryd.prog) u 34 none 0 0 Tryd.underlying34 .i64 _ (by omega) (by omega)]
    have hz : ((sizeOf (Tryd.prog.elem 34)).run Tryd.prog u) = .ok 1 u := by kernel_rfl
    rw [hz]
    rfl
  · refine ⟨some ⟨g, 0, none⟩, fun u => ?_, (by intro h; cases h), fun w' ho ad had j u hj => ?_⟩
    · rw [run_cut_h u g L ct i _ rfl (by omega)]
      simp only [cutA]
      split <;> rfl
    · cases had
      rw [List.getElem?_map] at hj
      cases hx : (t.take i)[j]? with
      | none => rw [hx] at hj; cases hj
      | some x =>
        rw [hx] at hj
        simp only [Option.map_some, Option.some.injEq] at hj
        rw [← hj, addr_add, Nat.zero_add]
        rw [List.getElem?_take] at hx
        split at hx
        · exact ho.cell hx
        · cases hx
/-- The tail. -/
theorem cut_tail {w : World} {base rb cb L ct lo : Nat} {At : Option Addr} {t : List Int} (h : Own w base rb cb (.slice At L ct) t) (hL : L = t.length) (hct : L ≤ ct) (hform : (At = none ∧ t = [] ∧ ct = 0) ∨ ∃ g, At = some ⟨g, 0, none⟩ ∧ base ≤ g ∧ g < w.heap.size ∧ g ≠ rb ∧ g ≠ cb) (hlo : lo ≤ L) :
    ∃ X, (∀ u, (Instr.slice 34 (.slice At L ct) (some (.int .i64 (lo : Int))) none none).run Tryd.prog u = .ok (.slice X (L - lo) (ct - lo)) u) ∧ (X = none → L - lo = 0 ∧ ct - lo = 0) ∧
      ∀ w', Own w' base rb cb (.slice At L ct) t → ∀ ad, X = some ad → ∀ j u, ((t.drop lo).map (Value.int .i32))[j]? = some u → w'.cell? (ad.add j) = some u := by
  rcases hform with ⟨rfl, rfl, rfl⟩ | ⟨g, rfl, hb, hg, _, _⟩
  · obtain rfl : L = 0 := by omega
    obtain rfl : lo = 0 := by omega
    refine ⟨none, fun u => ?_, fun _ => ⟨rfl, rfl⟩, fun w' _ ad h => by cases h⟩
    rw [run_slice_l (P := Tryd.prog) u 34 none 0 0 Tryd.underlying34 .i64 _ (by omega) (by omega)]
    have hz : ((sizeOf (Tryd.prog.elem 34)).run Tryd.prog u) = .ok 1 u := by kernel_rfl
    rw [hz]
    rfl
  · refine ⟨cutA (some ⟨g, 0, none⟩) ct lo, fun u => ?_, (by intro h; unfold cutA at h; split at h <;> simp at h), fun w' ho ad had j u hj => ?_⟩
    · rw [run_cut_l u g L ct lo _ rfl (by omega)]
    · rw [List.getElem?_map] at hj
      cases hx : (t.drop lo)[j]? with
      | none => rw [hx] at hj; cases hj
      | some x =>
        rw [hx] at hj
        simp only [Option.map_some, Option.some.injEq] at hj
        have hlt : lo + j < t.length := by
          rw [List.getElem?_drop] at hx
          by_cases hlt : lo + j < t.length
          · exact hlt
          · rw [List.getElem?_eq_none (by omega)] at hx; cases hx
        rw [cutA_lt (by omega)] at had
        cases had
        rw [← hj, addr_add]
        rw [List.getElem?_drop] at hx
        exact ho.cell hx

/-- A list of runes that lies somewhere, made a text. -/
theorem conv_any {w : World} (X : Option Addr) (m C : Nat) (ns : List Int) (hl : ns.length = m) (hnone : X = none → m = 0) (hc : ∀ ad, X = some ad → ∀ j u, (ns.map (Value.int .i32))[j]? = some u → w.cell? (ad.add j) = some u) :
    (convert 34 9 (.slice X m C)).run Tryd.prog w = .ok (.string (runesBytes ns)) w := by
  cases X with
  | none =>
    obtain rfl := hnone rfl
    obtain rfl := List.eq_nil_of_length_eq_zero hl
    rw [run_convert_runes_nil w 34 9 21 _ _ Tryd.underlying34 Tryd.underlying21 Tryd.underlying9]
    rfl
  | some ad =>
    have h := run_convert_runes (P := Tryd.prog) w 34 9 21 ad m C ns (by omega) Tryd.underlying34 Tryd.underlying21 Tryd.underlying9 (fun j hj => hc ad rfl j _ (by rw [List.getElem?_map, List.getElem?_eq_getElem hj]; simp [List.getD, hj]))
    rw [List.take_of_length_le (by omega)] at h
    exact h
theorem own_text {w : World} {base rb cb L ct : Nat} {At : Option Addr} {t : List Int} (h : Own w base rb cb (.slice At L ct) t) (hL : L = t.length) (hct : L ≤ ct) (hform : (At = none ∧ t = [] ∧ ct = 0) ∨ ∃ g, At = some ⟨g, 0, none⟩ ∧ base ≤ g ∧ g < w.heap.size ∧ g ≠ rb ∧ g ≠ cb) :
    (convert 34 9 (.slice At L ct)).run Tryd.prog w = .ok (.string (runesBytes t)) w := by
  refine conv_any At L ct t hL.symm (fun hn => ?_) (fun ad had j u hj => ?_)
  · rcases hform with ⟨_, rfl, _⟩ | ⟨g, rfl, _⟩
    · exact hL
    · cases hn
  · rcases hform with ⟨rfl, _, _⟩ | ⟨g, rfl, _⟩
    · cases had
    · cases had
      have := h.1.cells (g := g) rfl j u hj
      exact this
theorem cut_mid {w : World} {base rb cb L ct i m : Nat} {At : Option Addr} {t : List Int} (h : Own w base rb cb (.slice At L ct) t) (hL : L = t.length) (hct : L ≤ ct) (hform : (At = none ∧ t = [] ∧ ct = 0) ∨ ∃ g, At = some ⟨g, 0, none⟩ ∧ base ≤ g ∧ g < w.heap.size ∧ g ≠ rb ∧ g ≠ cb) (him : i + m ≤ L) :
    ∃ X C, (∀ u, (Instr.slice 34 (.slice At L ct) (some (.int .i64 (i : Int))) (some (.int .i64 ((i : Int) + (m : Int)))) none).run Tryd.prog u = .ok (.slice X m C) u) ∧
      ∀ w', Own w' base rb cb (.slice At L ct) t → (convert 34 9 (.slice X m C)).run Tryd.prog w' = .ok (.string (runesBytes ((t.drop i).take m))) w' := by
  rcases hform with ⟨rfl, rfl, rfl⟩ | ⟨g, rfl, hb, hg, _, _⟩
  · obtain rfl : L = 0 := by omega
    obtain rfl : i = 0 := by omega
    obtain rfl : m = 0 := by omega
    refine ⟨none, 0, fun u => ?_, fun w' _ => conv_any none 0 0 _ rfl (fun _ => rfl) (fun ad h => by cases h)⟩
    rw [run_slice_lh (P := Tryd.prog) u 34 none 0 0 Tryd.underlying34 .i64 .i64 _ _ (by omega) (by omega) (by omega)]
    have hz : ((sizeOf (Tryd.prog.elem 34)).run Tryd.prog u) = .ok 1 u := by kernel_rfl
    rw [hz]
    rfl
  · refine ⟨cutA (some ⟨g, 0, none⟩) ct i, ct - i, fun u => ?_, fun w' ho => conv_any _ m _ _ (by simp; omega) (by intro h; unfold cutA at h; split at h <;> simp at h) (fun ad had j u hj => ?_)⟩
    · rw [run_cut u g L ct i (i + m) _ _ rfl (by omega) (by omega) (by omega), Nat.add_sub_cancel_left]
    · rw [List.getElem?_map] at hj
      cases hx : ((t.drop i).take m)[j]? with
      | none => rw [hx] at hj; cases hj
      | some x =>
        rw [hx] at hj
        simp only [Option.map_some, Option.some.injEq] at hj
        rw [List.getElem?_take] at hx
        split at hx
        · rw [List.getElem?_drop] at hx
          have hlt : i + j < t.length := by omega
          rw [cutA_lt (by omega)] at had
          cases had
          rw [← hj, addr_add]
          exact ho.cell hx
        · cases hx
theorem quiet_same {f : FuncId} {args : Array Value} {v : Value} {P : Program} {w : World} (h : Calls P f args w fun e w' => e = .returned v ∧ w' = w) : Calls P f args w fun e w' => e = .returned v ∧ ∃ k, w' = w.drewN k :=
  h.mono fun _ _ ⟨a, b⟩ => ⟨a, 0, b⟩
end Go.Proofs.YthhlchgnjdfpeaaDoor
