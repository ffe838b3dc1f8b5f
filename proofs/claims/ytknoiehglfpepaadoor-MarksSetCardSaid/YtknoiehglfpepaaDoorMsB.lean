/-
  MARKS: append to what a call owns, of what may be nothing; the program's Set.
-/
import Derived.Test.YtknoiehglfpepaaDoorMkI
import Derived.Test.YtknoiehglfpepaaDoorMsP
import Derived.Laws.AppendOwn
import Derived.Laws.AppendOwnNone
import Derived.Laws.MakeOwn
import Derived.OwnWalk
set_option linter.unusedVariables false
namespace Go.Proofs.YtknoiehglfpepaaDoor
open Go Go.RowKit

/-- A slice, cut: where it begins. -/
def cutM (A : Option Addr) (c lo : Nat) : Option Addr := if c = lo then A else A.map (·.add (lo * 2))
set_option maxRecDepth 100000 in
theorem run_cutM_h (w : World) (A : Option Addr) (n c hi : Nat) (H : Int) (hH : H = hi) (h2 : hi ≤ c) :
    (Instr.slice 22 (.slice A n c) none (some (.int .i64 H)) none).run Tryd.prog w = .ok (.slice (cutM A c 0) hi c) w := by
  subst hH
  rw [run_slice_h (P := Tryd.prog) w 22 A n c Tryd.underlying22 .i64 _ (by omega) (by omega)]
  have hz : ((sizeOf (Tryd.prog.elem 22)).run Tryd.prog w) = .ok 2 w := by kernel_rfl
  rw [hz]
  simp [Result.andThen, sliced, cutM]
set_option maxRecDepth 100000 in
theorem run_cutM_l (w : World) (A : Option Addr) (n c lo : Nat) (L : Int) (hL : L = lo) (h1 : lo ≤ n) (h2 : n ≤ c) :
    (Instr.slice 22 (.slice A n c) (some (.int .i64 L)) none none).run Tryd.prog w = .ok (.slice (cutM A c lo) (n - lo) (c - lo)) w := by
  subst hL
  rw [run_slice_l (P := Tryd.prog) w 22 A n c Tryd.underlying22 .i64 _ (by omega) (by omega)]
  have hz : ((sizeOf (Tryd.prog.elem 22)).run Tryd.prog w) = .ok 2 w := by kernel_rfl
  rw [hz]
  simp [Result.andThen, sliced, cutM]
theorem cutM_zero (A : Option Addr) (c : Nat) : cutM A c 0 = A := by
  unfold cutM
  split
  · rfl
  · cases A with
    | none => rfl
    | some a => simp [Addr.add]
/-- What lies there, one cell behind another. -/
def Lies (w : World) (X : Option Addr) (m c : Nat) (news : List Value) : Prop :=
  (X = none → m = 0 ∧ c = 0) ∧ news.length = m * 2 ∧ (∀ u ∈ news, u.oneCell' = true) ∧ ∀ ad, X = some ad → ∀ j u, news[j]? = some u → w.cell? (ad.add j) = some u
theorem flat_len {rows : List (List Int)} (h : ∀ r ∈ rows, r.length = 2) : (flat rows).length = rows.length * 2 := by
  unfold flat
  rw [List.length_map, List.length_flatten]
  induction rows with
  | nil => rfl
  | cons r l ih =>
    have h1 := h r List.mem_cons_self
    have h2 := ih (fun q hq => h q (List.mem_cons_of_mem _ hq))
    rw [List.map_cons, List.sum_cons, h2, h1, List.length_cons]
    omega
theorem flat_one {rows : List (List Int)} : ∀ u ∈ flat rows, u.oneCell' = true := by
  intro u hu
  unfold flat at hu
  obtain ⟨x, _, rfl⟩ := List.mem_map.1 hu
  rfl
theorem flat_at : ∀ {rows : List (List Int)}, (∀ r ∈ rows, r.length = 2) → ∀ {j : Nat} {u : Value}, (flat rows)[j]? = some u → ∃ r x, rows[j / 2]? = some r ∧ r[j % 2]? = some x ∧ u = .int .i64 x
  | [], _, j, u, h => by simp [flat] at h
  | q :: rows, hl, j, u, h => by
    have hq := hl q List.mem_cons_self
    have e : flat (q :: rows) = q.map (Value.int .i64) ++ flat rows := by unfold flat; simp
    rw [e] at h
    by_cases hj : j < 2
    · rw [List.getElem?_append_left (by rw [List.length_map, hq]; exact hj), List.getElem?_map] at h
      cases hx : q[j]? with
      | none => rw [hx] at h; cases h
      | some x =>
        rw [hx] at h
        simp only [Option.map_some, Option.some.injEq] at h
        exact ⟨q, x, by rw [show j / 2 = 0 by omega]; rfl, by rw [show j % 2 = j by omega]; exact hx, h.symm⟩
    · rw [List.getElem?_append_right (by rw [List.length_map, hq]; omega), List.length_map, hq] at h
      obtain ⟨r, x, h1, h2, h3⟩ := flat_at (rows := rows) (fun r hr => hl r (List.mem_cons_of_mem _ hr)) h
      refine ⟨r, x, ?_, ?_, h3⟩
      · rw [show j / 2 = (j - 2) / 2 + 1 by omega, List.getElem?_cons_succ]; exact h1
      · rw [show j % 2 = (j - 2) % 2 by omega]; exact h2
theorem Rws.len2 {w : World} {A : Option Addr} {n : Nat} {rows : List (List Int)} (h : Rws w A n 2 rows) : ∀ r ∈ rows, r.length = 2 := fun r hr => by
  obtain ⟨i, hi, rfl⟩ := List.getElem_of_mem hr
  exact (h.2 i _ (List.getElem?_eq_getElem hi)).1
theorem Rws.i64s {w : World} {A : Option Addr} {n : Nat} {rows : List (List Int)} (h : Rws w A n 2 rows) : ∀ r ∈ rows, ∀ x ∈ r, I64 x := fun r hr => by
  obtain ⟨i, hi, rfl⟩ := List.getElem_of_mem hr
  exact (h.2 i _ (List.getElem?_eq_getElem hi)).2.1
/-- The head lies there. -/
theorem lies_head {w : World} {A : Option Addr} {n c : Nat} {rows : List (List Int)} (h : Rws w A n 2 rows) (hc : Cp A n c) {i : Nat} (hi : i ≤ n) : Lies w (cutM A c 0) i c (flat (rows.take i)) := by
  rw [cutM_zero]
  have hl := h.1
  have h2 : ∀ r ∈ rows.take i, r.length = 2 := fun r hr => h.len2 r (List.mem_of_mem_take hr)
  refine ⟨fun hA => ?_, by rw [flat_len h2, List.length_take, hl, Nat.min_eq_left hi], flat_one, fun ad hA j u hj => ?_⟩
  · have := hc.2 hA
    have := hc.1
    omega
  · obtain ⟨r, x, h3, h4, rfl⟩ := flat_at h2 hj
    rw [List.getElem?_take] at h3
    split at h3
    · obtain ⟨_, _, ad', e, hcell⟩ := h.2 _ _ h3
      rw [hA] at e
      injection e with e
      subst e
      have := hcell _ _ h4
      rw [Go.Deep.add_add, show j / 2 * 2 + j % 2 = j by omega] at this
      exact this
    · cases h3
/-- The tail lies there. -/
theorem lies_tail {w : World} {A : Option Addr} {n c : Nat} {rows : List (List Int)} (h : Rws w A n 2 rows) (hc : Cp A n c) {lo : Nat} (hlo : lo ≤ n) : Lies w (cutM A c lo) (n - lo) (c - lo) (flat (rows.drop lo)) := by
  have hl := h.1
  have h2 : ∀ r ∈ rows.drop lo, r.length = 2 := fun r hr => h.len2 r (List.mem_of_mem_drop hr)
  refine ⟨fun hA => ?_, by rw [flat_len h2, List.length_drop, hl], flat_one, fun ad hA j u hj => ?_⟩
  · unfold cutM at hA
    have hn : A = none := by
      split at hA
      · exact hA
      · cases A with
        | none => rfl
        | some a => cases hA
    have := hc.2 hn
    have := hc.1
    omega
  · obtain ⟨r, x, h3, h4, rfl⟩ := flat_at h2 hj
    rw [List.getElem?_drop] at h3
    obtain ⟨_, _, ad', e, hcell⟩ := h.2 _ _ h3
    have hlt := Rw.get_lt h3
    unfold cutM at hA
    rw [if_neg (by have := hc.1; omega), e] at hA
    simp only [Option.map_some, Option.some.injEq] at hA
    subst hA
    have := hcell _ _ h4
    rw [Go.Deep.add_add] at this
    rw [Go.Deep.add_add, show lo * 2 + j = (lo + j / 2) * 2 + j % 2 by omega]
    exact this
theorem Lies.kept {w w' : World} {S : Nat → Prop} {X : Option Addr} {m c : Nat} {news : List Value} (h : Lies w X m c news) (hk : Kept S w w') (hS : ∀ k, k < w.heap.size → ¬ S k) : Lies w' X m c news :=
  ⟨h.1, h.2.1, h.2.2.1, fun ad hA j u hj => by have := h.2.2.2 ad hA j u hj; exact cell_kept hk this (hS _ (World.block_lt_of_cell? w _ this))⟩
/-- Append, whatever is appended: marks that lie somewhere, or nothing. -/
theorem wpList_append_optM {w : World} {ops : Array Oper} {rest : List Oper} {o : Oper} {a : Act} {Q : Exit → Act → World → Prop} (hgd : o.guard = none) (s x : Operand) (ho : o.op = .call { callee := .builtin .append, args := #[s, x], argTypes := #[22, 22] })
    (base : Nat) (v : Value) (n : Nat) (xs : List Value) (hs : a.eval s = v) (hown : w.ownsRow base 61 2 v n xs) (X : Option Addr) (m c : Nat) (news : List Value) (hx : a.eval x = .slice X m c)
    (hL : Lies w X m c news) (hb : n + m ≤ 1000000) (hbase : base ≤ w.heap.size)
    (h : ∀ v' w', w'.ownsRow base 61 2 v' (n + m) (xs ++ news) → w.grownBy w' v.ownBlock → (v'.ownBlock = v.ownBlock ∨ v'.ownBlock = some w.heap.size) → wpList Tryd.prog ops Q rest (a.put o.dst v') w') : wpList Tryd.prog ops Q (o :: rest) a w := by
  obtain ⟨i0, hi, hz0, hz1, hz2⟩ := info_parts info_mark
  obtain ⟨hnone, hl, h1, hnews⟩ := hL
  refine wpList_plain hgd fun K hK => ?_
  cases X with
  | some ad =>
    obtain ⟨v', w', hrun, h2, h3, h4, h5⟩ := run_append_own_at (P := Tryd.prog) w base 22 o.type 61 i0 (.agg #[.int .i64 0, .int .i64 0]) 2 16 Tryd.underlying22 hi hz0 hz1 hz2 rfl (by decide) v n xs hown ad m c news hl (hnews ad rfl) h1 (by unfold maxLen; omega) (by omega) hbase
    unfold Oper.wp
    simp [execOp, ho, resolve, invoke, builtin, hs, hx, hrun, Result.andThen]
    exact hK _ _ (h v' w' h2 h3 h5)
  | none =>
    obtain ⟨rfl, rfl⟩ := hnone rfl
    obtain rfl := List.eq_nil_of_length_eq_zero (by simpa using hl)
    have hrun := run_append_owned_none (P := Tryd.prog) (w := w) base 22 o.type 61 i0 2 Tryd.underlying22 hi v n xs hown
    unfold Oper.wp
    simp [execOp, ho, resolve, invoke, builtin, hs, hx, hrun, Result.andThen]
    exact hK _ _ (h v w (by simpa using hown) (World.grownBy.refl w _) (Or.inl rfl))
theorem flat_app (a b : List (List Int)) : flat (a ++ b) = flat a ++ flat b := by unfold flat; simp
theorem flat_two (x y : Int) (l : List (List Int)) : flat ([x, y] :: l) = [.int .i64 x, .int .i64 y] ++ flat l := by unfold flat; simp
/-- What is told of marks. -/
def MsTold (w : World) (rows : List (List Int)) (e : Ending) (w' : World) : Prop := ∃ B c', e = .returned (.tuple #[.slice B rows.length c', .int .i64 0]) ∧ Rws w' B rows.length 2 rows ∧ (∀ a, B = some a → w.heap.size ≤ a.block) ∧ Cq w' B rows.length c'
set_option maxRecDepth 100000 in
set_option maxHeartbeats 2000000 in
theorem mset_yes (A : Option Addr) (n c : Nat) (rows : List (List Int)) (z y : Int) (w : World) (hA : Rws w A n 2 rows) (hc : Cp A n c) (hn : n ≤ 100000) (ho : Rw.mOk rows) (hz : 97 ≤ z ∧ z ≤ 122) (hy : 0 ≤ y ∧ y ≤ 4000) :
    Calls Tryd.prog 11 #[.slice A n c, .int .i64 z, .int .i64 y] w fun e w' => (∃ m f, Rw.SetAt rows z m f ∧ MsTold w (Rw.mset rows z y m f) e w') ∧ Kept (fun _ => False) w w' := by
  have cC := pcheck_any A n c rows w hA hn
  have cF := fun W (hk : Kept (fun _ => False) w W) => mfind_any A n c rows z W (hA.kept hk (fun _ _ => id)) hn ho
  have cM := fun W => mmay_any z y W
  rw [decide_eq_true (show (97 ≤ z ∧ z ≤ 122) ∧ 0 ≤ y ∧ y ≤ 4000 from ⟨hz, hy⟩)] at cM
  have HA := Lib.hid hA
  have HO := Lib.hid ho
  have HC := Lib.hid hc
  have hcn := hc.1
  have HSt : Hid (w.heap.size ≤ w.heap.size) := Nat.le_refl _
  clear hA ho hc
  go_enter Tryd.func11, Tryd.ntmps11
  go_upto_region 4 with (first
    | (go_at_call 9; refine cC.mono ?_; rintro e w1 ⟨⟨E, rfl, _, hE⟩, hk1⟩; obtain rfl : E = 0 := hE.2 HO.out; have HK1 := Lib.hid hk1; clear hk1 hE)
    | (go_at_call 24; refine (cM _).mono ?_; rintro e w' ⟨rfl, hw⟩; have hw2 := hw.symm; subst hw2)
    | (go_at_call 25; refine (cF _ HK1.out).mono ?_; rintro e w2 ⟨⟨m, B, hm, hj, rfl, hB⟩, hk2⟩; have HJ := Lib.hid hj; have HB := Lib.hid hB; have HK2 := Lib.hid (HK1.out.trans hk2); clear hj hB hk2))
  obtain ⟨f, hf⟩ : ∃ f : Nat, f = if B then 1 else 0 := ⟨_, rfl⟩
  have HAT : Hid (Rw.SetAt rows z m f) := ⟨by rw [HA.out.1]; exact hm, HJ.out, by
    rw [hf]
    cases B with
    | true => exact .inl ⟨rfl, HB.out.1 rfl⟩
    | false => exact .inr ⟨rfl, fun h => by have := HB.out.2 h; cases this⟩⟩
  have hmf : m + f ≤ n := by have := HAT.out.mf; rw [HA.out.1] at this; exact this
  have hf1 := HAT.out.f1
  have HF := Lib.hid hf
  clear hf
  obtain ⟨i0, hi, hz0, hz1, hz2⟩ := info_parts info_mark
  have hb0 : w.heap.size ≤ w2.heap.size := HK2.out.size
  go_upto_region 5 with (at_make; refine wpList_make_own _ rfl _ _ 22 rfl w2.heap.size 61 i0 (.agg #[.int .i64 0, .int .i64 0]) 2 Tryd.underlying22 hi hz0 hz1 .i64 .i64 _ (n + 1) rfl rfl (by omega) (by rw [hz2]; omega) (by unfold maxLen; omega) (Nat.le_refl _) ?_; intro w5 hown hgrow)
  have HK5 : Hid (Kept (fun _ => False) w2 w5) := (Kept.refl _ w2).grown hgrow
  have HO5 := Lib.hid hown
  have HL5 : Hid (Lies w5 (cutM A c 0) m c (flat (rows.take m))) := (lies_head (HA.out.kept HK2.out (fun _ _ => id)) HC.out hm).kept HK5.out (fun _ _ => id)
  have HLT : Hid (Lies w2 (cutM A c (m + f)) (n - (m + f)) (c - (m + f)) (flat (rows.drop (m + f)))) := lies_tail (HA.out.kept HK2.out (fun _ _ => id)) HC.out hmf
  have hcA := fun u => run_cutM_h u A n c m (m : Int) rfl (by omega)
  have HCC := Lib.hid (fun (L : Int) (hL : L = ((m + f : Nat) : Int)) u => run_cutM_l u A n c (m + f) L hL hmf hcn)
  have h5z : w2.heap.size ≤ w5.heap.size := HK5.out.size
  clear hown hgrow
  generalize cutM A c 0 = CA at *
  generalize cutM A c (m + f) = CC at *
  generalize hfa : flat (rows.take m) = FA at *
  generalize hfb : flat (rows.drop (m + f)) = FB at *
  have HFA := Lib.hid hfa
  have HFB := Lib.hid hfb
  clear hfa hfb
  go_upto_region 6 with (first
    | (at_builtin; refine wpList_append_optM rfl (.tmp 30) (.tmp 33) rfl w2.heap.size _ 0 [] rfl HO5.out CA m c _ rfl HL5.out (by omega) h5z ?_; intro v6 w6 hown6 hgrow6 hat6; have HO6 := Lib.hid hown6; have HK6 := Lib.hid (Kept.grew HK5.out hgrow6 (fun b hb => (HO5.out.lt b hb).1)); have h6z : w2.heap.size ≤ w6.heap.size := HK6.out.size; clear hown6 hgrow6 hat6)
    | (at_builtin; refine wpList_append_own_at _ rfl (.tmp 34) (.tmp 38) 22 rfl w2.heap.size 61 i0 (.agg #[.int .i64 0, .int .i64 0]) 2 16 Tryd.underlying22 hi hz0 hz1 hz2 rfl (by decide) _ _ _ rfl (HO6.out.alloc _) ⟨_, 0, none⟩ 1 1 [.int .i64 z, .int .i64 y] rfl rfl two_cells two_one (by unfold maxLen; omega) (by omega) (by simp; omega) ?_; intro v7 w7 hown7 hgrow7 _ hat7; have HO7 := Lib.hid hown7; have HK7 := Lib.hid (Kept.grew (HK6.out.alloc _) hgrow7 (fun b hb => (HO6.out.lt b hb).1)); have h7z : w2.heap.size ≤ w7.heap.size := HK7.out.size; clear hown7 hgrow7 hat7))
  have HL7 := Lib.hid (HLT.out.kept HK7.out (fun _ _ => id))
  have HFIN : Hid (∀ v8 w8, w8.ownsRow w2.heap.size 61 2 v8 (0 + m + 1 + (n - (m + f))) ([] ++ FA ++ [.int .i64 z, .int .i64 y] ++ FB) → Kept (fun _ => False) w2 w8 →
      (∃ m f, Rw.SetAt rows z m f ∧ MsTold w (Rw.mset rows z y m f) (.returned (.tuple #[v8, .int .i64 0])) w8) ∧ Kept (fun _ => False) w w8) := by
    show ∀ v8 w8, _ → _ → _
    intro v8 w8 h8 hk8
    refine ⟨⟨m, f, HAT.out, ?_⟩, HK2.out.trans hk8⟩
    have hlen : (Rw.mset rows z y m f).length = 0 + m + 1 + (n - (m + f)) := by rw [Rw.mset_len (by rw [HA.out.1]; exact hmf), HA.out.1]; omega
    have hfl : ([] ++ FA ++ [.int .i64 z, .int .i64 y] ++ FB : List Value) = flat (Rw.mset rows z y m f) := by
      unfold Rw.mset
      rw [flat_app, flat_two, HFA.out, HFB.out]
      simp
    rw [hfl] at h8
    obtain ⟨B', c', rfl, h1, h2, h3⟩ := owned_rows h8 hlen (fun r hr => ⟨Rw.mset_rows HA.out.len2 rfl r hr, Rw.mset_rows HA.out.i64s (fun x hx => by
      simp only [List.mem_cons, List.not_mem_nil, or_false] at hx
      unfold I64
      rcases hx with rfl | rfl <;> omega) r hr⟩)
    rw [← hlen] at h1 h3 ⊢
    exact ⟨B', c', rfl, h1, fun a ha => Nat.le_trans hb0 (h2 a ha), h3⟩
  clear HFA HFB
  cases B with
  | true =>
    obtain rfl : f = 1 := HF.out
    have hcC := HCC.out ((m : Int) + 1) (by omega)
    clear HF HB HAT HJ
    go_wp2_with (at_builtin; refine wpList_append_optM rfl (.tmp 43) (.tmp 46) rfl w2.heap.size _ (0 + m + 1) _ rfl HO7.out CC (n - (m + 1)) (c - (m + 1)) _ rfl HL7.out (by omega) h7z ?_; intro v8 w8 hown8 hgrow8 hat8; have HX := HFIN.out v8 w8 hown8 (Kept.grew HK7.out hgrow8 (fun b hb => (HO7.out.lt b hb).1)); have HX8 := Lib.hid HX; clear HX hown8 hgrow8 hat8)
    exact bodyPost_ret (v := .tuple #[v8, .int .i64 0]) (by simp [results, Tryd.results11, go_sem]) rfl HX8.out
  | false =>
    obtain rfl : f = 0 := HF.out
    have hcC := HCC.out (m : Int) rfl
    clear HF HB HAT HJ
    go_wp2_with (at_builtin; refine wpList_append_optM rfl (.tmp 43) (.tmp 46) rfl w2.heap.size _ (0 + m + 1) _ rfl HO7.out CC (n - (m + 0)) (c - (m + 0)) _ rfl HL7.out (by omega) h7z ?_; intro v8 w8 hown8 hgrow8 hat8; have HX := HFIN.out v8 w8 hown8 (Kept.grew HK7.out hgrow8 (fun b hb => (HO7.out.lt b hb).1)); have HX8 := Lib.hid HX; clear HX hown8 hgrow8 hat8)
    exact bodyPost_ret (v := .tuple #[v8, .int .i64 0]) (by simp [results, Tryd.results11, go_sem]) rfl HX8.out
end Go.Proofs.YtknoiehglfpepaaDoor
