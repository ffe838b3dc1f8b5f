/-
  THE LAWS' SMALL CALLS: a number within bounds, where a number is in a list.
  AN ASK, OPENED: what a parameter of that type is, cell by cell, and how long its texts may be.
  THE LAWS' OWN CALLS: how much an ask weighs; which offsets it asks about.
  THE LAWS' OWN CALLS: which offsets an ask asks about.
-/
import Derived.Test.YtilkogohiealhaaDoorPB2
import Derived.Test.YtilkogohiealhaaDoorPA2
import Derived.ProofKit
import Derived.SizedLaws
import Derived.Deep.Slices
import Derived.Lib.SmallJoins
import Derived.Laws.AppendOwn
import Derived.Laws.Cover4
set_option linter.unusedVariables false
namespace Go.Proofs.YtilkogohiealhaaDoor
open Go Go.RowKit

theorem znum_any (x m : Int) (w : World) : Calls Tryd.prog 31 #[.int .i64 x, .int .i64 m] w fun e w' => e = .returned (.bool (decide (0 ≤ x ∧ x ≤ m))) ∧ w' = w := by
  by_cases h1 : 0 ≤ x
  · have b1 : decide (0 ≤ x) = true := by simp; omega
    by_cases h2 : x ≤ m
    · have b2 : decide (x ≤ m) = true := by simp; omega
      rw [decide_eq_true (show 0 ≤ x ∧ x ≤ m from ⟨h1, h2⟩)]
      clear h1 h2
      go_enter Tryd.func31, Tryd.ntmps31
      go_wp2
      go_ret
      exact ⟨rfl, rfl⟩
    · have b2 : decide (x ≤ m) = false := by simp; omega
      rw [decide_eq_false (show ¬ (0 ≤ x ∧ x ≤ m) by omega)]
      clear h1 h2
      go_enter Tryd.func31, Tryd.ntmps31
      go_wp2
      go_ret
      exact ⟨rfl, rfl⟩
  · have b1 : decide (0 ≤ x) = false := by simp; omega
    rw [decide_eq_false (show ¬ (0 ≤ x ∧ x ≤ m) by omega)]
    clear h1
    go_enter Tryd.func31, Tryd.ntmps31
    go_wp2
    go_ret
    exact ⟨rfl, rfl⟩
theorem within_any (x n : Int) (hn : 1 ≤ n) (hm : n ≤ 9223372036854775807) (w : World) : Calls Tryd.prog 12 #[.int .i64 x, .int .i64 n] w fun e w' => ∃ k : Nat, (k : Int) < n ∧ e = .returned (.int .i64 k) ∧ w' = w := by
  have e1 : IntKind.u64.wrap n = n := IntWalk.u64_in n ⟨by omega, by omega⟩
  obtain ⟨q, hq, hq0⟩ : ∃ q, IntKind.u64.wrap x = q ∧ 0 ≤ q := ⟨_, rfl, by simp [IntKind.wrap, IntKind.bits, IntKind.signed]; omega⟩
  have e2 : q.tmod n = q % n := by rw [Int.tmod_eq_emod_of_nonneg hq0]
  obtain ⟨k, hk⟩ : ∃ k : Nat, q % n = (k : Int) := ⟨(q % n).toNat, by have := Int.emod_nonneg q (show n ≠ 0 by omega); omega⟩
  have hlt : (k : Int) < n := by rw [← hk]; exact Int.emod_lt_of_pos q (by omega)
  have e4 : IntKind.u64.wrap (k : Int) = (k : Int) := IntWalk.u64_in _ ⟨by omega, by omega⟩
  have hn0 : (n == 0) = false := by rw [beq_eq_false_iff_ne]; omega
  have HK := Lib.hid hk
  clear hk
  go_enter Tryd.func12, Tryd.ntmps12
  go_wp2
  go_ret
  refine ⟨k, hlt, ?_, rfl⟩
  show Ending.returned (.int .i64 (wrap64 (q % n))) = _
  rw [HK.out, IntWalk.wrap64_in _ ⟨by omega, by omega⟩]
theorem nums_new (w : World) (xs : List Int) (t : TypeId) : Nums (w.alloc (.cells (xs.map (Value.int .i64)).toArray t)) (some ⟨w.heap.size, 0, none⟩) xs.length xs := by
  refine ⟨rfl, fun j x hj => ⟨_, rfl, ?_⟩⟩
  rw [addr_add, cell_of_row _ _ _ _ _ _ (heap_alloc_new w _)]
  simp [hj]
theorem znum_t {x m : Int} (h : 0 ≤ x ∧ x ≤ m) (w : World) : Calls Tryd.prog 31 #[.int .i64 x, .int .i64 m] w fun e w' => e = .returned (.bool true) ∧ w' = w := by
  have c := znum_any x m w
  rwa [decide_eq_true h] at c
theorem znum_f {x m : Int} (h : ¬ (0 ≤ x ∧ x ≤ m)) (w : World) : Calls Tryd.prog 31 #[.int .i64 x, .int .i64 m] w fun e w' => e = .returned (.bool false) ∧ w' = w := by
  have c := znum_any x m w
  rwa [decide_eq_false h] at c
end Go.Proofs.YtilkogohiealhaaDoor
namespace Go.Proofs.YtilkogohiealhaaDoor
open Go Go.RowKit Go.ChangeShapes Go.WideShapes Go.ChangeAt

theorem laidOut : laidOutB Tryd.prog = true := by kernel_rfl
theorem cells_string : Tryd.prog.cellsOf 9 = 1 := by kernel_rfl
theorem cells_int : Tryd.prog.cellsOf 3 = 1 := by kernel_rfl
theorem cells_strings : Tryd.prog.cellsOf 22 = 1 := by kernel_rfl
theorem cells_pos : Tryd.prog.cellsOf 24 = 2 := by kernel_rfl
theorem cells_ask1 : Tryd.prog.cellsOf 26 = 5 := by kernel_rfl
theorem cells_ask10 : Tryd.prog.cellsOf 28 = 8 := by kernel_rfl
theorem bytes_string : Tryd.prog.bytesOf 9 = 16 := by kernel_rfl
theorem bytes_int : Tryd.prog.bytesOf 3 = 8 := by kernel_rfl
theorem addr_far (x : Addr) (j : Nat) (hj : j ≠ 0) : x.add j = ⟨x.block, x.off + j, none⟩ := by
  unfold Addr.add; rw [if_neg hj]

/-- What a law leaves that has only made memory: every old place reads as it did, the argument among them. -/
theorem post_below {H : Type} {enc : TypeId × Value → H} {P : Program} {f : Func} {s : ChangeSpec} {apart fresh handsOn again : Bool} {W W' : World} {args : Array Value} {v : Value} {ds gs : List (DataW H)} {before pv : List MemPlace}
    (hW : DataW.Whole enc P f.params.toList s.vars apart W args.toList ds gs (before ++ pv)) (hb : Below W.heap.size W W')
    (hres : ∀ (b : Nat) (sp : Nat → Bool) (hd : Bool), DataW.TrodAll enc P W' b sp hd f.resultTypes.toList (v.resultList f.resultTypes.size) (s.fn H (ds ++ gs)).results [])
    (hargs : ∀ sp : Nat → Bool, (∀ p ∈ before, sp p.block = true) → DataW.TrodAll enc P W' 0 sp true f.params.toList args.toList (s.fn H (ds ++ gs)).args before)
    (hvars : ∀ sp : Nat → Bool, (∀ p ∈ pv, sp p.block = true) → DataW.TrodVars enc P W' sp s.vars (s.fn H (ds ++ gs)).vars pv)
    (hok : ∀ (j : Nat) (t : TypeId) (r : Value), f.resultTypes[j]? = some t → (v.resultList f.resultTypes.size)[j]? = some r → Value.okWide P W' .any 0 t r) :
    s.post enc P f apart fresh handsOn again W args v W' := by
  have old : ∀ p ∈ before ++ pv, p.block < W.heap.size := fun p hp => hW.lt p hp
  have oldA : ∀ p ∈ before, decide (p.block < W.heap.size) = true := fun p hp => decide_eq_true (old p (List.mem_append_left _ hp))
  have oldV : ∀ p ∈ pv, decide (p.block < W.heap.size) = true := fun p hp => decide_eq_true (old p (List.mem_append_right _ hp))
  obtain ⟨_, _, _, _, _, unfrozen, distinct⟩ := id hW
  refine ⟨ds, gs, before ++ pv, [], before, pv, hW, hres _ _ _, hargs _ oldA, hvars _ oldV, hb.frame _, fun _ => ⟨hok, (s.fn H (ds ++ gs)).results ++ (s.fn H (ds ++ gs)).args, (s.fn H (ds ++ gs)).vars, before ++ pv, ?_, fun p hp _ => hp⟩⟩
  refine ⟨before, pv, ?_, hvars _ (fun _ _ => rfl), rfl, fun b off hp => ?_, distinct⟩
  · simpa using trodAll_append (hargs (fun _ => true) (fun _ _ => rfl)) (hres 0 (fun _ => true) true)
  · exact (hb.frozen (p := ⟨b, off, none⟩) (old _ hp)).trans (unfrozen b off hp)


/-- A slice of texts. -/
def Strs (w : World) (A : Option Addr) (n : Nat) (ss : List ByteArray) : Prop :=
  ss.length = n ∧ ∀ j s, ss[j]? = some s → ∃ ad, A = some ad ∧ w.cell? (ad.add j) = some (.string s) ∧ s.size ≤ 140737488351232
theorem Strs.cell {w : World} {A : Option Addr} {n : Nat} {ss : List ByteArray} (h : Strs w A n ss) {j : Nat} (hj : j < n) : ∃ ad s, A = some ad ∧ ss[j]? = some s ∧ w.cell? (ad.add j) = some (.string s) ∧ s.size ≤ 140737488351232 := by
  have hl : j < ss.length := by rw [h.1]; exact hj
  obtain ⟨ad, e, r⟩ := h.2 j ss[j] (List.getElem?_eq_getElem hl)
  exact ⟨ad, ss[j], e, List.getElem?_eq_getElem hl, r⟩
theorem Strs.kept {w w' : World} {A : Option Addr} {n : Nat} {ss : List ByteArray} (h : Strs w A n ss) (hk : Kept (fun _ => False) w w') : Strs w' A n ss := by
  refine ⟨h.1, fun j s hj => ?_⟩
  obtain ⟨ad, e, r, hs⟩ := h.2 j s hj
  exact ⟨ad, e, cell_kept hk r id, hs⟩
/-- A number that an int can hold. -/
def I64 (x : Int) : Prop := -9223372036854775808 ≤ x ∧ x ≤ 9223372036854775807
theorem i64_of_wf {x : Int} (h : (Lit.int .i64 x).wf = true) : I64 x := by
  unfold Lit.wf at h
  simp only [Bool.and_eq_true, decide_eq_true_eq] at h
  have h1 : IntKind.i64.min = -9223372036854775808 := by decide
  have h2 : IntKind.i64.max = 9223372036854775807 := by decide
  rw [h1, h2] at h
  exact h

section
variable {H : Type} {enc : TypeId × Value → H} {W : World} {base : Nat} {sp : Nat → Bool} {held : Bool}

theorem mem_weightsAll {P : Program} {e : TypeId} {l : List (DataW H)} {d : DataW H} (hd : d ∈ l) {q : Nat} (hq : q ∈ d.weights P e) : q ∈ DataW.weightsAll P e l := by
  induction l with
  | nil => cases hd
  | cons x l ih =>
    simp only [DataW.weightsAll, List.mem_append]
    rcases List.mem_cons.1 hd with rfl | h
    · exact Or.inl hq
    · exact Or.inr (ih h)

instance : Inhabited ByteArray := ⟨.empty⟩
set_option maxRecDepth 100000 in
theorem strs_open {fuel : Nat} {cs : List Value} {x : DataW H × List MemPlace} (h : DataW.trod enc Tryd.prog W base sp held fuel 22 cs = some x) (hz : ∀ q ∈ x.1.weights Tryd.prog 22, q ≤ reachBytes) :
    ∃ (A : Option Addr) (n c : Nat) (ss : List ByteArray), cs = [.slice A n c] ∧ Strs W A n ss ∧ n ≤ 8796093022208 := by
  rcases Deep.open_slice1 Tryd.underlying22 cells_string h with ⟨rfl, rfl⟩ | ⟨a, len, cap, m, fu, V, D, Pl, rfl, hb, hl, hm, hmm, rfl, hx⟩
  · exact ⟨none, 0, 0, [], rfl, ⟨rfl, fun j x hj => by simp at hj⟩, by omega⟩
  · have hle : len ≤ m := by rw [hmm]; split <;> omega
    have hw : DataW.weights Tryd.prog 22 (DataW.slice ((List.range len).map D) ((List.range (m - len)).map fun j => D (len + j))) =
        (((List.range len).map D).length + ((List.range (m - len)).map fun j => D (len + j)).length) * Tryd.prog.bytesOf 9 :: (DataW.weightsAll Tryd.prog 9 ((List.range len).map D) ++ DataW.weightsAll Tryd.prog 9 ((List.range (m - len)).map fun j => D (len + j))) := by
      simp only [DataW.weights, Tryd.underlying22]
    have hlen : len ≤ 8796093022208 := by
      have h1 := hz _ (by rw [hw]; exact List.mem_cons_self)
      simp only [List.length_map, List.length_range, bytes_string] at h1
      unfold reachBytes at h1
      omega
    obtain ⟨q, hq⟩ := Deep.choose_lt (α := ByteArray) (n := len) (p := fun i s => W.cell? (a.add i) = some (.string s) ∧ s.size ≤ 140737488351232) (fun i hi => by
      obtain ⟨h1, h2⟩ := hx i (by omega)
      obtain ⟨S, e1, hD, hS⟩ := DataW.trod_string Tryd.underlying9 h2
      simp only [List.cons.injEq, and_true] at e1
      refine ⟨S, by rw [h1, e1], ?_⟩
      have := hz S.data.toList.length (by
        rw [hw]
        refine List.mem_cons_of_mem _ (List.mem_append_left _ (mem_weightsAll (d := D i) (List.mem_map.2 ⟨i, List.mem_range.2 hi, rfl⟩) ?_))
        have hD' := congrArg Prod.fst hD
        simp only at hD'
        rw [hD']
        simp [DataW.weights])
      rw [Array.length_toList] at this
      exact this)
    refine ⟨some a, len, cap, (List.range len).map q, rfl, ⟨by simp, fun j x hj => ⟨a, rfl, ?_⟩⟩, hlen⟩
    have hjl : j < len := by
      by_cases hjl : j < len
      · exact hjl
      · rw [List.getElem?_eq_none (by simp; omega)] at hj; simp at hj
    rw [List.getElem?_map, List.getElem?_range hjl] at hj
    simp only [Option.map_some, Option.some.injEq] at hj
    rw [← hj]
    exact hq j hjl

set_option maxRecDepth 100000 in
/-- A parameter of that type. -/
theorem ask_open {r : Reach} {b0 : Nat} {v : Value} {d : DataW H} {p : List MemPlace} (hv : Value.okWide Tryd.prog W r b0 28 v) (h : DataW.Trod enc Tryd.prog W base sp held 28 v d p)
    (hz : ∀ q ∈ d.weights Tryd.prog 28, q ≤ reachBytes) :
    ∃ (A : Option Addr) (n c : Nat) (ss : List ByteArray) (xa xb xr xc xk xn xq : Int), v = .agg #[.slice A n c, .int .i64 xa, .int .i64 xb, .int .i64 xr, .int .i64 xc, .int .i64 xk, .int .i64 xn, .int .i64 xq] ∧
      Strs W A n ss ∧ n ≤ 8796093022208 ∧ I64 xa ∧ I64 xb ∧ I64 xr ∧ I64 xc ∧ I64 xk ∧ I64 xn ∧ I64 xq := by
  obtain ⟨cs, rfl, hsz⟩ := okWide_struct Tryd.underlying28 hv
  rw [cells_ask10] at hsz
  obtain ⟨l⟩ := cs
  match l, hsz with
  | [c0, c1, c2, c3, c4, c5, c6, c7], _ =>
    obtain ⟨fuel, hf⟩ := h
    obtain ⟨y0, y1, y2, y3, n, hx, _, h0, h1, h2, h3⟩ := Joins.trod_struct4 Tryd.underlying28 hf
    simp only [Prod.mk.injEq] at hx
    obtain ⟨rfl, rfl⟩ := hx
    simp only [Value.cells, cells_int, cells_ask1, List.drop_zero, List.drop_succ_cons, List.take_succ_cons, List.take_zero] at h0 h1 h2 h3
    obtain ⟨z5, e5, _, w5⟩ := DataW.trod_int Tryd.underlying3 h1
    obtain ⟨z6, e6, _, w6⟩ := DataW.trod_int Tryd.underlying3 h2
    obtain ⟨z7, e7, _, w7⟩ := DataW.trod_int Tryd.underlying3 h3
    obtain ⟨x0, x1, x2, x3, n', hx', _, k0, k1, k2, k3⟩ := Joins.trod_struct4 Tryd.underlying26 h0
    subst hx'
    simp only [cells_int, cells_strings, cells_pos, List.drop_zero, List.drop_succ_cons, List.take_succ_cons, List.take_zero] at k0 k1 k2 k3
    obtain ⟨z1, e1, _, w1⟩ := DataW.trod_int Tryd.underlying3 k1
    obtain ⟨z2, e2, _, w2⟩ := DataW.trod_int Tryd.underlying3 k2
    obtain ⟨u0, u1, n2, hx2, _, j0, j1⟩ := trod_struct2 Tryd.underlying24 k3
    simp only [cells_int, List.drop_zero, List.drop_succ_cons, List.take_succ_cons, List.take_zero] at j0 j1
    obtain ⟨z3, e3, _, w3⟩ := DataW.trod_int Tryd.underlying3 j0
    obtain ⟨z4, e4, _, w4⟩ := DataW.trod_int Tryd.underlying3 j1
    obtain ⟨A, m, c, ss, e0, hS, hm⟩ := strs_open k0 (fun q hq => hz q (by
      simp only [DataW.weights, Tryd.underlying28, Tryd.underlying26, List.map_cons, List.map_nil, DataW.weightsEach, List.mem_append]
      exact Or.inl (Or.inl hq)))
    simp only [List.cons.injEq, and_true] at e0 e1 e2 e3 e4 e5 e6 e7
    exact ⟨A, m, c, ss, z1, z2, z3, z4, z5, z6, z7, by rw [e0, e1, e2, e3, e4, e5, e6, e7], hS, hm, i64_of_wf w1, i64_of_wf w2, i64_of_wf w3, i64_of_wf w4, i64_of_wf w5, i64_of_wf w6, i64_of_wf w7⟩
end
end Go.Proofs.YtilkogohiealhaaDoor
namespace Go.Proofs.YtilkogohiealhaaDoor
open Go Go.RowKit

/-- How much texts weigh, as far as it is counted. -/
theorem texts_any (A : Option Addr) (n c : Nat) (ss : List ByteArray) (w : World) (hA : Strs w A n ss) (hn : n ≤ 8796093022208) :
    Calls Tryd.prog 32 #[.slice A n c] w fun e w' => (∃ q : Int, e = .returned (.int .i64 q) ∧ 0 ≤ q ∧ q ≤ 200000000000000 ∧ (q ≤ 6000 → ∀ s ∈ ss, s.size ≤ 6000)) ∧ w' = w := by
  have HA := Lib.hid hA
  clear hA
  go_enter Tryd.func32, Tryd.ntmps32
  go_wp2
  go_loop [3, 4] (fun m i => ∃ (k : Nat) (q : Int), k ≤ n ∧ i = .int .i64 k ∧ m = .int .i64 q ∧ 0 ≤ q ∧ q ≤ 160000000000000 ∧ ∀ j s, j < k → ss[j]? = some s → (s.size : Int) ≤ q) (fun _ i => n - (intOf i).toNat)
  case atStart => exact ⟨0, n, Nat.zero_le _, rfl, rfl, by omega, by omega, fun j s hj => by omega⟩
  case round =>
    obtain ⟨k, q, hk, rfl, rfl, h1, h2, h3⟩ := hrel
    have H3 := Lib.hid h3
    clear h3
    by_cases hlt : k < n
    · by_cases hq : q < 1048576
      · obtain ⟨ad, s, rfl, hs, hc, hsz⟩ := HA.out.cell hlt
        have HS := Lib.hid hs
        clear hs
        have bq : decide (q < 1048576) = true := by simp; omega
        go_wp2
        go_round
        case rel => exact ⟨k + 1, q + s.size, by omega, by go_num, by go_num, by omega, by omega, fun j b hj hb => by
          by_cases hjk : j < k
          · have := H3.out j b hjk hb
            omega
          · obtain rfl : j = k := by omega
            rw [HS.out] at hb
            injection hb with hb
            subst hb
            omega⟩
        case measure => simp [intOf]; omega
      · have bq : decide (q < 1048576) = false := by simp; omega
        have bq2 : ¬ q < 1048576 := hq
        go_wp2
        go_ret
        exact ⟨⟨q, rfl, by omega, by omega, fun h => by omega⟩, rfl⟩
    · obtain rfl : k = n := by omega
      go_wp2
      go_ret
      refine ⟨⟨q, rfl, by omega, by omega, fun h s hs => ?_⟩, rfl⟩
      obtain ⟨j, hj, rfl⟩ := List.getElem_of_mem hs
      have := H3.out j _ (by have := HA.out.1; omega) (List.getElem?_eq_getElem hj)
      omega
end Go.Proofs.YtilkogohiealhaaDoor
namespace Go.Proofs.YtilkogohiealhaaDoor
open Go Go.RowKit

/-- An ask, as it lies in memory. -/
structure AskV where
  A : Option Addr
  n : Nat
  c : Nat
  ss : List ByteArray
  xa : Int
  xb : Int
  xr : Int
  xc : Int
  xk : Int
  xn : Int
  xq : Int
def AskV.cells (p : AskV) : Array Value := #[.slice p.A p.n p.c, .int .i64 p.xa, .int .i64 p.xb, .int .i64 p.xr, .int .i64 p.xc, .int .i64 p.xk, .int .i64 p.xn, .int .i64 p.xq]
/-- It reads as it should. -/
structure AskOk (w : World) (p : AskV) : Prop where
  ss : Strs w p.A p.n p.ss
  n : p.n ≤ 8796093022208
  xa : I64 p.xa
  xb : I64 p.xb
  xr : I64 p.xr
  xc : I64 p.xc
  xk : I64 p.xk
  xn : I64 p.xn
  xq : I64 p.xq
theorem AskOk.kept {w w' : World} {p : AskV} (h : AskOk w p) (hk : Kept (fun _ => False) w w') : AskOk w' p := ⟨h.ss.kept hk, h.n, h.xa, h.xb, h.xr, h.xc, h.xk, h.xn, h.xq⟩
/-- The block of a parameter of that type. -/
def PB (w : World) (pb : Nat) (p : AskV) : Prop := w.heap[pb]? = some (.cells p.cells 28 (0, 0))
theorem PB.kept {T : Nat → Prop} {w w' : World} {pb : Nat} {p : AskV} (h : PB w pb p) (hk : Kept T w w') (hs : ¬ T pb) : PB w' pb p := (hk.block pb (heap_lt h) hs).trans h
theorem PB.c {w : World} {pb : Nat} {p : AskV} (h : PB w pb p) (i : Nat) : w.cell? ⟨pb, i, none⟩ = p.cells[i]? := cell_of_row w pb i _ _ _ h

theorem heavy1_any (p : AskV) (w : World) (h : AskOk w p) (v1 v2 v3 v4 : Value) :
    Calls Tryd.prog 14 #[.agg #[.slice p.A p.n p.c, v1, v2, v3, v4]] w fun e w' => (∃ b : Bool, e = .returned (.bool b) ∧ (b = false → ∀ s ∈ p.ss, s.size ≤ 6000)) ∧ Kept (fun _ => False) w w' := by
  obtain ⟨A, n, c, ss, xa, xb, xr, xc, xk, xn, xq⟩ := p
  have cT := texts_any A n c ss (w.alloc (.cells #[.slice A n c, v1, v2, v3, v4] 26)) (h.ss.kept ((Kept.refl (fun _ => False) w).alloc _)) h.n
  clear h
  go_enter Tryd.func14, Tryd.ntmps14
  go_wp2_with (go_at_call 32; refine cT.mono ?_; rintro e w' ⟨⟨q, rfl, h1, h2, h3⟩, rfl⟩; have H3 := Lib.hid h3; clear h3)
  go_ret
  refine ⟨⟨_, rfl, fun hb => H3.out ?_⟩, (Kept.refl _ w).alloc _⟩
  simp at hb
  omega
theorem heavy10_any (p : AskV) (w : World) (h : AskOk w p) :
    Calls Tryd.prog 4 #[.agg p.cells] w fun e w' => (∃ b : Bool, e = .returned (.bool b) ∧ (b = false → ∀ s ∈ p.ss, s.size ≤ 6000)) ∧ Kept (fun _ => False) w w' := by
  have cT := fun v1 v2 v3 v4 => heavy1_any p (w.alloc (.cells p.cells 28)) (h.kept ((Kept.refl (fun _ => False) w).alloc _)) v1 v2 v3 v4
  clear h
  obtain ⟨A, n, c, ss, xa, xb, xr, xc, xk, xn, xq⟩ := p
  unfold AskV.cells at *
  go_enter Tryd.func4, Tryd.ntmps4
  go_wp2_with (go_at_call 14; refine (cT _ _ _ _).mono ?_; rintro e w' ⟨⟨b, rfl, h3⟩, hk⟩; have H3 := Lib.hid h3; have HK := Lib.hid hk; clear h3 hk)
  go_ret
  exact ⟨⟨_, rfl, H3.out⟩, ((Kept.refl _ w).alloc _).trans HK.out⟩
end Go.Proofs.YtilkogohiealhaaDoor
