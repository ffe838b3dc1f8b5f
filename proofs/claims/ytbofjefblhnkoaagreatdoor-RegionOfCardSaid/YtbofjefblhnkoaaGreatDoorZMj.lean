/-
  PLAIN: which cells are begins and ends, asked of a cell's neighbours in the list.
  THE CELLS OF A TEXT, of the program: where the cursor may stand, each with its class, and whether it is its row's first, or last.
  THE CELLS OF A TEXT, of the program: the loop.
  WHERE WORDS BEGIN AND END, of the program: from its cells.
  WHERE WORDS END, of the program: from its cells.
  slices.BinarySearch of numbers in order, walked.
  SO MANY STEPS AHEAD, OR BACK, among stops in order: of the program.
  MOTIONS BY WORDS, of the program: where each leads.
-/
import Derived.Test.YtbofjefblhnkoaaGreatDoorZM0
import Derived.Test.YtbofjefblhnkoaaGreatDoorZMg
import Derived.Test.YtbofjefblhnkoaaGreatDoorZMc
import Derived.Laws.AppendOwn
set_option linter.unusedVariables false
namespace Go.Proofs.YtbofjefblhnkoaaGreatDoor.Rw

theorem isC_R {t : List Int} {i : Nat} (h : isR t i = true) : isC t i = true := by unfold isC; simp [h]
theorem isC_beg {t : List Int} {i : Nat} (h : beg t i = i) : isC t i = true := by unfold isC; simp [h]
theorem at_R {t : List Int} {big : Bool} {i : Nat} (h : isR t i = true) : at_ t big i ≠ 3 := by
  have := clsB_range big (t.getD i 0)
  unfold at_
  rw [if_pos h]
  omega
theorem R_at {t : List Int} {big : Bool} {i : Nat} (h : at_ t big i ≠ 3) : isR t i = true := by
  cases hr : isR t i with
  | true => rfl
  | false => exact absurd (at_no big hr) h
/-- Behind a rune of the row no row begins; behind a newline one does. -/
theorem beg_R {t : List Int} {i : Nat} (h0 : 0 < i) : beg t i = i ↔ ¬ (isR t (i - 1) = true ∨ t.length ≤ i - 1) := by
  obtain ⟨n, rfl⟩ : ∃ n, i = n + 1 := ⟨i - 1, by omega⟩
  simp only [Nat.add_sub_cancel]
  by_cases h : t[n]? = some 10
  · rw [beg_stop h]
    have hl : n < t.length := by
      by_cases hl : n < t.length
      · exact hl
      · rw [List.getElem?_eq_none (by omega)] at h; cases h
    simp [isR_10 h]
    omega
  · rw [beg_step h]
    have hb := beg_le t n
    constructor
    · intro e; omega
    · intro e
      exfalso
      apply e
      by_cases hl : n < t.length
      · have hc : t[n]? = some t[n] := List.getElem?_eq_getElem hl
        exact .inl (isR_of hc (fun e2 => h (by rw [hc, e2])))
      · exact .inr (by omega)
theorem cel_idx {t : List Int} {n i : Nat} (h : isC t i = true) (hi : i < n) : ∃ k : Nat, (cel t n)[k]? = some i := List.mem_iff_getElem?.1 (mem_cel.2 ⟨hi, h⟩)
theorem cel_inj {t : List Int} {n j k i : Nat} (hj : (cel t n)[j]? = some i) (hk : (cel t n)[k]? = some i) : j = k := by
  rcases Nat.lt_trichotomy j k with h | h | h
  · have := cel_lt hj hk h; omega
  · exact h
  · have := cel_lt hk hj h; omega
theorem cel_prev {t : List Int} {n k i : Nat} (h : (cel t n)[k]? = some i) (h0 : 0 < i) (hc : isC t (i - 1) = true) : ∃ k', k = k' + 1 ∧ (cel t n)[k']? = some (i - 1) := by
  have hi := (mem_cel.1 (List.mem_of_getElem? h)).1
  have hci := (mem_cel.1 (List.mem_of_getElem? h)).2
  obtain ⟨k', hk'⟩ := cel_idx (n := n) hc (by omega)
  have e : i - 1 + 1 = i := by omega
  have := cel_next hk' (by omega) (by rw [e]; exact hci)
  rw [e] at this
  exact ⟨k', cel_inj h this, hk'⟩
theorem cel_C {t : List Int} {n k i : Nat} (h : (cel t n)[k]? = some i) : isC t i = true := (mem_cel.1 (List.mem_of_getElem? h)).2
theorem cel_lt_n {t : List Int} {n k i : Nat} (h : (cel t n)[k]? = some i) : i < n := (mem_cel.1 (List.mem_of_getElem? h)).1
theorem cel_at0 {t : List Int} {n i : Nat} (h : (cel t (n + 1))[0]? = some i) : i = 0 := by
  rw [cel_zero] at h
  injection h with h
  exact h.symm
/-- A cell of an empty row begins it. -/
theorem beg_3 {t : List Int} {big : Bool} {i : Nat} (hc : isC t i = true) (h : at_ t big i = 3) : beg t i = i := by
  have hr : isR t i ≠ true := fun h2 => at_R h2 h
  unfold isC at hc
  simp only [Bool.or_eq_true, decide_eq_true_eq] at hc
  rcases hc with h1 | h1
  · exact absurd h1 hr
  · exact h1
theorem isB_0 {t : List Int} {big : Bool} {i : Nat} (h : at_ t big i = 0) : isB t big i = false := by unfold isB; simp [h]
theorem isE_0 {t : List Int} {big : Bool} {i : Nat} (h : at_ t big i = 0) : isE t big i = false := by unfold isE; simp [h]
theorem isB_first {t : List Int} {big : Bool} {i : Nat} (hc : isC t i = true) (h : at_ t big i ≠ 0) (hb : beg t i = i) : isB t big i = true := by
  unfold isB
  simp [hc, h, hb]
theorem isB_prev {t : List Int} {big : Bool} {i : Nat} (hc : isC t i = true) (h : at_ t big i ≠ 0) (hb : at_ t big (i - 1) ≠ at_ t big i) : isB t big i = true := by
  unfold isB
  simp [hc, h, hb]
theorem isB_no {t : List Int} {big : Bool} {i : Nat} (hb : beg t i ≠ i) (h : at_ t big (i - 1) = at_ t big i) : isB t big i = false := by
  unfold isB
  simp [hb, h]
theorem isB_3 {t : List Int} {big : Bool} {i : Nat} (hc : isC t i = true) (h : at_ t big i = 3) : isB t big i = true := isB_first hc (by rw [h]; decide) (beg_3 hc h)
theorem isE_3 {t : List Int} {big : Bool} {i : Nat} (hc : isC t i = true) (h : at_ t big i = 3) : isE t big i = true := by
  have hr : isR t i = false := by
    cases hr : isR t i with
    | false => rfl
    | true => exact absurd h (at_R hr)
  unfold isE
  simp [hc, h, hr]
theorem isE_last {t : List Int} {big : Bool} {i : Nat} (hc : isC t i = true) (h : at_ t big i ≠ 0) (hl : isR t (i + 1) = false) : isE t big i = true := by
  unfold isE
  simp [hc, h, hl]
theorem isE_next {t : List Int} {big : Bool} {i : Nat} (hc : isC t i = true) (h : at_ t big i ≠ 0) (hl : at_ t big (i + 1) ≠ at_ t big i) : isE t big i = true := by
  unfold isE
  simp [hc, h, hl]
theorem isE_no {t : List Int} {big : Bool} {i : Nat} (h1 : isR t i = true) (h2 : isR t (i + 1) = true) (h : at_ t big (i + 1) = at_ t big i) : isE t big i = false := by
  unfold isE
  simp [h1, h2, h]
/-- Is it the row's last cell? -/
def lastB (t : List Int) (i : Nat) : Bool := !isR t i || !isR t (i + 1)
/-- The reference's question of a cell that is neither a blank nor an empty row: of the one ahead. -/
theorem edgeB_first {t : List Int} {big : Bool} {n i : Nat} (h : (cel t (n + 1))[0]? = some i) (h0 : at_ t big i ≠ 0) : isB t big i = true := by
  have hc := cel_C h
  obtain rfl := cel_at0 h
  exact isB_first hc h0 rfl
theorem edgeB_far {t : List Int} {big : Bool} {n k i j : Nat} (h : (cel t n)[k + 1]? = some i) (hj : (cel t n)[k]? = some j) (hne : j + 1 ≠ i) (h0 : at_ t big i ≠ 0) (h3 : at_ t big i ≠ 3) : isB t big i = true := by
  have hlt := cel_lt hj h (by omega)
  by_cases hr : isR t (i - 1) = true
  · obtain ⟨k', e, hk'⟩ := cel_prev h (by omega) (isC_R hr)
    obtain rfl : k = k' := by omega
    rw [hj] at hk'
    injection hk' with hk'
    omega
  · have hr' : isR t (i - 1) = false := by simpa using hr
    exact isB_prev (cel_C h) h0 (by rw [at_no big hr']; exact fun e => h3 e.symm)
theorem edgeB_near {t : List Int} {big : Bool} {n k i : Nat} (h : (cel t n)[k + 1]? = some (i + 1)) (hj : (cel t n)[k]? = some i) (h0 : at_ t big (i + 1) ≠ 0) (h3 : at_ t big (i + 1) ≠ 3) : isB t big (i + 1) = (at_ t big i != at_ t big (i + 1)) := by
  by_cases he : at_ t big i = at_ t big (i + 1)
  · rw [he]
    have hr : isR t i = true := R_at (big := big) (by rw [he]; exact h3)
    have hb : beg t (i + 1) ≠ i + 1 := by
      intro e
      exact (beg_R (by omega)).1 e (.inl hr)
    rw [isB_no hb he]
    simp
  · rw [isB_prev (cel_C h) h0 he]
    simpa using he
theorem edgeE_end {t : List Int} {big : Bool} {k i : Nat} (h : (cel t (t.length + 1))[k]? = some i) (hl : (cel t (t.length + 1)).length ≤ k + 1) (h0 : at_ t big i ≠ 0) : isE t big i = true := by
  refine isE_last (cel_C h) h0 ?_
  cases hr : isR t (i + 1) with
  | false => rfl
  | true =>
    have := cel_next h (by have := isR_lt hr; omega) (isC_R hr)
    rw [List.getElem?_eq_none hl] at this
    cases this
theorem edgeE_far {t : List Int} {big : Bool} {k i j : Nat} (h : (cel t (t.length + 1))[k]? = some i) (hj : (cel t (t.length + 1))[k + 1]? = some j) (hne : j ≠ i + 1) (h0 : at_ t big i ≠ 0) : isE t big i = true := by
  refine isE_last (cel_C h) h0 ?_
  cases hr : isR t (i + 1) with
  | false => rfl
  | true =>
    have := cel_next h (by have := isR_lt hr; omega) (isC_R hr)
    rw [hj] at this
    injection this with this
    exact absurd this hne
theorem edgeE_near {t : List Int} {big : Bool} {n k i : Nat} (h : (cel t n)[k]? = some i) (h0 : at_ t big i ≠ 0) (h3 : at_ t big i ≠ 3) : isE t big i = (at_ t big (i + 1) != at_ t big i) := by
  by_cases he : at_ t big (i + 1) = at_ t big i
  · rw [he]
    have hr : isR t i = true := R_at (big := big) h3
    have hr1 : isR t (i + 1) = true := R_at (big := big) (by rw [he]; exact h3)
    rw [isE_no hr hr1 he]
    simp
  · rw [isE_next (cel_C h) h0 he]
    simpa using he
/-- The program's: a cell that does not begin its row has its neighbour ahead of it. -/
theorem progB {t : List Int} {n k i : Nat} (h : (cel t n)[k]? = some i) (hb : beg t i ≠ i) : ∃ k' i', k = k' + 1 ∧ i = i' + 1 ∧ (cel t n)[k']? = some i' := by
  have h0 : 0 < i := by
    rcases Nat.eq_zero_or_pos i with e | e
    · subst e; exact absurd rfl hb
    · exact e
  have hc := cel_C h
  have hr : isR t (i - 1) = true := by
    have : isR t (i - 1) = true ∨ t.length ≤ i - 1 := Classical.byContradiction fun h => hb ((beg_R h0).2 h)
    rcases this with h1 | h1
    · exact h1
    · have : isR t i = true := by
        unfold isC at hc
        simp only [Bool.or_eq_true, decide_eq_true_eq] at hc
        rcases hc with h2 | h2
        · exact h2
        · exact absurd (.inr h1) ((beg_R h0).1 h2)
      have := isR_lt this
      omega
  obtain ⟨k', e, hk'⟩ := cel_prev h h0 (isC_R hr)
  exact ⟨k', i - 1, e, by omega, hk'⟩
theorem progB_val {t : List Int} {big : Bool} {i : Nat} (hc : isC t (i + 1) = true) (h0 : at_ t big (i + 1) ≠ 0) (hb : beg t (i + 1) ≠ i + 1) : isB t big (i + 1) = (at_ t big i != at_ t big (i + 1)) := by
  by_cases he : at_ t big i = at_ t big (i + 1)
  · rw [he, isB_no hb he]
    simp
  · rw [isB_prev hc h0 he]
    simpa using he
theorem progE {t : List Int} {k i : Nat} (h : (cel t (t.length + 1))[k]? = some i) (hl : lastB t i = false) : (cel t (t.length + 1))[k + 1]? = some (i + 1) := by
  unfold lastB at hl
  simp only [Bool.or_eq_false_iff, Bool.not_eq_false'] at hl
  exact cel_next h (by have := isR_lt hl.2; omega) (isC_R hl.2)
theorem progE_last {t : List Int} {big : Bool} {i : Nat} (hc : isC t i = true) (h0 : at_ t big i ≠ 0) (hl : lastB t i = true) : isE t big i = true := by
  unfold lastB at hl
  unfold isE
  simp only [Bool.or_eq_true] at hl
  rcases hl with h | h
  · simp only [Bool.not_eq_true'] at h
    simp [hc, h0, h]
  · simp only [Bool.not_eq_true'] at h
    simp [hc, h0, h]
theorem progE_val {t : List Int} {big : Bool} {i : Nat} (hc : isC t i = true) (h0 : at_ t big i ≠ 0) (hl : lastB t i = false) : isE t big i = (at_ t big (i + 1) != at_ t big i) := by
  unfold lastB at hl
  simp only [Bool.or_eq_false_iff, Bool.not_eq_false'] at hl
  by_cases he : at_ t big (i + 1) = at_ t big i
  · rw [he, isE_no hl.1 hl.2 he]
    simp
  · rw [isE_next hc h0 he]
    simpa using he
end Go.Proofs.YtbofjefblhnkoaaGreatDoor.Rw
namespace Go.Proofs.YtbofjefblhnkoaaGreatDoor
open Go Go.RowKit

theorem info_cell : (Tryz.prog.info? 150).map (fun i => (i.zero, i.size, i.bytes)) = some (some (.agg #[.int .i64 0, .int .i64 0, .bool false, .bool false]), 4, 24) := by kernel_rfl
theorem classOf_any (big : Bool) (c : Int) (w : World) (h0 : 0 ≤ c) (h1 : c ≤ 1114111) :
    Calls Tryz.prog 114 #[.int .i32 c, .bool big] w fun e w' => e = .returned (.int .i64 (Rw.clsB big c)) ∧ w' = w := by
  have cC := class_any c h0 h1 w
  have hr := Rw.cls_range c
  obtain ⟨q, hq⟩ : ∃ q, Rw.cls c = q := ⟨_, rfl⟩
  have hB : Rw.clsB big c = if big = true ∧ q = 2 then 1 else q := by unfold Rw.clsB; rw [hq]
  rw [hB]
  rw [hq] at cC hr
  clear hB hq
  have hq3 : q = 0 ∨ q = 1 ∨ q = 2 := by omega
  clear hr
  cases big
  · rw [if_neg (by simp)]
    clear hq3
    go_enter Tryz.func114, Tryz.ntmps114
    go_wp2_with (go_at_call 127; refine cC.mono ?_; rintro e w' ⟨rfl, rfl⟩)
    go_ret
    exact ⟨rfl, rfl⟩
  · rcases hq3 with rfl | rfl | rfl
    all_goals
      go_enter Tryz.func114, Tryz.ntmps114
      go_wp2_with (go_at_call 127; refine cC.mono ?_; rintro e w' ⟨rfl, rfl⟩)
      go_ret
      exact ⟨rfl, rfl⟩
/-- One cell, as four places of memory. -/
def cellV (t : List Int) (big : Bool) (i : Nat) : List Value := [.int .i64 (i : Int), .int .i64 (Rw.at_ t big i), .bool (decide (Rw.beg t i = i)), .bool (Rw.lastB t i)]
theorem cellsV_at (t : List Int) (big : Bool) : ∀ (l : List Nat) (k i j : Nat), l[k]? = some i → j < 4 → (l.flatMap (cellV t big))[k * 4 + j]? = (cellV t big i)[j]?
  | [], k, i, j, h, _ => by simp at h
  | a :: l, 0, i, j, h, hj => by
    simp only [List.getElem?_cons_zero, Option.some.injEq] at h
    subst h
    rw [List.flatMap_cons, List.getElem?_append_left (by simp [cellV]; omega)]
    simp
  | a :: l, k + 1, i, j, h, hj => by
    have := cellsV_at t big l k i j (by simpa using h) hj
    rw [List.flatMap_cons, List.getElem?_append_right (by simp [cellV]; omega), show (k + 1) * 4 + j - (cellV t big a).length = k * 4 + j by simp [cellV]; omega]
    exact this
theorem cellsV_len (t : List Int) (big : Bool) (l : List Nat) : (l.flatMap (cellV t big)).length = l.length * 4 := by
  induction l with
  | nil => rfl
  | cons a l ih => rw [List.flatMap_cons, List.length_append, ih]; simp [cellV]; omega
/-- A slice of cells. -/
structure Cels (w : World) (g : Nat) (t : List Int) (big : Bool) (l : List Nat) : Prop where
  c0 : ∀ k i : Nat, l[k]? = some i → w.cell? ⟨g, k * 4, none⟩ = some (.int .i64 (i : Int))
  c1 : ∀ k i : Nat, l[k]? = some i → w.cell? ⟨g, k * 4 + 1, none⟩ = some (.int .i64 (Rw.at_ t big i))
  c2 : ∀ k i : Nat, l[k]? = some i → w.cell? ⟨g, k * 4 + 2, none⟩ = some (.bool (decide (Rw.beg t i = i)))
  c3 : ∀ k i : Nat, l[k]? = some i → w.cell? ⟨g, k * 4 + 3, none⟩ = some (.bool (Rw.lastB t i))
theorem Cels.kept {S : Nat → Prop} {w w' : World} {g : Nat} {t : List Int} {big : Bool} {l : List Nat} (h : Cels w g t big l) (hk : Kept S w w') (hs : ¬ S g) : Cels w' g t big l :=
  ⟨fun k i hi => cell_kept hk (h.c0 k i hi) hs, fun k i hi => cell_kept hk (h.c1 k i hi) hs, fun k i hi => cell_kept hk (h.c2 k i hi) hs, fun k i hi => cell_kept hk (h.c3 k i hi) hs⟩
theorem owned_cels {w : World} {base : Nat} {v : Value} {t : List Int} {big : Bool} {l : List Nat} (h : w.ownsRow base 150 4 v l.length (l.flatMap (cellV t big))) (hl : 0 < l.length) : ∃ g cap, v = .slice (some ⟨g, 0, none⟩) l.length cap ∧ base ≤ g ∧ Cels w g t big l := by
  have hcells : ∀ g, v.ownBlock = some g → ∀ j u, (l.flatMap (cellV t big))[j]? = some u → w.cell? ((⟨g, 0, none⟩ : Addr).add j) = some u := fun g hg => h.cells hg
  rcases h.2 with ⟨rfl, h0⟩ | ⟨g, cap, cur, rfl, hb, hh, hcap, _, _, _⟩
  · omega
  · have hc := hcells g rfl
    have hq : ∀ k i j u, l[k]? = some i → j < 4 → (cellV t big i)[j]? = some u → w.cell? ⟨g, k * 4 + j, none⟩ = some u := fun k i j u hk hj hu => by
      have := hc (k * 4 + j) u (by rw [cellsV_at t big l k i j hk hj, hu])
      rwa [addr_add, Nat.zero_add] at this
    exact ⟨g, cap, rfl, hb, fun k i hk => hq k i 0 _ hk (by omega) rfl, fun k i hk => hq k i 1 _ hk (by omega) rfl, fun k i hk => hq k i 2 _ hk (by omega) rfl, fun k i hk => hq k i 3 _ hk (by omega) rfl⟩
/-- The relation of the loop, kept by a cell more. -/
theorem own_cell {w : World} {base : Nat} {v : Value} {t : List Int} {big : Bool} {k : Nat} {q : Int} {F L : Bool} (hC : Rw.isC t k = true) (hq : q = Rw.at_ t big k) (hF : F = decide (Rw.beg t k = k)) (hL : L = Rw.lastB t k)
    (h : w.ownsRow base 150 4 v ((Rw.cel t k).length + 1) ((Rw.cel t k).flatMap (cellV t big) ++ [.int .i64 (k : Int), .int .i64 q, .bool F, .bool L])) :
    w.ownsRow base 150 4 v (Rw.cel t (k + 1)).length ((Rw.cel t (k + 1)).flatMap (cellV t big)) := by
  rw [Rw.cel_succ_yes hC, List.length_append, List.flatMap_append, List.flatMap_cons, List.flatMap_nil, List.append_nil]
  subst hq hF hL
  exact h
end Go.Proofs.YtbofjefblhnkoaaGreatDoor
namespace Go.Proofs.YtbofjefblhnkoaaGreatDoor
open Go Go.RowKit

theorem four_cells {W : World} {a b : Int} {F L : Bool} {ty : TypeId} : ∀ j u, ([Value.int .i64 a, .int .i64 b, .bool F, .bool L] : List Value)[j]? = some u → (W.alloc (.cells #[.int .i64 a, .int .i64 b, .bool F, .bool L] ty)).cell? ((⟨W.heap.size, 0, none⟩ : Addr).add j) = some u := by
  intro j u hj
  rw [addr_add, cell_of_row _ _ _ _ _ _ (heap_alloc_new W _)]
  match j, hj with
  | 0, hj => simpa using hj
  | 1, hj => simpa using hj
  | 2, hj => simpa using hj
  | 3, hj => simpa using hj
theorem four_one {a b : Int} {F L : Bool} : ∀ u ∈ ([Value.int .i64 a, .int .i64 b, .bool F, .bool L] : List Value), u.oneCell' = true := by
  intro u hu
  simp only [List.mem_cons, List.not_mem_nil, or_false] at hu
  rcases hu with rfl | rfl | rfl | rfl <;> rfl
set_option maxRecDepth 100000 in
set_option maxHeartbeats 2000000 in
theorem cells_any (A : Option Addr) (n c : Nat) (t : List Int) (big : Bool) (w : World) (hA : Rn w A n t) (hr : Runey t) (hn : n ≤ 6000) :
    Calls Tryz.prog 87 #[.slice A n c, .bool big] w fun e w' => Kept (fun _ => False) w w' ∧ ∃ g cap, e = .returned (.slice (some ⟨g, 0, none⟩) (Rw.cel t (n + 1)).length cap) ∧ w.heap.size ≤ g ∧ Cels w' g t big (Rw.cel t (n + 1)) := by
  obtain ⟨i0, hi, hz0, hz1, hz2⟩ := info_parts info_cell
  have HA := Lib.hid hA
  have HR := Lib.hid hr
  clear hA hr
  go_enter Tryz.func87, Tryz.ntmps87
  go_wp2
  go_loopw [5, 6, 12] (fun v f i wr => ∃ k : Nat, k ≤ n ∧ i = .int .i64 k ∧ f = .bool (decide (Rw.beg t k = k)) ∧ wr.ownsRow w.heap.size 150 4 v (Rw.cel t k).length ((Rw.cel t k).flatMap (cellV t big)) ∧ Kept (fun _ => False) w wr) (fun _ _ i _ => n - (intOf i).toNat)
  case atStart => exact ⟨0, Nat.zero_le _, rfl, rfl, World.ownsRow_nil _ _ _ _, Kept.refl _ _⟩
  case round =>
    obtain ⟨k, hk, rfl, hf, hown, hkept⟩ := hrel
    obtain ⟨F, hF⟩ : ∃ F, F = decide (Rw.beg t k = k) := ⟨_, rfl⟩
    rw [← hF] at hf
    subst hf
    have HF := Lib.hid hF
    have HK := Lib.hid hkept
    have hsz := hkept.size
    have HSZ := Lib.hid hsz
    have hlen := Rw.cel_len t k
    clear hF hkept hsz
    generalize hm : (Rw.cel t k).length = m at hown hlen
    have HM := Lib.hid hm
    clear hm
    generalize hcv : (Rw.cel t k).flatMap (cellV t big) = xs at hown
    have HCV := Lib.hid hcv
    clear hcv
    by_cases hkn : k < n
    · obtain ⟨ad, x, rfl, hx, hc⟩ := HA.out.cell hkn
      obtain ⟨x1, x2⟩ := HR.out.at_ hx
      have hc2 := cell_kept HK.out hc id
      clear hc
      have HX := Lib.hid hx
      clear hx
      have hways0 : (k + 1 = n ∧ Rw.isR t (k + 1) = false) ∨ (k + 1 < n ∧ ∃ y, wr.cell? ⟨ad.block, ad.off + (k + 1), none⟩ = some (.int .i32 y) ∧ ((y = 10 ∧ Rw.isR t (k + 1) = false) ∨ (y ≠ 10 ∧ Rw.isR t (k + 1) = true))) := by
        have hl := HA.out.1
        by_cases h1 : k + 1 = n
        · exact .inl ⟨h1, Rw.isR_out (by omega)⟩
        · obtain ⟨ad', y, he, hy, hcy⟩ := HA.out.cell (j := k + 1) (by omega)
          injection he with he
          subst he
          rw [addr_far _ _ (by omega)] at hcy
          refine .inr ⟨by omega, y, cell_kept HK.out hcy id, ?_⟩
          by_cases hy10 : y = 10
          · subst hy10; exact .inl ⟨rfl, Rw.isR_10 hy⟩
          · exact .inr ⟨hy10, Rw.isR_of hy hy10⟩
      by_cases h10 : x = 10
      · subst h10
        have hR0 : Rw.isR t k = false := Rw.isR_10 HX.out
        have hA3 : Hid (3 = Rw.at_ t big k) := (Rw.at_no big hR0).symm
        have hL3 : Hid (true = Rw.lastB t k) := by show _ = _; unfold Rw.lastB; rw [hR0]; rfl
        have hnext : Hid (decide (Rw.beg t (k + 1) = k + 1) = true) := by show _ = _; rw [Rw.beg_stop HX.out]; simp
        have hR1 := Lib.hid hR0
        clear hR0
        cases F
        · have hC : Hid (Rw.isC t k = false) := by show _ = _; unfold Rw.isC; rw [hR1.out, ← HF.out]; rfl
          rcases hways0 with ⟨h1, _⟩ | ⟨h1, y, h2, ⟨rfl, _⟩ | ⟨h3, _⟩⟩
          · have d2 : ((k : Int) + 1 == (n : Int)) = true := by rw [beq_iff_eq]; omega
            go_wp2
            go_roundw
            case rel =>
              refine ⟨k + 1, by omega, by go_num, ?_, ?_, HK.out⟩
              · rw [hnext.out]
              · rw [Rw.cel_succ_no hC.out, HM.out, HCV.out]; exact hown
            case measure => simp [intOf]; omega
          · have d2 : ((k : Int) + 1 == (n : Int)) = false := by rw [beq_eq_false_iff_ne]; omega
            go_wp2
            go_roundw
            case rel =>
              refine ⟨k + 1, by omega, by go_num, ?_, ?_, HK.out⟩
              · rw [hnext.out]
              · rw [Rw.cel_succ_no hC.out, HM.out, HCV.out]; exact hown
            case measure => simp [intOf]; omega
          · have d2 : ((k : Int) + 1 == (n : Int)) = false := by rw [beq_eq_false_iff_ne]; omega
            have d3 : (y == 10) = false := by rw [beq_eq_false_iff_ne]; exact h3
            clear h3
            go_wp2
            go_roundw
            case rel =>
              refine ⟨k + 1, by omega, by go_num, ?_, ?_, HK.out⟩
              · rw [hnext.out]
              · rw [Rw.cel_succ_no hC.out, HM.out, HCV.out]; exact hown
            case measure => simp [intOf]; omega
        · have hC : Hid (Rw.isC t k = true) := by show _ = _; unfold Rw.isC; rw [hR1.out, ← HF.out]; rfl
          rcases hways0 with ⟨h1, _⟩ | ⟨h1, y, h2, ⟨rfl, _⟩ | ⟨h3, _⟩⟩
          · have d2 : ((k : Int) + 1 == (n : Int)) = true := by rw [beq_iff_eq]; omega
            go_wp2_with (first
              | fail
              | (at_builtin; refine wpList_append_own _ rfl _ _ 129 rfl w.heap.size 150 i0 (.agg #[.int .i64 0, .int .i64 0, .bool false, .bool false]) 4 24 Tryz.underlying129 hi hz0 hz1 hz2 rfl (by decide) _ _ _ rfl (hown.alloc _) ⟨_, 0, none⟩ 1 1 [.int .i64 (k : Int), .int .i64 3, .bool true, .bool true] rfl rfl four_cells four_one (by unfold maxLen; omega) (by omega) (by have := HSZ.out; simp; omega) ?_; intro v' w1 hown' hgrow _; have hK1 := Lib.hid (Kept.grew (HK.out.alloc (.cells #[.int .i64 (k : Int), .int .i64 3, .bool true, .bool true] 150)) hgrow (fun q hq => (hown.lt q hq).1)); rw [← HM.out, ← HCV.out] at hown'; have HO := Lib.hid (own_cell hC.out hA3.out HF.out hL3.out hown'); clear hown' hgrow hown hc2))
            go_roundw
            case rel => exact ⟨k + 1, by omega, by go_num, by rw [hnext.out], HO.out, hK1.out⟩
            case measure => simp [intOf]; omega
          · have d2 : ((k : Int) + 1 == (n : Int)) = false := by rw [beq_eq_false_iff_ne]; omega
            go_wp2_with (first
              | fail
              | (at_builtin; refine wpList_append_own _ rfl _ _ 129 rfl w.heap.size 150 i0 (.agg #[.int .i64 0, .int .i64 0, .bool false, .bool false]) 4 24 Tryz.underlying129 hi hz0 hz1 hz2 rfl (by decide) _ _ _ rfl (hown.alloc _) ⟨_, 0, none⟩ 1 1 [.int .i64 (k : Int), .int .i64 3, .bool true, .bool true] rfl rfl four_cells four_one (by unfold maxLen; omega) (by omega) (by have := HSZ.out; simp; omega) ?_; intro v' w1 hown' hgrow _; have hK1 := Lib.hid (Kept.grew (HK.out.alloc (.cells #[.int .i64 (k : Int), .int .i64 3, .bool true, .bool true] 150)) hgrow (fun q hq => (hown.lt q hq).1)); rw [← HM.out, ← HCV.out] at hown'; have HO := Lib.hid (own_cell hC.out hA3.out HF.out hL3.out hown'); clear hown' hgrow hown hc2))
            go_roundw
            case rel => exact ⟨k + 1, by omega, by go_num, by rw [hnext.out], HO.out, hK1.out⟩
            case measure => simp [intOf]; omega
          · have d2 : ((k : Int) + 1 == (n : Int)) = false := by rw [beq_eq_false_iff_ne]; omega
            have d3 : (y == 10) = false := by rw [beq_eq_false_iff_ne]; exact h3
            clear h3
            go_wp2_with (first
              | fail
              | (at_builtin; refine wpList_append_own _ rfl _ _ 129 rfl w.heap.size 150 i0 (.agg #[.int .i64 0, .int .i64 0, .bool false, .bool false]) 4 24 Tryz.underlying129 hi hz0 hz1 hz2 rfl (by decide) _ _ _ rfl (hown.alloc _) ⟨_, 0, none⟩ 1 1 [.int .i64 (k : Int), .int .i64 3, .bool true, .bool true] rfl rfl four_cells four_one (by unfold maxLen; omega) (by omega) (by have := HSZ.out; simp; omega) ?_; intro v' w1 hown' hgrow _; have hK1 := Lib.hid (Kept.grew (HK.out.alloc (.cells #[.int .i64 (k : Int), .int .i64 3, .bool true, .bool true] 150)) hgrow (fun q hq => (hown.lt q hq).1)); rw [← HM.out, ← HCV.out] at hown'; have HO := Lib.hid (own_cell hC.out hA3.out HF.out hL3.out hown'); clear hown' hgrow hown hc2))
            go_roundw
            case rel => exact ⟨k + 1, by omega, by go_num, by rw [hnext.out], HO.out, hK1.out⟩
            case measure => simp [intOf]; omega
      · have hRt : Rw.isR t k = true := Rw.isR_of HX.out h10
        have hC : Hid (Rw.isC t k = true) := Rw.isC_R hRt
        have hAt : Hid (Rw.clsB big x = Rw.at_ t big k) := (Rw.at_of big HX.out h10).symm
        have hnext : Hid (decide (Rw.beg t (k + 1) = k + 1) = false) := by
          show _ = _
          have hb := Rw.beg_le t k
          rw [Rw.beg_step (by rw [HX.out]; intro e; injection e with e; exact h10 e), decide_eq_false_iff_not]
          omega
        have n1 : (x != 10) = true := by rw [bne_iff_ne]; exact h10
        have n2 : (x == 10) = false := by rw [beq_eq_false_iff_ne]; exact h10
        have cO := fun W => classOf_any big x W x1 x2
        obtain ⟨q, hq⟩ : ∃ q, Rw.clsB big x = q := ⟨_, rfl⟩
        rw [hq] at hAt
        simp only [hq] at cO
        have HRt := Lib.hid hRt
        clear hRt h10 hq
        rcases hways0 with ⟨h1, hl1⟩ | ⟨h1, y, h2, ⟨rfl, hl1⟩ | ⟨h3, hl1⟩⟩
        · have d2 : ((k : Int) + 1 == (n : Int)) = true := by rw [beq_iff_eq]; omega
          have HL : Hid (true = Rw.lastB t k) := by show _ = _; unfold Rw.lastB; rw [HRt.out, hl1]; rfl
          clear hl1
          go_wp2_with (first
            | (go_at_call 114; refine (cO _).mono ?_; rintro e w' ⟨rfl, hw⟩; have hw2 := hw.symm; clear hw; subst hw2)
            | (at_builtin; refine wpList_append_own _ rfl _ _ 129 rfl w.heap.size 150 i0 (.agg #[.int .i64 0, .int .i64 0, .bool false, .bool false]) 4 24 Tryz.underlying129 hi hz0 hz1 hz2 rfl (by decide) _ _ _ rfl (hown.alloc _) ⟨_, 0, none⟩ 1 1 [.int .i64 (k : Int), .int .i64 q, .bool F, .bool true] rfl rfl four_cells four_one (by unfold maxLen; omega) (by omega) (by have := HSZ.out; simp; omega) ?_; intro v' w1 hown' hgrow _; have hK1 := Lib.hid (Kept.grew (HK.out.alloc (.cells #[.int .i64 (k : Int), .int .i64 q, .bool F, .bool true] 150)) hgrow (fun q hq => (hown.lt q hq).1)); rw [← HM.out, ← HCV.out] at hown'; have HO := Lib.hid (own_cell hC.out hAt.out HF.out HL.out hown'); clear hown' hgrow hown hc2))
          go_roundw
          case rel => exact ⟨k + 1, by omega, by go_num, by rw [hnext.out], HO.out, hK1.out⟩
          case measure => simp [intOf]; omega
        · have d2 : ((k : Int) + 1 == (n : Int)) = false := by rw [beq_eq_false_iff_ne]; omega
          have HL : Hid (true = Rw.lastB t k) := by show _ = _; unfold Rw.lastB; rw [HRt.out, hl1]; rfl
          clear hl1
          go_wp2_with (first
            | (go_at_call 114; refine (cO _).mono ?_; rintro e w' ⟨rfl, hw⟩; have hw2 := hw.symm; clear hw; subst hw2)
            | (at_builtin; refine wpList_append_own _ rfl _ _ 129 rfl w.heap.size 150 i0 (.agg #[.int .i64 0, .int .i64 0, .bool false, .bool false]) 4 24 Tryz.underlying129 hi hz0 hz1 hz2 rfl (by decide) _ _ _ rfl (hown.alloc _) ⟨_, 0, none⟩ 1 1 [.int .i64 (k : Int), .int .i64 q, .bool F, .bool true] rfl rfl four_cells four_one (by unfold maxLen; omega) (by omega) (by have := HSZ.out; simp; omega) ?_; intro v' w1 hown' hgrow _; have hK1 := Lib.hid (Kept.grew (HK.out.alloc (.cells #[.int .i64 (k : Int), .int .i64 q, .bool F, .bool true] 150)) hgrow (fun q hq => (hown.lt q hq).1)); rw [← HM.out, ← HCV.out] at hown'; have HO := Lib.hid (own_cell hC.out hAt.out HF.out HL.out hown'); clear hown' hgrow hown hc2))
          go_roundw
          case rel => exact ⟨k + 1, by omega, by go_num, by rw [hnext.out], HO.out, hK1.out⟩
          case measure => simp [intOf]; omega
        · have d2 : ((k : Int) + 1 == (n : Int)) = false := by rw [beq_eq_false_iff_ne]; omega
          have d3 : (y == 10) = false := by rw [beq_eq_false_iff_ne]; exact h3
          have HL : Hid (false = Rw.lastB t k) := by show _ = _; unfold Rw.lastB; rw [HRt.out, hl1]; rfl
          clear h3 hl1
          go_wp2_with (first
            | (go_at_call 114; refine (cO _).mono ?_; rintro e w' ⟨rfl, hw⟩; have hw2 := hw.symm; clear hw; subst hw2)
            | (at_builtin; refine wpList_append_own _ rfl _ _ 129 rfl w.heap.size 150 i0 (.agg #[.int .i64 0, .int .i64 0, .bool false, .bool false]) 4 24 Tryz.underlying129 hi hz0 hz1 hz2 rfl (by decide) _ _ _ rfl (hown.alloc _) ⟨_, 0, none⟩ 1 1 [.int .i64 (k : Int), .int .i64 q, .bool F, .bool false] rfl rfl four_cells four_one (by unfold maxLen; omega) (by omega) (by have := HSZ.out; simp; omega) ?_; intro v' w1 hown' hgrow _; have hK1 := Lib.hid (Kept.grew (HK.out.alloc (.cells #[.int .i64 (k : Int), .int .i64 q, .bool F, .bool false] 150)) hgrow (fun q hq => (hown.lt q hq).1)); rw [← HM.out, ← HCV.out] at hown'; have HO := Lib.hid (own_cell hC.out hAt.out HF.out HL.out hown'); clear hown' hgrow hown hc2))
          go_roundw
          case rel => exact ⟨k + 1, by omega, by go_num, by rw [hnext.out], HO.out, hK1.out⟩
          case measure => simp [intOf]; omega
    · obtain rfl : k = n := by omega
      have hR0 : Rw.isR t k = false := Rw.isR_out (by have := HA.out.1; omega)
      have hA3 : Hid (3 = Rw.at_ t big k) := (Rw.at_no big hR0).symm
      have hL3 : Hid (true = Rw.lastB t k) := by show _ = _; unfold Rw.lastB; rw [hR0]; rfl
      have hR1 := Lib.hid hR0
      clear hR0
      cases F
      · have hC : Hid (Rw.isC t k = false) := by show _ = _; unfold Rw.isC; rw [hR1.out, ← HF.out]; rfl
        go_wp2
        go_ret
        rw [Rw.cel_succ_no hC.out]
        rw [← HM.out, ← HCV.out] at hown
        obtain ⟨g, cap, rfl, hg, hcl⟩ := owned_cels hown (by
          rcases Nat.eq_zero_or_pos k with e | e
          · subst e; have := hC.out; rw [Rw.isC_zero] at this; cases this
          · obtain ⟨k', rfl⟩ : ∃ k', k = k' + 1 := ⟨k - 1, by omega⟩
            have h0 := Rw.cel_zero t k'
            rcases Nat.eq_zero_or_pos (Rw.cel t (k' + 1)).length with h | h
            · rw [List.getElem?_eq_none (by omega)] at h0; cases h0
            · exact h)
        exact ⟨HK.out, g, cap, rfl, hg, hcl⟩
      · have hC : Hid (Rw.isC t k = true) := by show _ = _; unfold Rw.isC; rw [hR1.out, ← HF.out]; rfl
        go_wp2_with (first
          | fail
          | (at_builtin; refine wpList_append_own _ rfl _ _ 129 rfl w.heap.size 150 i0 (.agg #[.int .i64 0, .int .i64 0, .bool false, .bool false]) 4 24 Tryz.underlying129 hi hz0 hz1 hz2 rfl (by decide) _ _ _ rfl (hown.alloc _) ⟨_, 0, none⟩ 1 1 [.int .i64 (k : Int), .int .i64 3, .bool true, .bool true] rfl rfl four_cells four_one (by unfold maxLen; omega) (by omega) (by have := HSZ.out; simp; omega) ?_; intro v' w1 hown' hgrow _; have hK1 := Lib.hid (Kept.grew (HK.out.alloc (.cells #[.int .i64 (k : Int), .int .i64 3, .bool true, .bool true] 150)) hgrow (fun q hq => (hown.lt q hq).1)); rw [← HM.out, ← HCV.out] at hown'; have HO := Lib.hid (own_cell hC.out hA3.out HF.out hL3.out hown'); clear hown' hgrow hown))
        go_ret
        obtain ⟨g, cap, rfl, hg, hcl⟩ := owned_cels HO.out (by rw [Rw.cel_succ_yes hC.out, List.length_append, List.length_singleton]; omega)
        exact ⟨hK1.out, g, cap, rfl, hg, hcl⟩
end Go.Proofs.YtbofjefblhnkoaaGreatDoor
namespace Go.Proofs.YtbofjefblhnkoaaGreatDoor
open Go Go.RowKit

/-- Stops among the first k cells. -/
def stops (t : List Int) (big e : Bool) (l : List Nat) (k : Nat) : List Int := ((l.take k).filter (fun i => if e then Rw.isE t big i else Rw.isB t big i)).map fun (i : Nat) => (i : Int)
theorem stops_yes {t : List Int} {big e : Bool} {l : List Nat} {k i : Nat} (h : l[k]? = some i) (hs : (if e then Rw.isE t big i else Rw.isB t big i) = true) : stops t big e l (k + 1) = stops t big e l k ++ [(i : Int)] := by
  unfold stops
  rw [List.take_add_one, h, List.filter_append, List.map_append]
  simp [hs]
theorem stops_no {t : List Int} {big e : Bool} {l : List Nat} {k i : Nat} (h : l[k]? = some i) (hs : (if e then Rw.isE t big i else Rw.isB t big i) = false) : stops t big e l (k + 1) = stops t big e l k := by
  unfold stops
  rw [List.take_add_one, h, List.filter_append]
  simp [hs]
theorem stopsB_yes {t : List Int} {big : Bool} {l : List Nat} {k i : Nat} (h : l[k]? = some i) (hs : Rw.isB t big i = true) : stops t big false l (k + 1) = stops t big false l k ++ [(i : Int)] := stops_yes h (by simpa using hs)
theorem stopsB_no {t : List Int} {big : Bool} {l : List Nat} {k i : Nat} (h : l[k]? = some i) (hs : Rw.isB t big i = false) : stops t big false l (k + 1) = stops t big false l k := stops_no h (by simpa using hs)
theorem stopsE_yes {t : List Int} {big : Bool} {l : List Nat} {k i : Nat} (h : l[k]? = some i) (hs : Rw.isE t big i = true) : stops t big true l (k + 1) = stops t big true l k ++ [(i : Int)] := stops_yes h (by simpa using hs)
theorem stopsE_no {t : List Int} {big : Bool} {l : List Nat} {k i : Nat} (h : l[k]? = some i) (hs : Rw.isE t big i = false) : stops t big true l (k + 1) = stops t big true l k := stops_no h (by simpa using hs)
theorem one_cell {W : World} {a : Int} {ty : TypeId} : ∀ j u, ([Value.int .i64 a] : List Value)[j]? = some u → (W.alloc (.cells #[.int .i64 a] ty)).cell? ((⟨W.heap.size, 0, none⟩ : Addr).add j) = some u := by
  intro j u hj
  rw [addr_add, cell_of_row _ _ _ _ _ _ (heap_alloc_new W _)]
  match j, hj with
  | 0, hj => simpa using hj
theorem one_one {a : Int} : ∀ u ∈ ([Value.int .i64 a] : List Value), u.oneCell' = true := by
  intro u hu
  simp only [List.mem_singleton] at hu
  subst hu
  rfl
theorem stops_len (t : List Int) (big e : Bool) (l : List Nat) (k : Nat) : (stops t big e l k).length ≤ k := by
  unfold stops
  rw [List.length_map]
  have h1 := List.length_filter_le (fun i => if e then Rw.isE t big i else Rw.isB t big i) (l.take k)
  rw [List.length_take] at h1
  omega
theorem stops_all (t : List Int) (big e : Bool) (k : Nat) (hk : (Rw.cel t (t.length + 1)).length = k) : stops t big e (Rw.cel t (t.length + 1)) k = (Rw.stp t big e).map fun (i : Nat) => (i : Int) := by
  unfold stops Rw.stp
  rw [List.take_of_length_le (by omega)]
set_option maxRecDepth 100000 in
set_option maxHeartbeats 2000000 in
theorem begins_any (g cap m : Nat) (t : List Int) (big : Bool) (w : World) (hm : (Rw.cel t (t.length + 1)).length = m) (hC : Cels w g t big (Rw.cel t (t.length + 1))) (hn : t.length ≤ 6000) :
    Calls Tryz.prog 88 #[.slice (some ⟨g, 0, none⟩) m cap] w fun e w' => Kept (fun _ => False) w w' ∧ ∃ A c, e = .returned (.slice A ((Rw.stp t big false).map fun (i : Nat) => (i : Int)).length c) ∧ Nums w' A ((Rw.stp t big false).map fun (i : Nat) => (i : Int)).length ((Rw.stp t big false).map fun (i : Nat) => (i : Int)) := by
  obtain ⟨i0, hi, hz0, hz1, hz2⟩ := info_parts info_int
  have hmn : m ≤ 6001 := by have := Rw.cel_len t (t.length + 1); omega
  have HALL := Lib.hid (stops_all t big false m hm)
  rw [← HALL.out]
  have HM := Lib.hid hm
  have HC := Lib.hid hC
  clear hm hC
  go_enter Tryz.func88, Tryz.ntmps88
  go_wp2
  go_loopw [3, 8] (fun v i wr => ∃ k : Nat, k ≤ m ∧ i = .int .i64 k ∧ wr.ownsRow w.heap.size 3 1 v (stops t big false (Rw.cel t (t.length + 1)) k).length ((stops t big false (Rw.cel t (t.length + 1)) k).map (Value.int .i64)) ∧ Kept (fun _ => False) w wr) (fun _ i _ => m - (intOf i).toNat)
  case atStart => exact ⟨0, Nat.zero_le _, rfl, World.ownsRow_nil _ _ _ _, Kept.refl _ _⟩
  case round =>
    obtain ⟨k, hk, rfl, hown, hkept⟩ := hrel
    have HK := Lib.hid hkept
    have hsz := hkept.size
    have HSZ := Lib.hid hsz
    have hlen := stops_len t big false (Rw.cel t (t.length + 1)) k
    obtain ⟨xs, hxs⟩ : ∃ xs, stops t big false (Rw.cel t (t.length + 1)) k = xs := ⟨_, rfl⟩
    have HXS := Lib.hid hxs
    rw [hxs] at hown hlen
    generalize hxl : xs.length = L at hown hlen
    have HXL := Lib.hid hxl
    clear hkept hsz hxs hxl
    by_cases hkm : k < m
    · obtain ⟨o, ho⟩ : ∃ o, (Rw.cel t (t.length + 1))[k]? = some o := ⟨_, List.getElem?_eq_getElem (by rw [HM.out]; exact hkm)⟩
      have h0 := cell_kept HK.out (HC.out.c0 k o ho) id
      have h1 := cell_kept HK.out (HC.out.c1 k o ho) id
      have h2 := cell_kept HK.out (HC.out.c2 k o ho) id
      have h3 := cell_kept HK.out (HC.out.c3 k o ho) id
      have HO := Lib.hid ho
      clear ho
      obtain ⟨q, hq⟩ : ∃ q, Rw.at_ t big o = q := ⟨_, rfl⟩
      obtain ⟨F, hF⟩ : ∃ F, decide (Rw.beg t o = o) = F := ⟨_, rfl⟩
      obtain ⟨G, hG⟩ : ∃ G, Rw.lastB t o = G := ⟨_, rfl⟩
      rw [hq] at h1
      rw [hF] at h2
      rw [hG] at h3
      have HQ := Lib.hid hq
      have HF := Lib.hid hF
      have HG := Lib.hid hG
      clear hq hF hG
      go_wp2
      have hb := heap_alloc_new wr (.cells #[.int .i64 (o : Int), .int .i64 q, .bool F, .bool G] 150)
      have hkw : Kept (fun _ => False) wr (wr.alloc (.cells #[.int .i64 (o : Int), .int .i64 q, .bool F, .bool G] 150)) := (Kept.refl _ wr).alloc _
      have hown1 := hown.alloc (.cells #[.int .i64 (o : Int), .int .i64 q, .bool F, .bool G] 150)
      have hsz1 : wr.heap.size < (wr.alloc (.cells #[.int .i64 (o : Int), .int .i64 q, .bool F, .bool G] 150)).heap.size := by simp
      generalize wr.alloc (.cells #[.int .i64 (o : Int), .int .i64 q, .bool F, .bool G] 150) = W1 at *
      have HK1 := Lib.hid (HK.out.trans hkw)
      have HSZ1 := Lib.hid (HK1.out.size)
      generalize wr.heap.size = nb at *
      have f0 : W1.cell? ⟨nb, 0, none⟩ = some (.int .i64 (o : Int)) := by rw [cell_of_row _ _ _ _ _ _ hb]; rfl
      have f1 : W1.cell? ⟨nb, 1, none⟩ = some (.int .i64 q) := by rw [cell_of_row _ _ _ _ _ _ hb]; rfl
      have f2 : W1.cell? ⟨nb, 2, none⟩ = some (.bool F) := by rw [cell_of_row _ _ _ _ _ _ hb]; rfl
      clear h0 h1 h2 h3 hown hkw hb hsz1
      by_cases hq0 : q = 0
      · subst hq0
        have HB : Hid (stops t big false (Rw.cel t (t.length + 1)) (k + 1) = xs) := by show _ = _; rw [stopsB_no HO.out (Rw.isB_0 HQ.out), HXS.out]
        go_quiet (fail)
        go_wp2
        go_roundw
        case rel => exact ⟨k + 1, by omega, by go_num, by rw [HB.out, HXL.out]; exact hown1, HK1.out.drewN _⟩
        case measure => simp [intOf]; omega
      · have q1 : (q != 0) = true := by rw [bne_iff_ne]; exact hq0
        have q2 : (q == 0) = false := by rw [beq_eq_false_iff_ne]; exact hq0
        have hocc := Rw.cel_C HO.out
        cases F
        · have hnb : Rw.beg t o ≠ o := of_decide_eq_false HF.out
          obtain ⟨k', o', rfl, hoo, ho'⟩ := Rw.progB HO.out hnb
          have p1 := cell_kept HK1.out (HC.out.c1 k' o' ho') id
          obtain ⟨r, hr⟩ : ∃ r, Rw.at_ t big o' = r := ⟨_, rfl⟩
          rw [hr] at p1
          have hval : Rw.isB t big o = (r != q) := by
            have hQ := HQ.out
            subst hoo
            have h := Rw.progB_val hocc (by rw [hQ]; exact hq0) hnb
            rwa [hr, hQ] at h
          have HV := Lib.hid hval
          clear hr ho' hnb hocc hq0 hval hoo
          by_cases hrq : r = q
          · subst hrq
            have HB : Hid (stops t big false (Rw.cel t (t.length + 1)) (k' + 1 + 1) = xs) := by show _ = _; rw [stopsB_no HO.out (by rw [HV.out]; simp), HXS.out]
            go_quiet (fail)
            go_wp2
            go_roundw
            case rel => exact ⟨k' + 1 + 1, by omega, by go_num, by rw [HB.out, HXL.out]; exact hown1, HK1.out.drewN _⟩
            case measure => simp [intOf]; omega
          · have r1 : (r != q) = true := by rw [bne_iff_ne]; exact hrq
            have r2 : (r == q) = false := by rw [beq_eq_false_iff_ne]; exact hrq
            have HB : Hid (stops t big false (Rw.cel t (t.length + 1)) (k' + 1 + 1) = xs ++ [((o : Nat) : Int)]) := by show _ = _; rw [stopsB_yes HO.out (by rw [HV.out]; exact r1), HXS.out]
            clear hrq
            go_quiet (fail)
            go_wp2_with (at_builtin; refine wpList_append_own _ rfl _ _ 37 rfl w.heap.size 3 i0 (.int .i64 0) 1 8 Tryz.underlying37 hi hz0 hz1 hz2 rfl (by decide) _ _ _ rfl (World.ownsRow.alloc (w := W1.drewN _) hown1 _) ⟨_, 0, none⟩ 1 1 [.int .i64 ((o : Nat) : Int)] rfl rfl one_cell one_one (by unfold maxLen; omega) (by omega) (by have := HSZ1.out; simp; omega) ?_; intro v' w1 hown' hgrow _; have hK2 := Lib.hid (Kept.grew ((HK1.out.drewN _).alloc (.cells #[.int .i64 ((o : Nat) : Int)] 3)) hgrow (fun q hq => (hown1.lt q hq).1)); have HO2 := Lib.hid hown'; clear hown' hgrow hown1)
            go_roundw
            case rel => exact ⟨k' + 1 + 1, by omega, by go_num, by rw [HB.out, List.length_append, HXL.out, List.map_append]; exact HO2.out, hK2.out⟩
            case measure => simp [intOf]; omega
        · have hbb : Rw.beg t o = o := of_decide_eq_true HF.out
          have HB : Hid (stops t big false (Rw.cel t (t.length + 1)) (k + 1) = xs ++ [((o : Nat) : Int)]) := by show _ = _; rw [stopsB_yes HO.out (Rw.isB_first hocc (by rw [HQ.out]; exact hq0) hbb), HXS.out]
          clear hocc hbb hq0
          go_quiet (fail)
          go_wp2_with (at_builtin; refine wpList_append_own _ rfl _ _ 37 rfl w.heap.size 3 i0 (.int .i64 0) 1 8 Tryz.underlying37 hi hz0 hz1 hz2 rfl (by decide) _ _ _ rfl (World.ownsRow.alloc (w := W1.drewN _) hown1 _) ⟨_, 0, none⟩ 1 1 [.int .i64 ((o : Nat) : Int)] rfl rfl one_cell one_one (by unfold maxLen; omega) (by omega) (by have := HSZ1.out; simp; omega) ?_; intro v' w1 hown' hgrow _; have hK2 := Lib.hid (Kept.grew ((HK1.out.drewN _).alloc (.cells #[.int .i64 ((o : Nat) : Int)] 3)) hgrow (fun q hq => (hown1.lt q hq).1)); have HO2 := Lib.hid hown'; clear hown' hgrow hown1)
          go_roundw
          case rel => exact ⟨k + 1, by omega, by go_num, by rw [HB.out, List.length_append, HXL.out, List.map_append]; exact HO2.out, hK2.out⟩
          case measure => simp [intOf]; omega
    · obtain rfl : k = m := by omega
      go_wp2
      go_ret
      rw [HXS.out]
      obtain ⟨A, c, rfl, hN, _, _⟩ := owned_nums hown HXL.out
      rw [HXL.out]
      exact ⟨HK.out, A, c, rfl, hN⟩
end Go.Proofs.YtbofjefblhnkoaaGreatDoor
namespace Go.Proofs.YtbofjefblhnkoaaGreatDoor
open Go Go.RowKit

set_option maxRecDepth 100000 in
set_option maxHeartbeats 2000000 in
theorem ends_any (g cap m : Nat) (t : List Int) (big : Bool) (w : World) (hm : (Rw.cel t (t.length + 1)).length = m) (hC : Cels w g t big (Rw.cel t (t.length + 1))) (hn : t.length ≤ 6000) :
    Calls Tryz.prog 89 #[.slice (some ⟨g, 0, none⟩) m cap] w fun e w' => Kept (fun _ => False) w w' ∧ ∃ A c, e = .returned (.slice A ((Rw.stp t big true).map fun (i : Nat) => (i : Int)).length c) ∧ Nums w' A ((Rw.stp t big true).map fun (i : Nat) => (i : Int)).length ((Rw.stp t big true).map fun (i : Nat) => (i : Int)) := by
  obtain ⟨i0, hi, hz0, hz1, hz2⟩ := info_parts info_int
  have hmn : m ≤ 6001 := by have := Rw.cel_len t (t.length + 1); omega
  have HALL := Lib.hid (stops_all t big true m hm)
  rw [← HALL.out]
  have HM := Lib.hid hm
  have HC := Lib.hid hC
  clear hm hC
  go_enter Tryz.func89, Tryz.ntmps89
  go_wp2
  go_loopw [3, 8] (fun v i wr => ∃ k : Nat, k ≤ m ∧ i = .int .i64 k ∧ wr.ownsRow w.heap.size 3 1 v (stops t big true (Rw.cel t (t.length + 1)) k).length ((stops t big true (Rw.cel t (t.length + 1)) k).map (Value.int .i64)) ∧ Kept (fun _ => False) w wr) (fun _ i _ => m - (intOf i).toNat)
  case atStart => exact ⟨0, Nat.zero_le _, rfl, World.ownsRow_nil _ _ _ _, Kept.refl _ _⟩
  case round =>
    obtain ⟨k, hk, rfl, hown, hkept⟩ := hrel
    have HK := Lib.hid hkept
    have hsz := hkept.size
    have HSZ := Lib.hid hsz
    have hlen := stops_len t big true (Rw.cel t (t.length + 1)) k
    obtain ⟨xs, hxs⟩ : ∃ xs, stops t big true (Rw.cel t (t.length + 1)) k = xs := ⟨_, rfl⟩
    have HXS := Lib.hid hxs
    rw [hxs] at hown hlen
    generalize hxl : xs.length = L at hown hlen
    have HXL := Lib.hid hxl
    clear hkept hsz hxs hxl
    by_cases hkm : k < m
    · obtain ⟨o, ho⟩ : ∃ o, (Rw.cel t (t.length + 1))[k]? = some o := ⟨_, List.getElem?_eq_getElem (by rw [HM.out]; exact hkm)⟩
      have h0 := cell_kept HK.out (HC.out.c0 k o ho) id
      have h1 := cell_kept HK.out (HC.out.c1 k o ho) id
      have h2 := cell_kept HK.out (HC.out.c2 k o ho) id
      have h3 := cell_kept HK.out (HC.out.c3 k o ho) id
      have HO := Lib.hid ho
      clear ho
      obtain ⟨q, hq⟩ : ∃ q, Rw.at_ t big o = q := ⟨_, rfl⟩
      obtain ⟨F, hF⟩ : ∃ F, decide (Rw.beg t o = o) = F := ⟨_, rfl⟩
      obtain ⟨G, hG⟩ : ∃ G, Rw.lastB t o = G := ⟨_, rfl⟩
      rw [hq] at h1
      rw [hF] at h2
      rw [hG] at h3
      have HQ := Lib.hid hq
      have HF := Lib.hid hF
      have HG := Lib.hid hG
      clear hq hF hG
      go_wp2
      have hb := heap_alloc_new wr (.cells #[.int .i64 (o : Int), .int .i64 q, .bool F, .bool G] 150)
      have hkw : Kept (fun _ => False) wr (wr.alloc (.cells #[.int .i64 (o : Int), .int .i64 q, .bool F, .bool G] 150)) := (Kept.refl _ wr).alloc _
      have hown1 := hown.alloc (.cells #[.int .i64 (o : Int), .int .i64 q, .bool F, .bool G] 150)
      have hsz1 : wr.heap.size < (wr.alloc (.cells #[.int .i64 (o : Int), .int .i64 q, .bool F, .bool G] 150)).heap.size := by simp
      generalize wr.alloc (.cells #[.int .i64 (o : Int), .int .i64 q, .bool F, .bool G] 150) = W1 at *
      have HK1 := Lib.hid (HK.out.trans hkw)
      have HSZ1 := Lib.hid (HK1.out.size)
      generalize wr.heap.size = nb at *
      have f0 : W1.cell? ⟨nb, 0, none⟩ = some (.int .i64 (o : Int)) := by rw [cell_of_row _ _ _ _ _ _ hb]; rfl
      have f1 : W1.cell? ⟨nb, 1, none⟩ = some (.int .i64 q) := by rw [cell_of_row _ _ _ _ _ _ hb]; rfl
      have f2 : W1.cell? ⟨nb, 3, none⟩ = some (.bool G) := by rw [cell_of_row _ _ _ _ _ _ hb]; rfl
      clear h0 h1 h2 h3 hown hkw hb hsz1
      by_cases hq0 : q = 0
      · subst hq0
        have HB : Hid (stops t big true (Rw.cel t (t.length + 1)) (k + 1) = xs) := by show _ = _; rw [stopsE_no HO.out (Rw.isE_0 HQ.out), HXS.out]
        go_quiet (fail)
        go_wp2
        go_roundw
        case rel => exact ⟨k + 1, by omega, by go_num, by rw [HB.out, HXL.out]; exact hown1, HK1.out.drewN _⟩
        case measure => simp [intOf]; omega
      · have q1 : (q != 0) = true := by rw [bne_iff_ne]; exact hq0
        have q2 : (q == 0) = false := by rw [beq_eq_false_iff_ne]; exact hq0
        have hocc := Rw.cel_C HO.out
        cases G
        · have ho' := Rw.progE HO.out HG.out
          have p1 := cell_kept HK1.out (HC.out.c1 (k + 1) (o + 1) ho') id
          have hk1 : k + 1 < m := by
            by_cases hk1 : k + 1 < m
            · exact hk1
            · rw [List.getElem?_eq_none (by rw [HM.out]; omega)] at ho'; cases ho'
          obtain ⟨r, hr⟩ : ∃ r, Rw.at_ t big (o + 1) = r := ⟨_, rfl⟩
          rw [hr] at p1
          have hval : Rw.isE t big o = (r != q) := by
            have hQ := HQ.out
            have h := Rw.progE_val hocc (by rw [hQ]; exact hq0) HG.out
            rwa [hr, hQ] at h
          have HV := Lib.hid hval
          clear hr ho' hocc hq0 hval
          by_cases hrq : r = q
          · subst hrq
            have HB : Hid (stops t big true (Rw.cel t (t.length + 1)) (k + 1) = xs) := by show _ = _; rw [stopsE_no HO.out (by rw [HV.out]; simp), HXS.out]
            go_quiet (fail)
            go_wp2
            go_roundw
            case rel => exact ⟨k + 1, by omega, by go_num, by rw [HB.out, HXL.out]; exact hown1, HK1.out.drewN _⟩
            case measure => simp [intOf]; omega
          · have r1 : (r != q) = true := by rw [bne_iff_ne]; exact hrq
            have r2 : (r == q) = false := by rw [beq_eq_false_iff_ne]; exact hrq
            have HB : Hid (stops t big true (Rw.cel t (t.length + 1)) (k + 1) = xs ++ [((o : Nat) : Int)]) := by show _ = _; rw [stopsE_yes HO.out (by rw [HV.out]; exact r1), HXS.out]
            clear hrq
            go_quiet (fail)
            go_wp2_with (at_builtin; refine wpList_append_own _ rfl _ _ 37 rfl w.heap.size 3 i0 (.int .i64 0) 1 8 Tryz.underlying37 hi hz0 hz1 hz2 rfl (by decide) _ _ _ rfl (World.ownsRow.alloc (w := W1.drewN _) hown1 _) ⟨_, 0, none⟩ 1 1 [.int .i64 ((o : Nat) : Int)] rfl rfl one_cell one_one (by unfold maxLen; omega) (by omega) (by have := HSZ1.out; simp; omega) ?_; intro v' w1 hown' hgrow _; have hK2 := Lib.hid (Kept.grew ((HK1.out.drewN _).alloc (.cells #[.int .i64 ((o : Nat) : Int)] 3)) hgrow (fun q hq => (hown1.lt q hq).1)); have HO2 := Lib.hid hown'; clear hown' hgrow hown1)
            go_roundw
            case rel => exact ⟨k + 1, by omega, by go_num, by rw [HB.out, List.length_append, HXL.out, List.map_append]; exact HO2.out, hK2.out⟩
            case measure => simp [intOf]; omega
        · have HB : Hid (stops t big true (Rw.cel t (t.length + 1)) (k + 1) = xs ++ [((o : Nat) : Int)]) := by show _ = _; rw [stopsE_yes HO.out (Rw.progE_last hocc (by rw [HQ.out]; exact hq0) HG.out), HXS.out]
          clear hocc hq0
          go_quiet (fail)
          go_wp2_with (at_builtin; refine wpList_append_own _ rfl _ _ 37 rfl w.heap.size 3 i0 (.int .i64 0) 1 8 Tryz.underlying37 hi hz0 hz1 hz2 rfl (by decide) _ _ _ rfl (World.ownsRow.alloc (w := W1.drewN _) hown1 _) ⟨_, 0, none⟩ 1 1 [.int .i64 ((o : Nat) : Int)] rfl rfl one_cell one_one (by unfold maxLen; omega) (by omega) (by have := HSZ1.out; simp; omega) ?_; intro v' w1 hown' hgrow _; have hK2 := Lib.hid (Kept.grew ((HK1.out.drewN _).alloc (.cells #[.int .i64 ((o : Nat) : Int)] 3)) hgrow (fun q hq => (hown1.lt q hq).1)); have HO2 := Lib.hid hown'; clear hown' hgrow hown1)
          go_roundw
          case rel => exact ⟨k + 1, by omega, by go_num, by rw [HB.out, List.length_append, HXL.out, List.map_append]; exact HO2.out, hK2.out⟩
          case measure => simp [intOf]; omega
    · obtain rfl : k = m := by omega
      go_wp2
      go_ret
      rw [HXS.out]
      obtain ⟨A, c, rfl, hN, _, _⟩ := owned_nums hown HXL.out
      rw [HXL.out]
      exact ⟨HK.out, A, c, rfl, hN⟩
end Go.Proofs.YtbofjefblhnkoaaGreatDoor
namespace Go.Proofs.YtbofjefblhnkoaaGreatDoor
open Go Go.RowKit

theorem cisnan (x : Int) (w : World) : Calls Tryz.prog 138 #[.int .i64 x] w fun e w' => e = .returned (.bool false) ∧ w' = w := by
  have b : (x != x) = false := by simp
  go_enter Tryz.func138, Tryz.ntmps138
  go_wp2
  go_ret
  exact ⟨rfl, rfl⟩
theorem sisnan (x : Int) (w : World) : Calls Tryz.prog 126 #[.int .i64 x] w fun e w' => e = .returned (.bool false) ∧ w' = w := by
  have b : (x != x) = false := by simp
  go_enter Tryz.func126, Tryz.ntmps126
  go_wp2
  go_ret
  exact ⟨rfl, rfl⟩
theorem less_any (x y : Int) (w : World) : Calls Tryz.prog 125 #[.int .i64 x, .int .i64 y] w fun e w' => e = .returned (.bool (decide (x < y))) ∧ w' = w := by
  obtain ⟨B, hB⟩ : ∃ B, decide (x < y) = B := ⟨_, rfl⟩
  rw [hB]
  cases B
  all_goals
    go_enter Tryz.func125, Tryz.ntmps125
    go_wp2_with (go_at_call 138; refine (cisnan _ _).mono ?_; rintro e w' ⟨rfl, rfl⟩)
    go_ret
    exact ⟨rfl, rfl⟩
theorem bs_any (A : Option Addr) (n c : Nat) (S : List Nat) (x : Nat) (w : World) (hN : Nums w A n (S.map fun (i : Nat) => (i : Int))) (hs : S.Pairwise (· < ·)) (hn : n ≤ 6001) (hx : x ≤ 6001) :
    Calls Tryz.prog 113 #[.slice A n c, .int .i64 x] w fun e w' => (∃ m : Nat, m ≤ n ∧ (∀ j a, S[j]? = some a → (j < m ↔ a < x)) ∧ e = .returned (.tuple #[.int .i64 m, .bool (decide (S[m]? = some x))])) ∧ w' = w := by
  have hl : S.length = n := by have := hN.1; simpa using this
  have HN := Lib.hid hN
  have HL := Lib.hid hl
  have hp : ∀ (i j a b : Nat), S[i]? = some a → S[j]? = some b → i < j → a < b := fun i j a b hi hj hij => by
    obtain ⟨h1, e1⟩ := List.getElem?_eq_some_iff.1 hi
    obtain ⟨h2, e2⟩ := List.getElem?_eq_some_iff.1 hj
    have := List.pairwise_iff_getElem.1 hs i j h1 h2 hij
    omega
  have HP := Lib.hid hp
  clear hN hs hl hp
  go_enter Tryz.func113, Tryz.ntmps113
  go_wp2
  go_loop [7, 8] (fun v u => ∃ I J : Nat, v = .int .i64 I ∧ u = .int .i64 J ∧ I ≤ J ∧ J ≤ n ∧ (∀ j a, S[j]? = some a → j < I → a < x) ∧ (∀ j a, S[j]? = some a → J ≤ j → x ≤ a)) (fun v u => (intOf u - intOf v).toNat)
  case atStart => exact ⟨0, n, rfl, rfl, Nat.zero_le _, Nat.le_refl _, fun j a _ h => by omega, fun j a h1 h2 => by rw [List.getElem?_eq_none (by rw [HL.out]; exact h2)] at h1; cases h1⟩
  case round =>
    obtain ⟨I, J, rfl, rfl, hIJ, hJ, h1, h2⟩ := hrel
    have H1 := Lib.hid h1
    have H2 := Lib.hid h2
    clear h1 h2
    by_cases hlt : I < J
    · obtain ⟨q, hq⟩ : ∃ q, (I + J) / 2 = q := ⟨_, rfl⟩
      have hq1 : I ≤ q ∧ q < J := by omega
      have hq2 : ((I : Int) + (J : Int)) / 2 = (q : Int) := by omega
      obtain ⟨ad, v, rfl, hv, hc⟩ := HN.out.cell (j := q) (by omega)
      have hlS : q < S.length := by rw [HL.out]; omega
      have hSq : S[q]? = some S[q] := List.getElem?_eq_getElem hlS
      have hv2 : v = ((S[q] : Nat) : Int) := by
        rw [List.getElem?_map, hSq] at hv
        injection hv with hv
        exact hv.symm
      obtain ⟨y, hy⟩ : ∃ y, S[q] = y := ⟨_, rfl⟩
      rw [hy] at hv2 hSq
      subst hv2
      have HS := Lib.hid hSq
      have HQ := Lib.hid hq
      clear hv hSq hy hlS hq
      have cL := less_any (y : Int) (x : Int) w
      by_cases hyx : y < x
      · have e1 : decide ((y : Int) < (x : Int)) = true := by simp; omega
        rw [e1] at cL
        clear e1
        go_wp2_with (go_at_call 125; refine cL.mono ?_; rintro e w' ⟨rfl, rfl⟩)
        go_round
        case rel =>
          refine ⟨q + 1, J, by go_num, rfl, by omega, hJ, fun j a h3 h4 => ?_, H2.out⟩
          by_cases hj : j = q
          · subst hj
            rw [HS.out] at h3
            injection h3 with h3
            omega
          · have := HP.out j q a y h3 HS.out (by omega); omega
        case measure => simp [intOf]; omega
      · have e1 : decide ((y : Int) < (x : Int)) = false := by simp; omega
        rw [e1] at cL
        clear e1
        go_wp2_with (go_at_call 125; refine cL.mono ?_; rintro e w' ⟨rfl, rfl⟩)
        go_round
        case rel =>
          refine ⟨I, q, rfl, rfl, by omega, by omega, H1.out, fun j a h3 h4 => ?_⟩
          by_cases hj : j = q
          · subst hj
            rw [HS.out] at h3
            injection h3 with h3
            omega
          · have := HP.out q j y a HS.out h3 (by omega); omega
        case measure => simp [intOf]; omega
    · obtain rfl : I = J := by omega
      have HF : Hid (∀ j a, S[j]? = some a → (j < I ↔ a < x)) := by
        show ∀ j a, S[j]? = some a → (j < I ↔ a < x)
        intro j a h
        have h1 := H1.out j a h
        have h2 := H2.out j a h
        omega
      by_cases hIn : I < n
      · obtain ⟨ad, v, rfl, hv, hc⟩ := HN.out.cell hIn
        have hlS : I < S.length := by rw [HL.out]; exact hIn
        have hSq : S[I]? = some S[I] := List.getElem?_eq_getElem hlS
        have hv2 : v = ((S[I] : Nat) : Int) := by
          rw [List.getElem?_map, hSq] at hv
          injection hv with hv
          exact hv.symm
        obtain ⟨y, hy⟩ : ∃ y, S[I] = y := ⟨_, rfl⟩
        rw [hy] at hv2 hSq
        subst hv2
        have HS := Lib.hid hSq
        clear hv hSq hy hlS
        have b1 : decide (I < n) = true := by simp; omega
        by_cases hyx : y = x
        · subst hyx
          have HD : Hid (decide (S[I]? = some y) = true) := by show _ = _; rw [HS.out]; simp
          go_wp2_with (go_at_call 126; refine (sisnan _ _).mono ?_; rintro e w' ⟨rfl, rfl⟩)
          refine bodyPost_ret (v := .tuple #[.int .i64 (I : Nat), .bool true]) (by simp [results, Tryz.results113, go_sem]) rfl ⟨⟨I, hJ, HF.out, by rw [HD.out]⟩, rfl⟩
        · have HD : Hid (decide (S[I]? = some x) = false) := by
            show _ = _
            rw [HS.out, decide_eq_false_iff_not]
            intro e
            injection e with e
            exact hyx e
          have e1 : ((y : Int) == (x : Int)) = false := by rw [beq_eq_false_iff_ne]; omega
          have e2 : (y == x) = false := by rw [beq_eq_false_iff_ne]; exact hyx
          clear hyx
          go_wp2_with (go_at_call 126; refine (sisnan _ _).mono ?_; rintro e w' ⟨rfl, rfl⟩)
          refine bodyPost_ret (v := .tuple #[.int .i64 (I : Nat), .bool false]) (by simp [results, Tryz.results113, go_sem]) rfl ⟨⟨I, hJ, HF.out, by rw [HD.out]⟩, rfl⟩
      · have b1 : decide (I < n) = false := by simp; omega
        have HD : Hid (decide (S[I]? = some x) = false) := by
          show _ = _
          rw [List.getElem?_eq_none (by rw [HL.out]; omega)]
          rfl
        go_wp2
        refine bodyPost_ret (v := .tuple #[.int .i64 (I : Nat), .bool false]) (by simp [results, Tryz.results113, go_sem]) rfl ⟨⟨I, hJ, HF.out, by rw [HD.out]⟩, rfl⟩
end Go.Proofs.YtbofjefblhnkoaaGreatDoor
namespace Go.Proofs.YtbofjefblhnkoaaGreatDoor
open Go Go.RowKit

theorem Rw.cnt_le {S : List Nat} {x m : Nat} (hs : S.Pairwise (· < ·)) (h : ∀ j a, S[j]? = some a → (j < m ↔ a < x)) (M : Nat) (hM : M = if S[m]? = some x then m + 1 else m) : ∀ j a, S[j]? = some a → (j < M ↔ a ≤ x) := by
  intro j a hj
  have h1 := h j a hj
  have hp : ∀ (i j a b : Nat), S[i]? = some a → S[j]? = some b → i < j → a < b := fun i j a b hi hj hij => by
    obtain ⟨h1, e1⟩ := List.getElem?_eq_some_iff.1 hi
    obtain ⟨h2, e2⟩ := List.getElem?_eq_some_iff.1 hj
    have := List.pairwise_iff_getElem.1 hs i j h1 h2 hij
    omega
  by_cases hx : S[m]? = some x
  · rw [if_pos hx] at hM
    subst hM
    rcases Nat.lt_trichotomy j m with h3 | h3 | h3
    · omega
    · subst h3
      rw [hx] at hj
      injection hj with hj
      omega
    · have := hp m j x a hx hj h3; omega
  · rw [if_neg hx] at hM
    subst hM
    constructor
    · intro h2; omega
    · intro h2
      rcases Nat.lt_or_ge j M with h3 | h3
      · exact h3
      · exfalso
        have hxa : a = x := by omega
        subst hxa
        rcases Nat.lt_or_ge M j with h4 | h4
        · have hlt := (List.getElem?_eq_some_iff.1 hj).1
          have hM : S[M]? = some (S[M]'(by omega)) := List.getElem?_eq_getElem (by omega)
          have h5 := hp M j _ a hM hj h4
          have h6 := h M _ hM
          omega
        · have : j = M := by omega
          subst this
          exact hx hj
theorem Rw.lst_at (t : List Int) (m : Nat) (hm : (Rw.cel t (t.length + 1)).length = m + 1) : (Rw.cel t (t.length + 1))[m]? = some (Rw.lst t) := by
  unfold Rw.lst
  rw [List.getLastD_eq_getLast?, List.getLast?_eq_getElem?, hm, Nat.add_sub_cancel]
  rw [List.getElem?_eq_getElem (show m < (Rw.cel t (t.length + 1)).length by omega)]
  rfl
theorem Rw.cel_pos (t : List Int) (n : Nat) : ∃ m, (Rw.cel t (n + 1)).length = m + 1 := by
  have h0 := Rw.cel_zero t n
  rcases Nat.eq_zero_or_pos (Rw.cel t (n + 1)).length with h | h
  · rw [List.getElem?_eq_none (by omega)] at h0; cases h0
  · exact ⟨_, (Nat.succ_pred_eq_of_pos h).symm⟩
set_option maxRecDepth 100000 in
set_option maxHeartbeats 1000000 in
theorem ahead_b (g cap m k c : Nat) (t : List Int) (big : Bool) (w : World) (hm : (Rw.cel t (t.length + 1)).length = m + 1) (hC : Cels w g t big (Rw.cel t (t.length + 1))) (hn : t.length ≤ 6000) (hk : k ≤ t.length) (hc : c ≤ 998) :
    Calls Tryz.prog 86 #[.slice (some ⟨g, 0, none⟩) (m + 1) cap, .func (.func 88) #[] #[], .int .i64 k, .int .i64 ((c : Int) + 1)] w fun e w' => e = .returned (.int .i64 (Rw.its (Rw.nx (Rw.stp t big false) (Rw.lst t)) (c + 1) k : Nat)) ∧ Kept (fun _ => False) w w' := by
  have cB := begins_any g cap (m + 1) t big w hm hC hn
  have hs := Rw.stp_sorted t big false
  have hle := Rw.stp_le t big false
  have hlst := Rw.lst_at t m hm
  have hlm : (Rw.stp t big false).length ≤ m + 1 := by rw [← hm]; exact List.length_filter_le _ _
  have hmn : m + 1 ≤ 6001 := by have := Rw.cel_len t (t.length + 1); omega
  have h0 := hC.c0 m _ hlst
  have hits := Rw.its_nx (Rw.stp t big false) (Rw.lst t) hs hle c k
  generalize Rw.stp t big false = S at *
  generalize Rw.lst t = L at *
  have HH := Lib.hid hits
  have HS := Lib.hid hs
  clear hits hle hm hC hlst hs
  have hlen : (S.map fun (i : Nat) => (i : Int)).length = S.length := by simp
  rw [hlen] at cB
  generalize hl : S.length = n at *
  clear hlen
  have HL := Lib.hid hl
  clear hl
  go_enter Tryz.func86, Tryz.ntmps86
  go_wp2_with (go_at_call 88; refine cB.mono ?_; rintro e w1 ⟨hk1, A, c1, rfl, hN⟩; have HK := Lib.hid hk1; have HN := Lib.hid hN; have h0' := cell_kept hk1 h0 id; clear hk1 hN h0 cB)
  refine (bs_any A n c1 S k w1 HN.out HS.out (by omega) (by omega)).mono ?_
  rintro e w2 ⟨⟨i, hi, hid, rfl⟩, hw⟩
  have hw2 := hw.symm
  clear hw
  subst hw2
  obtain ⟨F, hF⟩ : ∃ F, decide (S[i]? = some k) = F := ⟨_, rfl⟩
  obtain ⟨M, hM⟩ : ∃ M, M = if S[i]? = some k then i + 1 else i := ⟨_, rfl⟩
  have hMl : M ≤ n := by
    rw [hM]
    split
    · rename_i h
      have := (List.getElem?_eq_some_iff.1 h).1
      have := HL.out
      omega
    · exact hi
  have HR := Lib.hid (HH.out M (Rw.cnt_le HS.out hid M hM) hMl)
  rw [hF]
  cases F
  · rw [if_neg (of_decide_eq_false hF)] at hM
    subst hM
    clear hid hF HH hMl
    by_cases hlt : M + c < n
    · obtain ⟨ad, v, rfl, hv, hcl⟩ := HN.out.cell hlt
      have hRv : Hid (((Rw.its (Rw.nx S L) (c + 1) k : Nat) : Int) = v) := by
        show _ = _
        rw [HR.out]
        rw [List.getElem?_map] at hv
        cases hx : S[M + c]? with
        | none => rw [hx] at hv; cases hv
        | some y => rw [hx] at hv; injection hv
      clear hv
      go_wp2
      go_ret
      rw [hRv.out]
      exact ⟨rfl, HK.out⟩
    · have hRv : Hid (Rw.its (Rw.nx S L) (c + 1) k = L) := by
        show _ = _
        rw [HR.out, List.getElem?_eq_none (by rw [HL.out]; omega)]
        rfl
      go_wp2
      go_ret
      rw [hRv.out]
      exact ⟨rfl, HK.out⟩
  · rw [if_pos (of_decide_eq_true hF)] at hM
    subst hM
    clear hid hF HH
    by_cases hlt : i + 1 + c < n
    · obtain ⟨ad, v, rfl, hv, hcl⟩ := HN.out.cell hlt
      have hRv : Hid (((Rw.its (Rw.nx S L) (c + 1) k : Nat) : Int) = v) := by
        show _ = _
        rw [HR.out]
        rw [List.getElem?_map] at hv
        cases hx : S[i + 1 + c]? with
        | none => rw [hx] at hv; cases hv
        | some y => rw [hx] at hv; injection hv
      clear hv
      go_wp2
      go_ret
      rw [hRv.out]
      exact ⟨rfl, HK.out⟩
    · have hRv : Hid (Rw.its (Rw.nx S L) (c + 1) k = L) := by
        show _ = _
        rw [HR.out, List.getElem?_eq_none (by rw [HL.out]; omega)]
        rfl
      go_wp2
      go_ret
      rw [hRv.out]
      exact ⟨rfl, HK.out⟩
set_option maxRecDepth 100000 in
set_option maxHeartbeats 1000000 in
theorem ahead_e (g cap m k c : Nat) (t : List Int) (big : Bool) (w : World) (hm : (Rw.cel t (t.length + 1)).length = m + 1) (hC : Cels w g t big (Rw.cel t (t.length + 1))) (hn : t.length ≤ 6000) (hk : k ≤ t.length) (hc : c ≤ 998) :
    Calls Tryz.prog 86 #[.slice (some ⟨g, 0, none⟩) (m + 1) cap, .func (.func 89) #[] #[], .int .i64 k, .int .i64 ((c : Int) + 1)] w fun e w' => e = .returned (.int .i64 (Rw.its (Rw.nx (Rw.stp t big true) (Rw.lst t)) (c + 1) k : Nat)) ∧ Kept (fun _ => False) w w' := by
  have cB := ends_any g cap (m + 1) t big w hm hC hn
  have hs := Rw.stp_sorted t big true
  have hle := Rw.stp_le t big true
  have hlst := Rw.lst_at t m hm
  have hlm : (Rw.stp t big true).length ≤ m + 1 := by rw [← hm]; exact List.length_filter_le _ _
  have hmn : m + 1 ≤ 6001 := by have := Rw.cel_len t (t.length + 1); omega
  have h0 := hC.c0 m _ hlst
  have hits := Rw.its_nx (Rw.stp t big true) (Rw.lst t) hs hle c k
  generalize Rw.stp t big true = S at *
  generalize Rw.lst t = L at *
  have HH := Lib.hid hits
  have HS := Lib.hid hs
  clear hits hle hm hC hlst hs
  have hlen : (S.map fun (i : Nat) => (i : Int)).length = S.length := by simp
  rw [hlen] at cB
  generalize hl : S.length = n at *
  clear hlen
  have HL := Lib.hid hl
  clear hl
  go_enter Tryz.func86, Tryz.ntmps86
  go_wp2_with (go_at_call 89; refine cB.mono ?_; rintro e w1 ⟨hk1, A, c1, rfl, hN⟩; have HK := Lib.hid hk1; have HN := Lib.hid hN; have h0' := cell_kept hk1 h0 id; clear hk1 hN h0 cB)
  refine (bs_any A n c1 S k w1 HN.out HS.out (by omega) (by omega)).mono ?_
  rintro e w2 ⟨⟨i, hi, hid, rfl⟩, hw⟩
  have hw2 := hw.symm
  clear hw
  subst hw2
  obtain ⟨F, hF⟩ : ∃ F, decide (S[i]? = some k) = F := ⟨_, rfl⟩
  obtain ⟨M, hM⟩ : ∃ M, M = if S[i]? = some k then i + 1 else i := ⟨_, rfl⟩
  have hMl : M ≤ n := by
    rw [hM]
    split
    · rename_i h
      have := (List.getElem?_eq_some_iff.1 h).1
      have := HL.out
      omega
    · exact hi
  have HR := Lib.hid (HH.out M (Rw.cnt_le HS.out hid M hM) hMl)
  rw [hF]
  cases F
  · rw [if_neg (of_decide_eq_false hF)] at hM
    subst hM
    clear hid hF HH hMl
    by_cases hlt : M + c < n
    · obtain ⟨ad, v, rfl, hv, hcl⟩ := HN.out.cell hlt
      have hRv : Hid (((Rw.its (Rw.nx S L) (c + 1) k : Nat) : Int) = v) := by
        show _ = _
        rw [HR.out]
        rw [List.getElem?_map] at hv
        cases hx : S[M + c]? with
        | none => rw [hx] at hv; cases hv
        | some y => rw [hx] at hv; injection hv
      clear hv
      go_wp2
      go_ret
      rw [hRv.out]
      exact ⟨rfl, HK.out⟩
    · have hRv : Hid (Rw.its (Rw.nx S L) (c + 1) k = L) := by
        show _ = _
        rw [HR.out, List.getElem?_eq_none (by rw [HL.out]; omega)]
        rfl
      go_wp2
      go_ret
      rw [hRv.out]
      exact ⟨rfl, HK.out⟩
  · rw [if_pos (of_decide_eq_true hF)] at hM
    subst hM
    clear hid hF HH
    by_cases hlt : i + 1 + c < n
    · obtain ⟨ad, v, rfl, hv, hcl⟩ := HN.out.cell hlt
      have hRv : Hid (((Rw.its (Rw.nx S L) (c + 1) k : Nat) : Int) = v) := by
        show _ = _
        rw [HR.out]
        rw [List.getElem?_map] at hv
        cases hx : S[i + 1 + c]? with
        | none => rw [hx] at hv; cases hv
        | some y => rw [hx] at hv; injection hv
      clear hv
      go_wp2
      go_ret
      rw [hRv.out]
      exact ⟨rfl, HK.out⟩
    · have hRv : Hid (Rw.its (Rw.nx S L) (c + 1) k = L) := by
        show _ = _
        rw [HR.out, List.getElem?_eq_none (by rw [HL.out]; omega)]
        rfl
      go_wp2
      go_ret
      rw [hRv.out]
      exact ⟨rfl, HK.out⟩
set_option maxRecDepth 100000 in
set_option maxHeartbeats 1000000 in
theorem back_any (g cap m k c : Nat) (t : List Int) (big : Bool) (w : World) (hm : (Rw.cel t (t.length + 1)).length = m + 1) (hC : Cels w g t big (Rw.cel t (t.length + 1))) (hn : t.length ≤ 6000) (hk : k ≤ t.length) (hc : c ≤ 998) :
    Calls Tryz.prog 90 #[.slice (some ⟨g, 0, none⟩) (m + 1) cap, .int .i64 k, .int .i64 ((c : Int) + 1)] w fun e w' => e = .returned (.int .i64 (Rw.its (Rw.pv (Rw.stp t big false)) (c + 1) k : Nat)) ∧ Kept (fun _ => False) w w' := by
  have cB := begins_any g cap (m + 1) t big w hm hC hn
  have hs := Rw.stp_sorted t big false
  have hlm : (Rw.stp t big false).length ≤ m + 1 := by rw [← hm]; exact List.length_filter_le _ _
  have hmn : m + 1 ≤ 6001 := by have := Rw.cel_len t (t.length + 1); omega
  have h0 : w.cell? ⟨g, 0, none⟩ = some (.int .i64 0) := hC.c0 0 0 (Rw.cel_zero t _)
  have hits := Rw.its_pv (Rw.stp t big false) hs c k
  generalize Rw.stp t big false = S at *
  have HH := Lib.hid hits
  have HS := Lib.hid hs
  clear hits hm hC hs
  have hlen : (S.map fun (i : Nat) => (i : Int)).length = S.length := by simp
  rw [hlen] at cB
  generalize hl : S.length = n at *
  clear hlen
  have HL := Lib.hid hl
  clear hl
  go_enter Tryz.func90, Tryz.ntmps90
  go_wp2_with (go_at_call 88; refine cB.mono ?_; rintro e w1 ⟨hk1, A, c1, rfl, hN⟩; have HK := Lib.hid hk1; have HN := Lib.hid hN; have h0' := cell_kept hk1 h0 id; clear hk1 hN h0 cB)
  refine (bs_any A n c1 S k w1 HN.out HS.out (by omega) (by omega)).mono ?_
  rintro e w2 ⟨⟨i, hi, hid, rfl⟩, hw⟩
  have hw2 := hw.symm
  clear hw
  subst hw2
  have HR := Lib.hid (HH.out i hid hi)
  clear hid HH
  obtain ⟨F, hF⟩ : ∃ F, decide (S[i]? = some k) = F := ⟨_, rfl⟩
  rw [hF]
  clear hF
  by_cases hlt : c + 1 ≤ i
  · obtain ⟨d, hd⟩ : ∃ d, d + (c + 1) = i := ⟨i - (c + 1), by omega⟩
    obtain ⟨ad, v, rfl, hv, hcl⟩ := HN.out.cell (j := d) (by omega)
    have hRv : Hid (((Rw.its (Rw.pv S) (c + 1) k : Nat) : Int) = v) := by
      show _ = _
      rw [HR.out, if_pos hlt, show i - (c + 1) = d by omega]
      rw [List.getElem?_map] at hv
      cases hx : S[d]? with
      | none => rw [hx] at hv; cases hv
      | some y => rw [hx] at hv; injection hv
    have hdi : (i : Int) - ((c : Int) + 1) = (d : Int) := by omega
    clear hv hd
    go_wp2
    go_ret
    rw [hRv.out]
    exact ⟨rfl, HK.out⟩
  · have hRv : Hid (Rw.its (Rw.pv S) (c + 1) k = 0) := by
      show _ = _
      rw [HR.out, if_neg hlt]
    go_wp2
    go_ret
    rw [hRv.out]
    exact ⟨rfl, HK.out⟩
end Go.Proofs.YtbofjefblhnkoaaGreatDoor
namespace Go.Proofs.YtbofjefblhnkoaaGreatDoor
open Go Go.RowKit

/-- The answer: an offset, or the error. -/
def ansW : Option Int → Value
  | some x => .tuple #[.int .i64 x, .int .i64 0]
  | none => .tuple #[.int .i64 0, .int .i64 6]
theorem Rw.w119 (t : List Int) (k c : Nat) : Rw.wgo t k 119 c = Rw.its (Rw.nx (Rw.stp t false false) (Rw.lst t)) c k := rfl
theorem Rw.w87 (t : List Int) (k c : Nat) : Rw.wgo t k 87 c = Rw.its (Rw.nx (Rw.stp t true false) (Rw.lst t)) c k := rfl
theorem Rw.w101 (t : List Int) (k c : Nat) : Rw.wgo t k 101 c = Rw.its (Rw.nx (Rw.stp t false true) (Rw.lst t)) c k := rfl
theorem Rw.w69 (t : List Int) (k c : Nat) : Rw.wgo t k 69 c = Rw.its (Rw.nx (Rw.stp t true true) (Rw.lst t)) c k := rfl
theorem Rw.w98 (t : List Int) (k c : Nat) : Rw.wgo t k 98 c = Rw.its (Rw.pv (Rw.stp t false false)) c k := rfl
theorem Rw.w66 (t : List Int) (k c : Nat) : Rw.wgo t k 66 c = Rw.its (Rw.pv (Rw.stp t true false)) c k := rfl
set_option maxRecDepth 100000 in
set_option maxHeartbeats 1000000 in
theorem wm119_any (s : ByteArray) (k c : Nat) (w : World) (hT : Tabs w) (hm : mayB s = true) (hk : k ≤ (rs s).length) (hc : c ≤ 998) :
    Calls Tryz.prog 51 #[.string s, .int .i64 k, .int .i64 119, .int .i64 ((c : Int) + 1)] w fun e w' => Kept (fun _ => False) w w' ∧ e = .returned (ansW (Rw.wmv (rs s) k 119 (c + 1))) := by
  have cU := runes_yes s k w hT hm hk
  have hl := rs_len s
  have hsz := mayB_size hm
  have hr := rs_runey (mayB_valid hm)
  have hw := Rw.w119 (rs s) k (c + 1)
  unfold Rw.wmv
  rw [hw]
  obtain ⟨D, hD⟩ : ∃ D : Option Int, (if Rw.its (Rw.nx (Rw.stp (rs s) false false) (Rw.lst (rs s))) (c + 1) k = k then none else some ((Rw.its (Rw.nx (Rw.stp (rs s) false false) (Rw.lst (rs s))) (c + 1) k : Nat) : Int)) = D := ⟨_, rfl⟩
  rw [hD]
  have HD := Lib.hid hD
  clear hD
  generalize rs s = t at *
  obtain ⟨m, hmc⟩ := Rw.cel_pos t t.length
  have HMC := Lib.hid hmc
  have HR := Lib.hid hr
  clear hT hm hmc hr hw
  have b1 : decide ((c : Int) + 1 < 1) = false := by simp; omega
  have b2 : decide (999 < (c : Int) + 1) = false := by simp; omega
  go_enter Tryz.func51, Tryz.ntmps51
  go_wp2_with (first | (go_at_call 34; refine cU.mono ?_; rintro e w1 ⟨hk1, bb, cap, rfl, hbg, hR⟩; have HK1 := Lib.hid hk1; have HN := Lib.hid hR; clear cU hk1 hR hbg))
  refine (cells_any (some ⟨bb, 0, none⟩) t.length cap t false w1 HN.out HR.out (by omega)).mono ?_
  rintro e w2 ⟨hk2, g, cap2, rfl, hg, hC⟩
  have HK2 := Lib.hid (HK1.out.trans hk2)
  have HC := Lib.hid hC
  rw [HMC.out]
  clear hk2 hC hg HK1
  go_wp2_with fail
  refine (ahead_b g cap2 m k c t false w2 HMC.out HC.out (by omega) hk hc).mono ?_
  generalize Rw.its (Rw.nx (Rw.stp t false false) (Rw.lst t)) (c + 1) k = x at HD ⊢
  rintro e w3 ⟨rfl, hk3⟩
  have HK3 := Lib.hid (HK2.out.trans hk3)
  clear hk3
  by_cases hx : x = k
  · subst hx
    have HD2 : Hid (D = none) := by show _ = _; rw [← HD.out, if_pos rfl]
    go_wp2
    refine bodyPost_ret (v := .tuple #[.int .i64 0, .int .i64 6]) (by simp [results, Tryz.results51, go_sem]) rfl ⟨HK3.out, by rw [HD2.out]; rfl⟩
  · have HD2 : Hid (D = some (x : Int)) := by show _ = _; rw [← HD.out, if_neg hx]
    have e1 : ((x : Int) == (k : Int)) = false := by rw [beq_eq_false_iff_ne]; omega
    have e2 : (x == k) = false := by rw [beq_eq_false_iff_ne]; exact hx
    clear hx
    go_wp2
    refine bodyPost_ret (v := .tuple #[.int .i64 (x : Nat), .int .i64 0]) (by simp [results, Tryz.results51, go_sem]) rfl ⟨HK3.out, by rw [HD2.out]; rfl⟩
set_option maxRecDepth 100000 in
set_option maxHeartbeats 1000000 in
theorem wm87_any (s : ByteArray) (k c : Nat) (w : World) (hT : Tabs w) (hm : mayB s = true) (hk : k ≤ (rs s).length) (hc : c ≤ 998) :
    Calls Tryz.prog 51 #[.string s, .int .i64 k, .int .i64 87, .int .i64 ((c : Int) + 1)] w fun e w' => Kept (fun _ => False) w w' ∧ e = .returned (ansW (Rw.wmv (rs s) k 87 (c + 1))) := by
  have cU := runes_yes s k w hT hm hk
  have hl := rs_len s
  have hsz := mayB_size hm
  have hr := rs_runey (mayB_valid hm)
  have hw := Rw.w87 (rs s) k (c + 1)
  unfold Rw.wmv
  rw [hw]
  obtain ⟨D, hD⟩ : ∃ D : Option Int, (if Rw.its (Rw.nx (Rw.stp (rs s) true false) (Rw.lst (rs s))) (c + 1) k = k then none else some ((Rw.its (Rw.nx (Rw.stp (rs s) true false) (Rw.lst (rs s))) (c + 1) k : Nat) : Int)) = D := ⟨_, rfl⟩
  rw [hD]
  have HD := Lib.hid hD
  clear hD
  generalize rs s = t at *
  obtain ⟨m, hmc⟩ := Rw.cel_pos t t.length
  have HMC := Lib.hid hmc
  have HR := Lib.hid hr
  clear hT hm hmc hr hw
  have b1 : decide ((c : Int) + 1 < 1) = false := by simp; omega
  have b2 : decide (999 < (c : Int) + 1) = false := by simp; omega
  go_enter Tryz.func51, Tryz.ntmps51
  go_wp2_with (first | (go_at_call 34; refine cU.mono ?_; rintro e w1 ⟨hk1, bb, cap, rfl, hbg, hR⟩; have HK1 := Lib.hid hk1; have HN := Lib.hid hR; clear cU hk1 hR hbg))
  refine (cells_any (some ⟨bb, 0, none⟩) t.length cap t true w1 HN.out HR.out (by omega)).mono ?_
  rintro e w2 ⟨hk2, g, cap2, rfl, hg, hC⟩
  have HK2 := Lib.hid (HK1.out.trans hk2)
  have HC := Lib.hid hC
  rw [HMC.out]
  clear hk2 hC hg HK1
  go_wp2_with fail
  refine (ahead_b g cap2 m k c t true w2 HMC.out HC.out (by omega) hk hc).mono ?_
  generalize Rw.its (Rw.nx (Rw.stp t true false) (Rw.lst t)) (c + 1) k = x at HD ⊢
  rintro e w3 ⟨rfl, hk3⟩
  have HK3 := Lib.hid (HK2.out.trans hk3)
  clear hk3
  by_cases hx : x = k
  · subst hx
    have HD2 : Hid (D = none) := by show _ = _; rw [← HD.out, if_pos rfl]
    go_wp2
    refine bodyPost_ret (v := .tuple #[.int .i64 0, .int .i64 6]) (by simp [results, Tryz.results51, go_sem]) rfl ⟨HK3.out, by rw [HD2.out]; rfl⟩
  · have HD2 : Hid (D = some (x : Int)) := by show _ = _; rw [← HD.out, if_neg hx]
    have e1 : ((x : Int) == (k : Int)) = false := by rw [beq_eq_false_iff_ne]; omega
    have e2 : (x == k) = false := by rw [beq_eq_false_iff_ne]; exact hx
    clear hx
    go_wp2
    refine bodyPost_ret (v := .tuple #[.int .i64 (x : Nat), .int .i64 0]) (by simp [results, Tryz.results51, go_sem]) rfl ⟨HK3.out, by rw [HD2.out]; rfl⟩
set_option maxRecDepth 100000 in
set_option maxHeartbeats 1000000 in
theorem wm101_any (s : ByteArray) (k c : Nat) (w : World) (hT : Tabs w) (hm : mayB s = true) (hk : k ≤ (rs s).length) (hc : c ≤ 998) :
    Calls Tryz.prog 51 #[.string s, .int .i64 k, .int .i64 101, .int .i64 ((c : Int) + 1)] w fun e w' => Kept (fun _ => False) w w' ∧ e = .returned (ansW (Rw.wmv (rs s) k 101 (c + 1))) := by
  have cU := runes_yes s k w hT hm hk
  have hl := rs_len s
  have hsz := mayB_size hm
  have hr := rs_runey (mayB_valid hm)
  have hw := Rw.w101 (rs s) k (c + 1)
  unfold Rw.wmv
  rw [hw]
  obtain ⟨D, hD⟩ : ∃ D : Option Int, (if Rw.its (Rw.nx (Rw.stp (rs s) false true) (Rw.lst (rs s))) (c + 1) k = k then none else some ((Rw.its (Rw.nx (Rw.stp (rs s) false true) (Rw.lst (rs s))) (c + 1) k : Nat) : Int)) = D := ⟨_, rfl⟩
  rw [hD]
  have HD := Lib.hid hD
  clear hD
  generalize rs s = t at *
  obtain ⟨m, hmc⟩ := Rw.cel_pos t t.length
  have HMC := Lib.hid hmc
  have HR := Lib.hid hr
  clear hT hm hmc hr hw
  have b1 : decide ((c : Int) + 1 < 1) = false := by simp; omega
  have b2 : decide (999 < (c : Int) + 1) = false := by simp; omega
  go_enter Tryz.func51, Tryz.ntmps51
  go_wp2_with (first | (go_at_call 34; refine cU.mono ?_; rintro e w1 ⟨hk1, bb, cap, rfl, hbg, hR⟩; have HK1 := Lib.hid hk1; have HN := Lib.hid hR; clear cU hk1 hR hbg))
  refine (cells_any (some ⟨bb, 0, none⟩) t.length cap t false w1 HN.out HR.out (by omega)).mono ?_
  rintro e w2 ⟨hk2, g, cap2, rfl, hg, hC⟩
  have HK2 := Lib.hid (HK1.out.trans hk2)
  have HC := Lib.hid hC
  rw [HMC.out]
  clear hk2 hC hg HK1
  go_wp2_with fail
  refine (ahead_e g cap2 m k c t false w2 HMC.out HC.out (by omega) hk hc).mono ?_
  generalize Rw.its (Rw.nx (Rw.stp t false true) (Rw.lst t)) (c + 1) k = x at HD ⊢
  rintro e w3 ⟨rfl, hk3⟩
  have HK3 := Lib.hid (HK2.out.trans hk3)
  clear hk3
  by_cases hx : x = k
  · subst hx
    have HD2 : Hid (D = none) := by show _ = _; rw [← HD.out, if_pos rfl]
    go_wp2
    refine bodyPost_ret (v := .tuple #[.int .i64 0, .int .i64 6]) (by simp [results, Tryz.results51, go_sem]) rfl ⟨HK3.out, by rw [HD2.out]; rfl⟩
  · have HD2 : Hid (D = some (x : Int)) := by show _ = _; rw [← HD.out, if_neg hx]
    have e1 : ((x : Int) == (k : Int)) = false := by rw [beq_eq_false_iff_ne]; omega
    have e2 : (x == k) = false := by rw [beq_eq_false_iff_ne]; exact hx
    clear hx
    go_wp2
    refine bodyPost_ret (v := .tuple #[.int .i64 (x : Nat), .int .i64 0]) (by simp [results, Tryz.results51, go_sem]) rfl ⟨HK3.out, by rw [HD2.out]; rfl⟩
set_option maxRecDepth 100000 in
set_option maxHeartbeats 1000000 in
theorem wm69_any (s : ByteArray) (k c : Nat) (w : World) (hT : Tabs w) (hm : mayB s = true) (hk : k ≤ (rs s).length) (hc : c ≤ 998) :
    Calls Tryz.prog 51 #[.string s, .int .i64 k, .int .i64 69, .int .i64 ((c : Int) + 1)] w fun e w' => Kept (fun _ => False) w w' ∧ e = .returned (ansW (Rw.wmv (rs s) k 69 (c + 1))) := by
  have cU := runes_yes s k w hT hm hk
  have hl := rs_len s
  have hsz := mayB_size hm
  have hr := rs_runey (mayB_valid hm)
  have hw := Rw.w69 (rs s) k (c + 1)
  unfold Rw.wmv
  rw [hw]
  obtain ⟨D, hD⟩ : ∃ D : Option Int, (if Rw.its (Rw.nx (Rw.stp (rs s) true true) (Rw.lst (rs s))) (c + 1) k = k then none else some ((Rw.its (Rw.nx (Rw.stp (rs s) true true) (Rw.lst (rs s))) (c + 1) k : Nat) : Int)) = D := ⟨_, rfl⟩
  rw [hD]
  have HD := Lib.hid hD
  clear hD
  generalize rs s = t at *
  obtain ⟨m, hmc⟩ := Rw.cel_pos t t.length
  have HMC := Lib.hid hmc
  have HR := Lib.hid hr
  clear hT hm hmc hr hw
  have b1 : decide ((c : Int) + 1 < 1) = false := by simp; omega
  have b2 : decide (999 < (c : Int) + 1) = false := by simp; omega
  go_enter Tryz.func51, Tryz.ntmps51
  go_wp2_with (first | (go_at_call 34; refine cU.mono ?_; rintro e w1 ⟨hk1, bb, cap, rfl, hbg, hR⟩; have HK1 := Lib.hid hk1; have HN := Lib.hid hR; clear cU hk1 hR hbg))
  refine (cells_any (some ⟨bb, 0, none⟩) t.length cap t true w1 HN.out HR.out (by omega)).mono ?_
  rintro e w2 ⟨hk2, g, cap2, rfl, hg, hC⟩
  have HK2 := Lib.hid (HK1.out.trans hk2)
  have HC := Lib.hid hC
  rw [HMC.out]
  clear hk2 hC hg HK1
  go_wp2_with fail
  refine (ahead_e g cap2 m k c t true w2 HMC.out HC.out (by omega) hk hc).mono ?_
  generalize Rw.its (Rw.nx (Rw.stp t true true) (Rw.lst t)) (c + 1) k = x at HD ⊢
  rintro e w3 ⟨rfl, hk3⟩
  have HK3 := Lib.hid (HK2.out.trans hk3)
  clear hk3
  by_cases hx : x = k
  · subst hx
    have HD2 : Hid (D = none) := by show _ = _; rw [← HD.out, if_pos rfl]
    go_wp2
    refine bodyPost_ret (v := .tuple #[.int .i64 0, .int .i64 6]) (by simp [results, Tryz.results51, go_sem]) rfl ⟨HK3.out, by rw [HD2.out]; rfl⟩
  · have HD2 : Hid (D = some (x : Int)) := by show _ = _; rw [← HD.out, if_neg hx]
    have e1 : ((x : Int) == (k : Int)) = false := by rw [beq_eq_false_iff_ne]; omega
    have e2 : (x == k) = false := by rw [beq_eq_false_iff_ne]; exact hx
    clear hx
    go_wp2
    refine bodyPost_ret (v := .tuple #[.int .i64 (x : Nat), .int .i64 0]) (by simp [results, Tryz.results51, go_sem]) rfl ⟨HK3.out, by rw [HD2.out]; rfl⟩
set_option maxRecDepth 100000 in
set_option maxHeartbeats 1000000 in
theorem wm98_any (s : ByteArray) (k c : Nat) (w : World) (hT : Tabs w) (hm : mayB s = true) (hk : k ≤ (rs s).length) (hc : c ≤ 998) :
    Calls Tryz.prog 51 #[.string s, .int .i64 k, .int .i64 98, .int .i64 ((c : Int) + 1)] w fun e w' => Kept (fun _ => False) w w' ∧ e = .returned (ansW (Rw.wmv (rs s) k 98 (c + 1))) := by
  have cU := runes_yes s k w hT hm hk
  have hl := rs_len s
  have hsz := mayB_size hm
  have hr := rs_runey (mayB_valid hm)
  have hw := Rw.w98 (rs s) k (c + 1)
  unfold Rw.wmv
  rw [hw]
  obtain ⟨D, hD⟩ : ∃ D : Option Int, (if Rw.its (Rw.pv (Rw.stp (rs s) false false)) (c + 1) k = k then none else some ((Rw.its (Rw.pv (Rw.stp (rs s) false false)) (c + 1) k : Nat) : Int)) = D := ⟨_, rfl⟩
  rw [hD]
  have HD := Lib.hid hD
  clear hD
  generalize rs s = t at *
  obtain ⟨m, hmc⟩ := Rw.cel_pos t t.length
  have HMC := Lib.hid hmc
  have HR := Lib.hid hr
  clear hT hm hmc hr hw
  have b1 : decide ((c : Int) + 1 < 1) = false := by simp; omega
  have b2 : decide (999 < (c : Int) + 1) = false := by simp; omega
  go_enter Tryz.func51, Tryz.ntmps51
  go_wp2_with (first | (go_at_call 34; refine cU.mono ?_; rintro e w1 ⟨hk1, bb, cap, rfl, hbg, hR⟩; have HK1 := Lib.hid hk1; have HN := Lib.hid hR; clear cU hk1 hR hbg))
  refine (cells_any (some ⟨bb, 0, none⟩) t.length cap t false w1 HN.out HR.out (by omega)).mono ?_
  rintro e w2 ⟨hk2, g, cap2, rfl, hg, hC⟩
  have HK2 := Lib.hid (HK1.out.trans hk2)
  have HC := Lib.hid hC
  rw [HMC.out]
  clear hk2 hC hg HK1
  go_wp2_with fail
  refine (back_any g cap2 m k c t false w2 HMC.out HC.out (by omega) hk hc).mono ?_
  generalize Rw.its (Rw.pv (Rw.stp t false false)) (c + 1) k = x at HD ⊢
  rintro e w3 ⟨rfl, hk3⟩
  have HK3 := Lib.hid (HK2.out.trans hk3)
  clear hk3
  by_cases hx : x = k
  · subst hx
    have HD2 : Hid (D = none) := by show _ = _; rw [← HD.out, if_pos rfl]
    go_wp2
    refine bodyPost_ret (v := .tuple #[.int .i64 0, .int .i64 6]) (by simp [results, Tryz.results51, go_sem]) rfl ⟨HK3.out, by rw [HD2.out]; rfl⟩
  · have HD2 : Hid (D = some (x : Int)) := by show _ = _; rw [← HD.out, if_neg hx]
    have e1 : ((x : Int) == (k : Int)) = false := by rw [beq_eq_false_iff_ne]; omega
    have e2 : (x == k) = false := by rw [beq_eq_false_iff_ne]; exact hx
    clear hx
    go_wp2
    refine bodyPost_ret (v := .tuple #[.int .i64 (x : Nat), .int .i64 0]) (by simp [results, Tryz.results51, go_sem]) rfl ⟨HK3.out, by rw [HD2.out]; rfl⟩
set_option maxRecDepth 100000 in
set_option maxHeartbeats 1000000 in
theorem wm66_any (s : ByteArray) (k c : Nat) (w : World) (hT : Tabs w) (hm : mayB s = true) (hk : k ≤ (rs s).length) (hc : c ≤ 998) :
    Calls Tryz.prog 51 #[.string s, .int .i64 k, .int .i64 66, .int .i64 ((c : Int) + 1)] w fun e w' => Kept (fun _ => False) w w' ∧ e = .returned (ansW (Rw.wmv (rs s) k 66 (c + 1))) := by
  have cU := runes_yes s k w hT hm hk
  have hl := rs_len s
  have hsz := mayB_size hm
  have hr := rs_runey (mayB_valid hm)
  have hw := Rw.w66 (rs s) k (c + 1)
  unfold Rw.wmv
  rw [hw]
  obtain ⟨D, hD⟩ : ∃ D : Option Int, (if Rw.its (Rw.pv (Rw.stp (rs s) true false)) (c + 1) k = k then none else some ((Rw.its (Rw.pv (Rw.stp (rs s) true false)) (c + 1) k : Nat) : Int)) = D := ⟨_, rfl⟩
  rw [hD]
  have HD := Lib.hid hD
  clear hD
  generalize rs s = t at *
  obtain ⟨m, hmc⟩ := Rw.cel_pos t t.length
  have HMC := Lib.hid hmc
  have HR := Lib.hid hr
  clear hT hm hmc hr hw
  have b1 : decide ((c : Int) + 1 < 1) = false := by simp; omega
  have b2 : decide (999 < (c : Int) + 1) = false := by simp; omega
  go_enter Tryz.func51, Tryz.ntmps51
  go_wp2_with (first | (go_at_call 34; refine cU.mono ?_; rintro e w1 ⟨hk1, bb, cap, rfl, hbg, hR⟩; have HK1 := Lib.hid hk1; have HN := Lib.hid hR; clear cU hk1 hR hbg))
  refine (cells_any (some ⟨bb, 0, none⟩) t.length cap t true w1 HN.out HR.out (by omega)).mono ?_
  rintro e w2 ⟨hk2, g, cap2, rfl, hg, hC⟩
  have HK2 := Lib.hid (HK1.out.trans hk2)
  have HC := Lib.hid hC
  rw [HMC.out]
  clear hk2 hC hg HK1
  go_wp2_with fail
  refine (back_any g cap2 m k c t true w2 HMC.out HC.out (by omega) hk hc).mono ?_
  generalize Rw.its (Rw.pv (Rw.stp t true false)) (c + 1) k = x at HD ⊢
  rintro e w3 ⟨rfl, hk3⟩
  have HK3 := Lib.hid (HK2.out.trans hk3)
  clear hk3
  by_cases hx : x = k
  · subst hx
    have HD2 : Hid (D = none) := by show _ = _; rw [← HD.out, if_pos rfl]
    go_wp2
    refine bodyPost_ret (v := .tuple #[.int .i64 0, .int .i64 6]) (by simp [results, Tryz.results51, go_sem]) rfl ⟨HK3.out, by rw [HD2.out]; rfl⟩
  · have HD2 : Hid (D = some (x : Int)) := by show _ = _; rw [← HD.out, if_neg hx]
    have e1 : ((x : Int) == (k : Int)) = false := by rw [beq_eq_false_iff_ne]; omega
    have e2 : (x == k) = false := by rw [beq_eq_false_iff_ne]; exact hx
    clear hx
    go_wp2
    refine bodyPost_ret (v := .tuple #[.int .i64 (x : Nat), .int .i64 0]) (by simp [results, Tryz.results51, go_sem]) rfl ⟨HK3.out, by rw [HD2.out]; rfl⟩
end Go.Proofs.YtbofjefblhnkoaaGreatDoor
