/-
  THE MATES OF ALL RUNES, of the program: by stacks of its own.
-/
import Derived.Test.YtohmhjeimeilcaaDoorPkX
import Derived.Test.YtohmhjeimeilcaaDoorPkM
import Derived.Test.YtohmhjeimeilcaaDoorObC
import Derived.Laws.MakeOwn
set_option linter.unusedVariables false
namespace Go.Proofs.YtohmhjeimeilcaaDoor
open Go Go.RowKit

/-- Runes that may be. -/
def Vald (t : List Int) : Prop := ∀ r ∈ t, Utf8.valid r = true
theorem vald_rs {s : ByteArray} (h : mayB s = true) : Vald (rs s) := Utf.valid_runes (mayB_valid h)
theorem Vald.runey {t : List Int} (h : Vald t) : Runey t := fun r hr => by have := Utf.int_valid (h r hr); omega
theorem asc3 : ∀ x ∈ (⟨#[40, 91, 123]⟩ : ByteArray).data.toList, x.toNat < 128 := by decide
theorem asc3' : ∀ x ∈ (⟨#[41, 93, 125]⟩ : ByteArray).data.toList, x.toNat < 128 := by decide
theorem asc6 : ∀ x ∈ (⟨#[40, 91, 123, 41, 93, 125]⟩ : ByteArray).data.toList, x.toNat < 128 := by decide
set_option maxRecDepth 100000 in
theorem fin_o : ∀ n, n < 128 → Lib.indexByte (⟨#[40, 91, 123]⟩ : ByteArray).data.toList (n : Nat).toUInt8 = oI (Rw.kdo (n : Nat)) := by decide
set_option maxRecDepth 100000 in
theorem fin_s : ∀ n, n < 128 → Lib.indexByte (⟨#[41, 93, 125]⟩ : ByteArray).data.toList (n : Nat).toUInt8 = oI (Rw.kds (n : Nat)) := by decide
set_option maxRecDepth 100000 in
theorem fin_b : ∀ n, n < 128 → decide (0 ≤ Lib.indexByte (⟨#[40, 91, 123, 41, 93, 125]⟩ : ByteArray).data.toList (n : Nat).toUInt8) = Rw.isBr (n : Nat) := by decide
theorem kd_far {c : Int} (h : 128 ≤ c) : Rw.kdo c = none ∧ Rw.kds c = none := by
  unfold Rw.kdo Rw.kds
  constructor
  · rw [if_neg (by omega), if_neg (by omega), if_neg (by omega)]
  · rw [if_neg (by omega), if_neg (by omega), if_neg (by omega)]
theorem idxr_asc (s : ByteArray) (c : Nat) (h : c < 128) (w : World) : Calls Tryd.prog 51 #[.string s, .int .i32 (c : Int)] w fun e w' => e = .returned (.int .i64 (Lib.indexByte s.data.toList c.toUInt8)) ∧ Kept (fun _ => False) w w' :=
  (Any.strings_IndexRune_ascii Tryd.lays152 s (c : Int) w (by omega) (by omega)).mono fun e w' ⟨h1, h2⟩ => ⟨by rw [h1, Int.toNat_natCast], by rw [h2]; exact Kept.refl _ _⟩
theorem idxr_out (s : ByteArray) (hs : ∀ x ∈ s.data.toList, x.toNat < 128) (hz : s.size ≤ 100) (c : Int) (h1 : 128 ≤ c) (hv : Utf8.valid c = true) (w : World) :
    Calls Tryd.prog 51 #[.string s, .int .i32 c] w fun e w' => e = .returned (.int .i64 (-1)) ∧ Kept (fun _ => False) w w' := by
  by_cases h2 : c = 65533
  · subst h2; exact idxr_err s hs hz w
  · exact idxr_far s hs hz c h1 h2 hv w
theorem idxo_any (c : Int) (hv : Utf8.valid c = true) (w : World) : Calls Tryd.prog 51 #[.string ⟨#[40, 91, 123]⟩, .int .i32 c] w fun e w' => e = .returned (.int .i64 (oI (Rw.kdo c))) ∧ Kept (fun _ => False) w w' := by
  have hc := Utf.int_valid hv
  by_cases h : c < 128
  · obtain ⟨n, rfl⟩ := Int.eq_ofNat_of_zero_le (show 0 ≤ c by omega)
    rw [← fin_o n (by omega)]
    exact idxr_asc _ n (by omega) w
  · rw [(kd_far (show 128 ≤ c by omega)).1]
    exact idxr_out _ asc3 (by decide) c (by omega) hv w
theorem idxs_any (c : Int) (hv : Utf8.valid c = true) (w : World) : Calls Tryd.prog 51 #[.string ⟨#[41, 93, 125]⟩, .int .i32 c] w fun e w' => e = .returned (.int .i64 (oI (Rw.kds c))) ∧ Kept (fun _ => False) w w' := by
  have hc := Utf.int_valid hv
  by_cases h : c < 128
  · obtain ⟨n, rfl⟩ := Int.eq_ofNat_of_zero_le (show 0 ≤ c by omega)
    rw [← fin_s n (by omega)]
    exact idxr_asc _ n (by omega) w
  · rw [(kd_far (show 128 ≤ c by omega)).2]
    exact idxr_out _ asc3' (by decide) c (by omega) hv w
theorem isBr_any (c : Int) (hv : Utf8.valid c = true) (w : World) : Calls Tryd.prog 36 #[.string ⟨#[40, 91, 123, 41, 93, 125]⟩, .int .i32 c] w fun e w' => e = .returned (.bool (Rw.isBr c)) ∧ Kept (fun _ => False) w w' := by
  have hc := Utf.int_valid hv
  have hI : ∃ r : Int, decide (0 ≤ r) = Rw.isBr c ∧ ∀ W, Calls Tryd.prog 51 #[.string ⟨#[40, 91, 123, 41, 93, 125]⟩, .int .i32 c] W fun e w' => e = .returned (.int .i64 r) ∧ Kept (fun _ => False) W w' := by
    by_cases h : c < 128
    · obtain ⟨n, rfl⟩ := Int.eq_ofNat_of_zero_le (show 0 ≤ c by omega)
      exact ⟨_, fin_b n (by omega), fun W => idxr_asc _ n (by omega) W⟩
    · obtain ⟨h1, h2⟩ := kd_far (show 128 ≤ c by omega)
      exact ⟨-1, by simp [Rw.isBr, h1, h2], fun W => idxr_out _ asc6 (by decide) c (by omega) hv W⟩
  obtain ⟨r, hr, cI⟩ := hI
  have HR := Lib.hid hr
  clear hr hc hv
  go_enter Tryd.func36, Tryd.ntmps36
  go_wp2_with (go_at_call 51; refine (cI _).mono ?_; rintro e w1 ⟨rfl, hk1⟩)
  go_ret
  rw [← HR.out]
  exact ⟨rfl, hk1⟩
/-- A block of one's own that holds numbers. -/
structure OwnN (w : World) (g n : Nat) (t : List Int) : Prop where
  nums : Nums w (some ⟨g, 0, none⟩) n t
  blk : ∃ (cs : Array Value) (ty : TypeId), w.heap[g]? = some (.cells cs ty (0, 0))
theorem Nums.set {w : World} {g n : Nat} {t : List Int} (h : Nums w (some ⟨g, 0, none⟩) n t) {k : Nat} (hk : k < n) (v : Int) : Nums (w.setCell ⟨g, k, none⟩ (.int .i64 v)) (some ⟨g, 0, none⟩) n (t.set k v) := by
  refine ⟨by rw [List.length_set]; exact h.1, fun j x hj => ⟨_, rfl, ?_⟩⟩
  rw [addr_add, Nat.zero_add]
  have hl := h.1
  by_cases e : k = j
  · subst e
    rw [List.getElem?_set_self (by omega)] at hj
    injection hj with hj
    subst hj
    obtain ⟨ad, y, e1, hy, hc⟩ := h.cell hk
    injection e1 with e1
    subst e1
    rw [addr_add, Nat.zero_add] at hc
    exact World.cell?_setCell_same _ _ _ hc
  · rw [List.getElem?_set_ne e] at hj
    obtain ⟨ad, e1, hc⟩ := h.2 j x hj
    injection e1 with e1
    subst e1
    rw [addr_add, Nat.zero_add] at hc
    rw [World.cell?_setCell_other]
    · exact hc
    · intro e2
      injection e2 with _ e2
      exact e e2
theorem OwnN.set {w : World} {g n : Nat} {t : List Int} (h : OwnN w g n t) {k : Nat} (hk : k < n) (v : Int) : OwnN (w.setCell ⟨g, k, none⟩ (.int .i64 v)) g n (t.set k v) := by
  obtain ⟨cs, ty, hb⟩ := h.blk
  exact ⟨h.nums.set hk v, _, ty, heap_set hb _⟩
theorem OwnN.free {w : World} {g n : Nat} {t : List Int} (h : OwnN w g n t) (i : Nat) : w.frozen? ⟨g, i, none⟩ = false := by
  obtain ⟨cs, ty, hb⟩ := h.blk
  exact frozen_of hb
theorem OwnN.cell {w : World} {g n : Nat} {t : List Int} (h : OwnN w g n t) {k : Nat} {x : Int} (hk : t[k]? = some x) : w.cell? ⟨g, k, none⟩ = some (.int .i64 x) := by
  obtain ⟨ad, e1, hc⟩ := h.nums.2 k x hk
  injection e1 with e1
  subst e1
  rw [addr_add, Nat.zero_add] at hc
  exact hc
theorem OwnN.any {w : World} {g n : Nat} {t : List Int} (h : OwnN w g n t) {k : Nat} (hk : k < n) : ∃ x, t[k]? = some x ∧ w.cell? ⟨g, k, none⟩ = some (.int .i64 x) := by
  have hl := h.nums.1
  exact ⟨_, List.getElem?_eq_getElem (by omega), h.cell (List.getElem?_eq_getElem (by omega))⟩
theorem OwnN.kept {S : Nat → Prop} {w w' : World} {g n : Nat} {t : List Int} (h : OwnN w g n t) (hk : Kept S w w') (hs : ¬ S g) : OwnN w' g n t := by
  obtain ⟨cs, ty, hb⟩ := h.blk
  exact ⟨h.nums.kept hk (fun a e => by injection e with e; subst e; exact hs), cs, ty, (hk.block g (heap_lt hb) hs).trans hb⟩
theorem repl_get {n j : Nat} {x : Int} (h : (List.replicate n (0 : Int))[j]? = some x) : j < n ∧ x = 0 := by
  rw [List.getElem?_replicate] at h
  by_cases hj : j < n
  · rw [if_pos hj] at h
    exact ⟨hj, (Option.some.inj h).symm⟩
  · rw [if_neg hj] at h
    exact absurd h (by simp)
/-- So many numbers, made anew. -/
theorem make_ints (n : Nat) (w : World) (hn : n ≤ 100000) : ∃ w', (Instr.makeSlice 38 (.int .i64 n) (.int .i64 n)).run Tryd.prog w = .ok (.slice (some ⟨w.heap.size, 0, none⟩) n n) w' ∧ Kept (fun _ => False) w w' ∧ w'.heap.size = w.heap.size + 1 ∧
    OwnN w' w.heap.size n (List.replicate n 0) := by
  obtain ⟨i0, hi, hz0, hz1, hz2⟩ := info_parts info_int
  have hr := run_make (P := Tryd.prog) w 38 3 i0 _ Tryd.underlying38 hi hz0 .i64 .i64 n n (by omega) (by omega) (by rw [hz2]; omega) (by omega)
  rw [hz1, Nat.mul_one, Int.toNat_natCast] at hr
  refine ⟨_, hr, (Kept.refl _ w).alloc _, by simp, ⟨by simp, fun j x hj => ⟨_, rfl, ?_⟩⟩, _, _, heap_alloc_new w _⟩
  rw [addr_add, cell_of_row _ _ _ _ _ _ (heap_alloc_new w _)]
  obtain ⟨h, rfl⟩ := repl_get hj
  simp [madeCells, Value.cells, h, Nat.mod_one]
/-- What is owned is kept. -/
theorem ownsRow_kept {S : Nat → Prop} {w w' : World} {B : Nat} {e : TypeId} {sz n : Nat} {v : Value} {xs : List Value} (h : w.ownsRow B e sz v n xs) (hk : Kept S w w') (hs : ∀ g, v.ownBlock = some g → ¬ S g) : w'.ownsRow B e sz v n xs := by
  refine ⟨h.1, ?_⟩
  rcases h.2 with hn | ⟨g, cap, cur, rfl, hb, hgg, rest⟩
  · exact .inl hn
  · exact .inr ⟨g, cap, cur, rfl, hb, (hk.block g (Array.getElem?_eq_some_iff.1 hgg).1 (hs g rfl)).trans hgg, rest⟩
/-- One less. -/
theorem ownsRow_pop {w : World} {B m c : Nat} {e : TypeId} {A : Option Addr} {xs : List Value} {x : Value} (h : w.ownsRow B e 1 (.slice A (m + 1) c) (m + 1) (xs ++ [x])) : w.ownsRow B e 1 (.slice A m c) m xs := by
  have h1 := h.1
  simp at h1
  refine ⟨by simpa using h1, ?_⟩
  rcases h.2 with ⟨_, hn⟩ | ⟨g, cap, cur, e1, hb, hgg, hnc, hcm, hcs, ht⟩
  · omega
  · injection e1 with e1 e2 e3
    subst e1 e3
    refine .inr ⟨g, c, cur, rfl, hb, hgg, by omega, hcm, hcs, ?_⟩
    have := congrArg (List.take m) ht
    rw [List.take_take, show min m ((m + 1) * 1) = m by omega, List.take_append_of_le_length (by omega), List.take_of_length_le (l := xs) (by omega)] at this
    rw [Nat.mul_one]
    exact this
def upd {α : Type} (f : Nat → α) (k : Nat) (v : α) : Nat → α := fun j => if j = k then v else f j
theorem upd_same {α : Type} (f : Nat → α) (k : Nat) (v : α) : upd f k v k = v := by simp [upd]
theorem upd_other {α : Type} (f : Nat → α) {k j : Nat} (v : α) (h : j ≠ k) : upd f k v j = f j := by simp [upd, h]
/-- Three stacks of one's own, in a block. -/
structure Stk3 (w : World) (B ob : Nat) (X : Nat → List Int) (s : Nat → Value) : Prop where
  blk : ∃ (cs : Array Value) (ty : TypeId), w.heap[ob]? = some (.cells cs ty (0, 0))
  cell : ∀ k, k < 3 → w.cell? ⟨ob, k, none⟩ = some (s k)
  own : ∀ k, k < 3 → w.ownsRow B 3 1 (s k) (X k).length ((X k).map (Value.int .i64))
  apart : ∀ a b, a < 3 → b < 3 → a ≠ b → (s a).ownBlock = none ∨ (s a).ownBlock ≠ (s b).ownBlock
  lt : ob < B
theorem Stk3.free {w : World} {B ob : Nat} {X : Nat → List Int} {s : Nat → Value} (h : Stk3 w B ob X s) (i : Nat) : w.frozen? ⟨ob, i, none⟩ = false := by
  obtain ⟨cs, ty, hb⟩ := h.blk
  exact frozen_of hb
theorem Stk3.kept {S : Nat → Prop} {w w' : World} {B ob : Nat} {X : Nat → List Int} {s : Nat → Value} (h : Stk3 w B ob X s) (hk : Kept S w w') (hs : ∀ b, S b → b < B ∧ b ≠ ob) : Stk3 w' B ob X s := by
  obtain ⟨cs, ty, hb⟩ := h.blk
  have ho : ¬ S ob := fun e => (hs ob e).2 rfl
  exact ⟨⟨cs, ty, (hk.block ob (heap_lt hb) ho).trans hb⟩, fun k hk3 => cell_kept hk (h.cell k hk3) ho, fun k hk3 => ownsRow_kept (h.own k hk3) hk (fun g hg e => by have := ((h.own k hk3).lt g hg).1; have := (hs g e).1; omega), h.apart, h.lt⟩
theorem Stk3.congr {w : World} {B ob : Nat} {X Y : Nat → List Int} {s : Nat → Value} (h : Stk3 w B ob X s) (e : ∀ k, k < 3 → X k = Y k) : Stk3 w B ob Y s :=
  ⟨h.blk, h.cell, fun k hk => by rw [← e k hk]; exact h.own k hk, h.apart, h.lt⟩
theorem Stk3.form {w : World} {B ob : Nat} {X : Nat → List Int} {s : Nat → Value} (h : Stk3 w B ob X s) {k : Nat} (hk : k < 3) : ∃ A c, s k = .slice A (X k).length c ∧ (X k).length ≤ c ∧ (0 < (X k).length → ∃ g, A = some ⟨g, 0, none⟩ ∧ ∀ j x, (X k)[j]? = some x → w.cell? ⟨g, j, none⟩ = some (.int .i64 x)) := by
  have ho := h.own k hk
  rcases ho.2 with ⟨e, hn⟩ | ⟨g, cap, cur, e, hb, hgg, hnc, hcm, hcs, ht⟩
  · exact ⟨none, 0, by rw [e, hn], by omega, fun h => by omega⟩
  · refine ⟨_, cap, e, hnc, fun _ => ⟨g, rfl, fun j x hx => ?_⟩⟩
    have := ho.cells (g := g) (by rw [e]; rfl) j (.int .i64 x) (by rw [List.getElem?_map, hx]; rfl)
    rwa [addr_add, Nat.zero_add] at this
theorem Stk3.pop {w : World} {B ob : Nat} {X : Nat → List Int} {s : Nat → Value} (h : Stk3 w B ob X s) {k : Nat} (hk : k < 3) {A : Option Addr} {m c : Nat} {ys : List Int} {x : Int} (hs : s k = .slice A (m + 1) c) (hx : X k = ys ++ [x]) (hm : ys.length = m) :
    Stk3 (w.setCell ⟨ob, k, none⟩ (.slice A m c)) B ob (upd X k ys) (upd s k (.slice A m c)) := by
  have hkp : Kept (fun b => b = ob) w (w.setCell ⟨ob, k, none⟩ (.slice A m c)) := (Kept.refl (fun b => b = ob) w).setCell (p := ⟨ob, k, none⟩) rfl _
  have hob : ∀ j, j < 3 → ∀ g, (s j).ownBlock = some g → ¬ (g = ob) := fun j hj g hg e => by have := ((h.own j hj).lt g hg).1; have := h.lt; omega
  obtain ⟨cs, ty, hb⟩ := h.blk
  have hbk : (Value.slice A m c).ownBlock = (s k).ownBlock := by rw [hs]; cases A <;> rfl
  refine ⟨⟨_, ty, heap_set hb _⟩, fun j hj => ?_, fun j hj => ?_, fun a b ha hb' hab => ?_, h.lt⟩
  · by_cases e : j = k
    · subst e; rw [upd_same]; exact World.cell?_setCell_same _ _ _ (h.cell j hj)
    · rw [upd_other _ _ e, World.cell?_setCell_other]
      · exact h.cell j hj
      · intro e2; injection e2 with _ e2; exact e e2.symm
  · by_cases e : j = k
    · subst e
      rw [upd_same, upd_same, hm]
      have ho := h.own j hj
      rw [hs, hx, List.map_append, List.length_append, hm] at ho
      exact ownsRow_kept (ownsRow_pop ho) hkp (fun g hg => hob j hj g (by rw [← hbk]; exact hg))
    · rw [upd_other _ _ e, upd_other _ _ e]
      exact ownsRow_kept (h.own j hj) hkp (hob j hj)
  · by_cases e1 : a = k
    · subst e1
      rw [upd_same, upd_other _ _ (fun e => hab e.symm), hbk]
      exact h.apart a b ha hb' hab
    · rw [upd_other _ _ e1]
      by_cases e2 : b = k
      · subst e2; rw [upd_same, hbk]; exact h.apart a b ha hb' hab
      · rw [upd_other _ _ e2]; exact h.apart a b ha hb' hab
/-- Behind an append to one of them, ahead of the store. -/
theorem Stk3.mid {w w1 : World} {B ob : Nat} {X : Nat → List Int} {s : Nat → Value} {o : Obj} (h : Stk3 w B ob X s) {k : Nat} (hk : k < 3) (hg : (w.alloc o).grownBy w1 (s k).ownBlock) : w1.cell? ⟨ob, k, none⟩ = some (s k) ∧ w1.frozen? ⟨ob, k, none⟩ = false := by
  obtain ⟨cs, ty, hb⟩ := h.blk
  have hlt := heap_lt hb
  have hne : some ob ≠ (s k).ownBlock := fun e => by have := ((h.own k hk).lt ob e.symm).1; have := h.lt; omega
  have hbb : w1.heap[ob]? = w.heap[ob]? := (hg.block ob (by simp; omega) hne).trans (heap_alloc_old w o hlt)
  exact ⟨(World.cell?_of_block hbb).trans (h.cell k hk), frozen_of (hbb.trans hb)⟩
theorem Stk3.push {w w1 : World} {B ob : Nat} {X : Nat → List Int} {s : Nat → Value} {o : Obj} (h : Stk3 w B ob X s) {k : Nat} (hk : k < 3) {x : Int} {v : Value} (hg : (w.alloc o).grownBy w1 (s k).ownBlock)
    (hown : w1.ownsRow B 3 1 v ((X k).length + 1) ((X k).map (Value.int .i64) ++ [.int .i64 x])) (hat : v.ownBlock = (s k).ownBlock ∨ v.ownBlock = some (w.alloc o).heap.size) :
    Stk3 (w1.setCell ⟨ob, k, none⟩ v) B ob (upd X k (X k ++ [x])) (upd s k v) := by
  obtain ⟨cs, ty, hb⟩ := h.blk
  have hlt := heap_lt hb
  have hne : some ob ≠ (s k).ownBlock := fun e => by have := ((h.own k hk).lt ob e.symm).1; have := h.lt; omega
  have hbb : w1.heap[ob]? = w.heap[ob]? := (hg.block ob (by simp; omega) hne).trans (heap_alloc_old w o hlt)
  have hkp : Kept (fun b => b = ob) w1 (w1.setCell ⟨ob, k, none⟩ v) := (Kept.refl (fun b => b = ob) w1).setCell (p := ⟨ob, k, none⟩) rfl _
  have hcell : ∀ j, j < 3 → w1.cell? ⟨ob, j, none⟩ = some (s j) := fun j hj => (World.cell?_of_block hbb).trans (h.cell j hj)
  refine ⟨⟨_, ty, heap_set (hbb.trans hb) _⟩, fun j hj => ?_, fun j hj => ?_, fun a b ha hb' hab => ?_, h.lt⟩
  · by_cases e : j = k
    · subst e; rw [upd_same]; exact World.cell?_setCell_same _ _ _ (hcell j hj)
    · rw [upd_other _ _ e, World.cell?_setCell_other]
      · exact hcell j hj
      · intro e2; injection e2 with _ e2; exact e e2.symm
  · by_cases e : j = k
    · subst e
      rw [upd_same, upd_same, List.map_append, List.length_append]
      exact ownsRow_kept hown hkp (fun g hg' e => by have := (hown.lt g hg').1; have := h.lt; omega)
    · rw [upd_other _ _ e, upd_other _ _ e]
      have h1 := ((h.own j hj).alloc o).kept hg (by rcases h.apart j k hj hk e with h | h; exact .inl h; exact .inr h)
      exact ownsRow_kept h1 hkp (fun g hg' e => by have := (h1.lt g hg').1; have := h.lt; omega)
  · have hnew : ∀ j, j < 3 → j ≠ k → (s j).ownBlock = none ∨ (s j).ownBlock ≠ v.ownBlock := fun j hj hjk => by
      rcases hat with e | e
      · rw [e]; exact h.apart j k hj hk hjk
      · rw [e]
        cases hs : (s j).ownBlock with
        | none => exact .inl rfl
        | some g =>
          right
          intro e2
          injection e2 with e2
          have := ((h.own j hj).lt g hs).2
          simp at e2
          omega
    by_cases e1 : a = k
    · subst e1
      rw [upd_same, upd_other _ _ (fun e => hab e.symm)]
      rcases hnew b hb' (fun e => hab e.symm) with h1 | h1
      · rw [h1]
        cases hv : v.ownBlock with
        | none => exact .inl rfl
        | some g => right; intro e; cases e
      · exact .inr fun e => h1 e.symm
    · rw [upd_other _ _ e1]
      by_cases e2 : b = k
      · subst e2; rw [upd_same]; exact hnew a ha e1
      · rw [upd_other _ _ e2]; exact h.apart a b ha hb' hab
/-- The stacks as lists of numbers, the last one behind. -/
def XS (t : List Int) (i k : Nat) : List Int := (Rw.stk t k i).reverse.map fun (j : Nat) => (j : Int)
theorem XS_len (t : List Int) (i k : Nat) : (XS t i k).length ≤ i := by unfold XS; rw [List.length_map, List.length_reverse]; exact Rw.stk_len t k i
theorem XS_open {t : List Int} {i k : Nat} (hk : k < 3) (h : t[i]? = some (Rw.opn k)) : ∀ j, j < 3 → upd (XS t i) k (XS t i k ++ [(i : Int)]) j = XS t (i + 1) j := by
  intro j hj
  by_cases e : j = k
  · subst e
    rw [upd_same]
    unfold XS
    rw [Rw.stk_open h, List.reverse_cons, List.map_append]
    rfl
  · rw [upd_other _ _ e]
    unfold XS
    rw [Rw.stk_else (by rw [h]; intro e2; injection e2 with e2; exact e (Rw.opn_inj hk hj e2).symm) (by rw [h]; intro e2; injection e2 with e2; exact Rw.opn_sht k j e2)]
theorem XS_shut {t : List Int} {i k p : Nat} {l : List Nat} (hk : k < 3) (h : t[i]? = some (Rw.sht k)) (hs : Rw.stk t k i = p :: l) : XS t i k = (l.reverse.map fun (j : Nat) => (j : Int)) ++ [(p : Int)] ∧ ∀ j, j < 3 → upd (XS t i) k (l.reverse.map fun (j : Nat) => (j : Int)) j = XS t (i + 1) j := by
  refine ⟨?_, fun j hj => ?_⟩
  · unfold XS
    rw [hs, List.reverse_cons, List.map_append]
    rfl
  · by_cases e : j = k
    · subst e
      rw [upd_same]
      unfold XS
      rw [Rw.stk_shut h, hs]
      rfl
    · rw [upd_other _ _ e]
      unfold XS
      rw [Rw.stk_else (by rw [h]; intro e2; injection e2 with e2; exact Rw.opn_sht j k e2.symm) (by rw [h]; intro e2; injection e2 with e2; exact e (Rw.sht_inj hk hj e2).symm)]
theorem XS_empty {t : List Int} {i k : Nat} (hk : k < 3) (h : t[i]? = some (Rw.sht k)) (hs : Rw.stk t k i = []) : ∀ j, j < 3 → XS t i j = XS t (i + 1) j := by
  intro j hj
  by_cases e : j = k
  · subst e
    unfold XS
    rw [Rw.stk_shut h, hs]
    rfl
  · unfold XS
    rw [Rw.stk_else (by rw [h]; intro e2; injection e2 with e2; exact Rw.opn_sht j k e2.symm) (by rw [h]; intro e2; injection e2 with e2; exact e (Rw.sht_inj hk hj e2).symm)]
theorem XS_none {t : List Int} {i : Nat} {c : Int} (h : t[i]? = some c) (h1 : Rw.kdo c = none) (h2 : Rw.kds c = none) : ∀ j, j < 3 → XS t i j = XS t (i + 1) j := by
  intro j hj
  unfold XS
  rw [Rw.stk_else (by rw [h]; intro e2; injection e2 with e2; exact Rw.kdo_none h1 j e2) (by rw [h]; intro e2; injection e2 with e2; exact Rw.kds_none h2 j e2)]
end Go.Proofs.YtohmhjeimeilcaaDoor
