/-
  THE PROGRAM's small ones: rest, between, first, spotOf (change).
  THE PROGRAM's may (change): may a range be of a text?
  THE REFERENCE's Range (chapter 18): may a range be of a text?
  THE REFERENCE's column and Key (chapter 18).
  PLAIN: what operators make of a text: letters turned, pieces taken away; such texts may be.
  THE PROGRAM's Of (change): the error of form.
  RUNES IN A BLOCK OF A CALL's OWN: they are read as a list, and may be written over one by one.
  THE PROGRAM's cased (change): runes with small letters, great ones, or the other ones.
  A CHANGE's SIX CELLS in a block of their own: read, written over.
  THE PROGRAM's Of (change): gu, gU, g~.
-/
import Derived.Test.YtilkogohiealhaaDoorPB4
import Derived.Test.YtilkogohiealhaaDoorPB5
import Derived.Test.YtilkogohiealhaaDoorPB3
import Derived.Test.YtilkogohiealhaaDoorPA1
import Derived.Test.YtilkogohiealhaaDoorPB6
import Derived.Test.YtilkogohiealhaaDoorPA2
import Derived.Test.YtilkogohiealhaaDoorPB2
import Derived.Laws.MakeOwn
import Derived.Deep.CutRange
import Derived.Deep.RegionHeld3
import Derived.Laws.Concat
set_option linter.unusedVariables false
namespace Go.Proofs.YtilkogohiealhaaDoor
open Go Go.RowKit

abbrev rngV (lo hi : Int) (line : Bool) : Value := .agg #[.int .i64 lo, .int .i64 hi, .bool line]
end Go.Proofs.YtilkogohiealhaaDoor
namespace Go.Proofs.YtilkogohiealhaaDoor
open Go Go.RowKit

/-- The same over numbers that may be below nought. -/
def RngI (t : List Int) (lo hi : Int) (line : Bool) : Prop := ∃ a b : Nat, lo = a ∧ hi = b ∧ Rw.Rng t a b line
theorem rngI_nat {t : List Int} {a b : Nat} {line : Bool} : RngI t a b line ↔ Rw.Rng t a b line := by
  constructor
  · rintro ⟨x, y, h1, h2, h⟩
    rwa [show a = x by omega, show b = y by omega]
  · exact fun h => ⟨a, b, rfl, rfl, h⟩
theorem bool_of {B : Bool} {p : Prop} (h : B = true ↔ p) (hp : p) : B = true := h.2 hp
theorem bool_no {B : Bool} {p : Prop} (h : B = true ↔ p) (hp : ¬ p) : B = false := by cases B with | false => rfl | true => exact absurd (h.1 rfl) hp
end Go.Proofs.YtilkogohiealhaaDoor
namespace Go.Proofs.YtilkogohiealhaaDoor
open Go Go.RowKit

end Go.Proofs.YtilkogohiealhaaDoor
namespace Go.Proofs.YtilkogohiealhaaDoor
open Go Go.RowKit

/-- The keys of the chapter. -/
def opKeys : List Int := [100, 99, 121, 62, 60, 16777333, 16777301, 16777342]
end Go.Proofs.YtilkogohiealhaaDoor
namespace Go.Proofs.YtilkogohiealhaaDoor
open Go Go.RowKit

theorem Rw.csd_len {t : List Int} {lo hi : Nat} {key : Int} (h1 : lo ≤ hi) (h2 : hi ≤ t.length) : (Rw.csd t lo hi key).length = t.length := by
  unfold Rw.csd
  simp
  omega
theorem Rw.csd_at {t : List Int} {lo hi : Nat} {key : Int} (h1 : lo ≤ hi) (h2 : hi ≤ t.length) (i : Nat) : (Rw.csd t lo hi key)[i]? = if lo ≤ i ∧ i < hi then (t[i]?).map (Rw.trn key) else t[i]? := by
  unfold Rw.csd
  rw [List.append_assoc, List.getElem?_append, List.getElem?_append]
  simp only [List.length_take, List.length_map, List.length_drop]
  rw [show min lo t.length = lo by omega, show min hi t.length - lo = hi - lo by omega]
  by_cases a : i < lo
  · rw [if_pos a, List.getElem?_take, if_pos a, if_neg (by omega)]
  · rw [if_neg a]
    by_cases b : i - lo < hi - lo
    · rw [if_pos b, List.getElem?_map, List.getElem?_drop, List.getElem?_take, if_pos (by omega), if_pos (by omega), show lo + (i - lo) = i by omega]
    · rw [if_neg b, List.getElem?_drop, if_neg (by omega), show hi + (i - lo - (hi - lo)) = i by omega]
theorem Rw.csd_10 {t : List Int} {lo hi : Nat} {key : Int} (h1 : lo ≤ hi) (h2 : hi ≤ t.length) (i : Nat) : (Rw.csd t lo hi key)[i]? = some 10 ↔ t[i]? = some 10 := by
  rw [Rw.csd_at h1 h2]
  split
  · cases h : t[i]? with
    | none => simp
    | some c => simp [Rw.trn_10]
  · exact Iff.rfl
theorem Rw.csd_rst {t : List Int} {lo hi : Nat} {key : Int} (h1 : lo ≤ hi) (h2 : hi ≤ t.length) (k : Nat) (hk : k ≤ t.length) : Rw.rstP (Rw.csd t lo hi key) k = Rw.rstP t k :=
  Rw.rst_same (Rw.csd_len h1 h2) (Rw.csd_10 h1 h2) k (by rw [Rw.csd_len h1 h2]; exact hk)
theorem Rw.cut3 (t : List Int) {lo hi : Nat} (h1 : lo ≤ hi) : t.take lo ++ (t.take hi).drop lo ++ t.drop hi = t := by
  have e : t.take lo = (t.take hi).take lo := by rw [List.take_take, Nat.min_eq_left h1]
  rw [e, List.take_append_drop, List.take_append_drop]
theorem trn_vld {key c : Int} (h : Utf8.valid c = true) : Utf8.valid (Rw.trn key c) = true := by
  have hv := Utf.int_valid h
  unfold Rw.trn
  split
  · exact Utf.valid_int (by omega)
  · split
    · exact Utf.valid_int (by omega)
    · exact h
theorem trn_zero {key c : Int} (h : c ≠ 0) : Rw.trn key c ≠ 0 := by
  unfold Rw.trn
  split
  · omega
  · split
    · omega
    · exact h
theorem enc_ascii {n : Int} (h : 0 ≤ n ∧ n < 128) : (Utf.enc n).length = 1 := by
  obtain ⟨c, rfl⟩ := Int.eq_ofNat_of_zero_le h.1
  rw [Utf.enc_of (Utf.valid_nat (by omega)), if_pos (by omega)]
  rfl
theorem trn_enc (key c : Int) : (Utf.enc (Rw.trn key c)).length = (Utf.enc c).length := by
  unfold Rw.trn
  split
  · rw [enc_ascii (by omega), enc_ascii (by omega)]
  · split
    · rw [enc_ascii (by omega), enc_ascii (by omega)]
    · rfl
theorem trn_bytes (key : Int) : ∀ l : List Int, (Utf.bytes (l.map (Rw.trn key))).length = (Utf.bytes l).length
  | [] => rfl
  | c :: l => by
    show (Utf.enc (Rw.trn key c) ++ Utf.bytes (l.map (Rw.trn key))).length = (Utf.enc c ++ Utf.bytes l).length
    rw [List.length_append, List.length_append, trn_enc, trn_bytes key l]
theorem csd_bytes (t : List Int) {lo hi : Nat} (key : Int) (h1 : lo ≤ hi) : (Utf.bytes (Rw.csd t lo hi key)).length = (Utf.bytes t).length := by
  conv => rhs; rw [← Rw.cut3 t h1]
  unfold Rw.csd
  simp only [Utf.bytes_append, List.length_append, trn_bytes]
theorem csd_mem {t : List Int} {lo hi : Nat} {key r : Int} (h : r ∈ Rw.csd t lo hi key) : ∃ c ∈ t, r = c ∨ r = Rw.trn key c := by
  unfold Rw.csd at h
  simp only [List.mem_append, List.mem_map] at h
  rcases h with (h | ⟨c, h, rfl⟩) | h
  · exact ⟨r, List.mem_of_mem_take h, .inl rfl⟩
  · exact ⟨c, List.mem_of_mem_take (List.mem_of_mem_drop h), .inr rfl⟩
  · exact ⟨r, List.mem_of_mem_drop h, .inl rfl⟩
theorem csd_vld {t : List Int} {lo hi : Nat} {key : Int} (h : Vld t) : Vld (Rw.csd t lo hi key) := by
  intro r hr
  obtain ⟨c, hc, rfl | rfl⟩ := csd_mem hr
  · exact h _ hc
  · exact trn_vld (h c hc)
theorem rs_bytes {s : ByteArray} (h : mayB s = true) : (Utf.bytes (rs s)).length = s.size := by
  unfold rs
  rw [Utf.bytes_runes (mayB_valid h)]
  exact (Lib.size_eq s).symm
theorem may_csd {s : ByteArray} {lo hi : Nat} {key : Int} (h : mayB s = true) (h1 : lo ≤ hi) : mayB (runesBytes (Rw.csd (rs s) lo hi key)) = true := by
  rw [may_txt (csd_vld (rs_vld h)) (fun hz => by
    obtain ⟨c, hc, e | e⟩ := csd_mem hz
    · exact rs_zero h (by rw [e]; exact hc)
    · exact trn_zero (fun e0 => rs_zero h (by rw [← e0]; exact hc)) e.symm), csd_bytes _ _ h1, rs_bytes h]
  exact decide_eq_true (mayB_size h)
theorem Rw.lft_len (t : List Int) (lo hi : Nat) (h1 : lo ≤ hi) (h2 : hi ≤ t.length) : (Rw.lft t lo hi).length = lo + (t.length - hi) := by
  unfold Rw.lft
  simp
  omega
theorem Rw.dcase (t : List Int) (lo hi : Nat) (line : Bool) :
    (line = true ∧ hi < t.length ∧ Rw.dlo t lo hi line = lo ∧ Rw.dhi t lo hi line = hi + 1) ∨ (line = true ∧ ¬ hi < t.length ∧ 0 < lo ∧ Rw.dlo t lo hi line = lo - 1 ∧ Rw.dhi t lo hi line = hi) ∨
    (line = true ∧ ¬ hi < t.length ∧ lo = 0 ∧ Rw.dlo t lo hi line = lo ∧ Rw.dhi t lo hi line = hi) ∨ (line = false ∧ Rw.dlo t lo hi line = lo ∧ Rw.dhi t lo hi line = hi) := by
  unfold Rw.dlo Rw.dhi
  cases line with
  | false => exact .inr (.inr (.inr ⟨rfl, if_neg (by simp), if_neg (by simp)⟩))
  | true =>
    by_cases a : hi < t.length
    · exact .inl ⟨rfl, a, if_neg (fun h => h.2.1 a), if_pos ⟨rfl, a⟩⟩
    · by_cases b : 0 < lo
      · exact .inr (.inl ⟨rfl, a, b, if_pos ⟨rfl, a, b⟩, if_neg (fun h => a h.2)⟩)
      · exact .inr (.inr (.inl ⟨rfl, a, by omega, if_neg (fun h => b h.2.2), if_neg (fun h => a h.2)⟩))
theorem Rw.dlo_le (t : List Int) (lo hi : Nat) (line : Bool) (h1 : lo ≤ hi) (h2 : hi ≤ t.length) : Rw.dlo t lo hi line ≤ Rw.dhi t lo hi line ∧ Rw.dhi t lo hi line ≤ t.length ∧ Rw.dlo t lo hi line ≤ lo := by
  rcases Rw.dcase t lo hi line with ⟨_, h⟩ | ⟨_, h⟩ | ⟨_, h⟩ | ⟨_, h⟩ <;> omega
theorem Rw.dlo_min (t : List Int) (lo hi : Nat) (h1 : lo ≤ hi) (h2 : hi ≤ t.length) : min lo (Rw.lft t (Rw.dlo t lo hi true) (Rw.dhi t lo hi true)).length = Rw.dlo t lo hi true := by
  have h := Rw.dlo_le t lo hi true h1 h2
  rw [Rw.lft_len _ _ _ h.1 h.2.1]
  rcases Rw.dcase t lo hi true with ⟨_, h⟩ | ⟨_, h⟩ | ⟨_, h⟩ | ⟨e, h⟩
  · omega
  · omega
  · omega
  · cases e
/-- What a range takes. -/
def Rw.tkn (t : List Int) (lo hi : Nat) : List Int := (t.take hi).drop lo
end Go.Proofs.YtilkogohiealhaaDoor
namespace Go.Proofs.YtilkogohiealhaaDoor
open Go Go.RowKit

abbrev chgO (pa pd : Int) (ps : ByteArray) (x : Int) (took : ByteArray) (line : Bool) : Obj := .cells #[.int .i64 pa, .int .i64 pd, .string ps, .int .i64 x, .string took, .bool line] 35
abbrev chgV (pa pd : Int) (ps : ByteArray) (x : Int) (took : ByteArray) (line : Bool) : Value := .agg #[.int .i64 pa, .int .i64 pd, .string ps, .int .i64 x, .string took, .bool line]
set_option maxRecDepth 100000 in
theorem res_chg {fn : Func} {p u : Tmp} (h : fn.results = #[.cell p 35, .tmp u]) (tmps : Array Value) (w : World) (g : Nat) (a d : Int) (s : ByteArray) (x : Int) (k : ByteArray) (l : Bool) (fr : Nat × Nat) (hp : tmps.getD p undef = .pointer (some ⟨g, 0, none⟩)) (hg : w.heap[g]? = some (.cells #[.int .i64 a, .int .i64 d, .string s, .int .i64 x, .string k, .bool l] 35 fr)) :
    (results fn tmps).run Tryd.prog w = .ok (.tuple #[chgV a d s x k l, tmps.getD u undef]) w := by
  rw [results_cell_tmp h, hp]
  simp [asAddr, Result.andThen, run_loadVar_row w g _ _ _ _ _ hg Tryd.underlying35 rfl (by kernel_rfl)]
theorem heap_two' (w : World) (o o' : Obj) : ((w.alloc o).alloc o').heap[w.heap.size]? = some o :=
  (Below.heap_alloc (w.alloc o) o' w.heap.size (by simp)).trans (heap_alloc_new w o)
end Go.Proofs.YtilkogohiealhaaDoor
namespace Go.Proofs.YtilkogohiealhaaDoor
open Go Go.RowKit

theorem Rn.set {w : World} {g n : Nat} {t : List Int} (h : Rn w (some ⟨g, 0, none⟩) n t) {k : Nat} (hk : k < n) (v : Int) : Rn (w.setCell ⟨g, k, none⟩ (.int .i32 v)) (some ⟨g, 0, none⟩) n (t.set k v) := by
  refine ⟨by rw [List.length_set]; exact h.1, fun j x hj => ⟨_, rfl, ?_⟩⟩
  rw [addr_add, Nat.zero_add]
  have hl := h.1
  by_cases e : k = j
  · subst e
    rw [List.getElem?_set_self (by omega)] at hj
    injection hj with hj
    subst hj
    obtain ⟨ad, y, e1, hy, hc⟩ := h.cell hk
    injection e1 with e1
    subst e1
    rw [addr_add, Nat.zero_add] at hc
    exact World.cell?_setCell_same _ _ _ hc
  · rw [List.getElem?_set_ne e] at hj
    obtain ⟨ad, e1, hc⟩ := h.2 j x hj
    injection e1 with e1
    subst e1
    rw [addr_add, Nat.zero_add] at hc
    rw [World.cell?_setCell_other]
    · exact hc
    · intro e2
      injection e2 with _ e2
      exact e e2
/-- A block of one's own that holds runes. -/
structure OwnR (w : World) (g n : Nat) (t : List Int) : Prop where
  rn : Rn w (some ⟨g, 0, none⟩) n t
  blk : ∃ (cs : Array Value) (ty : TypeId), w.heap[g]? = some (.cells cs ty (0, 0))
theorem OwnR.set {w : World} {g n : Nat} {t : List Int} (h : OwnR w g n t) {k : Nat} (hk : k < n) (v : Int) : OwnR (w.setCell ⟨g, k, none⟩ (.int .i32 v)) g n (t.set k v) := by
  obtain ⟨cs, ty, hb⟩ := h.blk
  exact ⟨h.rn.set hk v, _, ty, heap_set hb _⟩
theorem OwnR.free {w : World} {g n : Nat} {t : List Int} (h : OwnR w g n t) (i : Nat) : w.frozen? ⟨g, i, none⟩ = false := by
  obtain ⟨cs, ty, hb⟩ := h.blk
  exact frozen_of hb
theorem OwnR.cell {w : World} {g n : Nat} {t : List Int} (h : OwnR w g n t) {k : Nat} {x : Int} (hk : t[k]? = some x) : w.cell? ⟨g, k, none⟩ = some (.int .i32 x) := by
  obtain ⟨ad, e1, hc⟩ := h.rn.2 k x hk
  injection e1 with e1
  subst e1
  rw [addr_add, Nat.zero_add] at hc
  exact hc
theorem OwnR.lt {w : World} {g n : Nat} {t : List Int} (h : OwnR w g n t) : g < w.heap.size := by
  obtain ⟨cs, ty, hb⟩ := h.blk
  exact heap_lt hb
theorem OwnR.kept {S : Nat → Prop} {w w' : World} {g n : Nat} {t : List Int} (h : OwnR w g n t) (hk : Kept S w w') (hs : ¬ S g) : OwnR w' g n t := by
  obtain ⟨cs, ty, hb⟩ := h.blk
  exact ⟨h.rn.kept hk (fun a e => by injection e with e; subst e; exact hs), cs, ty, (hk.block g (heap_lt hb) hs).trans hb⟩
theorem take_set_succ {α : Type} {l : List α} {k : Nat} (h : k < l.length) (v : α) : (l.set k v).take (k + 1) = l.take k ++ [v] := by
  rw [List.take_add_one, List.getElem?_set_self h, List.take_set_of_le (Nat.le_refl _)]
  rfl
/-- A text's runes, in a block of one's own. -/
theorem conv_own (s : ByteArray) (w : World) (h : s.size ≤ 70368744177664) : ∃ cap w', (rs s).length ≤ cap ∧
    (convert 9 30 (.string s)).run Tryd.prog w = .ok (.slice (some ⟨w.heap.size, 0, none⟩) (rs s).length cap) w' ∧ Kept (fun _ => False) w w' ∧ w.heap.size < w'.heap.size ∧
    OwnR w' w.heap.size (rs s).length (rs s) := by
  obtain ⟨cap, w', h1, h2, h3, h4, h5⟩ := conv_rs s w h
  refine ⟨cap, w', h1, h2, h3, h4, h5, ?_⟩
  have e := Utf.convRunes_eq s
  have hz : (Conv.runesFrom s s.size 0 #[]).size = (Utf.runes s.data.toList).length := by rw [e]; simp
  have hrun := run_runes_of_string (P := Tryd.prog) w 9 30 21 s Tryd.underlying9 Tryd.underlying30 Tryd.underlying21 (by rw [hz]; have := rs_len s; unfold rs at this; omega)
  rw [h2] at hrun
  injection hrun with _ hw
  rw [hw]
  exact ⟨_, _, heap_alloc_new w.drew _⟩
theorem repl_get {n j : Nat} {x : Int} (h : (List.replicate n (0 : Int))[j]? = some x) : j < n ∧ x = 0 := by
  rw [List.getElem?_replicate] at h
  by_cases hj : j < n
  · rw [if_pos hj] at h
    exact ⟨hj, (Option.some.inj h).symm⟩
  · rw [if_neg hj] at h
    exact absurd h (by simp)
theorem infoRune : (Tryd.prog.info? 21).map (fun i => (i.zero, i.size, i.bytes)) = some (some (.int .i32 0), 1, 4) := by kernel_rfl
/-- So many runes, made anew. -/
theorem make_runes (n : Nat) (w : World) (hn : n ≤ 100000) : ∃ w', (Instr.makeSlice 30 (.int .i64 n) (.int .i64 n)).run Tryd.prog w = .ok (.slice (some ⟨w.heap.size, 0, none⟩) n n) w' ∧ Kept (fun _ => False) w w' ∧ w.heap.size < w'.heap.size ∧
    OwnR w' w.heap.size n (List.replicate n 0) := by
  obtain ⟨i0, hi, hz0, hz1, hz2⟩ := info_parts infoRune
  have hr := run_make (P := Tryd.prog) w 30 21 i0 _ Tryd.underlying30 hi hz0 .i64 .i64 n n (by omega) (by omega) (by rw [hz2]; omega) (by omega)
  rw [hz1, Nat.mul_one, Int.toNat_natCast] at hr
  refine ⟨_, hr, (Kept.refl _ w).alloc _, by simp, ⟨by simp, fun j x hj => ⟨_, rfl, ?_⟩⟩, _, _, heap_alloc_new w _⟩
  rw [addr_add, cell_of_row _ _ _ _ _ _ (heap_alloc_new w _)]
  obtain ⟨h, rfl⟩ := repl_get hj
  simp [madeCells, Value.cells, h, Nat.mod_one]
end Go.Proofs.YtilkogohiealhaaDoor
namespace Go.Proofs.YtilkogohiealhaaDoor
open Go Go.RowKit

def oth (c : Int) : Int := if 97 ≤ c ∧ c ≤ 122 then c - 32 else if 65 ≤ c ∧ c ≤ 90 then c + 32 else c
theorem oth_trn {key x : Int} (h : key = 126 ∨ (key = 85 ∧ 97 ≤ x ∧ x ≤ 122) ∨ (key = 117 ∧ ¬ (97 ≤ x ∧ x ≤ 122))) : oth x = Rw.trn key x := by
  unfold oth Rw.trn
  by_cases h1 : 97 ≤ x ∧ x ≤ 122
  · rw [if_pos h1, if_neg (by omega), if_pos (by omega)]
  · rw [if_neg h1]
    by_cases h2 : 65 ≤ x ∧ x ≤ 90
    · rw [if_pos h2, if_pos (by omega)]
    · rw [if_neg h2, if_neg (by omega), if_neg (by omega)]
theorem id_trn {key x : Int} (h : (key = 85 ∧ ¬ (97 ≤ x ∧ x ≤ 122)) ∨ (key = 117 ∧ 97 ≤ x ∧ x ≤ 122)) : x = Rw.trn key x := by
  unfold Rw.trn
  rw [if_neg (by omega), if_neg (by omega)]
theorem next_take {u t : List Int} {k n : Nat} {x key V : Int} (hk : k < n) (hu : u.length = n) (hx : t[k]? = some x) (hV : V = Rw.trn key x) (h : u.take k = (t.take k).map (Rw.trn key)) : (u.set k V).take (k + 1) = (t.take (k + 1)).map (Rw.trn key) := by
  rw [take_set_succ (by omega), h, List.take_add_one, hx, List.map_append, hV]
  rfl
end Go.Proofs.YtilkogohiealhaaDoor
namespace Go.Proofs.YtilkogohiealhaaDoor
open Go Go.RowKit

theorem chg_facts {w : World} {g : Nat} {a d : Int} {s : ByteArray} {x : Int} {k : ByteArray} {l : Bool} (h : w.heap[g]? = some (chgO a d s x k l)) :
    (w.cell? ⟨g, 0, none⟩ = some (.int .i64 a) ∧ w.cell? ⟨g, 1, none⟩ = some (.int .i64 d) ∧ w.cell? ⟨g, 2, none⟩ = some (.string s) ∧ w.cell? ⟨g, 3, none⟩ = some (.int .i64 x) ∧ w.cell? ⟨g, 4, none⟩ = some (.string k) ∧ w.cell? ⟨g, 5, none⟩ = some (.bool l)) ∧
    (w.frozen? ⟨g, 0, none⟩ = false ∧ w.frozen? ⟨g, 1, none⟩ = false ∧ w.frozen? ⟨g, 2, none⟩ = false ∧ w.frozen? ⟨g, 3, none⟩ = false ∧ w.frozen? ⟨g, 4, none⟩ = false ∧ w.frozen? ⟨g, 5, none⟩ = false) :=
  ⟨⟨by rw [cell_of_row _ _ _ _ _ _ h]; rfl, by rw [cell_of_row _ _ _ _ _ _ h]; rfl, by rw [cell_of_row _ _ _ _ _ _ h]; rfl, by rw [cell_of_row _ _ _ _ _ _ h]; rfl, by rw [cell_of_row _ _ _ _ _ _ h]; rfl, by rw [cell_of_row _ _ _ _ _ _ h]; rfl⟩,
    frozen_of h, frozen_of h, frozen_of h, frozen_of h, frozen_of h, frozen_of h⟩
theorem chg_six {w : World} {g : Nat} {a d : Int} {s : ByteArray} {x : Int} {k : ByteArray} {l : Bool} (h : w.heap[g]? = some (chgO a d s x k l)) (a' d' : Int) (s' : ByteArray) (x' : Int) (k' : ByteArray) (l' : Bool) :
    ((((((w.setCell ⟨g, 0, none⟩ (.int .i64 a')).setCell ⟨g, 1, none⟩ (.int .i64 d')).setCell ⟨g, 2, none⟩ (.string s')).setCell ⟨g, 3, none⟩ (.int .i64 x')).setCell ⟨g, 4, none⟩ (.string k')).setCell ⟨g, 5, none⟩ (.bool l')).heap[g]? = some (chgO a' d' s' x' k' l') :=
  (heap_set (heap_set (heap_set (heap_set (heap_set (heap_set h _) _) _) _) _) _).trans rfl
theorem chg_three {w : World} {g : Nat} {a d : Int} {s : ByteArray} {x : Int} {k : ByteArray} {l : Bool} (h : w.heap[g]? = some (chgO a d s x k l)) (a' d' : Int) (s' : ByteArray) :
    (((w.setCell ⟨g, 0, none⟩ (.int .i64 a')).setCell ⟨g, 1, none⟩ (.int .i64 d')).setCell ⟨g, 2, none⟩ (.string s')).heap[g]? = some (chgO a' d' s' x k l) :=
  (heap_set (heap_set (heap_set h _) _) _).trans rfl
theorem chg_two {w : World} {g : Nat} {a d : Int} {s : ByteArray} {x : Int} {k : ByteArray} {l : Bool} (h : w.heap[g]? = some (chgO a d s x k l)) (k' : ByteArray) (l' : Bool) :
    ((w.setCell ⟨g, 4, none⟩ (.string k')).setCell ⟨g, 5, none⟩ (.bool l')).heap[g]? = some (chgO a d s x k' l') :=
  (heap_set (heap_set h _) _).trans rfl
theorem Kept.six {S : Nat → Prop} {w w1 : World} {g : Nat} (h : Kept S w w1) (hg : S g) (v0 v1 v2 v3 v4 v5 : Value) :
    Kept S w ((((((w1.setCell ⟨g, 0, none⟩ v0).setCell ⟨g, 1, none⟩ v1).setCell ⟨g, 2, none⟩ v2).setCell ⟨g, 3, none⟩ v3).setCell ⟨g, 4, none⟩ v4).setCell ⟨g, 5, none⟩ v5) :=
  (((((h.setCell (p := ⟨g, 0, none⟩) hg _).setCell (p := ⟨g, 1, none⟩) hg _).setCell (p := ⟨g, 2, none⟩) hg _).setCell (p := ⟨g, 3, none⟩) hg _).setCell (p := ⟨g, 4, none⟩) hg _).setCell (p := ⟨g, 5, none⟩) hg _
theorem cutB_block {A : Addr} {c lo : Nat} {a : Addr} (h : cutB (some A) c lo = some a) : a.block = A.block := by
  unfold cutB at h
  split at h
  · injection h with h
    rw [← h]
  · injection h with h
    rw [← h]
    show (A.add lo).block = _
    unfold Addr.add
    split <;> rfl
/-- A range's cells, and what a piece's runes are as a text, behind whatever leaves both. -/
theorem keep_y {S : Nat → Prop} {w w' : World} {xb m cp : Nat} {lo hi : Int} {line : Bool} {C : Option Addr} {u : List Int} (hk : Kept S w w') (h0 : w.cell? ⟨xb, 0, none⟩ = some (.int .i64 lo)) (h1 : w.cell? ⟨xb, 1, none⟩ = some (.int .i64 hi)) (h2 : w.cell? ⟨xb, 2, none⟩ = some (.bool line)) (hx : ¬ S xb) (hR : Rn w C m u) (hs : ∀ a, C = some a → ¬ S a.block) :
    w'.cell? ⟨xb, 0, none⟩ = some (.int .i64 lo) ∧ w'.cell? ⟨xb, 1, none⟩ = some (.int .i64 hi) ∧ w'.cell? ⟨xb, 2, none⟩ = some (.bool line) ∧ (convert 30 9 (.slice C m cp)).run Tryd.prog w' = .ok (.string (runesBytes u)) w' :=
  ⟨cell_kept hk h0 hx, cell_kept hk h1 hx, cell_kept hk h2 hx, run_txt (hR.kept hk hs)⟩
theorem heap_two'' (w : World) (o o' : Obj) : ((w.alloc o).alloc o').heap[w.heap.size + 1]? = some o' := by
  have h := heap_alloc_new (w.alloc o) o'
  rwa [show (w.alloc o).heap.size = w.heap.size + 1 by simp] at h
set_option maxRecDepth 100000 in
/-- The same as runes_yes, and how much room there is. -/
theorem runes_cap (s : ByteArray) (k : Nat) (w : World) (hT : Tabs w) (hm : mayB s = true) (hk : k ≤ (rs s).length) :
    Calls Tryd.prog 22 #[.string s, .int .i64 k] w fun e w' => Kept (fun _ => False) w w' ∧ ∃ b cap, e = .returned (.tuple #[.slice (some ⟨b, 0, none⟩) (rs s).length cap, .bool true]) ∧ w.heap.size ≤ b ∧ (rs s).length ≤ cap ∧ Rn w' (some ⟨b, 0, none⟩) (rs s).length (rs s) := by
  have hsz := mayB_size hm
  have cC := check_any s w (by omega) hT
  rw [hm] at cC
  have hl := rs_len s
  have cV := fun w1 => conv_rs s w1 (by omega)
  generalize rs s = t at *
  clear hT hm
  go_enter Tryd.func22, Tryd.ntmps22
  go_wp2_with (go_at_call 35; refine cC.mono ?_; rintro e w1 ⟨rfl, hk1⟩; obtain ⟨cap, w2, hcap, hcv, hk2, hlt, hR⟩ := cV w1; have HK1 := Lib.hid hk1; have HK2 := Lib.hid hk2; have HR := Lib.hid hR; clear cC cV hk1 hk2 hR)
  have hgs : w.heap.size ≤ w1.heap.size := HK1.out.size
  generalize w1.heap.size = g at *
  exact bodyPost_ret (v := .tuple #[.slice (some ⟨g, 0, none⟩) t.length cap, .bool true]) (by simp [results, Tryd.results22, go_sem]) rfl ⟨HK1.out.trans HK2.out, g, cap, rfl, hgs, hcap, HR.out⟩
end Go.Proofs.YtilkogohiealhaaDoor
namespace Go.Proofs.YtilkogohiealhaaDoor
open Go Go.RowKit

theorem txt_le {a t : List Int} (h : List.Sublist a t) {n : Nat} (hn : (Utf.bytes t).length ≤ n) : (runesBytes a).size ≤ n := by
  rw [txt_size]
  exact Nat.le_trans (bytes_sub h) hn
theorem tkn_sub (t : List Int) (lo hi : Nat) : List.Sublist (Rw.tkn t lo hi) t := (List.drop_sublist _ _).trans (List.take_sublist _ _)
theorem csd_txt (t : List Int) (lo hi : Nat) (key : Int) : runesBytes (t.take lo) ++ runesBytes ((Rw.tkn t lo hi).map (Rw.trn key)) ++ runesBytes (t.drop hi) = runesBytes (Rw.csd t lo hi key) := by
  rw [txt_append, txt_append]
  rfl
end Go.Proofs.YtilkogohiealhaaDoor
