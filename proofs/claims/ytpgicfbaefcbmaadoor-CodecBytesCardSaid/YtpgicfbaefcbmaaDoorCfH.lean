/-
  OPS: how much an ask weighs; bytes of a text, one of them turned; texts, gathered.
-/
import Derived.Test.YtpgicfbaefcbmaaDoorCfC
import Derived.Test.YtpgicfbaefcbmaaDoorCdK
import Derived.Lib.ConvBytes
set_option linter.unusedVariables false
namespace Go.Proofs.YtpgicfbaefcbmaaDoor
open Go Go.RowKit

theorem texts2_any (A : Option Addr) (n c : Nat) (ss : List ByteArray) (w : World) (hA : Strs w A n ss) (hn : n ≤ 8796093022208) :
    Calls Tryd.prog 38 #[.slice A n c] w fun e w' => (∃ q : Int, e = .returned (.int .i64 q) ∧ (n : Int) ≤ q ∧ q ≤ 200000000000000) ∧ w' = w := by
  have HA := Lib.hid hA
  clear hA
  go_enter Tryd.func38, Tryd.ntmps38
  go_wp2
  go_loop [3, 4] (fun m i => ∃ (k : Nat) (q : Int), k ≤ n ∧ i = .int .i64 k ∧ m = .int .i64 q ∧ (n : Int) ≤ q ∧ q ≤ 160000000000000) (fun _ i => n - (intOf i).toNat)
  case atStart => exact ⟨0, n, Nat.zero_le _, rfl, rfl, by omega, by omega⟩
  case round =>
    obtain ⟨k, q, hk, rfl, rfl, h1, h2⟩ := hrel
    by_cases hlt : k < n
    · by_cases hq : q < 1048576
      · obtain ⟨ad, s, rfl, hs, hc, hsz⟩ := HA.out.cell hlt
        clear hs
        have bq : decide (q < 1048576) = true := by simp; omega
        go_wp2
        go_round
        case rel => exact ⟨k + 1, q + s.size, by omega, by go_num, by go_num, by omega, by omega⟩
        case measure => simp [intOf]; omega
      · have bq : decide (q < 1048576) = false := by simp; omega
        have bq2 : ¬ q < 1048576 := hq
        go_wp2
        go_ret
        exact ⟨⟨q, rfl, by omega, by omega⟩, rfl⟩
    · obtain rfl : k = n := by omega
      go_wp2
      go_ret
      exact ⟨⟨q, rfl, by omega, by omega⟩, rfl⟩
set_option maxRecDepth 100000 in
theorem heavy25b_any (p : AskM) (w : World) (h : AskMOk w p) :
    Calls Tryd.prog 7 #[.agg p.cells] w fun e w' => (∃ b : Bool, e = .returned (.bool b) ∧ (b = false → p.n ≤ 3000)) ∧ Kept (fun _ => False) w w' := by
  have hK0 : Hid (Kept (fun _ => False) w (w.alloc (.cells p.cells 25))) := (Kept.refl _ w).alloc _
  have hP0 : Hid (PAs (w.alloc (.cells p.cells 25)) w.heap.size p) := heap_alloc_new w _
  have hA0 : Hid (AskMOk (w.alloc (.cells p.cells 25)) p) := h.kept hK0.out
  obtain ⟨O, m, mc, ops, X, n, nc, ss⟩ := p
  have hm : m ≤ 140737488351232 := h.m
  have hn : n ≤ 8796093022208 := h.n
  clear h
  unfold AskM.cells at *
  simp only at *
  go_enter Tryd.func7, Tryd.ntmps7
  go_upto_region 1 with fail
  generalize hpb : w.heap.size = pb at hP0 ⊢
  clear hpb
  generalize w.alloc (.cells #[.slice O m mc, .slice X n nc] 25) = wa at *
  have p0 : wa.cell? ⟨pb, 0, none⟩ = some (.slice O m mc) := hP0.out.c 0
  have p1 : wa.cell? ⟨pb, 1, none⟩ = some (.slice X n nc) := hP0.out.c 1
  have cO := opsweight_any O m mc ops wa hA0.out.ops hm
  have cT := texts2_any X n nc ss wa hA0.out.ss hn
  go_wp2_with (first
    | (go_at_call 37; refine cO.mono ?_; rintro e w' ⟨⟨q, rfl, hq1, hq2⟩, hw⟩; have hw2 := hw.symm; subst hw2)
    | (go_at_call 38; refine cT.mono ?_; rintro e w' ⟨⟨r, rfl, hr1, hr2⟩, hw⟩; have hw2 := hw.symm; subst hw2))
  all_goals go_ret
  · refine ⟨⟨_, rfl, fun h => ?_⟩, hK0.out⟩
    have h : (decide (2000 < q) || decide (3000 < r)) = false := h
    simp only [Bool.or_eq_false_iff, decide_eq_false_iff_not] at h
    omega
  · exact ⟨.inr rfl, hK0.out⟩
theorem bits_u8 (a b : Int) : ∃ z : UInt8, bits .xor .u8 a b = (z.toNat : Int) := by
  have h : 0 ≤ bits .xor .u8 a b ∧ bits .xor .u8 a b < 256 := by
    unfold bits
    simp only [IntKind.wrap_u8]
    omega
  refine ⟨UInt8.ofNat (bits .xor .u8 a b).toNat, ?_⟩
  rw [UInt8.toNat_ofNat', Nat.mod_eq_of_lt (by omega)]
  omega
/-- A row that holds a text's bytes. -/
structure Bys (w : World) (g : Nat) (l : List UInt8) : Prop where
  h : ∃ (arr : Array Value) (fr : Nat × Nat), w.heap[g]? = some (.cells arr 5 fr) ∧ l.length ≤ fr.1 ∧ ∀ (j : Nat) (b : UInt8), l[j]? = some b → arr[j]? = some (u8v b)
theorem Bys.cell {w : World} {g : Nat} {l : List UInt8} (h : Bys w g l) {j : Nat} {b : UInt8} (hj : l[j]? = some b) : w.cell? ⟨g, j, none⟩ = some (.int .u8 (b.toNat : Int)) ∧ w.frozen? ⟨g, j, none⟩ = false := by
  obtain ⟨arr, fr, h1, h2, h3⟩ := h.h
  have hjl : j < l.length := by
    by_cases hjl : j < l.length
    · exact hjl
    · rw [List.getElem?_eq_none (by omega)] at hj; cases hj
  refine ⟨(cell_of_row _ _ _ _ _ _ h1).trans (h3 j b hj), ?_⟩
  unfold World.frozen?
  simp only [h1]
  have : ¬ fr.1 ≤ j := by omega
  simp [this]
theorem Bys.set {w : World} {g : Nat} {l : List UInt8} (h : Bys w g l) (k : Nat) (z : UInt8) (hk : k < l.length) : Bys (w.setCell ⟨g, k, none⟩ (u8v z)) g (l.set k z) := by
  obtain ⟨arr, fr, h1, h2, h3⟩ := h.h
  refine ⟨arr.setIfInBounds k (u8v z), fr, heap_set h1 _, by rw [List.length_set]; exact h2, fun j b hj => ?_⟩
  have hka := h3 k _ (List.getElem?_eq_getElem hk)
  have hks : k < arr.size := by
    by_cases hks : k < arr.size
    · exact hks
    · rw [Array.getElem?_eq_none (by omega)] at hka; cases hka
  rw [Array.getElem?_setIfInBounds]
  rw [List.getElem?_set] at hj
  by_cases e : k = j
  · subst e
    rw [if_pos rfl] at hj ⊢
    rw [if_pos hk] at hj
    rw [if_pos hks]
    injection hj with hj
    rw [hj]
  · rw [if_neg e] at hj ⊢
    exact h3 j b hj
theorem Bys.back {w : World} {g cap n : Nat} {l : List UInt8} (h : Bys w g l) (hl : l.length = n) : (convert 39 9 (.slice (some ⟨g, 0, none⟩) n cap)).run Tryd.prog w = .ok (.string ⟨l.toArray⟩) w := by
  subst hl
  refine run_convert_bytes_back (P := Tryd.prog) w 39 9 5 ⟨g, 0, none⟩ cap l Tryd.underlying39 Tryd.underlying5 Tryd.underlying9 (fun j hj => ?_)
  rw [addr_add, Nat.zero_add]
  exact (h.cell (List.getElem?_eq_getElem hj)).1
theorem conv_bytes (s : ByteArray) (w : World) : ∃ cap w', (convert 9 39 (.string s)).run Tryd.prog w = .ok (.slice (some ⟨w.heap.size, 0, none⟩) s.size cap) w' ∧ Kept (fun _ => False) w w' ∧ w.heap.size < w'.heap.size ∧ Bys w' w.heap.size s.data.toList := by
  have hr := Lib.run_convert_string_bytes (P := Tryd.prog) w 9 39 5 s Tryd.underlying9 Tryd.underlying39 Tryd.underlying5
  refine ⟨_, _, hr, ⟨?_, ?_, ?_, ?_, fun k hk _ => Lib.bytesWorld_at_old w _ s k hk⟩, ?_, ⟨_, _, Lib.bytesWorld_at_new w _ s, ?_, fun j b hj => ?_⟩⟩
  · simp [Lib.bytesWorld, World.freeze, World.alloc, World.drew, -World.alloc_eq, -World.drew_eq]
  · simp [Lib.bytesWorld, World.freeze, World.alloc, World.drew, -World.alloc_eq, -World.drew_eq]
  · simp [Lib.bytesWorld, World.freeze, World.alloc, World.drew, -World.alloc_eq, -World.drew_eq]
  · rw [Lib.bytesWorld_size]; omega
  · rw [Lib.bytesWorld_size]; omega
  · rw [ba_len]
    unfold Lib.bytesCells
    rw [Array.size_append, Array.size_map]
    exact Nat.le_add_right _ _
  · have hjl : j < s.data.toList.length := by
      by_cases hjl : j < s.data.toList.length
      · exact hjl
      · rw [List.getElem?_eq_none (by omega)] at hj; cases hj
    rw [Array.length_toList] at hjl
    unfold Lib.bytesCells
    rw [Array.getElem?_append_left (by rw [Array.size_map]; exact hjl), Array.getElem?_map]
    rw [Array.getElem?_toList] at hj
    rw [hj]
    rfl
/-- Texts, gathered: none is too long. -/
structure Txs (w : World) (base : Nat) (v : Value) (n : Nat) (ts : List ByteArray) : Prop where
  own : w.ownsRow base 9 1 v n (ts.map .string)
  len : ts.length = n
  sz : ∀ t ∈ ts, t.size ≤ 140737488351232
end Go.Proofs.YtpgicfbaefcbmaaDoor
