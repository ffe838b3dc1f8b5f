/-
  GapExact: what comes ahead of its loop: a buffer, or what is refused; a slice of runes that the law owns.
-/
import Derived.Test.YthhlchgnjdfpeaaDoorNew2
import Derived.Test.YthhlchgnjdfpeaaDoorHelp
set_option linter.unusedVariables false
namespace Go.Proofs.YthhlchgnjdfpeaaDoor
open Go Go.RowKit

/-- What making a buffer answers. -/
def badOf (room : Int) (S : ByteArray) : Int := if 0 ≤ room ∧ room ≤ 1100 ∧ rowB S.data.toList = true then (if (Utf.runes S.data.toList).length ≤ room.toNat then 0 else 4) else 1
def NewPost (room : Int) (S : ByteArray) (w : World) (p : Option Addr) (w' : World) : Prop :=
  (badOf room S ≠ 0 ∧ p = none) ∨ (badOf room S = 0 ∧ ∃ rb cb n c zs, w.heap.size ≤ rb ∧ w.heap.size ≤ cb ∧ p = some ⟨rb, 0, none⟩ ∧ GS w' rb room.toNat cb n c 0 0 0 zs (Utf.runes S.data.toList))
theorem new_any (room : Int) (S : ByteArray) (w : World) (hs : S.size ≤ 5000) (hT : Tabs w) :
    Calls Tryd.prog 6 #[.int .i64 room, .string S] w fun e w' => Kept (fun _ => False) w w' ∧ ∃ p, e = .returned (.tuple #[.pointer p, .int .i64 (badOf room S)]) ∧ NewPost room S w p w' := by
  have hlen := Utf.runes_length S.data.toList
  have hsz := Lib.size_eq S
  by_cases hr : 0 ≤ room ∧ room ≤ 1100
  · obtain ⟨k, rfl⟩ : ∃ k : Nat, room = (k : Int) := ⟨room.toNat, by omega⟩
    cases hrow : rowB S.data.toList with
    | false =>
      have e : badOf (k : Int) S = 1 := by unfold badOf; rw [if_neg (by rw [hrow]; simp)]
      refine (new_form S k w (by omega) hT (by omega) (by omega) hrow (by omega)).mono ?_
      rintro e' w' ⟨rfl, hk⟩
      exact ⟨hk, none, by rw [e], Or.inl ⟨by rw [e]; decide, rfl⟩⟩
    | true =>
      obtain ⟨hv, hm⟩ := rowB_may hrow
      by_cases hfit : (Utf.runes S.data.toList).length ≤ k
      · have e : badOf (k : Int) S = 0 := by unfold badOf; rw [if_pos ⟨by omega, by omega, hrow⟩, if_pos (by simpa using hfit)]
        refine (new_yes S k w (by omega) hT hv hm (by omega) hfit).mono ?_
        rintro e' w' ⟨hk, rb, cb, n, c, zs, h1, h2, rfl, hg⟩
        exact ⟨hk, some ⟨rb, 0, none⟩, by rw [e], Or.inr ⟨e, rb, cb, n, c, zs, h1, h2, rfl, by simpa using hg⟩⟩
      · have e : badOf (k : Int) S = 4 := by unfold badOf; rw [if_pos ⟨by omega, by omega, hrow⟩, if_neg (by simpa using hfit)]
        refine (new_full S k w (by omega) hT (by omega) hrow (by omega) (by omega)).mono ?_
        rintro e' w' ⟨rfl, hk⟩
        exact ⟨hk, none, by rw [e], Or.inl ⟨by rw [e]; decide, rfl⟩⟩
  · have e : badOf room S = 1 := by unfold badOf; rw [if_neg (by omega)]
    refine (new_room S room w hr).mono ?_
    rintro e' w' ⟨rfl, hk⟩
    exact ⟨hk, none, by rw [e], Or.inl ⟨by rw [e]; decide, rfl⟩⟩
theorem badOf_cases (room : Int) (S : ByteArray) : badOf room S = 0 ∨ badOf room S = 1 ∨ badOf room S = 4 := by
  unfold badOf
  split
  · split <;> simp
  · simp
theorem badOf_zero {room : Int} {S : ByteArray} (h : badOf room S = 0) : 0 ≤ room ∧ room ≤ 1100 ∧ (∀ r ∈ Utf.runes S.data.toList, May r) ∧ (Utf.runes S.data.toList).length ≤ room.toNat := by
  unfold badOf at h
  split at h
  · rename_i hc
    split at h
    · rename_i hl
      exact ⟨hc.1, hc.2.1, (rowB_may hc.2.2).2, hl⟩
    · cases h
  · cases h

/-- A slice of runes that is the law's own: its value, its runes; in no block of the buffer's. -/
def Own (w : World) (base rb cb : Nat) (v : Value) (t : List Int) : Prop :=
  w.ownsRow base 21 1 v t.length (t.map (Value.int .i32)) ∧ v.ownBlock ≠ some rb ∧ v.ownBlock ≠ some cb
/-- A text's runes in memory of their own. -/
theorem conv_own (s : ByteArray) (w : World) (h : (Utf.runes s.data.toList).length ≤ 70368744177664) : ∃ cap w',
    (convert 9 34 (.string s)).run Tryd.prog w = .ok (.slice (some ⟨w.heap.size, 0, none⟩) (Utf.runes s.data.toList).length cap) w' ∧ Kept (fun _ => False) w w' ∧
    ∀ base, base ≤ w.heap.size → w'.ownsRow base 21 1 (.slice (some ⟨w.heap.size, 0, none⟩) (Utf.runes s.data.toList).length cap) (Utf.runes s.data.toList).length ((Utf.runes s.data.toList).map (Value.int .i32)) := by
  have e := Utf.convRunes_eq s
  have hz : (Conv.runesFrom s s.size 0 #[]).size = (Utf.runes s.data.toList).length := by rw [e]; simp
  have hrun := run_runes_of_string (P := Tryd.prog) w 9 34 21 s Tryd.underlying9 Tryd.underlying34 Tryd.underlying21 (by rw [hz]; exact h)
  rw [hz] at hrun
  have hge := grownCap_ge w (Utf.runes s.data.toList).length 0 21
  have hle := grownCap_le_maxLen w (Utf.runes s.data.toList).length 0 21 (by unfold maxLen; omega)
  refine ⟨_, _, hrun, ((Kept.refl _ w).drew).alloc _, fun base hb => ⟨by simp, Or.inr ⟨w.heap.size, _, _, rfl, hb, heap_alloc_new w.drew _, hge, hle, ?_, ?_⟩⟩⟩
  · rw [e]
    simp
    omega
  · rw [e]
    simp

theorem own_form {w : World} {base rb cb : Nat} {v : Value} {t : List Int} (h : Own w base rb cb v t) :
    ∃ At ct, v = .slice At t.length ct ∧ t.length ≤ ct ∧ ((At = none ∧ t = [] ∧ ct = 0) ∨ ∃ g, At = some ⟨g, 0, none⟩ ∧ base ≤ g ∧ g < w.heap.size ∧ g ≠ rb ∧ g ≠ cb) := by
  obtain ⟨h1, h2, h3⟩ := h
  rcases h1.2 with ⟨rfl, h0⟩ | ⟨g, cap, cur, rfl, hb, hh, hcap, _, _, _⟩
  · obtain rfl := List.eq_nil_of_length_eq_zero h0
    exact ⟨none, 0, rfl, Nat.le_refl _, Or.inl ⟨rfl, rfl, rfl⟩⟩
  · exact ⟨_, cap, rfl, hcap, Or.inr ⟨g, rfl, hb, heap_lt hh, fun e => h2 (by rw [e]; rfl), fun e => h3 (by rw [e]; rfl)⟩⟩
theorem Own.cell {w : World} {base rb cb g m ct : Nat} {t : List Int} (h : Own w base rb cb (.slice (some ⟨g, 0, none⟩) m ct) t) {j : Nat} {x : Int} (hx : t[j]? = some x) : w.cell? ⟨g, j, none⟩ = some (.int .i32 x) := by
  have := h.1.cells (g := g) rfl j (.int .i32 x) (by rw [List.getElem?_map, hx]; rfl)
  rw [addr_add, Nat.zero_add] at this
  exact this
theorem Own.kept {S : Nat → Prop} {w w' : World} {base rb cb : Nat} {v : Value} {t : List Int} (h : Own w base rb cb v t) (hk : Kept S w w') (hS : ∀ g, v.ownBlock = some g → ¬ S g) : Own w' base rb cb v t := by
  obtain ⟨⟨hl, h1⟩, h2, h3⟩ := h
  refine ⟨⟨hl, ?_⟩, h2, h3⟩
  rcases h1 with h1 | ⟨g, cap, cur, rfl, hb, hh, r⟩
  · exact Or.inl h1
  · exact Or.inr ⟨g, cap, cur, rfl, hb, (hk.block g (heap_lt hh) (hS g rfl)).trans hh, r⟩
/-- A number of Go's int. -/
def IB (x : Int) : Prop := -9223372036854775808 ≤ x ∧ x ≤ 9223372036854775807
/-- The block of an act. -/
def AB (w : World) (ab : Nat) (ado ai an : Int) (la : Option Addr) (ln lc : Nat) : Prop := w.heap[ab]? = some (.cells #[.int .i64 ado, .int .i64 ai, .int .i64 an, .slice la ln lc] 37 (0, 0))
section
variable {w : World} {ab ln lc : Nat} {ado ai an : Int} {la : Option Addr}
theorem AB.c0 (h : AB w ab ado ai an la ln lc) : w.cell? ⟨ab, 0, none⟩ = some (.int .i64 ado) := by rw [cell_of_row w ab 0 _ _ _ h]; rfl
theorem AB.c1 (h : AB w ab ado ai an la ln lc) : w.cell? ⟨ab, 1, none⟩ = some (.int .i64 ai) := by rw [cell_of_row w ab 1 _ _ _ h]; rfl
theorem AB.c2 (h : AB w ab ado ai an la ln lc) : w.cell? ⟨ab, 2, none⟩ = some (.int .i64 an) := by rw [cell_of_row w ab 2 _ _ _ h]; rfl
theorem AB.c3 (h : AB w ab ado ai an la ln lc) : w.cell? ⟨ab, 3, none⟩ = some (.slice la ln lc) := by rw [cell_of_row w ab 3 _ _ _ h]; rfl
theorem AB.kept {S : Nat → Prop} {w' : World} (h : AB w ab ado ai an la ln lc) (hk : Kept S w w') (hs : ¬ S ab) : AB w' ab ado ai an la ln lc := (hk.block ab (heap_lt h) hs).trans h
end

/-- The state between two acts. -/
def ExSt (w2 : World) (pb : Nat) (rb room : Nat) (v : Value) (at_ : Nat) (M : Int) (T : List Int) (wr : World) : Prop :=
  ∃ cb n9 c9 high zs, GS wr rb room cb n9 c9 at_ high M zs T ∧ Own wr w2.heap.size rb cb v T ∧ (∀ r ∈ T, May r) ∧ room ≤ 1100 ∧ w2.heap.size ≤ rb ∧ w2.heap.size ≤ cb ∧ Kept (fun _ => False) w2 wr
end Go.Proofs.YthhlchgnjdfpeaaDoor
