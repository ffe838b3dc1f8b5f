/-
  PLAIN LAWS ON LISTS: what a gap buffer's cells say of its text.
-/
import Derived.Laws.CopyOwn
set_option linter.unusedVariables false
namespace Go.Proofs.YthhlchgnjdfpeaaDoor
open Go

/-- The text of cells. -/
def tx (zs : List Int) (n low high : Nat) : List Int := zs.take low ++ (zs.take n).drop high
theorem tx_length (zs : List Int) (n low high : Nat) (hl : low ≤ high) (hh : high ≤ n) (hn : n ≤ zs.length) : (tx zs n low high).length = n - (high - low) := by
  unfold tx
  simp only [List.length_append, List.length_take, List.length_drop]
  omega
theorem tx_get (zs : List Int) (n low high j : Nat) (hl : low ≤ high) (hh : high ≤ n) (hn : n ≤ zs.length) :
    (tx zs n low high)[j]? = if j < low then zs[j]? else if j + (high - low) < n then zs[j + (high - low)]? else none := by
  unfold tx
  rw [List.getElem?_append, List.length_take, Nat.min_eq_left (by omega)]
  by_cases h : j < low
  · rw [if_pos h, if_pos h, List.getElem?_take, if_pos h]
  · rw [if_neg h, if_neg h, List.getElem?_drop, List.getElem?_take, show high + (j - low) = j + (high - low) by omega]
theorem splice_get (L : List Int) (off j : Nat) (cs : List Int) (h : off + cs.length ≤ L.length) :
    (splice L off cs)[j]? = if j < off then L[j]? else if j < off + cs.length then cs[j - off]? else L[j]? := by
  unfold splice
  rw [List.getElem?_append, List.length_take, Nat.min_eq_left (by omega)]
  by_cases h1 : j < off
  · rw [if_pos h1, if_pos h1, List.getElem?_take, if_pos h1]
  · rw [if_neg h1, if_neg h1, List.getElem?_append]
    by_cases h2 : j < off + cs.length
    · rw [if_pos (by omega), if_pos h2]
    · rw [if_neg (by omega), if_neg h2, List.getElem?_drop]
      congr 1
      omega

theorem tx_down (zs : List Int) (n low high i : Nat) (hl : low ≤ high) (hh : high ≤ n) (hn : n ≤ zs.length) (hi : i < low) :
    tx (splice zs (high - (low - i)) ((zs.take low).drop i)) n i (high - (low - i)) = tx zs n low high := by
  have hlen : ((zs.take low).drop i).length = low - i := by simp only [List.length_take, List.length_drop]; omega
  apply List.ext_getElem?
  intro j
  rw [tx_get _ n low high j hl hh hn, tx_get _ n i _ j (by omega) (by omega) (by rw [length_splice _ _ _ (by omega)]; exact hn), splice_get _ _ _ _ (by omega), splice_get _ _ _ _ (by omega), hlen]
  simp only [List.getElem?_drop, List.getElem?_take]
  repeat' split
  all_goals first | rfl | omega | (congr 1; omega)
theorem tx_up (zs : List Int) (n low high i : Nat) (hl : low ≤ high) (hh : high ≤ n) (hn : n ≤ zs.length) (hi : low ≤ i) (hi2 : i + high ≤ n + low) :
    tx (splice zs low ((zs.take (high + (i - low))).drop high)) n i (high + (i - low)) = tx zs n low high := by
  have hlen : ((zs.take (high + (i - low))).drop high).length = i - low := by simp only [List.length_take, List.length_drop]; omega
  apply List.ext_getElem?
  intro j
  rw [tx_get _ n low high j hl hh hn, tx_get _ n i _ j (by omega) (by omega) (by rw [length_splice _ _ _ (by omega)]; exact hn), splice_get _ _ _ _ (by omega), splice_get _ _ _ _ (by omega), hlen]
  simp only [List.getElem?_drop, List.getElem?_take]
  repeat' split
  all_goals first | rfl | omega | (congr 1; omega) | (rename_i h _; symm; apply List.getElem?_eq_none; omega)
theorem tx_wide (zs : List Int) (n low high wide : Nat) (hl : low ≤ high) (hh : high ≤ n) (hn : n ≤ zs.length) :
    tx (splice (splice (List.replicate (n - (high - low) + wide) 0) 0 (zs.take low)) (low + wide) ((zs.take n).drop high)) (n - (high - low) + wide) low (low + wide) = tx zs n low high := by
  have h1 : (zs.take low).length = low := by simp only [List.length_take]; omega
  have h2 : ((zs.take n).drop high).length = n - high := by simp only [List.length_take, List.length_drop]; omega
  have h3 : (splice (List.replicate (n - (high - low) + wide) (0 : Int)) 0 (zs.take low)).length = n - (high - low) + wide := by
    rw [length_splice _ _ _ (by rw [h1, List.length_replicate]; omega), List.length_replicate]
  have h4 : (splice (splice (List.replicate (n - (high - low) + wide) (0 : Int)) 0 (zs.take low)) (low + wide) ((zs.take n).drop high)).length = n - (high - low) + wide := by
    rw [length_splice _ _ _ (by rw [h2, h3]; omega), h3]
  apply List.ext_getElem?
  intro j
  have G2 := fun j => splice_get (splice (List.replicate (n - (high - low) + wide) 0) 0 (zs.take low)) (low + wide) j ((zs.take n).drop high) (by rw [h2, h3]; omega)
  have G1 := fun j => splice_get (List.replicate (n - (high - low) + wide) 0) 0 j (zs.take low) (by rw [h1, List.length_replicate]; omega)
  rw [tx_get _ n low high j hl hh hn, tx_get _ _ low _ j (by omega) (by omega) (by omega)]
  simp only [G2, G1, h1, h2]
  simp only [List.getElem?_drop, List.getElem?_take]
  repeat' split
  all_goals first | rfl | omega | (congr 1; omega)

/-- One rune is written where the gap begins. -/
theorem tx_put (zs : List Int) (n low high : Nat) (v : Int) (hl : low < high) (hh : high ≤ n) (hn : n ≤ zs.length) (r : List Int) (h : tx zs n low high = r) :
    tx (zs.set low v) n (low + 1) high = r.take low ++ v :: r.drop low := by
  subst h
  apply List.ext_getElem?
  intro j
  have hlen := tx_length zs n low high (by omega) hh hn
  rw [tx_get _ n _ high j (by omega) hh (by rw [List.length_set]; exact hn), List.getElem?_append, List.length_take, hlen, Nat.min_eq_left (by omega)]
  simp only [List.getElem?_set, List.getElem?_take, List.getElem?_cons, List.getElem?_drop]
  rw [tx_get _ n low high _ (by omega) hh hn, tx_get _ n low high _ (by omega) hh hn]
  repeat' split
  all_goals first | rfl | omega | (congr 1; omega)
theorem tx_cut (zs : List Int) (n low high k : Nat) (hl : low ≤ high) (hh : high + k ≤ n) (hn : n ≤ zs.length) (r : List Int) (h : tx zs n low high = r) :
    tx zs n low (high + k) = r.take low ++ r.drop (low + k) := by
  subst h
  apply List.ext_getElem?
  intro j
  have hlen := tx_length zs n low high (by omega) (by omega) hn
  rw [tx_get _ n _ _ j (by omega) hh hn, List.getElem?_append, List.length_take, hlen, Nat.min_eq_left (by omega)]
  simp only [List.getElem?_take, List.getElem?_drop]
  rw [tx_get _ n low high _ (by omega) (by omega) hn, tx_get _ n low high _ (by omega) (by omega) hn]
  repeat' split
  all_goals first | rfl | omega | (congr 1; omega)
/-- A piece of the text, as it stands on both sides of the gap. -/
theorem tx_piece (zs : List Int) (n low high i m : Nat) (hl : low ≤ high) (hh : high ≤ n) (hn : n ≤ zs.length) (him : i + m + high ≤ n + low) :
    (zs.take (min (i + m) low)).drop (min i low) ++ (zs.take (max (i + m) low + high - low)).drop (max i low + high - low) = ((tx zs n low high).drop i).take m := by
  apply List.ext_getElem?
  intro j
  rw [List.getElem?_append, List.length_drop, List.length_take]
  simp only [List.getElem?_take, List.getElem?_drop]
  rw [tx_get _ n low high _ hl hh hn]
  repeat' split
  all_goals first | rfl | omega | (congr 1; omega)
end Go.Proofs.YthhlchgnjdfpeaaDoor
