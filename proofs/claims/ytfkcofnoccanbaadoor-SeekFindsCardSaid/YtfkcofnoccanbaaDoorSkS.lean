/-
  THE LAW SeekStands: what f leads to is that rune; t stands one ahead of it; F leads back.
-/
import Derived.Test.YtfkcofnoccanbaaDoorSkF
import Derived.Test.YtfkcofnoccanbaaDoorAo3
import Derived.Deep.RegionHeld3
import Derived.Deep.CutRange
set_option linter.unusedVariables false
namespace Go.Proofs.YtfkcofnoccanbaaDoor
open Go Go.RowKit

theorem num_any (x : Int) (w : World) : Calls Tryd.prog 14 #[.int .i64 x] w fun e w' => e = .returned (.int .i64 x) ∧ w' = w := by
  go_enter Tryd.func14, Tryd.ntmps14
  go_wp2
  go_ret
  exact ⟨rfl, rfl⟩
theorem texts_none (w : World) : Calls Tryd.prog 31 #[.slice none 0 0] w fun e w' => e = .returned (.int .i64 0) ∧ w' = w := by
  go_enter Tryd.func31, Tryd.ntmps31
  go_wp2
  go_loop [3, 4] (fun m i => m = .int .i64 0 ∧ i = .int .i64 0) (fun _ _ => 0)
  case atStart => exact ⟨rfl, rfl⟩
  case round =>
    obtain ⟨rfl, rfl⟩ := hrel
    go_wp2
    go_ret
    exact ⟨rfl, rfl⟩
theorem heavy_none (w : World) : Calls Tryd.prog 18 #[.agg #[.slice none 0 0, .int .i64 0, .int .i64 0, .int .i64 0, .int .i64 0]] w fun e w' => e = .returned (.bool false) ∧ Kept (fun _ => False) w w' := by
  have cT := texts_none (w.alloc (.cells #[.slice none 0 0, .int .i64 0, .int .i64 0, .int .i64 0, .int .i64 0] 26))
  go_enter Tryd.func18, Tryd.ntmps18
  go_wp2_with (go_at_call 31; refine cT.mono ?_; rintro e w' ⟨rfl, rfl⟩)
  go_ret
  exact ⟨rfl, (Kept.refl _ w).alloc _⟩
/-- The text that wakes. -/
def abcb : ByteArray := ⟨#[97, 98, 99, 98]⟩
theorem abcb_rs : rs abcb = [97, 98, 99, 98] := by decide
theorem abcb_may : mayB abcb = true := by decide
theorem abcb_to : ansI (Rw.find (rs abcb) 0 102 98 2) = .tuple #[.int .i64 3, .int .i64 0] := by
  rw [abcb_rs]
  rfl
theorem wakes_any (w : World) (hT : Tabs w) : Calls Tryd.prog 17 #[] w fun e w' => e = .returned (.bool true) ∧ Kept (fun _ => False) w w' := by
  have cM := pf102_any abcb 0 2 98 w hT abcb_may (by rw [abcb_rs]; decide) (by decide) (by decide)
  rw [abcb_to] at cM
  unfold abcb at cM
  clear hT
  go_enter Tryd.func17, Tryd.ntmps17
  go_wp2_with (first | (go_at_call 9; refine cM.mono ?_; rintro e w1 ⟨hk1, rfl⟩) | (go_at_call 14; refine (num_any _ _).mono ?_; rintro e w2 ⟨rfl, rfl⟩))
  go_ret
  exact ⟨rfl, hk1⟩
/-- What a law's loops hold of every world. -/
structure Held (w : World) (pb : Nat) (p : AskV) : Prop where
  pb : PB w pb p
  ask : AskOk w p
  tabs : Tabs w
theorem Held.kept {w w' : World} {pb : Nat} {p : AskV} (h : Held w pb p) (hk : Kept (fun _ => False) w w') : Held w' pb p :=
  ⟨h.pb.kept hk id, h.ask.kept hk, h.tabs.kept hk id id⟩
theorem Held.str {w : World} {pb : Nat} {p : AskV} (h : Held w pb p) {ad : Addr} (hA : p.A = some ad) {i : Nat} {s : ByteArray} (hs : p.ss[i]? = some s) : w.cell? (ad.add i) = some (.string s) := by
  obtain ⟨ad', e, hc, _⟩ := h.ask.ss.2 i s hs
  rw [hA] at e
  injection e with e
  subst e
  exact hc
theorem Rn.at_ {w : World} {rb n : Nat} {t : List Int} (h : Rn w (some ⟨rb, 0, none⟩) n t) {j : Nat} {x : Int} (hx : t[j]? = some x) : w.cell? ⟨rb, j, none⟩ = some (.int .i32 x) := by
  obtain ⟨ad, e, hc⟩ := h.2 j x hx
  injection e with e
  subst e
  rwa [addr_add, Nat.zero_add] at hc

theorem sk_no {t : List Int} {k : Nat} (r : Int) (hk : k + 1 < t.length) (h : t[k]? = some 10 ∨ t[k + 1]? = some 10) : Rw.find t k 102 r 1 = none ∧ Rw.find t k 116 r 1 = none := by
  have he : Rw.en t k ≤ k + 1 := by
    rcases h with h | h
    · rw [Rw.en_stop h]; omega
    · by_cases h0 : t[k]? = some 10
      · rw [Rw.en_stop h0]; omega
      · have hc : t[k]? = some t[k] := List.getElem?_eq_getElem (by omega)
        rw [← Rw.en_step hc (fun e => h0 (by rw [hc, e])), Rw.en_stop h]
        exact Nat.le_refl _
  have h0 : Rw.fnd t (Rw.beg t k) (Rw.en t k) 1 r (t.length + 2) ((k : Int) + 1) 1 = none := Rw.fnd_out (by omega)
  constructor
  · show Option.map _ (Rw.fnd t (Rw.beg t k) (Rw.en t k) 1 r (t.length + 2) ((k : Int) + 1) 1) = none
    rw [h0]; rfl
  · show Option.map _ (Rw.fnd t (Rw.beg t k) (Rw.en t k) 1 r (t.length + 2) ((k : Int) + 1) 1) = none
    rw [h0]; rfl
theorem sk_yes {t : List Int} {k : Nat} {a b : Int} (ha : t[k]? = some a) (hb : t[k + 1]? = some b) (h1 : a ≠ 10) (h2 : b ≠ 10) :
    ansI (Rw.find t k 102 b 1) = .tuple #[.int .i64 ((k : Int) + 1), .int .i64 0] ∧ ansI (Rw.find t k 116 b 1) = .tuple #[.int .i64 k, .int .i64 0] ∧ ansI (Rw.find t (k + 1) 70 a 1) = .tuple #[.int .i64 k, .int .i64 0] := by
  have e1 : Rw.en t (k + 1) = Rw.en t k := Rw.en_step ha h1
  have e2 : Rw.en t (k + 2) = Rw.en t (k + 1) := Rw.en_step hb h2
  have e3 := Rw.en_ge t (k + 2)
  have b1 := Rw.beg_le t k
  have b2 : Rw.beg t (k + 1) = Rw.beg t k := Rw.beg_step (by rw [ha]; intro e; injection e with e; exact h1 e)
  have f1 : Rw.fnd t (Rw.beg t k) (Rw.en t k) 1 b (t.length + 1 + 1) ((k : Int) + 1) 1 = some ((k : Int) + 1) := Rw.fnd_hit (by omega) (by rw [show ((k : Int) + 1).toNat = k + 1 by omega]; exact hb) (by omega)
  have f2 : Rw.fnd t (Rw.beg t (k + 1)) (Rw.en t (k + 1)) (-1) a (t.length + 1 + 1) (((k + 1 : Nat) : Int) + (-1)) 1 = some (((k + 1 : Nat) : Int) + (-1)) := Rw.fnd_hit (by omega) (by rw [show (((k + 1 : Nat) : Int) + (-1)).toNat = k by omega]; exact ha) (by omega)
  refine ⟨?_, ?_, ?_⟩
  · show ansI (Option.map (· + 0) (Rw.fnd t (Rw.beg t k) (Rw.en t k) 1 b (t.length + 1 + 1) ((k : Int) + 1) 1)) = _
    rw [f1]
    show Value.tuple #[.int .i64 ((k : Int) + 1 + 0), .int .i64 0] = _
    rw [Int.add_zero]
  · show ansI (Option.map (· + (-1)) (Rw.fnd t (Rw.beg t k) (Rw.en t k) 1 b (t.length + 1 + 1) ((k : Int) + 1) 1)) = _
    rw [f1]
    show Value.tuple #[.int .i64 ((k : Int) + 1 + (-1)), .int .i64 0] = _
    rw [show (k : Int) + 1 + (-1) = k by omega]
  · show ansI (Option.map (· + 0) (Rw.fnd t (Rw.beg t (k + 1)) (Rw.en t (k + 1)) (-1) a (t.length + 1 + 1) (((k + 1 : Nat) : Int) + (-1)) 1)) = _
    rw [f2]
    show Value.tuple #[.int .i64 (((k + 1 : Nat) : Int) + (-1) + 0), .int .i64 0] = _
    rw [show ((k + 1 : Nat) : Int) + (-1) + 0 = k by omega]
end Go.Proofs.YtfkcofnoccanbaaDoor
