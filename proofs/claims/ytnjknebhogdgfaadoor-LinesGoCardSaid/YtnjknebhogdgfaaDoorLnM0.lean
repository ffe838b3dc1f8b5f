/-
  THE MOTIONS BY ROWS: of whatever arguments; that the package wakes; what an ask's loops hold.
-/
import Derived.Test.YtnjknebhogdgfaaDoorLn3
import Derived.Test.YtnjknebhogdgfaaDoorLr2
import Derived.Test.YtnjknebhogdgfaaDoorLnO3
set_option linter.unusedVariables false
namespace Go.Proofs.YtnjknebhogdgfaaDoor
open Go Go.RowKit

/-- Whether these arguments may be. -/
def Good (s : ByteArray) (k key m : Int) : Prop := mayB s = true ∧ (0 ≤ k ∧ k ≤ (rs s).length) ∧ Rw.Line key ∧ 0 ≤ m ∧ m ≤ 999
theorem ans_form (o : Option Nat) (k : Int) : ∃ X K E : Int, ans o k = .tuple #[tgt X K, .int .i64 E] := by
  cases o with
  | none => exact ⟨0, 0, 6, rfl⟩
  | some x => exact ⟨x, k, 0, rfl⟩
/-- What is told, as three numbers. -/
def Told (s : ByteArray) (k key m : Int) (X K E : Int) : Prop :=
  (Good s k key m → ans (Rw.to (rs s) k.toNat key m.toNat) (Rw.kd key) = .tuple #[tgt X K, .int .i64 E]) ∧ (¬ Good s k key m → X = 0 ∧ K = 0 ∧ E = 1)
theorem lmove_all (s : ByteArray) (k key m : Int) (w : World) (hs : s.size ≤ 140737488351232) (hT : Tabs w) :
    Calls Tryd.prog 29 #[.string s, .int .i64 k, .int .i64 key, .int .i64 m] w fun e w' => (∃ X K E : Int, e = .returned (.tuple #[tgt X K, .int .i64 E]) ∧ Told s k key m X K E) ∧ Kept (fun _ => False) w w' := by
  by_cases hg : Good s k key m
  · obtain ⟨h1, ⟨h2, h3⟩, h4, h5, h6⟩ := id hg
    obtain ⟨kk, rfl⟩ := Int.eq_ofNat_of_zero_le h2
    obtain ⟨mm, rfl⟩ := Int.eq_ofNat_of_zero_le h5
    refine (move_yes s kk mm key w hT h1 (by omega) (by omega) h4).mono ?_
    rintro e w' ⟨rfl, hk⟩
    obtain ⟨X, K, E, he⟩ := ans_form (Rw.to (rs s) kk key mm) (Rw.kd key)
    exact ⟨⟨X, K, E, by rw [he], fun _ => he, fun h => absurd hg h⟩, hk⟩
  · by_cases hy : (mayB s = true ∧ 0 ≤ k ∧ k ≤ (rs s).length) ∧ 0 ≤ m ∧ m ≤ 999
    · obtain ⟨⟨h1, h2, h3⟩, h5, h6⟩ := id hy
      obtain ⟨kk, rfl⟩ := Int.eq_ofNat_of_zero_le h2
      obtain ⟨mm, rfl⟩ := Int.eq_ofNat_of_zero_le h5
      have h4 : ¬ Rw.Line key := fun h => hg ⟨h1, ⟨h2, h3⟩, h, h5, h6⟩
      refine (move_key s kk mm key w hT h1 (by omega) (by omega) h4).mono ?_
      rintro e w' ⟨rfl, hk⟩
      exact ⟨⟨0, 0, 1, rfl, fun h => absurd h hg, fun _ => ⟨rfl, rfl, rfl⟩⟩, hk⟩
    · refine (move_no s k key m w hs hT hy).mono ?_
      rintro e w' ⟨rfl, hk⟩
      exact ⟨⟨0, 0, 1, rfl, fun h => absurd h hg, fun _ => ⟨rfl, rfl, rfl⟩⟩, hk⟩
/-- The same, with the target written out. -/
theorem lmove_all2 (s : ByteArray) (k key m : Int) (w : World) (hs : s.size ≤ 140737488351232) (hT : Tabs w) :
    Calls Tryd.prog 29 #[.string s, .int .i64 k, .int .i64 key, .int .i64 m] w fun e w' => (∃ X K E : Int, e = .returned (.tuple #[.agg #[.int .i64 X, .int .i64 K], .int .i64 E]) ∧ Told s k key m X K E) ∧ Kept (fun _ => False) w w' :=
  lmove_all s k key m w hs hT
/-- The text that wakes. -/
def abc : ByteArray := ⟨#[97, 98, 10, 99]⟩
theorem abc_rs : rs abc = [97, 98, 10, 99] := by decide
theorem abc_may : mayB abc = true := by decide
theorem abc_to : ans (Rw.to (rs abc) 1 106 0) (Rw.kd 106) = .tuple #[tgt 4 2, .int .i64 0] := by
  rw [abc_rs]
  rfl
theorem wakes_any (w : World) (hT : Tabs w) : Calls Tryd.prog 27 #[] w fun e w' => e = .returned (.bool true) ∧ Kept (fun _ => False) w w' := by
  have cM := move_yes abc 1 0 106 w hT abc_may (by rw [abc_rs]; decide) (by decide) (by decide)
  rw [abc_to] at cM
  unfold abc tgt at cM
  clear hT
  go_enter Tryd.func27, Tryd.ntmps27
  go_wp2_with (first | (go_at_call 29; refine cM.mono ?_; rintro e w1 ⟨rfl, hk1⟩) | (go_at_call 26; refine (num_any _ _).mono ?_; rintro e w2 ⟨rfl, rfl⟩))
  go_ret
  exact ⟨rfl, hk1.alloc _⟩

theorem znum_t {x m : Int} (h : 0 ≤ x ∧ x ≤ m) (w : World) : Calls Tryd.prog 32 #[.int .i64 x, .int .i64 m] w fun e w' => e = .returned (.bool true) ∧ w' = w := by
  have c := znum_any x m w
  rwa [decide_eq_true h] at c
theorem znum_f {x m : Int} (h : ¬ (0 ≤ x ∧ x ≤ m)) (w : World) : Calls Tryd.prog 32 #[.int .i64 x, .int .i64 m] w fun e w' => e = .returned (.bool false) ∧ w' = w := by
  have c := znum_any x m w
  rwa [decide_eq_false h] at c
theorem line_t {key : Int} (h : Rw.Line key) (w : World) : Calls Tryd.prog 33 #[.int .i64 key] w fun e w' => e = .returned (.bool true) ∧ Kept (fun _ => False) w w' := by
  have c := line_any key w
  rwa [decide_eq_true h] at c
theorem line_f {key : Int} (h : ¬ Rw.Line key) (w : World) : Calls Tryd.prog 33 #[.int .i64 key] w fun e w' => e = .returned (.bool false) ∧ Kept (fun _ => False) w w' := by
  have c := line_any key w
  rwa [decide_eq_false h] at c
theorem Kept.stored {w w2 : World} (h : Kept (fun _ => False) w w2) (tb : Nat) (x k : Value) : Kept (fun b => b = tb) w ((w2.setCell ⟨tb, 0, none⟩ x).setCell ⟨tb, 1, none⟩ k) :=
  ((h.mono (T := fun b => b = tb) (fun _ _ h => h.elim)).setCell (p := ⟨tb, 0, none⟩) rfl x).setCell (p := ⟨tb, 1, none⟩) rfl k
theorem rmove_told {s : ByteArray} {A : Option Addr} {n c : Nat} {t : List Int} {kk mm : Nat} {key X K E : Int} (w : World) (hrs : rs s = t) (hA : Rn w A n t) (hn : n ≤ 6000) (hg : Good s kk key mm) (htold : Told s kk key mm X K E) :
    Calls Tryd.prog 34 #[.slice A n c, .int .i64 kk, .int .i64 key, .int .i64 mm] w fun e w' => e = .returned (.tuple #[.agg #[.int .i64 X, .int .i64 K], .int .i64 E]) ∧ Kept (fun _ => False) w w' := by
  obtain ⟨h1, ⟨h2, h3⟩, h4, h5, h6⟩ := id hg
  have ht := htold.1 hg
  have hl := hA.1
  rw [hrs] at ht h3
  have c := rmove_yes (c := c) (k := kk) (m := mm) key hA (by rw [← hrs]; exact rs_runey (mayB_valid h1)) (by omega) (by omega) (by omega) h4
  have ht' : ans (Rw.to t kk key mm) (Rw.kd key) = .tuple #[.agg #[.int .i64 X, .int .i64 K], .int .i64 E] := ht
  rwa [ht'] at c
/-- What a law's loops hold of every world. -/
structure Held (w : World) (pb : Nat) (p : AskV) (K : Option Addr) (kn : Nat) (keys : List Int) : Prop where
  pb : PB w pb p
  ask : AskOk w p
  keys : Nums w K kn keys
  tabs : Tabs w
theorem Held.kept {w w' : World} {pb : Nat} {p : AskV} {K : Option Addr} {kn : Nat} {keys : List Int} (h : Held w pb p K kn keys) (hk : Kept (fun _ => False) w w') : Held w' pb p K kn keys :=
  ⟨h.pb.kept hk id, h.ask.kept hk, h.keys.kept hk (fun _ _ => id), h.tabs.kept hk id id⟩
end Go.Proofs.YtnjknebhogdgfaaDoor
