/-
  GapExact: an insert whatever it is.
-/
import Derived.Test.YthhlchgnjdfpeaaDoorApp
set_option linter.unusedVariables false
namespace Go.Proofs.YthhlchgnjdfpeaaDoor
open Go Go.RowKit

instance (c : Int) : Decidable (May c) := by unfold May; infer_instance
/-- What an insert answers. -/
def insF (room : Nat) (t xs : List Int) (K : Int) : Int := if ¬ (0 ≤ K ∧ K ≤ (t.length : Int)) then 3 else if ¬ (∀ x ∈ xs, May x) then 1 else if room < t.length + xs.length then 4 else 0
theorem insert_all {w : World} {rb room cb n c low high : Nat} {moves : Int} {zs t : List Int} (h : GS w rb room cb n c low high moves zs t) (K : Int) (A : Option Addr) (m cc : Nat) (xs : List Int) (hx : Nums w A m xs) (hmm : m ≤ 1000000000000) (hm : moves ≤ 1000000000000000000)
    (hA : ∀ ad, A = some ad → ad.block ≠ rb ∧ ad.block ≠ cb) :
    Calls Tryd.prog 16 #[.pointer (some ⟨rb, 0, none⟩), .int .i64 K, .slice A m cc] w fun e w' => e = .returned (.int .i64 (insF room t xs K)) ∧ Kept (fun k => k = rb ∨ k = cb) w w' ∧
      (insF room t xs K ≠ 0 → GS w' rb room cb n c low high moves zs t) ∧
      (insF room t xs K = 0 → ∃ cb' n' c' high' zs', (cb' = cb ∨ w.heap.size ≤ cb') ∧ GS w' rb room cb' n' c' (K.toNat + m) high' (moves + (((low : Int) - (K.toNat : Int)).natAbs : Nat)) zs' (t.take K.toNat ++ xs ++ t.drop K.toNat)) := by
  by_cases h1 : 0 ≤ K ∧ K ≤ (t.length : Int)
  · obtain ⟨i, rfl⟩ : ∃ i : Nat, K = (i : Int) := ⟨K.toNat, by omega⟩
    have hi : i ≤ t.length := by omega
    by_cases h2 : ∀ x ∈ xs, May x
    · by_cases h3 : room < t.length + xs.length
      · have e : insF room t xs i = 4 := by unfold insF; rw [if_neg (by simpa using h1), if_neg (by simpa using h2), if_pos h3]
        rw [e]
        refine (insert_full h i A m cc xs hi hx h2 hmm (by rw [← hx.1]; exact h3)).mono ?_
        rintro e' w' ⟨rfl, k, rfl⟩
        exact ⟨rfl, (Kept.refl _ w).drewN k, fun _ => h.drewN k, fun hh => by cases hh⟩
      · have e : insF room t xs i = 0 := by unfold insF; rw [if_neg (by simpa using h1), if_neg (by simpa using h2), if_neg h3]
        rw [e]
        refine (insert_yes h i A m cc xs hi hx h2 (by rw [← hx.1]; omega) hm hA).mono ?_
        rintro e' w' ⟨rfl, hk, hh⟩
        exact ⟨rfl, hk, fun hh => absurd rfl hh, fun _ => by simpa using hh⟩
    · have e : insF room t xs i = 1 := by unfold insF; rw [if_neg (by simpa using h1), if_pos h2]
      rw [e]
      refine (insert_form h i A m cc xs hi hx (Classical.byContradiction fun hc => h2 (fun x hx' => Classical.byContradiction fun hm' => hc ⟨x, hx', hm'⟩)) hmm).mono ?_
      rintro e' w' ⟨rfl, k, rfl⟩
      exact ⟨rfl, (Kept.refl _ w).drewN k, fun _ => h.drewN k, fun hh => by cases hh⟩
  · have e : insF room t xs K = 3 := by unfold insF; rw [if_pos h1]
    rw [e]
    refine (insert_none h K A m cc (by omega)).mono ?_
    rintro e' w' ⟨rfl, k, rfl⟩
    exact ⟨rfl, (Kept.refl _ w).drewN k, fun _ => h.drewN k, fun hh => by cases hh⟩
theorem own_text' {w : World} {base rb cb ct : Nat} {At : Option Addr} {t : List Int} (h : Own w base rb cb (.slice At t.length ct) t) :
    (convert 34 9 (.slice At t.length ct)).run Tryd.prog w = .ok (.string (runesBytes t)) w := by
  obtain ⟨At', ct', e, hct, hform⟩ := own_form h
  injection e with e1 e2 e3
  subst e1
  subst e3
  exact own_text h rfl hct hform
/-- A slice of runes with nothing in it, in memory of its own. -/
theorem own_empty (w : World) (base : Nat) (hb : base ≤ w.heap.size) : (w.alloc (.cells #[] 21)).ownsRow base 21 1 (.slice (some ⟨w.heap.size, 0, none⟩) 0 0) 0 [] := by
  refine ⟨rfl, Or.inr ⟨w.heap.size, 0, #[], rfl, hb, heap_alloc_new w _, Nat.le_refl _, by decide, ?_, ?_⟩⟩ <;> simp
theorem one_runes (t : List Int) : ∀ u ∈ t.map (Value.int .i32), u.oneCell' = true := fun u hu => by
  obtain ⟨r, _, rfl⟩ := List.mem_map.1 hu
  rfl
theorem one_new (W : World) (x : Int) (ty : TypeId) : ∀ ad, some (⟨W.heap.size, 0, none⟩ : Addr) = some ad → ∀ j u, ([Value.int .i32 x] : List Value)[j]? = some u → (W.alloc (.cells #[.int .i32 x] ty)).cell? (ad.add j) = some u := by
  intro ad had j u hj
  injection had with had
  subst had
  match j, hj with
  | 0, hj => simp at hj; subst hj; simp [Addr.add]
/-- A row of runes that the walk makes: its blocks are new since a world, and nothing else of that world has turned. -/
def Mk (w0 : World) (base : Nat) (v : Value) (t : List Int) (W : World) : Prop := W.ownsRow base 21 1 v t.length (t.map (Value.int .i32)) ∧ (∀ k, v.ownBlock = some k → w0.heap.size ≤ k) ∧ Kept (fun _ => False) w0 W
theorem mk_nil (w : World) (base : Nat) (hb : base ≤ w.heap.size) : Mk w base (.slice (some ⟨w.heap.size, 0, none⟩) 0 0) [] (w.alloc (.cells #[] 21)) :=
  ⟨own_empty w base hb, fun k hk => by simp [Value.ownBlock] at hk; omega, (Kept.refl _ w).alloc _⟩
theorem Mk.alloc {w0 W : World} {base : Nat} {v : Value} {t : List Int} (h : Mk w0 base v t W) (o : Obj) : Mk w0 base v t (W.alloc o) := ⟨h.1.alloc _, h.2.1, h.2.2.alloc _⟩
theorem Mk.app {w0 W W' : World} {base N : Nat} {v v' : Value} {t t2 : List Int} {xs : List Value} (h : Mk w0 base v t W) (ho : W'.ownsRow base 21 1 v' N xs) (hg : W.grownBy W' v.ownBlock) (ha : v'.ownBlock = v.ownBlock ∨ v'.ownBlock = some W.heap.size) (hN : N = (t ++ t2).length) (hx : xs = (t ++ t2).map (Value.int .i32)) : Mk w0 base v' (t ++ t2) W' := by
  subst hN
  subst hx
  refine ⟨ho, fun k hk => ?_, Kept.grew h.2.2 hg h.2.1⟩
  rcases ha with ha | ha
  · exact h.2.1 k (ha ▸ hk)
  · rw [ha] at hk
    injection hk with hk
    have := h.2.2.size
    omega
theorem Mk.own {w0 W : World} {base rb cb : Nat} {v : Value} {t : List Int} (h : Mk w0 base v t W) (hr : rb < w0.heap.size) (hc : cb < w0.heap.size) : Own W base rb cb v t :=
  ⟨h.1, fun e => by have := h.2.1 _ e; omega, fun e => by have := h.2.1 _ e; omega⟩
theorem own_far {w w' : World} {base rb cb : Nat} {v : Value} {t : List Int} (h : Own w base rb cb v t) (hk : Kept (fun k => k = rb ∨ k = cb) w w') : Own w' base rb cb v t :=
  h.kept hk (fun g hg e => by
    have h2 := h.2.1
    have h3 := h.2.2
    rw [hg] at h2 h3
    rcases e with e | e
    · exact h2 (by rw [e])
    · exact h3 (by rw [e]))
def goodB (xs : List Int) (j : Nat) : Bool := (xs.take j).all (fun y => decide (May y))
theorem good_next (xs : List Int) (j : Nat) (x : Int) (hx : xs[j]? = some x) : goodB xs (j + 1) = (goodB xs j && decide (May x)) := by
  unfold goodB
  rw [List.take_add_one, hx]
  simp
theorem good_all (xs : List Int) : goodB xs xs.length = true ↔ ∀ x ∈ xs, May x := by
  unfold goodB
  rw [List.take_length, List.all_eq_true]
  simp
end Go.Proofs.YthhlchgnjdfpeaaDoor
