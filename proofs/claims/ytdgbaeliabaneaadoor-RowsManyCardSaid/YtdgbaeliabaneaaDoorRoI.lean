/-
  TREES OF ROWS: what they come to is what their rows come to; balance, whatever the sides.
-/
import Derived.Test.YtdgbaeliabaneaaDoorRoH
set_option linter.unusedVariables false
namespace Go.Proofs.YtdgbaeliabaneaaDoor
open Go Go.RowKit

/-- How many bytes rows have, how many runes. -/
def byL : List ByteArray → Nat
  | [] => 0
  | s :: L => s.size + byL L
def ruL : List ByteArray → Nat
  | [] => 0
  | s :: L => (rs s).length + ruL L
theorem byL_app (a b : List ByteArray) : byL (a ++ b) = byL a + byL b := by
  induction a with
  | nil => simp [byL]
  | cons s a ih => simp only [List.cons_append, byL, ih]; omega
theorem ruL_app (a b : List ByteArray) : ruL (a ++ b) = ruL a + ruL b := by
  induction a with
  | nil => simp [ruL]
  | cons s a ih => simp only [List.cons_append, ruL, ih]; omega
theorem Tr.by_rows (t : Tr) : t.by_ = byL t.rows := by
  induction t with
  | nil => rfl
  | node l s r hl hr => simp only [Tr.by_, Tr.rows, byL_app, byL, hl, hr]; omega
theorem Tr.ru_rows (t : Tr) : t.ru = ruL t.rows := by
  induction t with
  | nil => rfl
  | node l s r hl hr => simp only [Tr.ru, Tr.rows, ruL_app, ruL, hl, hr]; omega
def SmL (L : List ByteArray) : Prop := ∀ s ∈ L, s.size ≤ 1000000 ∧ (rs s).length ≤ 1000000
theorem Tr.sm_rows (t : Tr) : t.sm ↔ SmL t.rows := by
  induction t with
  | nil => exact ⟨fun _ s h => by simp [Tr.rows] at h, fun _ => trivial⟩
  | node l s r hl hr =>
    simp only [Tr.sm, Tr.rows, SmL, List.mem_append, List.mem_cons] at *
    rw [hl, hr]
    constructor
    · rintro ⟨h1, h2, h3⟩ x (hx | hx | hx)
      · exact h1 x hx
      · rw [hx]; exact h3
      · exact h2 x hx
    · intro h
      exact ⟨fun x hx => h x (.inl hx), fun x hx => h x (.inr (.inr hx)), h s (.inr (.inl rfl))⟩
/-- Rows that are few and small enough. -/
structure OkL (L : List ByteArray) : Prop where
  sm : SmL L
  si : L.length ≤ 10000000
  by_ : byL L ≤ 10000000
  ru : ruL L ≤ 10000000
theorem Tr.ok_rows (t : Tr) : t.Ok ↔ OkL t.rows :=
  ⟨fun h => ⟨t.sm_rows.1 h.sm, by rw [← Tr.size_rows]; exact h.si, by rw [← Tr.by_rows]; exact h.by_, by rw [← Tr.ru_rows]; exact h.ru⟩,
   fun h => ⟨t.sm_rows.2 h.sm, by rw [Tr.size_rows]; exact h.si, by rw [Tr.by_rows]; exact h.by_, by rw [Tr.ru_rows]; exact h.ru⟩⟩
theorem OkL.left {a b : List ByteArray} (h : OkL (a ++ b)) : OkL a := by
  have h2 := h.si; have h3 := h.by_; have h4 := h.ru
  rw [List.length_append] at h2
  rw [byL_app] at h3
  rw [ruL_app] at h4
  exact ⟨fun s hs => h.sm s (List.mem_append_left _ hs), by omega, by omega, by omega⟩
theorem OkL.right {a b : List ByteArray} (h : OkL (a ++ b)) : OkL b := by
  have h2 := h.si; have h3 := h.by_; have h4 := h.ru
  rw [List.length_append] at h2
  rw [byL_app] at h3
  rw [ruL_app] at h4
  exact ⟨fun s hs => h.sm s (List.mem_append_right _ hs), by omega, by omega, by omega⟩
theorem OkL.take {L : List ByteArray} (h : OkL L) (i : Nat) : OkL (L.take i) := OkL.left (b := L.drop i) (by rw [List.take_append_drop]; exact h)
theorem OkL.drop {L : List ByteArray} (h : OkL L) (i : Nat) : OkL (L.drop i) := OkL.right (a := L.take i) (by rw [List.take_append_drop]; exact h)
theorem Tr.Ok.same {t t' : Tr} (h : t.Ok) (e : t'.rows = t.rows) : t'.Ok := by rw [Tr.ok_rows, e, ← Tr.ok_rows]; exact h
theorem balance_any (vl vr : Value) (l r : Tr) (s : ByteArray) (X : Nat → Prop) (w : World) (hl : TrM w X vl l) (hr : TrM w X vr r) (hX : ∀ q, w.heap.size ≤ q → ¬ X q) (hO : (Tr.node l s r).Ok) :
    Calls Tryd.prog 49 #[vl, .string s, vr] w fun e w' => (∃ v, e = .returned v ∧ TrM w' X v (Tr.balance l s r)) ∧ Kept (fun _ => False) w w' := by
  by_cases h1 : r.ht + 1 < l.ht
  · cases l with
    | nil => simp [Tr.ht] at h1
    | node a x b =>
      by_cases h2 : b.ht ≤ a.ht
      · have e : Tr.balance (.node a x b) s r = .node a x (.node b s r) := by unfold Tr.balance; rw [if_pos h1]; simp only; rw [if_pos h2]
        rw [e]
        exact balance_ll vl vr a b r x s X w hl hr hX hO h1 h2
      · cases b with
        | nil => simp [Tr.ht] at h2
        | node c y d =>
          have e : Tr.balance (.node a x (.node c y d)) s r = .node (.node a x c) y (.node d s r) := by unfold Tr.balance; rw [if_pos h1]; simp only; rw [if_neg h2]
          rw [e]
          exact balance_lr vl vr a c d r x y s X w hl hr hX hO h1 h2
  · by_cases h3 : l.ht + 1 < r.ht
    · cases r with
      | nil => simp [Tr.ht] at h3
      | node a x b =>
        by_cases h2 : a.ht ≤ b.ht
        · have e : Tr.balance l s (.node a x b) = .node (.node l s a) x b := by unfold Tr.balance; rw [if_neg h1, if_pos h3]; simp only; rw [if_pos h2]
          rw [e]
          exact balance_rr vl vr l a b s x X w hl hr hX hO h3 h2
        · cases a with
          | nil => simp [Tr.ht] at h2
          | node c y d =>
            have e : Tr.balance l s (.node (.node c y d) x b) = .node (.node l s c) y (.node d x b) := by unfold Tr.balance; rw [if_neg h1, if_pos h3]; simp only; rw [if_neg h2]
            rw [e]
            exact balance_rl vl vr l c d b s x y X w hl hr hX hO h3 h2
    · exact balance_even vl vr l r s X w hl hr hX hO h1 h3
end Go.Proofs.YtdgbaeliabaneaaDoor
