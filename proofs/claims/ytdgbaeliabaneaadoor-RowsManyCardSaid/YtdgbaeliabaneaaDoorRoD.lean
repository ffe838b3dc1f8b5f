/-
  TREES OF ROWS: bounds that every walk asks for.
-/
import Derived.Test.YtdgbaeliabaneaaDoorRoC
set_option linter.unusedVariables false
namespace Go.Proofs.YtdgbaeliabaneaaDoor
open Go Go.RowKit

/-- Small enough: every row, and all together. -/
def Tr.sm : Tr → Prop
  | .nil => True
  | .node l s r => l.sm ∧ r.sm ∧ s.size ≤ 1000000 ∧ (rs s).length ≤ 1000000
structure Tr.Ok (t : Tr) : Prop where
  sm : t.sm
  si : t.size ≤ 10000000
  by_ : t.by_ ≤ 10000000
  ru : t.ru ≤ 10000000
theorem Tr.ht_size (t : Tr) : t.ht ≤ t.size := by
  induction t with
  | nil => exact Nat.le_refl _
  | node l s r hl hr => simp only [Tr.ht, Tr.size]; omega
theorem Tr.Ok.l {l r : Tr} {s : ByteArray} (h : (Tr.node l s r).Ok) : l.Ok := by
  have h1 := h.si
  have h2 := h.by_
  have h3 := h.ru
  simp only [Tr.size, Tr.by_, Tr.ru] at h1 h2 h3
  exact ⟨h.sm.1, by omega, by omega, by omega⟩
theorem Tr.Ok.r {l r : Tr} {s : ByteArray} (h : (Tr.node l s r).Ok) : r.Ok := by
  have h1 := h.si
  have h2 := h.by_
  have h3 := h.ru
  simp only [Tr.size, Tr.by_, Tr.ru] at h1 h2 h3
  exact ⟨h.sm.2.1, by omega, by omega, by omega⟩
/-- Over two trees, where all together is small enough. -/
theorem over_ok (vl vr : Value) (l r : Tr) (s : ByteArray) (X : Nat → Prop) (w : World) (hl : TrM w X vl l) (hr : TrM w X vr r) (hX : ∀ q, w.heap.size ≤ q → ¬ X q) (hO : (Tr.node l s r).Ok) :
    Calls Tryd.prog 42 #[vl, .string s, vr] w fun e w' => (∃ v, e = .returned v ∧ TrM w' X v (.node l s r)) ∧ Kept (fun _ => False) w w' :=
  over_any vl vr l r s X w hl hr hX hO.sm.2.2.1 ⟨by have := hO.l.si; omega, by have := hO.l.by_; omega, by have := hO.l.ru; omega, by have := l.ht_size; have := hO.l.si; omega⟩ ⟨by have := hO.r.si; omega, by have := hO.r.by_; omega, by have := hO.r.ru; omega, by have := r.ht_size; have := hO.r.si; omega⟩ hO.sm.2.2.2
end Go.Proofs.YtdgbaeliabaneaaDoor
