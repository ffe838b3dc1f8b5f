/-
  TREES OF ROWS balanced: where the sides differ by at most one.
-/
import Derived.Test.YtdgbaeliabaneaaDoorRoD
set_option linter.unusedVariables false
namespace Go.Proofs.YtdgbaeliabaneaaDoor
open Go Go.RowKit

set_option maxRecDepth 100000 in
set_option maxHeartbeats 4000000 in
theorem balance_even (vl vr : Value) (l r : Tr) (s : ByteArray) (X : Nat → Prop) (w : World) (hl : TrM w X vl l) (hr : TrM w X vr r) (hX : ∀ q, w.heap.size ≤ q → ¬ X q) (hO : (Tr.node l s r).Ok) (h1 : ¬ r.ht + 1 < l.ht) (h2 : ¬ l.ht + 1 < r.ht) :
    Calls Tryd.prog 49 #[vl, .string s, vr] w fun e w' => (∃ v, e = .returned v ∧ TrM w' X v (Tr.balance l s r)) ∧ Kept (fun _ => False) w w' := by
  have hb : Tr.balance l s r = .node l s r := by unfold Tr.balance; rw [if_neg h1, if_neg h2]
  rw [hb]
  have c1 := Lib.hid (tall_any l vl X w hl)
  have c2 := Lib.hid (tall_any r vr X w hr)
  have cO := over_ok vl vr l r s X w hl hr hX hO
  have g1 := l.ht_size
  have g2 := r.ht_size
  have g3 := hO.l.si
  have g4 := hO.r.si
  obtain ⟨pl, rfl⟩ := hl.ptr
  obtain ⟨pr, rfl⟩ := hr.ptr
  obtain ⟨a, ha⟩ : ∃ a, l.ht = a := ⟨_, rfl⟩
  obtain ⟨b, hb2⟩ : ∃ b, r.ht = b := ⟨_, rfl⟩
  rw [ha] at c1 h1 h2 g1
  rw [hb2] at c2 h1 h2 g2
  have e1 : IntKind.i64.wrap ((b : Int) + 1) = (b : Int) + 1 := IntWalk.i64_in _ ⟨by omega, by omega⟩
  have e2 : IntKind.i64.wrap ((a : Int) + 1) = (a : Int) + 1 := IntWalk.i64_in _ ⟨by omega, by omega⟩
  have d1 : decide ((b : Int) + 1 < (a : Int)) = false := decide_eq_false (by omega)
  have d2 : decide ((a : Int) + 1 < (b : Int)) = false := decide_eq_false (by omega)
  clear hl hr hX hO hb ha hb2 g1 g2 g3 g4 h1 h2
  go_enter Tryd.func49, Tryd.ntmps49
  have c1a := c1.out
  go_wp2_with (first
    | (go_at_call 40; refine c1a.mono ?_; rintro e w' ⟨rfl, hw⟩; have hw2 := hw.symm; subst hw2; clear c1a; have c2a := c2.out)
    | (go_at_call 40; refine c2a.mono ?_; rintro e w' ⟨rfl, hw⟩; have hw2 := hw.symm; subst hw2; clear c2a; have c2b := c2.out)
    | (go_at_call 40; refine c2b.mono ?_; rintro e w' ⟨rfl, hw⟩; have hw2 := hw.symm; subst hw2; clear c2b; have c1b := c1.out)
    | (go_at_call 40; refine c1b.mono ?_; rintro e w' ⟨rfl, hw⟩; have hw2 := hw.symm; subst hw2; clear c1b)
    | (go_at_call 42; refine cO.mono ?_; rintro e w5 ⟨⟨v, rfl, hv⟩, hk5⟩; clear cO))
  go_ret
  exact ⟨⟨_, rfl, hv⟩, hk5⟩
end Go.Proofs.YtdgbaeliabaneaaDoor
