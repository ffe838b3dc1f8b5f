/-
  THE LAWS' OWN CALLS: which offsets an ask asks about.
-/
import Derived.Test.YtohmhjeimeilcaaDoorAo1
set_option linter.unusedVariables false
namespace Go.Proofs.YtohmhjeimeilcaaDoor
open Go Go.RowKit

/-- An ask, as it lies in memory. -/
structure AskV where
  A : Option Addr
  n : Nat
  c : Nat
  ss : List ByteArray
  xa : Int
  xb : Int
  xr : Int
  xc : Int
  xk : Int
  xn : Int
  xq : Int
def AskV.cells (p : AskV) : Array Value := #[.slice p.A p.n p.c, .int .i64 p.xa, .int .i64 p.xb, .int .i64 p.xr, .int .i64 p.xc, .int .i64 p.xk, .int .i64 p.xn, .int .i64 p.xq]
/-- It reads as it should. -/
structure AskOk (w : World) (p : AskV) : Prop where
  ss : Strs w p.A p.n p.ss
  n : p.n ≤ 8796093022208
  xa : I64 p.xa
  xb : I64 p.xb
  xr : I64 p.xr
  xc : I64 p.xc
  xk : I64 p.xk
  xn : I64 p.xn
  xq : I64 p.xq
theorem AskOk.kept {w w' : World} {p : AskV} (h : AskOk w p) (hk : Kept (fun _ => False) w w') : AskOk w' p := ⟨h.ss.kept hk, h.n, h.xa, h.xb, h.xr, h.xc, h.xk, h.xn, h.xq⟩
/-- The block of a parameter of that type. -/
def PB (w : World) (pb : Nat) (p : AskV) : Prop := w.heap[pb]? = some (.cells p.cells 28 (0, 0))
theorem PB.kept {T : Nat → Prop} {w w' : World} {pb : Nat} {p : AskV} (h : PB w pb p) (hk : Kept T w w') (hs : ¬ T pb) : PB w' pb p := (hk.block pb (heap_lt h) hs).trans h
theorem PB.c {w : World} {pb : Nat} {p : AskV} (h : PB w pb p) (i : Nat) : w.cell? ⟨pb, i, none⟩ = p.cells[i]? := cell_of_row w pb i _ _ _ h

theorem heavy1_any (p : AskV) (w : World) (h : AskOk w p) (v1 v2 v3 v4 : Value) :
    Calls Tryd.prog 30 #[.agg #[.slice p.A p.n p.c, v1, v2, v3, v4]] w fun e w' => (∃ b : Bool, e = .returned (.bool b) ∧ (b = false → ∀ s ∈ p.ss, s.size ≤ 6000)) ∧ Kept (fun _ => False) w w' := by
  obtain ⟨A, n, c, ss, xa, xb, xr, xc, xk, xn, xq⟩ := p
  have cT := texts_any A n c ss (w.alloc (.cells #[.slice A n c, v1, v2, v3, v4] 26)) (h.ss.kept ((Kept.refl (fun _ => False) w).alloc _)) h.n
  clear h
  go_enter Tryd.func30, Tryd.ntmps30
  go_wp2_with (go_at_call 48; refine cT.mono ?_; rintro e w' ⟨⟨q, rfl, h1, h2, h3⟩, rfl⟩; have H3 := Lib.hid h3; clear h3)
  go_ret
  refine ⟨⟨_, rfl, fun hb => H3.out ?_⟩, (Kept.refl _ w).alloc _⟩
  simp at hb
  omega
theorem heavy10_any (p : AskV) (w : World) (h : AskOk w p) :
    Calls Tryd.prog 14 #[.agg p.cells] w fun e w' => (∃ b : Bool, e = .returned (.bool b) ∧ (b = false → ∀ s ∈ p.ss, s.size ≤ 6000)) ∧ Kept (fun _ => False) w w' := by
  have cT := fun v1 v2 v3 v4 => heavy1_any p (w.alloc (.cells p.cells 28)) (h.kept ((Kept.refl (fun _ => False) w).alloc _)) v1 v2 v3 v4
  clear h
  obtain ⟨A, n, c, ss, xa, xb, xr, xc, xk, xn, xq⟩ := p
  unfold AskV.cells at *
  go_enter Tryd.func14, Tryd.ntmps14
  go_wp2_with (go_at_call 30; refine (cT _ _ _ _).mono ?_; rintro e w' ⟨⟨b, rfl, h3⟩, hk⟩; have H3 := Lib.hid h3; have HK := Lib.hid hk; clear h3 hk)
  go_ret
  exact ⟨⟨_, rfl, H3.out⟩, ((Kept.refl _ w).alloc _).trans HK.out⟩
end Go.Proofs.YtohmhjeimeilcaaDoor
