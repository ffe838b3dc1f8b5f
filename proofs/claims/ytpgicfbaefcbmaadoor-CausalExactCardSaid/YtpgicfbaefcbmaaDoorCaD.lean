/-
  CAUSAL ORDER: the closure that tells whether an operation is ready; the first that is.
-/
import Derived.Test.YtpgicfbaefcbmaaDoorCaC
set_option linter.unusedVariables false
namespace Go.Proofs.YtpgicfbaefcbmaaDoor
open Go Go.RowKit

/-- Ready, by a vector. -/
def Cd.rd (vs : List Int) (o : Cd.OpP) : Prop := ∃ x, vs[(o.st - 1).toNat]? = some x ∧ Cd.rdy vs o x
theorem rd_of {vs : List Int} {o : Cd.OpP} {x : Int} (hx : vs[(o.st - 1).toNat]? = some x) : Cd.rd vs o ↔ Cd.rdy vs o x :=
  ⟨fun ⟨y, hy, h⟩ => by rw [hx] at hy; injection hy with hy; subst hy; exact h, fun h => ⟨x, hx, h⟩⟩
set_option maxRecDepth 100000 in
set_option maxHeartbeats 4000000 in
theorem rdyf_any (xb g xc : Nat) (T : TypeId) (vs : List Int) (b : OpS) (w : World) (hX : w.heap[xb]? = some (.cells #[.slice (some ⟨g, 0, none⟩) 4 xc] T (0, 0))) (hv : Vm w g xc vs) (hvl : vs.length = 4) (hvo : ∀ (j : Nat) (y : Int), vs[j]? = some y → inV y) (hb : OpOk w b) (hn : b.n ≤ 4) (hs : 1 ≤ b.o.st ∧ b.o.st ≤ 4) :
    Calls Tryd.prog 60 #[opV b, .pointer (some ⟨xb, 0, none⟩)] w fun e w' => (∃ E, e = .returned (.bool E) ∧ (E = true ↔ Cd.rd vs b.o)) ∧ Kept (fun _ => False) w w' := by
  have hlt : (b.o.st - 1).toNat < vs.length := by omega
  have hx : vs[(b.o.st - 1).toNat]? = some vs[(b.o.st - 1).toNat] := List.getElem?_eq_getElem hlt
  generalize vs[(b.o.st - 1).toNat] = x at hx
  have hk0 : Kept (fun _ => False) w (w.alloc (opO b)) := (Kept.refl _ w).alloc _
  have cR := cready_any (some ⟨g, 0, none⟩) xc vs b x (w.alloc (opO b)) ((hv.kept hk0 id).nums hvl) hvo (hb.kept hk0 (fun _ _ => id)) hn hs hx
  have HI := Lib.hid (rd_of hx)
  have HK0 := Lib.hid hk0
  have HO : Hid (Op9 (w.alloc (opO b)) ⟨w.heap.size, 0, none⟩ b) := op9_new
  have hX1 := (hk0.block xb (heap_lt hX) id).trans hX
  have s0 : (w.alloc (opO b)).cell? ⟨xb, 0, none⟩ = some (.slice (some ⟨g, 0, none⟩) 4 xc) := cell_of_row _ _ _ _ _ _ hX1
  clear hv hvl hvo hb hn hs hx hlt hk0 hX hX1
  unfold opV at cR ⊢
  go_enter Tryd.func60, Tryd.ntmps60
  obtain ⟨⟨kd, t, si, t0, s0', rn, st, nn, seen⟩, A, n, c⟩ := b
  simp only [opO] at *
  go_upto_region 1 with fail
  generalize w.alloc (.cells #[.int .i64 kd, .int .i64 t, .int .i64 si, .int .i64 t0, .int .i64 s0', .int .i64 rn, .int .i64 st, .int .i64 nn, .slice A n c] 32) = w1 at *
  generalize w.heap.size = pb at *
  obtain ⟨c0, c1, c2, c3, c4, c5, c6, c7, c8⟩ := HO.out.cs
  simp only at c0 c1 c2 c3 c4 c5 c6 c7 c8
  go_wp2_with (go_at_call 50; refine cR.mono ?_; rintro e w2 ⟨⟨E, rfl, hE⟩, hk2⟩; have HE := Lib.hid hE; have HK2 := Lib.hid hk2; clear hE hk2)
  go_ret
  exact ⟨⟨E, rfl, HE.out.trans HI.out.symm⟩, HK0.out.trans HK2.out⟩
end Go.Proofs.YtpgicfbaefcbmaaDoor
