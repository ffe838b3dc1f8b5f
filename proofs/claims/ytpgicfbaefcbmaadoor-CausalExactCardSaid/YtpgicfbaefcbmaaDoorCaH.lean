/-
  CAUSAL ORDER: the reference's Old and Ready.
-/
import Derived.Test.YtpgicfbaefcbmaaDoorCaG
set_option linter.unusedVariables false
namespace Go.Proofs.YtpgicfbaefcbmaaDoor
open Go Go.RowKit

set_option maxRecDepth 100000 in
set_option maxHeartbeats 4000000 in
theorem rold_any (V : Option Addr) (vc : Nat) (vs : List Int) (b : OpS) (x : Int) (w : World) (hv : Nums w V 4 vs) (hs : 1 ≤ b.o.st ∧ b.o.st ≤ 4) (hx : vs[(b.o.st - 1).toNat]? = some x) :
    Calls Tryd.prog 24 #[.slice V 4 vc, opV b] w fun e w' => e = .returned (.bool (decide (b.o.nn ≤ x))) ∧ Kept (fun _ => False) w w' := by
  have hK0 : Kept (fun _ => False) w (w.alloc (opO b)) := (Kept.refl _ w).alloc _
  have HK0 := Lib.hid hK0
  have HO : Hid (Op9 (w.alloc (opO b)) ⟨w.heap.size, 0, none⟩ b) := op9_new
  have HV := Lib.hid (hv.kept hK0 (fun _ _ => id))
  clear hv hK0
  unfold opV
  go_enter Tryd.func24, Tryd.ntmps24
  obtain ⟨⟨kd, t, si, t0, s0, rn, st, nn, seen⟩, A, n, c⟩ := b
  simp only [opO] at *
  obtain ⟨m, rfl⟩ : ∃ m : Nat, st = (m : Int) + 1 := ⟨(st - 1).toNat, by omega⟩
  have hm : m < 4 := by omega
  rw [show ((m : Int) + 1 - 1).toNat = m by omega] at hx
  clear hs
  go_upto_region 1 with fail
  generalize w.alloc (.cells #[.int .i64 kd, .int .i64 t, .int .i64 si, .int .i64 t0, .int .i64 s0, .int .i64 rn, .int .i64 ((m : Int) + 1), .int .i64 nn, .slice A n c] 32) = w1 at *
  generalize w.heap.size = pb at *
  obtain ⟨c0, c1, c2, c3, c4, c5, c6, c7, c8⟩ := HO.out.cs
  simp only at c0 c1 c2 c3 c4 c5 c6 c7 c8
  obtain ⟨ad, y, rfl, hy, d0⟩ := HV.out.one hm
  rw [hy] at hx
  injection hx with hx
  subst hx
  have ew : IntKind.i64.wrap ((m : Int) + 1 - 1) = (m : Int) := by rw [IntWalk.i64_in _ ⟨by omega, by omega⟩]; omega
  have t1 : (0 : Int) ≤ (m : Int) := by omega
  have t2 : (m : Int) < (4 : Int) := by omega
  clear hy
  by_cases h : nn ≤ y
  · have b3 : decide (nn ≤ y) = true := decide_eq_true h
    clear h
    go_quiet (fail)
    go_wp2_with fail
    go_ret
    exact ⟨by rw [b3]; rfl, HK0.out.drewN _⟩
  · have b3 : decide (nn ≤ y) = false := decide_eq_false h
    clear h
    go_quiet (fail)
    go_wp2_with fail
    go_ret
    exact ⟨by rw [b3]; rfl, HK0.out.drewN _⟩
end Go.Proofs.YtpgicfbaefcbmaaDoor
