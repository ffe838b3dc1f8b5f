/-
  ELEMENTS: an insert done.
-/
import Derived.Test.YtlminkbaafjloaaDoorOdI
set_option linter.unusedVariables false
namespace Go.Proofs.YtlminkbaafjloaaDoor
open Go Go.RowKit

set_option maxRecDepth 100000 in
set_option maxHeartbeats 16000000 in
theorem do_of (L : List ElemS) (acc : Nat → Int) (v : Value) (b : OpS) (si r : Int) (hb : b.o = wkOp si r) (w : World) (hv : Se w v L) (hF : Few L acc) (hop : Cd.opOk b.o) (hne : ∀ e ∈ L, ¬ (e.t = 1 ∧ e.si = si)) (hB : OpOk w b) (hT : Tabs w)
    (R : Value → World → Prop) (hR : ∀ x W W', Kept (fun _ => False) W W' → R x W → R x W')
    (hI : ∀ W, Kept (fun _ => False) w W → Calls Tryd.prog 40 #[v, opV b, .bool false] W fun e w' => (∃ x, e = .returned (.tuple #[x, .int .i64 0]) ∧ R x w') ∧ Kept (fun _ => False) W w') :
    Calls Tryd.prog 20 #[v, opV b] w fun e w' => (∃ x, e = .returned (.tuple #[x, .int .i64 0]) ∧ R x w') ∧ Kept (fun _ => False) w w' := by
  have hk0 : Kept (fun _ => False) w (w.alloc (opO b)) := (Kept.refl _ w).alloc _
  have HO : Hid (∀ W, Kept (fun _ => False) (w.alloc (opO b)) W → Op9 W ⟨w.heap.size, 0, none⟩ b) := fun W hk => op9_new.kept hk id
  have HK0 := Lib.hid hk0
  have cC : ∀ W, Kept (fun _ => False) (w.alloc (opO b)) W → Calls Tryd.prog 37 #[v] W fun e w' => e = .returned (.int .i64 0) ∧ Kept (fun _ => False) W w' := fun W hk => check_few L acc v W (hv.kept (hk0.trans hk)) hF (hT.kept (hk0.trans hk) id id)
  have cM : ∀ W, Kept (fun _ => False) (w.alloc (opO b)) W → Calls Tryd.prog 38 #[opV b] W fun e w' => e = .returned (.int .i64 0) ∧ Kept (fun _ => False) W w' := fun W hk => by
    have h := may_any b W (hB.kept (hk0.trans hk) (fun _ _ => id)) (hT.kept (hk0.trans hk) id id)
    rwa [if_pos hop] at h
  have cF : ∀ W, Kept (fun _ => False) (w.alloc (opO b)) W → Calls Tryd.prog 39 #[v, idV 1 si] W fun e w' => e = .returned (.int .i64 (-1)) ∧ Kept (fun _ => False) W w' := fun W hk => find_no L v 1 si W (hv.kept (hk0.trans hk)) (by have := hF.2.1; omega) hne
  have cI : ∀ W, Kept (fun _ => False) (w.alloc (opO b)) W → Calls Tryd.prog 40 #[v, opV b, .bool false] W fun e w' => (∃ x, e = .returned (.tuple #[x, .int .i64 0]) ∧ R x w') ∧ Kept (fun _ => False) W w' := fun W hk => hI W (hk0.trans hk)
  clear hk0 hv hF hop hne hB hT hI
  obtain ⟨o, A, n, c⟩ := b
  simp only at hb
  subst hb
  unfold opV at *
  go_enter Tryd.func20, Tryd.ntmps20
  go_upto_region 1 with fail
  simp only [opO, wkOp] at HK0 HO cC cM cF cI
  simp only [wkOp]
  generalize w.alloc _ = w1 at *
  generalize w.heap.size = pb at *
  have HKZ : Hid (Kept (fun _ => False) w1 w1) := Kept.refl _ _
  have cC1 := cC w1 (Kept.refl _ _)
  obtain ⟨c0, c1, c2, c3, c4, c5, c6, c7, c8⟩ := (HO.out w1 (Kept.refl _ _)).cs
  simp only at c0 c1 c2 c3 c4 c5 c6 c7 c8
  go_wp2_with (first
    | (go_at_call 37; refine cC1.mono ?_; clear cC cC1 c0 c1 c2 c3 c4 c5 c6 c7 c8; rintro ee w2 ⟨rfl, hk2⟩; have HKY := Lib.hid (HKZ.out.trans hk2); clear hk2 HKZ; have HKZ := HKY; clear HKY; have cM1 := cM _ HKZ.out; obtain ⟨c0, c1, c2, c3, c4, c5, c6, c7, c8⟩ := (HO.out _ HKZ.out).cs; simp only at c0 c1 c2 c3 c4 c5 c6 c7 c8)
    | (go_at_call 38; refine cM1.mono ?_; clear cM cM1 c0 c1 c2 c3 c4 c5 c6 c7 c8; rintro ee w3 ⟨rfl, hk3⟩; have HKY := Lib.hid (HKZ.out.trans hk3); clear hk3 HKZ; have HKZ := HKY; clear HKY; have cF1 := cF _ HKZ.out; obtain ⟨c0, c1, c2, c3, c4, c5, c6, c7, c8⟩ := (HO.out _ HKZ.out).cs; simp only at c0 c1 c2 c3 c4 c5 c6 c7 c8)
    | (go_at_call 39; refine cF1.mono ?_; clear cF cF1 c0 c1 c2 c3 c4 c5 c6 c7 c8; rintro ee w4 ⟨rfl, hk4⟩; have HKY := Lib.hid (HKZ.out.trans hk4); clear hk4 HKZ; have HKZ := HKY; clear HKY; have cI1 := cI _ HKZ.out; obtain ⟨c0, c1, c2, c3, c4, c5, c6, c7, c8⟩ := (HO.out _ HKZ.out).cs; simp only at c0 c1 c2 c3 c4 c5 c6 c7 c8)
    | (go_at_call 40; refine cI1.mono ?_; clear cI cI1 c0 c1 c2 c3 c4 c5 c6 c7 c8; rintro ee w5 ⟨⟨x, rfl, hx⟩, hk5⟩; have HX := Lib.hid hx; have HKY := Lib.hid (HKZ.out.trans hk5); clear hk5 hx HKZ; have HKZ := HKY; clear HKY))
  go_ret2
  exact ⟨⟨x, rfl, HX.out⟩, HK0.out.trans HKZ.out⟩
end Go.Proofs.YtlminkbaafjloaaDoor
