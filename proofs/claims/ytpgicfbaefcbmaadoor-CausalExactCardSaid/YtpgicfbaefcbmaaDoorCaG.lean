/-
  CAUSAL ORDER: Old and Ready, of whatever arguments.
-/
import Derived.Test.YtpgicfbaefcbmaaDoorCaF
set_option linter.unusedVariables false
namespace Go.Proofs.YtpgicfbaefcbmaaDoor
open Go Go.RowKit

/-- Old, by a vector. -/
def Cd.od (vs : List Int) (o : Cd.OpP) : Prop := ∃ x, vs[(o.st - 1).toNat]? = some x ∧ o.nn ≤ x
theorem od_of {vs : List Int} {o : Cd.OpP} {x : Int} (hx : vs[(o.st - 1).toNat]? = some x) : Cd.od vs o ↔ o.nn ≤ x :=
  ⟨fun ⟨y, hy, h⟩ => by rw [hx] at hy; injection hy with hy; subst hy; exact h, fun h => ⟨x, hx, h⟩⟩
set_option maxRecDepth 100000 in
set_option maxHeartbeats 4000000 in
theorem pold_any (V : Option Addr) (n vc : Nat) (vs : List Int) (b : OpS) (w : World) (hv : Nums w V n vs) (hn : n ≤ 17592186044416) (hb : OpOk w b) (hT : Tabs w) :
    Calls Tryd.prog 21 #[.slice V n vc, opV b] w fun e w' => (∃ B E, e = .returned (.tuple #[.bool B, .int .i64 E]) ∧ ((Cd.vecOk vs ∧ Cd.opOk b.o) ∧ E = 0 ∧ (B = true ↔ Cd.od vs b.o) ∨ ¬ (Cd.vecOk vs ∧ Cd.opOk b.o) ∧ E = 1 ∧ B = false)) ∧ Kept (fun _ => False) w w' := by
  have hk0 : Kept (fun _ => False) w (w.alloc (opO b)) := (Kept.refl _ w).alloc _
  have cM := cmay_any V n vc vs (w.alloc (opO b)) (hv.kept hk0 (fun _ _ => id)) hn
  have cO := fun W (hk : Kept (fun _ => False) w W) => may_any b W (hb.kept hk (fun _ _ => id)) (hT.kept hk id id)
  have HK0 := Lib.hid hk0
  have HO : Hid (Op9 (w.alloc (opO b)) ⟨w.heap.size, 0, none⟩ b) := op9_new
  by_cases h1 : Cd.vecOk vs
  · rw [decide_eq_true h1] at cM
    by_cases h2 : Cd.opOk b.o
    · simp only [if_pos h2] at cO
      have h4 : n = 4 := by rw [← hv.1]; exact h1.1
      subst h4
      have hbn : b.n = 4 := by rw [← hb.seen.1]; exact h2.2.2.2.1.1
      have hbs := h2.2.1
      have hlt : (b.o.st - 1).toNat < vs.length := by rw [h1.1]; omega
      obtain ⟨x, hx⟩ : ∃ x, vs[(b.o.st - 1).toNat]? = some x := ⟨_, List.getElem?_eq_getElem hlt⟩
      have cR : ∀ W, Kept (fun _ => False) w W → Calls Tryd.prog 49 #[.slice V 4 vc, opV b] W fun e w' => (∃ E, e = .returned (.bool E) ∧ (E = true ↔ Cd.od vs b.o)) ∧ Kept (fun _ => False) W w' := fun W hk => (cold_any V vc vs b x W (hv.kept hk (fun _ _ => id)) hbs hx).mono (by
        rintro e w' ⟨rfl, hk⟩
        exact ⟨⟨_, rfl, by rw [decide_eq_true_iff]; exact (od_of hx).symm⟩, hk⟩)
      have HX := Lib.hid hx
      have HG : Hid (Cd.vecOk vs ∧ Cd.opOk b.o) := ⟨h1, h2⟩
      clear hv hn hb hT hk0 h1 h2 hbn hbs hlt hx
      unfold opV at cO cR ⊢
      go_enter Tryd.func21, Tryd.ntmps21
      obtain ⟨⟨kd, t, si, t0, s0, rn, st, nn, seen⟩, A, m, c⟩ := b
      simp only [opO] at *
      go_upto_region 1 with fail
      generalize w.alloc (.cells #[.int .i64 kd, .int .i64 t, .int .i64 si, .int .i64 t0, .int .i64 s0, .int .i64 rn, .int .i64 st, .int .i64 nn, .slice A m c] 32) = w1 at *
      generalize w.heap.size = pb at *
      go_upto_region 3 with (first
        | (go_at_call 48; refine cM.mono ?_; rintro e w2 ⟨rfl, hk2⟩; have HK2 := Lib.hid (HK0.out.trans hk2); obtain ⟨c0, c1, c2, c3, c4, c5, c6, c7, c8⟩ := (HO.out.kept hk2 id).cs; simp only at c0 c1 c2 c3 c4 c5 c6 c7 c8; clear hk2)
        | (go_at_call 39; refine (cO _ HK2.out).mono ?_; rintro e w3 ⟨rfl, hk3⟩; have HK3 := Lib.hid (HK2.out.trans hk3); have d0 := cell_kept hk3 c0 id; have d1 := cell_kept hk3 c1 id; have d2 := cell_kept hk3 c2 id; have d3 := cell_kept hk3 c3 id; have d4 := cell_kept hk3 c4 id; have d5 := cell_kept hk3 c5 id; have d6 := cell_kept hk3 c6 id; have d7 := cell_kept hk3 c7 id; have d8 := cell_kept hk3 c8 id; clear hk3 c0 c1 c2 c3 c4 c5 c6 c7 c8))
      go_wp2_with (go_at_call 49; refine (cR _ HK3.out).mono ?_; rintro e w4 ⟨⟨E, rfl, hE⟩, hk4⟩; have HE := Lib.hid hE; have HK4 := Lib.hid (HK3.out.trans hk4); clear hE hk4)
      go_ret2
      exact ⟨⟨E, 0, rfl, .inl ⟨HG.out, rfl, HE.out⟩⟩, HK4.out⟩
    · simp only [if_neg h2] at cO
      have HG : Hid (¬ (Cd.vecOk vs ∧ Cd.opOk b.o)) := fun h => h2 h.2
      clear hv hn hb hT hk0 h1 h2
      unfold opV at cO ⊢
      go_enter Tryd.func21, Tryd.ntmps21
      obtain ⟨⟨kd, t, si, t0, s0, rn, st, nn, seen⟩, A, m, c⟩ := b
      simp only [opO] at *
      go_upto_region 1 with fail
      generalize w.alloc (.cells #[.int .i64 kd, .int .i64 t, .int .i64 si, .int .i64 t0, .int .i64 s0, .int .i64 rn, .int .i64 st, .int .i64 nn, .slice A m c] 32) = w1 at *
      generalize w.heap.size = pb at *
      go_wp2_with (first
        | (go_at_call 48; refine cM.mono ?_; rintro e w2 ⟨rfl, hk2⟩; have HK2 := Lib.hid (HK0.out.trans hk2); obtain ⟨c0, c1, c2, c3, c4, c5, c6, c7, c8⟩ := (HO.out.kept hk2 id).cs; simp only at c0 c1 c2 c3 c4 c5 c6 c7 c8; clear hk2)
        | (go_at_call 39; refine (cO _ HK2.out).mono ?_; rintro e w3 ⟨rfl, hk3⟩; have HK3 := Lib.hid (HK2.out.trans hk3); clear hk3))
      go_ret2
      exact ⟨⟨false, 1, rfl, .inr ⟨HG.out, rfl, rfl⟩⟩, HK3.out⟩
  · rw [decide_eq_false h1] at cM
    have HG : Hid (¬ (Cd.vecOk vs ∧ Cd.opOk b.o)) := fun h => h1 h.1
    clear hv hn hb hT hk0 h1 cO
    unfold opV
    go_enter Tryd.func21, Tryd.ntmps21
    obtain ⟨⟨kd, t, si, t0, s0, rn, st, nn, seen⟩, A, m, c⟩ := b
    simp only [opO] at *
    go_upto_region 1 with fail
    generalize w.alloc (.cells #[.int .i64 kd, .int .i64 t, .int .i64 si, .int .i64 t0, .int .i64 s0, .int .i64 rn, .int .i64 st, .int .i64 nn, .slice A m c] 32) = w1 at *
    generalize w.heap.size = pb at *
    go_wp2_with (go_at_call 48; refine cM.mono ?_; rintro e w2 ⟨rfl, hk2⟩; have HK2 := Lib.hid (HK0.out.trans hk2); clear hk2)
    go_ret2
    exact ⟨⟨false, 1, rfl, .inr ⟨HG.out, rfl, rfl⟩⟩, HK2.out⟩
set_option maxRecDepth 100000 in
set_option maxHeartbeats 4000000 in
theorem pready_any (V : Option Addr) (n vc : Nat) (vs : List Int) (b : OpS) (w : World) (hv : Nums w V n vs) (hn : n ≤ 17592186044416) (hb : OpOk w b) (hT : Tabs w) :
    Calls Tryd.prog 22 #[.slice V n vc, opV b] w fun e w' => (∃ B E, e = .returned (.tuple #[.bool B, .int .i64 E]) ∧ ((Cd.vecOk vs ∧ Cd.opOk b.o) ∧ E = 0 ∧ (B = true ↔ Cd.rd vs b.o) ∨ ¬ (Cd.vecOk vs ∧ Cd.opOk b.o) ∧ E = 1 ∧ B = false)) ∧ Kept (fun _ => False) w w' := by
  have hk0 : Kept (fun _ => False) w (w.alloc (opO b)) := (Kept.refl _ w).alloc _
  have cM := cmay_any V n vc vs (w.alloc (opO b)) (hv.kept hk0 (fun _ _ => id)) hn
  have cO := fun W (hk : Kept (fun _ => False) w W) => may_any b W (hb.kept hk (fun _ _ => id)) (hT.kept hk id id)
  have HK0 := Lib.hid hk0
  have HO : Hid (Op9 (w.alloc (opO b)) ⟨w.heap.size, 0, none⟩ b) := op9_new
  by_cases h1 : Cd.vecOk vs
  · rw [decide_eq_true h1] at cM
    by_cases h2 : Cd.opOk b.o
    · simp only [if_pos h2] at cO
      have h4 : n = 4 := by rw [← hv.1]; exact h1.1
      subst h4
      have hbn : b.n = 4 := by rw [← hb.seen.1]; exact h2.2.2.2.1.1
      have hbs := h2.2.1
      have hlt : (b.o.st - 1).toNat < vs.length := by rw [h1.1]; omega
      obtain ⟨x, hx⟩ : ∃ x, vs[(b.o.st - 1).toNat]? = some x := ⟨_, List.getElem?_eq_getElem hlt⟩
      have cR : ∀ W, Kept (fun _ => False) w W → Calls Tryd.prog 50 #[.slice V 4 vc, opV b] W fun e w' => (∃ E, e = .returned (.bool E) ∧ (E = true ↔ Cd.rd vs b.o)) ∧ Kept (fun _ => False) W w' := fun W hk => (cready_any V vc vs b x W (hv.kept hk (fun _ _ => id)) (fun j y hj => vec_at h1 hj) (hb.kept hk (fun _ _ => id)) (by omega) hbs hx).mono (by
        rintro e w' ⟨⟨E, rfl, hE⟩, hk⟩
        exact ⟨⟨E, rfl, hE.trans (rd_of hx).symm⟩, hk⟩)
      have HX := Lib.hid hx
      have HG : Hid (Cd.vecOk vs ∧ Cd.opOk b.o) := ⟨h1, h2⟩
      clear hv hn hb hT hk0 h1 h2 hbn hbs hlt hx
      unfold opV at cO cR ⊢
      go_enter Tryd.func22, Tryd.ntmps22
      obtain ⟨⟨kd, t, si, t0, s0, rn, st, nn, seen⟩, A, m, c⟩ := b
      simp only [opO] at *
      go_upto_region 1 with fail
      generalize w.alloc (.cells #[.int .i64 kd, .int .i64 t, .int .i64 si, .int .i64 t0, .int .i64 s0, .int .i64 rn, .int .i64 st, .int .i64 nn, .slice A m c] 32) = w1 at *
      generalize w.heap.size = pb at *
      go_upto_region 3 with (first
        | (go_at_call 48; refine cM.mono ?_; rintro e w2 ⟨rfl, hk2⟩; have HK2 := Lib.hid (HK0.out.trans hk2); obtain ⟨c0, c1, c2, c3, c4, c5, c6, c7, c8⟩ := (HO.out.kept hk2 id).cs; simp only at c0 c1 c2 c3 c4 c5 c6 c7 c8; clear hk2)
        | (go_at_call 39; refine (cO _ HK2.out).mono ?_; rintro e w3 ⟨rfl, hk3⟩; have HK3 := Lib.hid (HK2.out.trans hk3); have d0 := cell_kept hk3 c0 id; have d1 := cell_kept hk3 c1 id; have d2 := cell_kept hk3 c2 id; have d3 := cell_kept hk3 c3 id; have d4 := cell_kept hk3 c4 id; have d5 := cell_kept hk3 c5 id; have d6 := cell_kept hk3 c6 id; have d7 := cell_kept hk3 c7 id; have d8 := cell_kept hk3 c8 id; clear hk3 c0 c1 c2 c3 c4 c5 c6 c7 c8))
      go_wp2_with (go_at_call 50; refine (cR _ HK3.out).mono ?_; rintro e w4 ⟨⟨E, rfl, hE⟩, hk4⟩; have HE := Lib.hid hE; have HK4 := Lib.hid (HK3.out.trans hk4); clear hE hk4)
      go_ret2
      exact ⟨⟨E, 0, rfl, .inl ⟨HG.out, rfl, HE.out⟩⟩, HK4.out⟩
    · simp only [if_neg h2] at cO
      have HG : Hid (¬ (Cd.vecOk vs ∧ Cd.opOk b.o)) := fun h => h2 h.2
      clear hv hn hb hT hk0 h1 h2
      unfold opV at cO ⊢
      go_enter Tryd.func22, Tryd.ntmps22
      obtain ⟨⟨kd, t, si, t0, s0, rn, st, nn, seen⟩, A, m, c⟩ := b
      simp only [opO] at *
      go_upto_region 1 with fail
      generalize w.alloc (.cells #[.int .i64 kd, .int .i64 t, .int .i64 si, .int .i64 t0, .int .i64 s0, .int .i64 rn, .int .i64 st, .int .i64 nn, .slice A m c] 32) = w1 at *
      generalize w.heap.size = pb at *
      go_wp2_with (first
        | (go_at_call 48; refine cM.mono ?_; rintro e w2 ⟨rfl, hk2⟩; have HK2 := Lib.hid (HK0.out.trans hk2); obtain ⟨c0, c1, c2, c3, c4, c5, c6, c7, c8⟩ := (HO.out.kept hk2 id).cs; simp only at c0 c1 c2 c3 c4 c5 c6 c7 c8; clear hk2)
        | (go_at_call 39; refine (cO _ HK2.out).mono ?_; rintro e w3 ⟨rfl, hk3⟩; have HK3 := Lib.hid (HK2.out.trans hk3); clear hk3))
      go_ret2
      exact ⟨⟨false, 1, rfl, .inr ⟨HG.out, rfl, rfl⟩⟩, HK3.out⟩
  · rw [decide_eq_false h1] at cM
    have HG : Hid (¬ (Cd.vecOk vs ∧ Cd.opOk b.o)) := fun h => h1 h.1
    clear hv hn hb hT hk0 h1 cO
    unfold opV
    go_enter Tryd.func22, Tryd.ntmps22
    obtain ⟨⟨kd, t, si, t0, s0, rn, st, nn, seen⟩, A, m, c⟩ := b
    simp only [opO] at *
    go_upto_region 1 with fail
    generalize w.alloc (.cells #[.int .i64 kd, .int .i64 t, .int .i64 si, .int .i64 t0, .int .i64 s0, .int .i64 rn, .int .i64 st, .int .i64 nn, .slice A m c] 32) = w1 at *
    generalize w.heap.size = pb at *
    go_wp2_with (go_at_call 48; refine cM.mono ?_; rintro e w2 ⟨rfl, hk2⟩; have HK2 := Lib.hid (HK0.out.trans hk2); clear hk2)
    go_ret2
    exact ⟨⟨false, 1, rfl, .inr ⟨HG.out, rfl, rfl⟩⟩, HK2.out⟩
end Go.Proofs.YtpgicfbaefcbmaaDoor
