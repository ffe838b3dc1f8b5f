/-
  A TREE OF ROWS split.
-/
import Derived.Test.YtdgbaeliabaneaaDoorRoJ
import Derived.Test.YtdgbaeliabaneaaDoorRoK
set_option linter.unusedVariables false
namespace Go.Proofs.YtdgbaeliabaneaaDoor
open Go Go.RowKit

theorem ok_sl {l r : Tr} {s : ByteArray} {i : Nat} (h : (Tr.node l s r).Ok) (hi : i ≤ l.size) : (Tr.node (Tr.split l i).2 s r).Ok := by
  rw [Tr.ok_rows] at h ⊢
  simp only [Tr.rows] at h ⊢
  rw [(Tr.split_rows l i hi).2]
  rw [← List.take_append_drop i l.rows, List.append_assoc] at h
  exact h.right
theorem ok_sr {l r : Tr} {s : ByteArray} {j : Nat} (h : (Tr.node l s r).Ok) (hj : j ≤ r.size) : (Tr.node l s (Tr.split r j).1).Ok := by
  rw [Tr.ok_rows] at h ⊢
  simp only [Tr.rows] at h ⊢
  rw [(Tr.split_rows r j hj).1]
  have e : l.rows ++ s :: r.rows = (l.rows ++ s :: r.rows.take j) ++ r.rows.drop j := by simp
  rw [e] at h
  exact h.left
/-- What split tells. -/
def Parts (w w' : World) (X : Nat → Prop) (a b : Tr) (e : Ending) : Prop := (∃ v1 v2, e = .returned (.tuple #[v1, v2]) ∧ TrM w' X v1 a ∧ TrM w' X v2 b) ∧ Kept (fun _ => False) w w'
set_option maxRecDepth 100000 in
set_option maxHeartbeats 4000000 in
theorem split_any (X : Nat → Prop) (t : Tr) : ∀ (v : Value) (i : Nat) (w : World), TrM w X v t → (∀ q, w.heap.size ≤ q → ¬ X q) → t.Ok → i ≤ t.size →
    Calls Tryd.prog 32 #[v, .int .i64 i] w fun e w' => Parts w w' X (Tr.split t i).1 (Tr.split t i).2 e := by
  induction t with
  | nil =>
    intro v i w h hX hO hi
    have h1 : v = .pointer none := h
    subst h1
    clear h
    go_enter Tryd.func32, Tryd.ntmps32
    go_wp2
    refine bodyPost_ret (results_tmp2 rfl _ _ _) rfl ?_
    exact ⟨⟨_, _, rfl, rfl, rfl⟩, Kept.refl _ w⟩
  | node l s r ihl ihr =>
    intro v i w h hX hO hi
    obtain ⟨b, vl, vr, rfl, hx, hb, hl, hr⟩ := h
    obtain ⟨pl, rfl⟩ := hl.ptr
    obtain ⟨pr, rfl⟩ := hr.ptr
    have f0 : w.cell? ⟨b, 0, none⟩ = some (.string s) := cell_of_row _ _ _ _ _ _ hb
    have f1 : w.cell? ⟨b, 1, none⟩ = some (.pointer pl) := cell_of_row _ _ _ _ _ _ hb
    have f2 : w.cell? ⟨b, 2, none⟩ = some (.pointer pr) := cell_of_row _ _ _ _ _ _ hb
    have cS := sum_any l (.pointer pl) X w hl
    have hfl := fun W => field0 (l.size : Nat) (l.by_ : Nat) (l.ru : Nat) W
    have KF : Hid (∀ W, Kept (fun _ => False) w W → W.cell? ⟨b, 0, none⟩ = some (.string s) ∧ W.cell? ⟨b, 1, none⟩ = some (.pointer pl) ∧ W.cell? ⟨b, 2, none⟩ = some (.pointer pr)) := fun W hk => ⟨cell_kept hk f0 id, cell_kept hk f1 id, cell_kept hk f2 id⟩
    have HL := Lib.hid hl
    have HR := Lib.hid hr
    have HX := Lib.hid hX
    have HO := Lib.hid hO
    have hsz := hO.si
    simp only [Tr.size] at hi hsz
    by_cases hil : i ≤ l.size
    · have d1 : decide ((i : Int) ≤ (l.size : Int)) = true := decide_eq_true (by omega)
      have d2 : decide (i ≤ l.size) = true := decide_eq_true hil
      have HI := Lib.hid ihl
      have HOJ := Lib.hid (ok_sl hO hil)
      have e : Tr.split (.node l s r) i = ((Tr.split l i).1, Tr.join (Tr.split l i).2 s r) := by rw [Tr.split, if_pos hil]
      rw [e]
      obtain ⟨T1, hT1⟩ : ∃ T, (Tr.split l i).1 = T := ⟨_, rfl⟩
      obtain ⟨T2, hT2⟩ : ∃ T, (Tr.split l i).2 = T := ⟨_, rfl⟩
      have HI : Hid (∀ w1, Kept (fun _ => False) w w1 → Calls Tryd.prog 32 #[.pointer pl, .int .i64 i] w1 fun e w' => Parts w1 w' X T1 T2 e) := by
        rw [← hT1, ← hT2]
        exact fun w1 hk => ihl (.pointer pl) i w1 (HL.out.keptF hk) (fun q hq => HX.out q (Nat.le_trans hk.size hq)) HO.out.l hil
      rw [hT2] at HOJ
      simp only [hT1, hT2]
      clear hb hl hr hX hO f0 f2 ihl ihr hi hsz hT1 hT2 e
      go_enter Tryd.func32, Tryd.ntmps32
      go_upto_region 6 with (first
        | (go_at_call 39; refine cS.mono ?_; rintro e w1 ⟨rfl, hk1⟩; have HK1 := Lib.hid hk1; have g1 := (KF.out w1 HK1.out).2.1; clear hk1 cS; have cI := HI.out w1 HK1.out)
        | (go_at_call 32; refine cI.mono ?_; rintro e w2 ⟨⟨v1, v2, rfl, hv1, hv2⟩, hk2⟩; have HK2 := Lib.hid (HK1.out.trans hk2); have HV1 := Lib.hid hv1; have HV2 := Lib.hid hv2; clear cI hk2 hv1 hv2))
      have KA := KF.out w2.drew HK2.out.drew
      have HD2 : Hid (Kept (fun _ => False) w w2.drew) := HK2.out.drew
      have cJ := join_any X s T2 r v2 (.pointer pr) w2.drew (HV2.out.keptF (Kept.refl _ w2).drew) (HR.out.keptF HD2.out) (fun q hq => HX.out q (Nat.le_trans HD2.out.size hq)) HOJ.out
      go_region_held3 (fun (W : World) => W.cell? ⟨b, 0, none⟩ = some (.string s) ∧ W.cell? ⟨b, 2, none⟩ = some (.pointer pr))
        (first | with_reducible exact ⟨KB.1, KB.2.2⟩ | with_reducible exact ⟨KA.1, KA.2.2⟩)
        (first
          | (go_at_call 43; refine cJ.mono ?_; rintro e w5 ⟨⟨v5, rfl, hv5⟩, hk5⟩; have HK5 := Lib.hid (HD2.out.trans hk5); have HK25 : Hid (Kept (fun _ => False) w2 w5) := ((Kept.refl (fun _ => False) w2).drew).trans hk5; have KB := KF.out w5 HK5.out; have HV5 := Lib.hid hv5; clear cJ hk5 hv5))
      all_goals
        go_wp2_with fail
        refine bodyPost_ret (results_tmp2 rfl _ _ _) rfl ?_
        exact ⟨⟨_, _, rfl, HV1.out.keptF HK25.out, HV5.out⟩, HK5.out⟩
    · obtain ⟨j, hj⟩ : ∃ j, i = l.size + 1 + j := ⟨i - l.size - 1, by omega⟩
      have d1 : decide ((i : Int) ≤ (l.size : Int)) = false := decide_eq_false (by omega)
      have d2 : decide (i ≤ l.size) = false := decide_eq_false hil
      have t1 : IntKind.i64.wrap ((i : Int) - (l.size : Int)) = (j : Int) + 1 := by rw [show (i : Int) - (l.size : Int) = (j : Int) + 1 by omega]; exact IntWalk.i64_in _ ⟨by omega, by omega⟩
      have t2 : IntKind.i64.wrap ((j : Int) + 1 - 1) = (j : Int) := by rw [show (j : Int) + 1 - 1 = (j : Int) by omega]; exact IntWalk.i64_in _ ⟨by omega, by omega⟩
      have t3 : IntKind.i64.wrap (j : Int) = (j : Int) := IntWalk.i64_in _ ⟨by omega, by omega⟩
      have hjr : j ≤ r.size := by omega
      have HOJ := Lib.hid (ok_sr hO hjr)
      have e : Tr.split (.node l s r) i = (Tr.join l s (Tr.split r j).1, (Tr.split r j).2) := by rw [Tr.split, if_neg hil, show i - l.size - 1 = j by omega]
      rw [e]
      obtain ⟨T1, hT1⟩ : ∃ T, (Tr.split r j).1 = T := ⟨_, rfl⟩
      obtain ⟨T2, hT2⟩ : ∃ T, (Tr.split r j).2 = T := ⟨_, rfl⟩
      have HI : Hid (∀ w1, Kept (fun _ => False) w w1 → Calls Tryd.prog 32 #[.pointer pr, .int .i64 j] w1 fun e w' => Parts w1 w' X T1 T2 e) := by
        rw [← hT1, ← hT2]
        exact fun w1 hk => ihr (.pointer pr) j w1 (HR.out.keptF hk) (fun q hq => HX.out q (Nat.le_trans hk.size hq)) HO.out.r hjr
      rw [hT1] at HOJ
      simp only [hT1, hT2]
      clear hb hl hr hX hO f0 f2 ihl ihr hi hsz hT1 hT2 e hj hjr
      go_enter Tryd.func32, Tryd.ntmps32
      go_upto_region 8 with (first
        | (go_at_call 39; refine cS.mono ?_; rintro e w1 ⟨rfl, hk1⟩; have HK1 := Lib.hid hk1; have g1 := (KF.out w1 HK1.out).2.2; clear hk1 cS; have cI := HI.out w1 HK1.out)
        | (go_at_call 32; refine cI.mono ?_; rintro e w2 ⟨⟨v1, v2, rfl, hv1, hv2⟩, hk2⟩; have HK2 := Lib.hid (HK1.out.trans hk2); have HV1 := Lib.hid hv1; have HV2 := Lib.hid hv2; clear cI hk2 hv1 hv2))
      have KA := KF.out w2.drew HK2.out.drew
      have HD2 : Hid (Kept (fun _ => False) w w2.drew) := HK2.out.drew
      have cJ := join_any X s l T1 (.pointer pl) v1 w2.drew (HL.out.keptF HD2.out) (HV1.out.keptF (Kept.refl _ w2).drew) (fun q hq => HX.out q (Nat.le_trans HD2.out.size hq)) HOJ.out
      go_region_held3 (fun (W : World) => W.cell? ⟨b, 0, none⟩ = some (.string s) ∧ W.cell? ⟨b, 1, none⟩ = some (.pointer pl))
        (first | with_reducible exact ⟨KB.1, KB.2.1⟩ | with_reducible exact ⟨KA.1, KA.2.1⟩)
        (first
          | (go_at_call 43; refine cJ.mono ?_; rintro e w5 ⟨⟨v5, rfl, hv5⟩, hk5⟩; have HK5 := Lib.hid (HD2.out.trans hk5); have HK25 : Hid (Kept (fun _ => False) w2 w5) := ((Kept.refl (fun _ => False) w2).drew).trans hk5; have KB := KF.out w5 HK5.out; have HV5 := Lib.hid hv5; clear cJ hk5 hv5))
      all_goals
        go_wp2_with fail
        refine bodyPost_ret (results_tmp2 rfl _ _ _) rfl ?_
        exact ⟨⟨_, _, rfl, HV5.out, HV2.out.keptF HK25.out⟩, HK5.out⟩
end Go.Proofs.YtdgbaeliabaneaaDoor
