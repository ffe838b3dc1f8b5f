/-
  NODES: whether one is placed well behind others.
-/
import Derived.Test.YthbfmdnibijapaaDoorUnF
import Derived.Test.YthbfmdnibijapaaDoorTk2
import Derived.BigQuiet
set_option linter.unusedVariables false
namespace Go.Proofs.YthbfmdnibijapaaDoor
open Go Go.RowKit

/-- Placed well behind others. -/
def Pl (L : List NodeS) (e : NodeS) : Prop := match L.getLast? with
  | none => e.sq = 0 ∧ e.pa = -1
  | some p => p.sq < e.sq ∧ e.sq ≤ 1073741824 ∧ 0 ≤ idx L e.pa
theorem pl_some {L : List NodeS} {l e : NodeS} (h : L.getLast? = some l) : Pl L e ↔ l.sq < e.sq ∧ e.sq ≤ 1073741824 ∧ 0 ≤ idx L e.pa := by unfold Pl; rw [h]
instance (L : List NodeS) (e : NodeS) : Decidable (Pl L e) := by unfold Pl; split <;> infer_instance
set_option maxRecDepth 100000 in
set_option maxHeartbeats 4000000 in
theorem placed_any (A : Option Addr) (n c : Nat) (L : List NodeS) (e : NodeS) (w : World) (hA : Ng w A n L) (hn : n ≤ 100000) (ho : Srt L) :
    Calls Tryd.prog 68 #[.slice A n c, nodeV e] w fun r w' => r = .returned (.bool (decide (Pl L e))) ∧ Kept (fun _ => False) w w' := by
  obtain ⟨a, p, at_, tx⟩ := e
  have hk0 : Kept (fun _ => False) w (w.alloc (nodeO ⟨a, p, at_, tx⟩)) := (Kept.refl _ w).alloc _
  have HE : Hid (∀ W, Kept (fun _ => False) (w.alloc (nodeO ⟨a, p, at_, tx⟩)) W → Nd4 W ⟨w.heap.size, 0, none⟩ ⟨a, p, at_, tx⟩) := fun W hk => nd4_new.kept hk id
  have HK0 := Lib.hid hk0
  have HA := Lib.hid (hA.kept hk0 (fun _ _ => id))
  obtain ⟨R, hR⟩ : ∃ R, decide (Pl L ⟨a, p, at_, tx⟩) = R := ⟨_, rfl⟩
  rw [hR]
  have HR := Lib.hid hR
  have cF := fun W (hk : Kept (fun _ => False) (w.alloc (nodeO ⟨a, p, at_, tx⟩)) W) => nfind_any A n c L p W (hA.kept (hk0.trans hk) (fun _ _ => id)) hn ho
  obtain ⟨z, hz⟩ : ∃ z, idx L p = z := ⟨_, rfl⟩
  rw [hz] at cF
  have HZ := Lib.hid hz
  clear hk0 hA hR hz ho
  go_enter Tryd.func68, Tryd.ntmps68
  go_upto_region 1 with fail
  simp only [nodeO] at HE HA HK0 cF
  generalize w.alloc _ = w1 at *
  generalize w.heap.size = g at *
  obtain ⟨c0, c1, c2, c3⟩ := (HE.out w1 (Kept.refl _ _)).cs
  simp only at c0 c1 c2 c3
  by_cases hn0 : n = 0
  · subst hn0
    have hL : L = [] := List.eq_nil_of_length_eq_zero HA.out.len
    subst hL
    by_cases h1 : a = 0
    · subst h1
      have hv : Hid (R = (p == -1)) := by show _ = _; rw [← HR.out]; by_cases h2 : p = -1 <;> simp [Pl, h2]
      go_wp2_with fail
      go_ret
      exact ⟨by rw [hv.out]; rfl, HK0.out⟩
    · have b1 : (a == 0) = false := by simp [h1]
      have hv : Hid (R = false) := by show _ = _; rw [← HR.out]; simp [Pl, h1]
      go_wp2_with fail
      go_ret
      exact ⟨by rw [hv.out]; rfl, HK0.out⟩
  · obtain ⟨k, hk⟩ : ∃ k, n = k + 1 := ⟨n - 1, by omega⟩
    obtain ⟨ad, l, rfl, hl, h4⟩ := HA.out.at_ (show k < n by omega)
    have b0 : ((n : Int) == 0) = false := by simp; omega
    have hlast : L.getLast? = some l := by
      rw [List.getLast?_eq_getElem?, show L.length - 1 = k by have := HA.out.len; omega]; exact hl
    have HLA := Lib.hid hlast
    have f0 := h4.c0
    have HF0 := Lib.hid f0
    clear hl h4 hlast
    go_upto_region 3 with fail
    have KA : w1.drew.cell? ⟨g, 0, none⟩ = some (.int .i64 a) ∧ w1.drew.cell? ⟨g, 1, none⟩ = some (.int .i64 p) ∧ w1.drew.cell? (ad.add (k * 4)) = some (.int .i64 l.sq) := ⟨c0, c1, HF0.out⟩
    have we : IntKind.i64.wrap ((n : Int) - 1) = (k : Int) := by rw [show (n : Int) - 1 = (k : Int) by omega]; exact IntWalk.i64_in _ (by omega)
    have t1 : (0 : Int) ≤ (k : Int) := by omega
    have t2 : (k : Int) < (n : Int) := by omega
    clear hk hn0
    have cF1 := cF w1.drew (Kept.refl _ w1).drew
    clear c2 c3 cF
    by_cases h1 : l.sq < a
    · have b1 : decide (l.sq < a) = true := decide_eq_true h1
      by_cases h2 : a ≤ 1073741824
      · have b2 : decide (a ≤ 1073741824) = true := decide_eq_true h2
        have hv : Hid (R = decide (0 ≤ z)) := by
          show _ = _
          rw [← HR.out, ← HZ.out]
          exact decide_eq_decide.2 (by rw [pl_some HLA.out]; simp [h1, h2])
        clear h1 h2 c0 c1 f0
        go_region_held3 (fun (W : World) => W.cell? ⟨g, 0, none⟩ = some (.int .i64 a) ∧ W.cell? ⟨g, 1, none⟩ = some (.int .i64 p) ∧ W.cell? (ad.add (k * 4)) = some (.int .i64 l.sq))
          (first | with_reducible exact KB | with_reducible exact KA)
          (first | (go_at_call 62; refine cF1.mono ?_; clear cF1; rintro ee w3 ⟨rfl, hk3⟩; have HK3 := Lib.hid ((Kept.refl (fun _ => False) w1).drew.trans hk3); have hn3 := (HE.out w3 HK3.out).cs; have KB : w3.cell? ⟨g, 0, none⟩ = some (.int .i64 a) ∧ w3.cell? ⟨g, 1, none⟩ = some (.int .i64 p) ∧ w3.cell? (ad.add (k * 4)) = some (.int .i64 l.sq) := ⟨hn3.1, hn3.2.1, cell_kept HK3.out HF0.out id⟩; clear hk3 hn3))
        go_wp2_with fail
        go_ret
        exact ⟨by rw [hv.out]; rfl, HK0.out.trans HK3.out⟩
      · have b2 : decide (a ≤ 1073741824) = false := decide_eq_false h2
        have hv : Hid (R = false) := by
          show _ = _
          rw [← HR.out]
          exact decide_eq_false (by rw [pl_some HLA.out]; simp [h2])
        have h2' : (1073741824 : Int) < a := by omega
        clear h1 h2
        go_quiet (fail)
        go_wp2_with fail
        go_ret
        exact ⟨by rw [hv.out]; rfl, HK0.out.drewN _⟩
    · have b1 : decide (l.sq < a) = false := decide_eq_false h1
      have hv : Hid (R = false) := by
        show _ = _
        rw [← HR.out]
        exact decide_eq_false (by rw [pl_some HLA.out]; simp [h1])
      have h1' : a ≤ l.sq := by omega
      clear h1
      go_quiet (fail)
      go_wp2_with fail
      go_ret
      exact ⟨by rw [hv.out]; rfl, HK0.out.drewN _⟩
end Go.Proofs.YthbfmdnibijapaaDoor
