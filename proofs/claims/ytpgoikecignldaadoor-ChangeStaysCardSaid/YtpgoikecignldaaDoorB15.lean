/-
  THE REFERENCE's Between (chapter 15): some range.
-/
import Derived.Test.YtpgoikecignldaaDoorTkn
import Derived.Deep.RegionWith
import Derived.Lib.MinMax
set_option linter.unusedVariables false
namespace Go.Proofs.YtpgoikecignldaaDoor
open Go Go.RowKit

def SomeRng (w : World) (e : Ending) (w' : World) : Prop := ∃ (lo hi : Int) (line : Bool), e = .returned (rngV lo hi line) ∧ Kept (fun _ => False) w w'
theorem rng_three {w : World} {g : Nat} {lo hi : Int} {line : Bool} (h : w.heap[g]? = some (rngO lo hi line)) (lo' hi' : Int) (line' : Bool) :
    (((w.setCell ⟨g, 0, none⟩ (.int .i64 lo')).setCell ⟨g, 1, none⟩ (.int .i64 hi')).setCell ⟨g, 2, none⟩ (.bool line')).heap[g]? = some (rngO lo' hi' line') :=
  (heap_set (heap_set (heap_set h _) _) _).trans rfl
theorem Kept.three {S : Nat → Prop} {w w1 : World} {g : Nat} (h : Kept S w w1) (hg : S g) (v0 v1 v2 : Value) :
    Kept S w (((w1.setCell ⟨g, 0, none⟩ v0).setCell ⟨g, 1, none⟩ v1).setCell ⟨g, 2, none⟩ v2) :=
  ((h.setCell (p := ⟨g, 0, none⟩) hg _).setCell (p := ⟨g, 1, none⟩) hg _).setCell (p := ⟨g, 2, none⟩) hg _
theorem rng_free {w : World} {g : Nat} {lo hi : Int} {line : Bool} (h : w.heap[g]? = some (rngO lo hi line)) : w.frozen? ⟨g, 0, none⟩ = false ∧ w.frozen? ⟨g, 1, none⟩ = false ∧ w.frozen? ⟨g, 2, none⟩ = false := ⟨frozen_of h, frozen_of h, frozen_of h⟩
set_option maxRecDepth 100000 in
theorem res_rng {fn : Func} {p : Tmp} (h : fn.results = #[.cell p 36]) (tmps : Array Value) (w : World) (g : Nat) (a d : Int) (s : Bool) (fr : Nat × Nat) (hp : tmps.getD p undef = .pointer (some ⟨g, 0, none⟩)) (hg : w.heap[g]? = some (.cells #[.int .i64 a, .int .i64 d, .bool s] 36 fr)) :
    (results fn tmps).run Tryd.prog w = .ok (rngV a d s) w :=
  results_cell_row h tmps _ g _ _ _ _ hp hg Tryd.underlying36 rfl (by kernel_rfl)
set_option maxRecDepth 100000 in
set_option maxHeartbeats 1000000 in
theorem b15_any (A : Option Addr) (n c : Nat) (t : List Int) (a b : Nat) (kind : Int) (w : World) (hA : Rn w A n t) (ha : a ≤ n) (hb : b ≤ n) (hn : n ≤ 6000) (hkind : kind = 0 ∨ kind = 1 ∨ kind = 2) :
    Calls Tryd.prog 12 #[.slice A n c, .int .i64 a, .int .i64 b, .int .i64 kind] w (SomeRng w) := by
  obtain ⟨m, hm⟩ : ∃ m, min a b = m := ⟨_, rfl⟩
  obtain ⟨M, hM⟩ : ∃ M, max a b = M := ⟨_, rfl⟩
  have hmI : min (a : Int) (b : Int) = (m : Int) := by omega
  have hMI : max (a : Int) (b : Int) = (M : Int) := by omega
  have hmn : m ≤ n := by omega
  have hMn : M ≤ n := by omega
  have hka : Kept (fun _ => False) w ((w.alloc (rngO 0 0 false)).alloc (rngO m M false)) := ((Kept.refl _ w).alloc _).alloc _
  have hR := hA.kept hka (fun _ _ => id)
  have HG0 : Hid (((w.alloc (rngO 0 0 false)).alloc (rngO m M false)).heap[w.heap.size]? = some (rngO 0 0 false)) := heap_two' w _ _
  have HY0 : Hid (((w.alloc (rngO 0 0 false)).alloc (rngO m M false)).heap[w.heap.size + 1]? = some (rngO m M false)) := heap_two'' w _ _
  have HKA := Lib.hid hka
  have HR := Lib.hid hR
  obtain ⟨g, hg⟩ : ∃ g, w.heap.size = g := ⟨_, rfl⟩
  have HG := Lib.hid hg
  rw [hg] at HG0 HY0
  clear hA hka hg hR hm hM
  go_enter Tryd.func12, Tryd.ntmps12
  go_upto_region 2 with fail
  simp only [HG.out]
  generalize (w.alloc (rngO 0 0 false)).alloc (rngO m M false) = W0 at *
  obtain ⟨f0, f1, f2⟩ := rng_facts HY0.out
  obtain ⟨k0, k1, k2⟩ := rng_free HY0.out
  obtain ⟨d0, d1, d2⟩ := rng_facts HG0.out
  obtain ⟨e0, e1, e2⟩ := rng_free HG0.out
  have cB := fun (q : Nat) => rbegin_any A n c t m (W0.drewN q) (HR.out.drewN q) hmn (by omega)
  have cE := fun (q : Nat) => rend_any A n c t M (W0.drewN q) (HR.out.drewN q) hMn (by omega)
  clear hmI hMI
  have hgg1 : ¬ g = g + 1 := by omega
  have hgg2 : ¬ g + 1 = g := by omega
  rcases hkind with rfl | rfl | rfl
  · go_wp2
    refine bodyPost_ret (res_rng rfl _ _ g _ _ _ (0, 0) rfl (rng_three HG0.out _ _ _)) rfl ⟨_, _, _, rfl, ?_⟩
    exact HKA.out.fresh (Kept.three (Kept.refl (fun q => q = g) _) rfl _ _ _) (fun q hq (e : q = g) => by have := HG.out; omega)
  · have hc : M = n ∨ ∃ ad y, A = some ad ∧ M < n ∧ W0.cell? (ad.add M) = some (.int .i32 y) := by
      by_cases h : M < n
      · obtain ⟨ad, y, e, _, hy⟩ := HR.out.cell h
        exact .inr ⟨ad, y, e, h, hy⟩
      · exact .inl (by omega)
    rcases hc with rfl | ⟨ad, y, rfl, hlt, hy⟩
    · go_wp2
      refine bodyPost_ret (res_rng rfl _ _ g _ _ _ (0, 0) rfl (rng_three HG0.out _ _ _)) rfl ⟨_, _, _, rfl, ?_⟩
      exact HKA.out.fresh (Kept.three (Kept.refl (fun q => q = g) _) rfl _ _ _) (fun q hq (e : q = g) => by have := HG.out; omega)
    · have b1 : decide (M < n) = true := decide_eq_true hlt
      have b2 : decide ((M : Int) < (n : Int)) = true := decide_eq_true (by omega)
      by_cases h10 : y = 10
      · subst h10
        go_wp2
        refine bodyPost_ret (res_rng rfl _ _ g _ _ _ (0, 0) rfl (rng_three HG0.out _ _ _)) rfl ⟨_, _, _, rfl, ?_⟩
        exact HKA.out.fresh (Kept.three (Kept.refl (fun q => q = g) _) rfl _ _ _) (fun q hq (e : q = g) => by have := HG.out; omega)
      · have d4 : (y == 10) = false := by rw [beq_eq_false_iff_ne]; exact h10
        have d5 : (y != 10) = true := by simp [h10]
        clear h10
        go_wp2
        refine bodyPost_ret (res_rng rfl _ _ g _ _ _ (0, 0) rfl (rng_three ((heap_far (by omega) _).trans HG0.out) _ _ _)) rfl ⟨_, _, _, rfl, ?_⟩
        exact HKA.out.fresh (Kept.three ((Kept.refl (fun q => q = g ∨ q = g + 1) W0).setCell (p := ⟨g + 1, 1, none⟩) (.inr rfl) _) (.inl rfl) _ _ _) (fun q hq (e : q = g ∨ q = g + 1) => by have := HG.out; omega)
  · have HXd : Hid (∀ (q : Nat) v0 v1 v2, ((((W0.drewN q).setCell ⟨g + 1, 0, none⟩ v0).setCell ⟨g + 1, 1, none⟩ v1).setCell ⟨g + 1, 2, none⟩ v2).heap[g]? = some (rngO 0 0 false)) := fun q v0 v1 v2 => (heap_far hgg1 _).trans ((heap_far hgg1 _).trans ((heap_far hgg1 _).trans HG0.out))
    have HKd : Hid (∀ (q : Nat) v0 v1 v2 u0 u1 u2, Kept (fun _ => False) w (((((((W0.drewN q).setCell ⟨g + 1, 0, none⟩ v0).setCell ⟨g + 1, 1, none⟩ v1).setCell ⟨g + 1, 2, none⟩ v2).setCell ⟨g, 0, none⟩ u0).setCell ⟨g, 1, none⟩ u1).setCell ⟨g, 2, none⟩ u2)) := fun q v0 v1 v2 u0 u1 u2 =>
      (HKA.out.drewN q).fresh (Kept.three (Kept.three (Kept.refl (fun r => r = g ∨ r = g + 1) _) (.inr rfl) _ _ _) (.inl rfl) _ _ _) (fun r hr (e : r = g ∨ r = g + 1) => by have := HG.out; omega)
    go_upto_region 7 with fail
    go_region_with (first
      | (go_at_call 20; refine (cB _).mono ?_; rintro e w2 ⟨rfl, hw⟩; have hw2 := hw.symm; subst hw2)
      | (go_at_call 13; refine (cE _).mono ?_; rintro e w2 ⟨rfl, hw⟩; have hw2 := hw.symm; subst hw2))
    all_goals
      go_wp2_with fail
      refine bodyPost_ret (res_rng rfl _ _ g _ _ _ (0, 0) rfl (rng_three (HXd.out _ _ _ _) _ _ _)) rfl ⟨_, _, _, rfl, ?_⟩
      exact HKd.out _ _ _ _ _ _ _
end Go.Proofs.YtpgoikecignldaaDoor
