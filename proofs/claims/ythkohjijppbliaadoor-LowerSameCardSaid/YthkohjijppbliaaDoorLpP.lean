/-
  LOWER: what patch an op is (some one); Up.
-/
import Derived.Test.YthkohjijppbliaaDoorLpO
set_option linter.unusedVariables false
namespace Go.Proofs.YthkohjijppbliaaDoor
open Go Go.RowKit

def SomeB (e : Ending) : Prop := ∃ B : Bool, e = .returned (.bool B)
theorem pclos_any (xb : Nat) (b : OpS) (e : ElemS) (w : World) (hX : Op9 w ⟨xb, 0, none⟩ b) :
    Calls Tryd.prog 82 #[elemV e, .pointer (some ⟨xb, 0, none⟩)] w fun ee w' => SomeB ee ∧ Kept (fun _ => False) w w' := by
  have hk0 : Kept (fun _ => False) w (w.alloc (elemO e)) := (Kept.refl _ w).alloc _
  have HK0 := Lib.hid hk0
  have HE : Hid (El4 (w.alloc (elemO e)) ⟨w.heap.size, 0, none⟩ e) := el4_new
  have HX := Lib.hid (hX.kept hk0 id)
  have hss : ((e.t == b.o.t) = false) ∨ ((e.t == b.o.t) = true ∧ (e.si == b.o.si) = false) ∨ ((e.t == b.o.t) = true ∧ (e.si == b.o.si) = true) := by
    cases h1 : (e.t == b.o.t) with
    | false => exact .inl rfl
    | true => cases h2 : (e.si == b.o.si) with
      | false => exact .inr (.inl ⟨rfl, rfl⟩)
      | true => exact .inr (.inr ⟨rfl, rfl⟩)
  clear hk0 hX
  go_enter Tryd.func82, Tryd.ntmps82
  go_upto_region 1 with fail
  simp only [elemO] at HK0 HE HX
  generalize w.alloc (.cells #[.int .i64 e.t, .int .i64 e.si, .int .i64 e.r, .bool e.d] 71) = w1 at *
  generalize w.heap.size = pb at *
  obtain ⟨c0, c1, c2, c3⟩ := HE.out.cs
  obtain ⟨d0, d1, d2, d3, d4, d5, d6, d7, d8⟩ := HX.out.cs
  rcases hss with z1 | ⟨z1, z2⟩ | ⟨z1, z2⟩
  all_goals
    go_wp2_with fail
    go_ret
    exact ⟨⟨_, rfl⟩, HK0.out⟩
def SomeI (e : Ending) : Prop := ∃ q : Int, e = .returned (.int .i64 q)
set_option maxRecDepth 100000 in
set_option maxHeartbeats 4000000 in
theorem indexP_any (L : List ElemS) (v : Value) (xb : Nat) (b : OpS) (w : World) (h : Se w v L) (hn : L.length ≤ 100000) (hX : Op9 w ⟨xb, 0, none⟩ b) :
    Calls Tryd.prog 71 #[v, .func (.func 82) #[] #[.pointer (some ⟨xb, 0, none⟩)]] w fun e w' => SomeI e ∧ Kept (fun _ => False) w w' := by
  obtain ⟨A, c, rfl, hA, _, _⟩ := h.open'
  obtain ⟨n, hN⟩ : ∃ n, L.length = n := ⟨_, rfl⟩
  rw [hN] at hn hA ⊢
  have HA := Lib.hid hA
  have HX := Lib.hid hX
  clear h hA hX hN
  go_enter Tryd.func71, Tryd.ntmps71
  go_wp2_with fail
  go_loopw [8] (fun v wr => ∃ k : Nat, k ≤ n ∧ v = .int .i64 k ∧ Kept (fun _ => False) w wr) (fun v _ => n - (intOf v).toNat)
  case atStart => exact ⟨0, Nat.zero_le _, rfl, Kept.refl _ _⟩
  case round =>
    obtain ⟨k, hk, rfl, hkept⟩ := hrel
    have HK := Lib.hid hkept
    clear hkept
    by_cases hlt : k < n
    · obtain ⟨ad, e, rfl, he, h4⟩ := (HA.out.kept HK.out (fun _ _ => id)).at_ hlt
      have cC := pclos_any xb b e wr (HX.out.kept HK.out id)
      have c0 := h4.c0
      have c1 := h4.c1
      have c2 := h4.c2
      have c3 := h4.c3
      have b1 : decide (k < n) = true := decide_eq_true hlt
      have b2 : decide ((k : Int) < (n : Int)) = true := decide_eq_true (by omega)
      have t1 : (0 : Int) ≤ (k : Int) := by omega
      have t2 : (k : Int) < (n : Int) := by omega
      clear he h4
      go_upto_if 16 with (go_at_call 82; refine cC.mono ?_; clear cC c0 c1 c2 c3; rintro ee w2 ⟨⟨B, rfl⟩, hk2⟩; have HK2 := Lib.hid (HK.out.trans hk2); clear hk2)
      cases B with
      | true =>
        go_wp2_with fail
        go_ret
        exact ⟨⟨_, rfl⟩, HK2.out⟩
      | false =>
        go_wp2_with fail
        go_roundw
        case rel => exact ⟨k + 1, by omega, by go_num, HK2.out⟩
        case measure => simp [intOf] <;> omega
    · obtain rfl : k = n := by omega
      have b1 : decide (k < k) = false := decide_eq_false (by omega)
      have b2 : decide ((k : Int) < (k : Int)) = false := decide_eq_false (by omega)
      go_wp2_with fail
      go_ret
      exact ⟨⟨_, rfl⟩, HK.out⟩
theorem contP_any (L : List ElemS) (v : Value) (xb : Nat) (b : OpS) (w : World) (h : Se w v L) (hn : L.length ≤ 100000) (hX : Op9 w ⟨xb, 0, none⟩ b) :
    Calls Tryd.prog 81 #[v, .func (.func 82) #[] #[.pointer (some ⟨xb, 0, none⟩)]] w fun e w' => SomeB e ∧ Kept (fun _ => False) w w' := by
  have cI := indexP_any L v xb b w h hn hX
  obtain ⟨A, c, rfl, _⟩ := h.open'
  clear h hX
  go_enter Tryd.func81, Tryd.ntmps81
  go_wp2_with (go_at_call 71; refine cI.mono ?_; clear cI; rintro ee w2 ⟨⟨q, rfl⟩, hk2⟩; have HK2 := Lib.hid hk2; clear hk2)
  go_ret
  exact ⟨⟨_, rfl⟩, HK2.out⟩
def SomeP (e : Ending) : Prop := ∃ (n m : Int) (s : ByteArray), e = .returned (patV n m s)
theorem res_pat {fn : Func} {p : Tmp} (h : fn.results = #[.cell p 55]) (tmps : Array Value) (w : World) (g : Nat) (a0 a1 a2 : Value) (fr : Nat × Nat) (hp : tmps.getD p undef = .pointer (some ⟨g, 0, none⟩))
    (hg : w.heap[g]? = some (.cells #[a0, a1, a2] 55 fr)) :
    (results fn tmps).run Tryd.prog w = .ok (.agg #[a0, a1, a2]) w :=
  results_cell_row h tmps _ g _ _ _ _ hp hg Tryd.underlying55 rfl (by kernel_rfl)
theorem three_set {w : World} {g : Nat} {a0 a1 a2 : Value} {t : TypeId} {f : Nat × Nat} (h : w.heap[g]? = some (.cells #[a0, a1, a2] t f)) (u0 u1 u2 : Value) :
    (((w.setCell ⟨g, 0, none⟩ u0).setCell ⟨g, 1, none⟩ u1).setCell ⟨g, 2, none⟩ u2).heap[g]? = some (.cells #[u0, u1, u2] t f) := by
  have h0 : (w.setCell ⟨g, 0, none⟩ u0).heap[g]? = some (.cells #[u0, a1, a2] t f) := heap_set h u0
  have h1 : ((w.setCell ⟨g, 0, none⟩ u0).setCell ⟨g, 1, none⟩ u1).heap[g]? = some (.cells #[u0, u1, a2] t f) := heap_set h0 u1
  exact heap_set h1 u2
theorem Kept.three {S : Nat → Prop} {w w1 : World} {g : Nat} (h : Kept S w w1) (hg : S g) (u0 u1 u2 : Value) :
    Kept S w (((w1.setCell ⟨g, 0, none⟩ u0).setCell ⟨g, 1, none⟩ u1).setCell ⟨g, 2, none⟩ u2) :=
  ((h.setCell (p := ⟨g, 0, none⟩) hg _).setCell (p := ⟨g, 1, none⟩) hg _).setCell (p := ⟨g, 2, none⟩) hg _
theorem three_facts {w : World} {g : Nat} {a0 a1 a2 : Value} {t : TypeId} (h : w.heap[g]? = some (.cells #[a0, a1, a2] t (0, 0))) :
    (w.cell? ⟨g, 0, none⟩ = some a0 ∧ w.cell? ⟨g, 1, none⟩ = some a1 ∧ w.cell? ⟨g, 2, none⟩ = some a2) ∧ (w.frozen? ⟨g, 0, none⟩ = false ∧ w.frozen? ⟨g, 1, none⟩ = false ∧ w.frozen? ⟨g, 2, none⟩ = false) :=
  ⟨⟨cell_of_row _ _ _ _ _ _ h, cell_of_row _ _ _ _ _ _ h, cell_of_row _ _ _ _ _ _ h⟩, frozen_of h, frozen_of h, frozen_of h⟩
set_option maxRecDepth 100000 in
set_option maxHeartbeats 8000000 in
theorem patchof_any (L L' : List ElemS) (v v' : Value) (b : OpS) (w : World) (h : Se w v L) (h' : Se w v' L') (hT : Tabs w) (hL : L.length ≤ 100000) (hok : elsOk L') (hop : Cd.opOk b.o) :
    Calls Tryd.prog 55 #[v, v', opV b] w fun e w' => SomeP e ∧ Kept (fun _ => False) w w' := by
  have hk0 : Kept (fun _ => False) w ((w.alloc (opO b)).alloc (patO 0 0 ⟨#[]⟩)) := ((Kept.refl _ w).alloc _).alloc _
  have s1 : (w.alloc (opO b)).heap.size = w.heap.size + 1 := by simp
  have HO : Hid (Op9 ((w.alloc (opO b)).alloc (patO 0 0 ⟨#[]⟩)) ⟨w.heap.size, 0, none⟩ b) := op9_new.kept ((Kept.refl (fun _ => False) _).alloc _) id
  have HP : Hid (((w.alloc (opO b)).alloc (patO 0 0 ⟨#[]⟩)).heap[w.heap.size + 1]? = some (patO 0 0 ⟨#[]⟩)) := by
    have h := heap_alloc_new (w.alloc (opO b)) (patO 0 0 ⟨#[]⟩)
    rw [s1] at h
    exact h
  have HK0 := Lib.hid hk0
  have cW := fun W (hk : Kept (fun _ => False) w W) => owhere_any L' v' b.o.t b.o.si W (h'.kept hk) (hT.kept hk id id) hok
  have cC := fun W (hk : Kept (fun _ => False) w W) xb (hX : Op9 W ⟨xb, 0, none⟩ b) => contP_any L v xb b W (h.kept hk) hL hX
  have hkd : b.o.kd = 1 ∧ Cd.ruOk b.o.rn ∨ b.o.kd = 2 := by
    rcases hop.2.2.2.2 with ⟨h1, h2, _⟩ | ⟨h1, _⟩
    · exact .inl ⟨h1, h2⟩
    · exact .inr h1
  obtain ⟨A, c, hv, _⟩ := h.open'
  obtain ⟨A', c', hv', _⟩ := h'.open'
  obtain ⟨N, hN⟩ : ∃ N, L.length = N := ⟨_, rfl⟩
  obtain ⟨N', hN'⟩ : ∃ N', L'.length = N' := ⟨_, rfl⟩
  rw [hN] at hv
  rw [hN'] at hv'
  subst hv hv'
  clear h h' hT hk0 s1 hok hop hN hN'
  obtain ⟨⟨kd, t, si, t0, s0, rn, st, nn, seen⟩, B, m, mc⟩ := b
  simp only [opV, opO, patO] at *
  obtain ⟨g, hg⟩ : ∃ g, w.heap.size = g := ⟨_, rfl⟩
  go_enter Tryd.func55, Tryd.ntmps55
  go_upto_region 1 with fail
  generalize (w.alloc _).alloc _ = w1 at *
  have HG := Lib.hid hg
  simp only [hg] at HO HP ⊢
  clear hg
  obtain ⟨c0, c1, c2, c3, c4, c5, c6, c7, c8⟩ := HO.out.cs
  simp only at c0 c1 c2 c3 c4 c5 c6 c7 c8
  go_upto_region 2 with (go_at_call 80; refine (cW _ HK0.out).mono ?_; clear cW c0 c1 c2 c3 c4 c5 c6 c7 c8; rintro ee w2 ⟨⟨qn, qc, rfl, hq0, hq1⟩, hk2⟩; have HK2 := Lib.hid (HK0.out.trans hk2); have HO2 := Lib.hid (HO.out.kept hk2 id); have HP2 := Lib.hid ((hk2.block (g + 1) (heap_lt HP.out) id).trans HP.out); clear hk2)
  obtain ⟨c0, c1, c2, c3, c4, c5, c6, c7, c8⟩ := HO2.out.cs
  simp only at c0 c1 c2 c3 c4 c5 c6 c7 c8
  obtain ⟨⟨x0, x1, x2⟩, y0, y1, y2⟩ := three_facts HP2.out
  rcases hkd with ⟨h1, hr⟩ | h1
  · subst h1
    have w32 : IntKind.i32.wrap rn = rn := i32_rune (by have := hr.1; have := hr.2.1; omega)
    have hrv := ru_valid hr
    clear hr cC
    go_wp2_with fail
    refine bodyPost_ret (res_pat rfl _ _ (g + 1) _ _ _ (0, 0) rfl (three_set HP2.out _ _ _)) rfl ⟨⟨_, _, _, rfl⟩, HK2.out.fresh (Kept.three (Kept.refl (fun q => q = g + 1) w2) rfl _ _ _) (fun q hq e => by have e : q = g + 1 := e; have := HG.out; omega)⟩
  · subst h1
    go_upto_region 5 with (go_at_call 81; refine (cC _ HK2.out g HO2.out).mono ?_; clear cC c0 c1 c2 c3 c4 c5 c6 c7 c8 x0 x1 x2 y0 y1 y2; rintro ee w3 ⟨⟨BB, rfl⟩, hk3⟩; have HK3 := Lib.hid (HK2.out.trans hk3); have HP3 := Lib.hid ((hk3.block (g + 1) (heap_lt HP2.out) id).trans HP2.out); clear hk3)
    obtain ⟨⟨x0, x1, x2⟩, y0, y1, y2⟩ := three_facts HP3.out
    cases BB with
    | true =>
      go_wp2_with fail
      refine bodyPost_ret (res_pat rfl _ _ (g + 1) _ _ _ (0, 0) rfl (three_set HP3.out _ _ _)) rfl ⟨⟨_, _, _, rfl⟩, HK3.out.fresh (Kept.three (Kept.refl (fun q => q = g + 1) w3) rfl _ _ _) (fun q hq e => by have e : q = g + 1 := e; have := HG.out; omega)⟩
    | false =>
      go_wp2_with fail
      refine bodyPost_ret (res_pat rfl _ _ (g + 1) _ _ _ (0, 0) rfl (three_set HP3.out _ _ _)) rfl ⟨⟨_, _, _, rfl⟩, HK3.out.fresh (Kept.three (Kept.refl (fun q => q = g + 1) w3) rfl _ _ _) (fun q hq e => by have e : q = g + 1 := e; have := HG.out; omega)⟩
end Go.Proofs.YthkohjijppbliaaDoor
