/-
  OPS: order.May: which ops may be.
-/
import Derived.Test.YtlminkbaafjloaaDoorCdI
import Derived.Deep.CutRange
set_option linter.unusedVariables false
namespace Go.Proofs.YtlminkbaafjloaaDoor
open Go Go.RowKit

/-- An op, by value. -/
def opV (b : OpS) : Value := .agg #[.int .i64 b.o.kd, .int .i64 b.o.t, .int .i64 b.o.si, .int .i64 b.o.t0, .int .i64 b.o.s0, .int .i64 b.o.rn, .int .i64 b.o.st, .int .i64 b.o.nn, .slice b.A b.n b.c]
/-- An op's block. -/
def opO (b : OpS) : Obj := .cells #[.int .i64 b.o.kd, .int .i64 b.o.t, .int .i64 b.o.si, .int .i64 b.o.t0, .int .i64 b.o.s0, .int .i64 b.o.rn, .int .i64 b.o.st, .int .i64 b.o.nn, .slice b.A b.n b.c] 50
theorem op9_new {w : World} {b : OpS} : Op9 (w.alloc (opO b)) ⟨w.heap.size, 0, none⟩ b :=
  ⟨cell_of_row _ _ _ _ _ _ (heap_alloc_new w _), cell_of_row _ _ _ _ _ _ (heap_alloc_new w _), cell_of_row _ _ _ _ _ _ (heap_alloc_new w _), cell_of_row _ _ _ _ _ _ (heap_alloc_new w _), cell_of_row _ _ _ _ _ _ (heap_alloc_new w _), cell_of_row _ _ _ _ _ _ (heap_alloc_new w _), cell_of_row _ _ _ _ _ _ (heap_alloc_new w _), cell_of_row _ _ _ _ _ _ (heap_alloc_new w _), cell_of_row _ _ _ _ _ _ (heap_alloc_new w _)⟩
def inV (x : Int) : Prop := 0 ≤ x ∧ x ≤ 2000
instance (x : Int) : Decidable (inV x) := by unfold inV; infer_instance
theorem vec_of {l : List Int} (hl : l.length = 4) (h : ∀ (j : Nat) (x : Int), l[j]? = some x → inV x) : Cd.vecOk l :=
  ⟨hl, fun x hx => by
    obtain ⟨i, hi, rfl⟩ := List.getElem_of_mem hx
    exact h i _ (List.getElem?_eq_getElem hi)⟩
theorem vec_at {l : List Int} (h : Cd.vecOk l) {j : Nat} {x : Int} (hj : l[j]? = some x) : inV x := h.2 x (List.mem_of_getElem? hj)
/-- What stands ahead of what was seen, and how many there are. -/
def headOk (o : Cd.OpP) (n : Nat) : Prop := Cd.idOk o.t o.si ∧ (1 ≤ o.st ∧ o.st ≤ 4) ∧ (1 ≤ o.nn ∧ o.nn ≤ 2000) ∧ n = 4
instance (o : Cd.OpP) (n : Nat) : Decidable (headOk o n) := by unfold headOk; infer_instance
theorem opOk_iff {o : Cd.OpP} : Cd.opOk o ↔ (headOk o o.seen.length ∧ ∀ (j : Nat) (x : Int), o.seen[j]? = some x → inV x) ∧ Cd.kindOk o := by
  constructor
  · rintro ⟨h1, h2, h3, h4, h5⟩
    exact ⟨⟨⟨h1, h2, h3, h4.1⟩, fun j x hj => vec_at h4 hj⟩, h5⟩
  · rintro ⟨⟨⟨h1, h2, h3, h4⟩, h6⟩, h5⟩
    exact ⟨h1, h2, h3, vec_of h4 h6, h5⟩
theorem Op9.cs {w : World} {pb : Nat} {b : OpS} (h : Op9 w ⟨pb, 0, none⟩ b) : w.cell? ⟨pb, 0, none⟩ = some (.int .i64 b.o.kd) ∧ w.cell? ⟨pb, 1, none⟩ = some (.int .i64 b.o.t) ∧ w.cell? ⟨pb, 2, none⟩ = some (.int .i64 b.o.si) ∧
    w.cell? ⟨pb, 3, none⟩ = some (.int .i64 b.o.t0) ∧ w.cell? ⟨pb, 4, none⟩ = some (.int .i64 b.o.s0) ∧ w.cell? ⟨pb, 5, none⟩ = some (.int .i64 b.o.rn) ∧ w.cell? ⟨pb, 6, none⟩ = some (.int .i64 b.o.st) ∧ w.cell? ⟨pb, 7, none⟩ = some (.int .i64 b.o.nn) ∧
    w.cell? ⟨pb, 8, none⟩ = some (.slice b.A b.n b.c) := ⟨h.c0, h.c1, h.c2, h.c3, h.c4, h.c5, h.c6, h.c7, h.c8⟩
/-- Whether all are well so far. -/
def Gk (g G : Bool) (seen : List Int) (k : Nat) : Prop := g = true ↔ G = true ∧ ∀ (j : Nat) (x : Int), j < k → seen[j]? = some x → inV x
set_option maxRecDepth 100000 in
set_option maxHeartbeats 8000000 in
theorem may_any (b : OpS) (w : World) (hb : OpOk w b) (hT : Tabs w) :
    Calls Tryd.prog 38 #[opV b] w fun e w' => e = .returned (.int .i64 (if Cd.opOk b.o then 0 else 1)) ∧ Kept (fun _ => False) w w' := by
  have hK0 : Hid (Kept (fun _ => False) w (w.alloc (opO b))) := (Kept.refl _ w).alloc _
  have HO : Hid (Op9 (w.alloc (opO b)) ⟨w.heap.size, 0, none⟩ b) := op9_new
  have HT : Hid (Tabs (w.alloc (opO b))) := hT.kept hK0.out id id
  have hS := hb.seen.kept hK0.out (fun _ _ => id)
  have HS := Lib.hid hS
  have hn := hb.n
  have hiff := opOk_iff (o := b.o)
  rw [hS.1] at hiff
  have HI := Lib.hid hiff
  obtain ⟨E, hE⟩ : ∃ E : Int, (if Cd.opOk b.o then (0 : Int) else 1) = E := ⟨_, rfl⟩
  rw [hE]
  have HEE := Lib.hid hE
  clear hT hb hS hiff hE
  unfold opV
  go_enter Tryd.func38, Tryd.ntmps38
  obtain ⟨⟨kd, t, si, t0, s0, rn, st, nn, seen⟩, A, n, c⟩ := b
  simp only [opO] at *
  go_upto_region 1 with fail
  generalize w.alloc (.cells #[.int .i64 kd, .int .i64 t, .int .i64 si, .int .i64 t0, .int .i64 s0, .int .i64 rn, .int .i64 st, .int .i64 nn, .slice A n c] 50) = w1 at *
  generalize w.heap.size = pb at *
  obtain ⟨c0, c1, c2, c3, c4, c5, c6, c7, c8⟩ := HO.out.cs
  simp only at c0 c1 c2 c3 c4 c5 c6 c7 c8
  obtain ⟨G, hG⟩ : ∃ G : Bool, decide (headOk ⟨kd, t, si, t0, s0, rn, st, nn, seen⟩ n) = G := ⟨_, rfl⟩
  have HG := Lib.hid hG
  clear hG
  go_cut [3] from 6 to 24 (fun v wx => v = .bool G ∧ Kept (fun _ => False) w1 wx)
  case first =>
    have cI := fun W => mayid_any t si W
    have cS := fun W => pwithin_any st 1 4 W
    have cN := fun W => pwithin_any nn 1 2000 W
    by_cases h1 : Cd.idOk t si
    · rw [decide_eq_true h1] at cI
      by_cases h2 : 1 ≤ st ∧ st ≤ 4
      · rw [decide_eq_true h2] at cS
        by_cases h3 : 1 ≤ nn ∧ nn ≤ 2000
        · rw [decide_eq_true h3] at cN
          by_cases h4 : n = 4
          · have e : G = true := by rw [← HG.out]; exact decide_eq_true ⟨h1, h2, h3, h4⟩
            have b4 : ((n : Int) == 4) = true := by rw [h4]; rfl
            subst e
            clear h1 h2 h3 h4
            go_wp2_with (first
              | (go_at_call 58; refine (cI _).mono ?_; rintro e w2 ⟨rfl, hk2⟩; have HK2 := Lib.hid hk2; have d6 := cell_kept hk2 c6 id; have d7 := cell_kept hk2 c7 id; have d8 := cell_kept hk2 c8 id; clear hk2)
              | (go_at_call 60; first | (refine (cS _).mono ?_; clear cS; rintro e w' ⟨rfl, hw⟩; have hw2 := hw.symm; subst hw2) | (refine (cN _).mono ?_; rintro e w' ⟨rfl, hw⟩; have hw2 := hw.symm; subst hw2)))
            go_meet
            exact ⟨rfl, HK2.out⟩
          · have e : G = false := by rw [← HG.out]; exact decide_eq_false (fun h => h4 h.2.2.2)
            have b4 : ((n : Int) == 4) = false := beq_eq_false_iff_ne.2 (by omega)
            subst e
            clear h1 h2 h3 h4
            go_wp2_with (first
              | (go_at_call 58; refine (cI _).mono ?_; rintro e w2 ⟨rfl, hk2⟩; have HK2 := Lib.hid hk2; have d6 := cell_kept hk2 c6 id; have d7 := cell_kept hk2 c7 id; have d8 := cell_kept hk2 c8 id; clear hk2)
              | (go_at_call 60; first | (refine (cS _).mono ?_; clear cS; rintro e w' ⟨rfl, hw⟩; have hw2 := hw.symm; subst hw2) | (refine (cN _).mono ?_; rintro e w' ⟨rfl, hw⟩; have hw2 := hw.symm; subst hw2)))
            go_meet
            exact ⟨rfl, HK2.out⟩
        · rw [decide_eq_false h3] at cN
          have e : G = false := by rw [← HG.out]; exact decide_eq_false (fun h => h3 h.2.2.1)
          subst e
          clear h1 h2 h3
          go_wp2_with (first
            | (go_at_call 58; refine (cI _).mono ?_; rintro e w2 ⟨rfl, hk2⟩; have HK2 := Lib.hid hk2; have d6 := cell_kept hk2 c6 id; have d7 := cell_kept hk2 c7 id; have d8 := cell_kept hk2 c8 id; clear hk2)
            | (go_at_call 60; first | (refine (cS _).mono ?_; clear cS; rintro e w' ⟨rfl, hw⟩; have hw2 := hw.symm; subst hw2) | (refine (cN _).mono ?_; rintro e w' ⟨rfl, hw⟩; have hw2 := hw.symm; subst hw2)))
          go_meet
          exact ⟨rfl, HK2.out⟩
      · rw [decide_eq_false h2] at cS
        have e : G = false := by rw [← HG.out]; exact decide_eq_false (fun h => h2 h.2.1)
        subst e
        clear h1 h2
        go_wp2_with (first
          | (go_at_call 58; refine (cI _).mono ?_; rintro e w2 ⟨rfl, hk2⟩; have HK2 := Lib.hid hk2; have d6 := cell_kept hk2 c6 id; have d7 := cell_kept hk2 c7 id; have d8 := cell_kept hk2 c8 id; clear hk2)
          | (go_at_call 60; (refine (cS _).mono ?_; clear cS; rintro e w' ⟨rfl, hw⟩; have hw2 := hw.symm; subst hw2)))
        go_meet
        exact ⟨rfl, HK2.out⟩
    · rw [decide_eq_false h1] at cI
      have e : G = false := by rw [← HG.out]; exact decide_eq_false (fun h => h1 h.1)
      subst e
      clear h1
      go_wp2_with (go_at_call 58; refine (cI _).mono ?_; rintro e w2 ⟨rfl, hk2⟩; have HK2 := Lib.hid hk2; clear hk2)
      go_meet
      exact ⟨rfl, HK2.out⟩
  case rest =>
    obtain ⟨rfl, hk2⟩ := hcut
    have HK2 := Lib.hid (hK0.out.trans hk2)
    have hO2 := HO.out.kept hk2 id
    have hT2 := HT.out.kept hk2 id id
    have hS2 := HS.out.kept hk2 (fun _ _ => id)
    clear c0 c1 c2 c3 c4 c5 c6 c7 c8 HO HT HS hk2
    have HT2 := Lib.hid hT2
    have HS2 := Lib.hid hS2
    clear hT2 hS2
    obtain ⟨c0, c1, c2, c3, c4, c5, c6, c7, c8⟩ := hO2.cs
    simp only at c0 c1 c2 c3 c4 c5 c6 c7 c8 HS2
    clear hO2
    obtain ⟨w2, hw2⟩ : ∃ v, v = wc := ⟨_, rfl⟩
    subst hw2
    go_wp2_with fail
    go_loop [3, 28] (fun v i => ∃ (k : Nat) (g : Bool), k ≤ n ∧ i = .int .i64 k ∧ v = .bool g ∧ Gk g G seen k) (fun _ i => n - (intOf i).toNat)
    case atStart => exact ⟨0, G, Nat.zero_le _, rfl, rfl, fun h => ⟨h, fun j x hj => by omega⟩, fun h => h.1⟩
    case round =>
      obtain ⟨k, g, hk, rfl, rfl, hg⟩ := hrel
      have HGG := Lib.hid hg
      clear hg
      by_cases hkn : k < n
      · obtain ⟨ad, x, rfl, hx, hc⟩ := HS2.out.cell hkn
        have b1 : decide (k < n) = true := decide_eq_true hkn
        have b2 : decide ((k : Int) < (n : Int)) = true := decide_eq_true (by omega)
        have t1 : (0 : Int) ≤ (k : Int) := by omega
        have t2 : (k : Int) < (n : Int) := by omega
        have HX := Lib.hid hx
        clear hx
        cases g with
        | false =>
          have HN : Hid (Gk false G seen (k + 1)) := by
            show _ ↔ _
            refine ⟨fun h => Bool.noConfusion h, fun h => ?_⟩
            exact HGG.out.2 ⟨h.1, fun j x hj => h.2 j x (by omega)⟩
          go_wp2_with fail
          go_round
          case rel => exact ⟨k + 1, false, by omega, by go_num, rfl, HN.out⟩
          case measure => simp [intOf] <;> omega
        | true =>
          have cW := fun W => pwithin_any x 0 2000 W
          by_cases hv : 0 ≤ x ∧ x ≤ 2000
          · rw [decide_eq_true hv] at cW
            have HN : Hid (Gk true G seen (k + 1)) := by
              show _ ↔ _
              refine ⟨fun h => ⟨(HGG.out.1 h).1, fun j y hj hy => ?_⟩, fun _ => rfl⟩
              by_cases hjk : j < k
              · exact (HGG.out.1 h).2 j y hjk hy
              · obtain rfl : j = k := by omega
                rw [HX.out] at hy
                injection hy with hy
                exact hy ▸ hv
            clear hv
            go_wp2_with (go_at_call 60; refine (cW _).mono ?_; rintro e w' ⟨rfl, hw⟩; have hw2 := hw.symm; subst hw2)
            go_round
            case rel => exact ⟨k + 1, true, by omega, by go_num, rfl, HN.out⟩
            case measure => simp [intOf] <;> omega
          · rw [decide_eq_false hv] at cW
            have HN : Hid (Gk false G seen (k + 1)) := by
              show _ ↔ _
              exact ⟨fun h => Bool.noConfusion h, fun h => absurd (h.2 k x (by omega) HX.out) hv⟩
            clear hv
            go_wp2_with (go_at_call 60; refine (cW _).mono ?_; rintro e w' ⟨rfl, hw⟩; have hw2 := hw.symm; subst hw2)
            go_round
            case rel => exact ⟨k + 1, false, by omega, by go_num, rfl, HN.out⟩
            case measure => simp [intOf] <;> omega
      · obtain rfl : k = n := by omega
        have b1 : decide (k < k) = false := decide_eq_false (by omega)
        have b2 : decide ((k : Int) < (k : Int)) = false := decide_eq_false (by omega)
        have HGF : Hid (g = true ↔ headOk ⟨kd, t, si, t0, s0, rn, st, nn, seen⟩ k ∧ ∀ (j : Nat) (x : Int), seen[j]? = some x → inV x) := by
          refine ⟨fun h => ⟨of_decide_eq_true (HG.out.trans (HGG.out.1 h).1), fun j x hj => (HGG.out.1 h).2 j x ?_ hj⟩, fun h => HGG.out.2 ⟨HG.out.symm.trans (decide_eq_true h.1), fun j x _ hj => h.2 j x hj⟩⟩
          by_cases hjk : j < k
          · exact hjk
          · have hl : seen.length = k := HS2.out.1
            rw [List.getElem?_eq_none (by omega)] at hj; cases hj
        have HNO : Hid (g = false → ¬ Cd.opOk ⟨kd, t, si, t0, s0, rn, st, nn, seen⟩) := fun h ho => by have := HGF.out.2 (HI.out.1 ho).1; rw [h] at this; cases this
        clear HGG
        by_cases k1 : kd = 1
        · have e1 : (kd == 1) = true := by rw [k1]; rfl
          cases g with
          | false =>
            have HE : Hid (E = 1) := HEE.out.symm.trans (if_neg (HNO.out rfl))
            clear k1
            go_wp2_with fail
            go_ret
            rw [HE.out]
            exact ⟨rfl, HK2.out⟩
          | true =>
            have hp := HGF.out.1 rfl
            have cR := fun W (h : Tabs W) => isrune_any rn W h
            by_cases hr : Cd.ruOk rn
            · rw [decide_eq_true hr] at cR
              by_cases hz0 : t0 = 0
              · have z0 : (t0 == 0) = true := by rw [hz0]; rfl
                by_cases hz1 : s0 = 0
                · have z1 : (s0 == 0) = true := by rw [hz1]; rfl
                  have HE : Hid (E = 0) := HEE.out.symm.trans (if_pos (HI.out.2 ⟨hp, .inl ⟨k1, hr, .inl ⟨hz0, hz1⟩⟩⟩))
                  clear hp hr hz0 hz1 k1
                  go_wp2_with (go_at_call 59; refine (cR _ HT2.out).mono ?_; rintro e w3 ⟨rfl, hk3⟩; have HK3 := Lib.hid hk3; have d1 := cell_kept hk3 c1 id; have d2 := cell_kept hk3 c2 id; have d3 := cell_kept hk3 c3 id; have d4 := cell_kept hk3 c4 id; clear hk3)
                  go_ret
                  rw [HE.out]
                  exact ⟨rfl, HK2.out.trans HK3.out⟩
                · have z1 : (s0 == 0) = false := beq_eq_false_iff_ne.2 hz1
                  have hz : ¬ (t0 = 0 ∧ s0 = 0) := fun h => hz1 h.2
                  clear hz0 hz1
                  have cI := fun W => mayid_any t0 s0 W
                  by_cases hi : Cd.idOk t0 s0
                  · rw [decide_eq_true hi] at cI
                    have cL := fun W => less_any t0 s0 t si W
                    by_cases hl : Cd.lessP t0 s0 t si
                    · rw [decide_eq_true hl] at cL
                      have HE : Hid (E = 0) := HEE.out.symm.trans (if_pos (HI.out.2 ⟨hp, .inl ⟨k1, hr, .inr ⟨hi, hl⟩⟩⟩))
                      clear hp hr hz hi hl k1
                      go_wp2_with (first | (go_at_call 59; refine (cR _ HT2.out).mono ?_; rintro e w3 ⟨rfl, hk3⟩; have HK3 := Lib.hid hk3; have d1 := cell_kept hk3 c1 id; have d2 := cell_kept hk3 c2 id; have d3 := cell_kept hk3 c3 id; have d4 := cell_kept hk3 c4 id; clear hk3) | (go_at_call 58; refine (cI _).mono ?_; rintro e w4 ⟨rfl, hk4⟩; have HK4 := Lib.hid (HK3.out.trans hk4); have g1 := cell_kept hk4 d1 id; have g2 := cell_kept hk4 d2 id; have g3 := cell_kept hk4 d3 id; have g4 := cell_kept hk4 d4 id; clear hk4) | (go_at_call 61; refine (cL _).mono ?_; rintro e w5 ⟨rfl, hk5⟩; have HK5 := Lib.hid (HK4.out.trans hk5); clear hk5))
                      go_ret
                      rw [HE.out]
                      exact ⟨rfl, HK2.out.trans HK5.out⟩
                    · rw [decide_eq_false hl] at cL
                      have HE : Hid (E = 1) := HEE.out.symm.trans (if_neg (fun ho => by rcases (HI.out.1 ho).2 with ⟨_, _, hzz | ⟨_, h⟩⟩ | ⟨h, _⟩ <;> first | exact hl h | exact hz hzz | (have h : kd = 2 := h; omega)))
                      clear hp hr hz hi hl k1
                      go_wp2_with (first | (go_at_call 59; refine (cR _ HT2.out).mono ?_; rintro e w3 ⟨rfl, hk3⟩; have HK3 := Lib.hid hk3; have d1 := cell_kept hk3 c1 id; have d2 := cell_kept hk3 c2 id; have d3 := cell_kept hk3 c3 id; have d4 := cell_kept hk3 c4 id; clear hk3) | (go_at_call 58; refine (cI _).mono ?_; rintro e w4 ⟨rfl, hk4⟩; have HK4 := Lib.hid (HK3.out.trans hk4); have g1 := cell_kept hk4 d1 id; have g2 := cell_kept hk4 d2 id; have g3 := cell_kept hk4 d3 id; have g4 := cell_kept hk4 d4 id; clear hk4) | (go_at_call 61; refine (cL _).mono ?_; rintro e w5 ⟨rfl, hk5⟩; have HK5 := Lib.hid (HK4.out.trans hk5); clear hk5))
                      go_ret
                      rw [HE.out]
                      exact ⟨rfl, HK2.out.trans HK5.out⟩
                  · rw [decide_eq_false hi] at cI
                    have HE : Hid (E = 1) := HEE.out.symm.trans (if_neg (fun ho => by rcases (HI.out.1 ho).2 with ⟨_, _, hzz | ⟨h, _⟩⟩ | ⟨h, _⟩ <;> first | exact hi h | exact hz hzz | (have h : kd = 2 := h; omega)))
                    clear hp hr hz hi k1
                    go_wp2_with (first | (go_at_call 59; refine (cR _ HT2.out).mono ?_; rintro e w3 ⟨rfl, hk3⟩; have HK3 := Lib.hid hk3; have d1 := cell_kept hk3 c1 id; have d2 := cell_kept hk3 c2 id; have d3 := cell_kept hk3 c3 id; have d4 := cell_kept hk3 c4 id; clear hk3) | (go_at_call 58; refine (cI _).mono ?_; rintro e w4 ⟨rfl, hk4⟩; have HK4 := Lib.hid (HK3.out.trans hk4); have g1 := cell_kept hk4 d1 id; have g2 := cell_kept hk4 d2 id; have g3 := cell_kept hk4 d3 id; have g4 := cell_kept hk4 d4 id; clear hk4))
                    go_ret
                    rw [HE.out]
                    exact ⟨rfl, HK2.out.trans HK4.out⟩
              · have z0 : (t0 == 0) = false := beq_eq_false_iff_ne.2 hz0
                have hz : ¬ (t0 = 0 ∧ s0 = 0) := fun h => hz0 h.1
                clear hz0
                have cI := fun W => mayid_any t0 s0 W
                by_cases hi : Cd.idOk t0 s0
                · rw [decide_eq_true hi] at cI
                  have cL := fun W => less_any t0 s0 t si W
                  by_cases hl : Cd.lessP t0 s0 t si
                  · rw [decide_eq_true hl] at cL
                    have HE : Hid (E = 0) := HEE.out.symm.trans (if_pos (HI.out.2 ⟨hp, .inl ⟨k1, hr, .inr ⟨hi, hl⟩⟩⟩))
                    clear hp hr hz hi hl k1
                    go_wp2_with (first | (go_at_call 59; refine (cR _ HT2.out).mono ?_; rintro e w3 ⟨rfl, hk3⟩; have HK3 := Lib.hid hk3; have d1 := cell_kept hk3 c1 id; have d2 := cell_kept hk3 c2 id; have d3 := cell_kept hk3 c3 id; have d4 := cell_kept hk3 c4 id; clear hk3) | (go_at_call 58; refine (cI _).mono ?_; rintro e w4 ⟨rfl, hk4⟩; have HK4 := Lib.hid (HK3.out.trans hk4); have g1 := cell_kept hk4 d1 id; have g2 := cell_kept hk4 d2 id; have g3 := cell_kept hk4 d3 id; have g4 := cell_kept hk4 d4 id; clear hk4) | (go_at_call 61; refine (cL _).mono ?_; rintro e w5 ⟨rfl, hk5⟩; have HK5 := Lib.hid (HK4.out.trans hk5); clear hk5))
                    go_ret
                    rw [HE.out]
                    exact ⟨rfl, HK2.out.trans HK5.out⟩
                  · rw [decide_eq_false hl] at cL
                    have HE : Hid (E = 1) := HEE.out.symm.trans (if_neg (fun ho => by rcases (HI.out.1 ho).2 with ⟨_, _, hzz | ⟨_, h⟩⟩ | ⟨h, _⟩ <;> first | exact hl h | exact hz hzz | (have h : kd = 2 := h; omega)))
                    clear hp hr hz hi hl k1
                    go_wp2_with (first | (go_at_call 59; refine (cR _ HT2.out).mono ?_; rintro e w3 ⟨rfl, hk3⟩; have HK3 := Lib.hid hk3; have d1 := cell_kept hk3 c1 id; have d2 := cell_kept hk3 c2 id; have d3 := cell_kept hk3 c3 id; have d4 := cell_kept hk3 c4 id; clear hk3) | (go_at_call 58; refine (cI _).mono ?_; rintro e w4 ⟨rfl, hk4⟩; have HK4 := Lib.hid (HK3.out.trans hk4); have g1 := cell_kept hk4 d1 id; have g2 := cell_kept hk4 d2 id; have g3 := cell_kept hk4 d3 id; have g4 := cell_kept hk4 d4 id; clear hk4) | (go_at_call 61; refine (cL _).mono ?_; rintro e w5 ⟨rfl, hk5⟩; have HK5 := Lib.hid (HK4.out.trans hk5); clear hk5))
                    go_ret
                    rw [HE.out]
                    exact ⟨rfl, HK2.out.trans HK5.out⟩
                · rw [decide_eq_false hi] at cI
                  have HE : Hid (E = 1) := HEE.out.symm.trans (if_neg (fun ho => by rcases (HI.out.1 ho).2 with ⟨_, _, hzz | ⟨h, _⟩⟩ | ⟨h, _⟩ <;> first | exact hi h | exact hz hzz | (have h : kd = 2 := h; omega)))
                  clear hp hr hz hi k1
                  go_wp2_with (first | (go_at_call 59; refine (cR _ HT2.out).mono ?_; rintro e w3 ⟨rfl, hk3⟩; have HK3 := Lib.hid hk3; have d1 := cell_kept hk3 c1 id; have d2 := cell_kept hk3 c2 id; have d3 := cell_kept hk3 c3 id; have d4 := cell_kept hk3 c4 id; clear hk3) | (go_at_call 58; refine (cI _).mono ?_; rintro e w4 ⟨rfl, hk4⟩; have HK4 := Lib.hid (HK3.out.trans hk4); have g1 := cell_kept hk4 d1 id; have g2 := cell_kept hk4 d2 id; have g3 := cell_kept hk4 d3 id; have g4 := cell_kept hk4 d4 id; clear hk4))
                  go_ret
                  rw [HE.out]
                  exact ⟨rfl, HK2.out.trans HK4.out⟩
            · rw [decide_eq_false hr] at cR
              have HE : Hid (E = 1) := HEE.out.symm.trans (if_neg (fun ho => by rcases (HI.out.1 ho).2 with ⟨_, h, _⟩ | ⟨h, _⟩ <;> first | exact hr h | (have h : kd = 2 := h; omega)))
              clear hp hr k1
              go_wp2_with (go_at_call 59; refine (cR _ HT2.out).mono ?_; rintro e w3 ⟨rfl, hk3⟩; have HK3 := Lib.hid hk3; have d1 := cell_kept hk3 c1 id; have d2 := cell_kept hk3 c2 id; have d3 := cell_kept hk3 c3 id; have d4 := cell_kept hk3 c4 id; clear hk3)
              go_ret
              rw [HE.out]
              exact ⟨rfl, HK2.out.trans HK3.out⟩
        · have e1 : (kd == 1) = false := beq_eq_false_iff_ne.2 k1
          by_cases k2 : kd = 2
          · have e2 : (kd == 2) = true := by rw [k2]; rfl
            cases g with
            | false =>
              have HE : Hid (E = 1) := HEE.out.symm.trans (if_neg (HNO.out rfl))
              clear k1 k2
              go_wp2_with fail
              go_ret
              rw [HE.out]
              exact ⟨rfl, HK2.out⟩
            | true =>
              have hp := HGF.out.1 rfl
              by_cases hr : rn = 0
              · have zr : (rn == 0) = true := by rw [hr]; rfl
                by_cases hz0 : t0 = 0
                · have z0 : (t0 == 0) = true := by rw [hz0]; rfl
                  by_cases hz1 : s0 = 0
                  · have z1 : (s0 == 0) = true := by rw [hz1]; rfl
                    have HE : Hid (E = 0) := HEE.out.symm.trans (if_pos (HI.out.2 ⟨hp, .inr ⟨k2, hr, hz0, hz1⟩⟩))
                    clear hp hr hz0 hz1 k1 k2
                    go_wp2_with fail
                    go_ret
                    rw [HE.out]
                    exact ⟨rfl, HK2.out⟩
                  · have z1 : (s0 == 0) = false := beq_eq_false_iff_ne.2 hz1
                    have HE : Hid (E = 1) := HEE.out.symm.trans (if_neg (fun ho => by rcases (HI.out.1 ho).2 with ⟨h, _⟩ | ⟨_, _, _, h⟩ <;> first | exact hz1 h | exact k1 h))
                    clear hp hr hz0 hz1 k1 k2
                    go_wp2_with fail
                    go_ret
                    rw [HE.out]
                    exact ⟨rfl, HK2.out⟩
                · have z0 : (t0 == 0) = false := beq_eq_false_iff_ne.2 hz0
                  have HE : Hid (E = 1) := HEE.out.symm.trans (if_neg (fun ho => by rcases (HI.out.1 ho).2 with ⟨h, _⟩ | ⟨_, _, h, _⟩ <;> first | exact hz0 h | exact k1 h))
                  clear hp hr hz0 k1 k2
                  go_wp2_with fail
                  go_ret
                  rw [HE.out]
                  exact ⟨rfl, HK2.out⟩
              · have zr : (rn == 0) = false := beq_eq_false_iff_ne.2 hr
                have HE : Hid (E = 1) := HEE.out.symm.trans (if_neg (fun ho => by rcases (HI.out.1 ho).2 with ⟨h, _⟩ | ⟨_, h, _⟩ <;> first | exact hr h | exact k1 h))
                clear hp hr k1 k2
                go_wp2_with fail
                go_ret
                rw [HE.out]
                exact ⟨rfl, HK2.out⟩
          · have e2 : (kd == 2) = false := beq_eq_false_iff_ne.2 k2
            have HE : Hid (E = 1) := HEE.out.symm.trans (if_neg (fun ho => by rcases (HI.out.1 ho).2 with ⟨h, _⟩ | ⟨h, _⟩ <;> first | exact k1 h | exact k2 h))
            clear k1 k2
            go_wp2_with fail
            go_ret
            rw [HE.out]
            exact ⟨rfl, HK2.out⟩
end Go.Proofs.YtlminkbaafjloaaDoor
