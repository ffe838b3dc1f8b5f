/-
  OPS: which may be, as the reference tells it.
-/
import Derived.Test.YtpgicfbaefcbmaaDoorCdM
import Derived.Test.YtpgicfbaefcbmaaDoorAoHn
set_option linter.unusedVariables false
namespace Go.Proofs.YtpgicfbaefcbmaaDoor
open Go Go.RowKit

theorem zbtw_any (x l m : Int) (w : World) : Calls Tryd.prog 42 #[.int .i64 x, .int .i64 l, .int .i64 m] w fun e w' => e = .returned (.bool (decide (l ≤ x ∧ x ≤ m))) ∧ w' = w := by
  by_cases h1 : l ≤ x
  · have b1 : decide (l ≤ x) = true := by simp; omega
    by_cases h2 : x ≤ m
    · have b2 : decide (x ≤ m) = true := by simp; omega
      rw [decide_eq_true (show l ≤ x ∧ x ≤ m from ⟨h1, h2⟩)]
      clear h1 h2
      go_enter Tryd.func42, Tryd.ntmps42
      go_wp2
      go_ret
      exact ⟨rfl, rfl⟩
    · have b2 : decide (x ≤ m) = false := by simp; omega
      rw [decide_eq_false (show ¬ (l ≤ x ∧ x ≤ m) by omega)]
      clear h1 h2
      go_enter Tryd.func42, Tryd.ntmps42
      go_wp2
      go_ret
      exact ⟨rfl, rfl⟩
  · have b1 : decide (l ≤ x) = false := by simp; omega
    rw [decide_eq_false (show ¬ (l ≤ x ∧ x ≤ m) by omega)]
    clear h1
    go_enter Tryd.func42, Tryd.ntmps42
    go_wp2
    go_ret
    exact ⟨rfl, rfl⟩
theorem rid_any (t s : Int) (w : World) : Calls Tryd.prog 41 #[.agg #[.int .i64 t, .int .i64 s]] w fun e w' => e = .returned (.bool (decide (Cd.idOk t s))) ∧ Kept (fun _ => False) w w' := by
  have hK0 : Hid (Kept (fun _ => False) w (w.alloc (.cells #[.int .i64 t, .int .i64 s] 29))) := (Kept.refl _ w).alloc _
  have c1 := fun W => zbtw_any t 1 10000 W
  have c2 := fun W => znum_any s 4 W
  by_cases h1 : 1 ≤ t ∧ t ≤ 10000
  · rw [decide_eq_true h1] at c1
    by_cases h2 : 0 ≤ s ∧ s ≤ 4
    · rw [decide_eq_true h2] at c2
      rw [decide_eq_true (show Cd.idOk t s from ⟨h1, h2⟩)]
      clear h1 h2
      go_enter Tryd.func41, Tryd.ntmps41
      go_wp2_with (first | (go_at_call 42; refine (c1 _).mono ?_; rintro e w' ⟨rfl, rfl⟩) | (go_at_call 51; refine (c2 _).mono ?_; rintro e w' ⟨rfl, rfl⟩))
      go_ret
      exact ⟨rfl, hK0.out⟩
    · rw [decide_eq_false h2] at c2
      rw [decide_eq_false (show ¬ Cd.idOk t s from fun h => h2 h.2)]
      clear h1 h2
      go_enter Tryd.func41, Tryd.ntmps41
      go_wp2_with (first | (go_at_call 42; refine (c1 _).mono ?_; rintro e w' ⟨rfl, rfl⟩) | (go_at_call 51; refine (c2 _).mono ?_; rintro e w' ⟨rfl, rfl⟩))
      go_ret
      exact ⟨rfl, hK0.out⟩
  · rw [decide_eq_false h1] at c1
    rw [decide_eq_false (show ¬ Cd.idOk t s from fun h => h1 h.1)]
    clear h1
    go_enter Tryd.func41, Tryd.ntmps41
    go_wp2_with (go_at_call 42; refine (c1 _).mono ?_; rintro e w' ⟨rfl, rfl⟩)
    go_ret
    exact ⟨rfl, hK0.out⟩
theorem rless_any (t s t' s' : Int) (w : World) : Calls Tryd.prog 43 #[.agg #[.int .i64 t, .int .i64 s], .agg #[.int .i64 t', .int .i64 s']] w fun e w' => e = .returned (.bool (decide (Cd.lessP t s t' s'))) ∧ Kept (fun _ => False) w w' := by
  have hK0 : Hid (Kept (fun _ => False) w ((w.alloc (.cells #[.int .i64 t, .int .i64 s] 29)).alloc (.cells #[.int .i64 t', .int .i64 s'] 29))) := ((Kept.refl _ w).alloc _).alloc _
  by_cases h1 : t < t'
  · have b1 : decide (t < t') = true := decide_eq_true h1
    rw [decide_eq_true (show Cd.lessP t s t' s' from .inl h1)]
    clear h1
    go_enter Tryd.func43, Tryd.ntmps43
    go_wp2
    go_ret
    exact ⟨rfl, hK0.out⟩
  · have b1 : decide (t < t') = false := decide_eq_false h1
    by_cases h2 : t = t'
    · have b2 : (t == t') = true := by simp [h2]
      by_cases h3 : s < s'
      · have b3 : decide (s < s') = true := decide_eq_true h3
        rw [decide_eq_true (show Cd.lessP t s t' s' from .inr ⟨h2, h3⟩)]
        clear h1 h2 h3
        go_enter Tryd.func43, Tryd.ntmps43
        go_wp2
        go_ret
        exact ⟨rfl, hK0.out⟩
      · have b3 : decide (s < s') = false := decide_eq_false h3
        rw [decide_eq_false (show ¬ Cd.lessP t s t' s' by unfold Cd.lessP; omega)]
        clear h1 h2 h3
        go_enter Tryd.func43, Tryd.ntmps43
        go_wp2
        go_ret
        exact ⟨rfl, hK0.out⟩
    · have b2 : (t == t') = false := beq_eq_false_iff_ne.2 h2
      rw [decide_eq_false (show ¬ Cd.lessP t s t' s' by unfold Cd.lessP; omega)]
      clear h1 h2
      go_enter Tryd.func43, Tryd.ntmps43
      go_wp2
      go_ret
      exact ⟨rfl, hK0.out⟩
theorem rrune_any (r : Int) (w : World) : Calls Tryd.prog 44 #[.int .i64 r] w fun e w' => e = .returned (.bool (decide (Cd.ruOk r))) ∧ w' = w := by
  by_cases h1 : 1 ≤ r
  · have b1 : decide (1 ≤ r) = true := decide_eq_true h1
    by_cases h2 : r ≤ 1114111
    · have b2 : decide (r ≤ 1114111) = true := decide_eq_true h2
      by_cases h3 : 55296 ≤ r
      · have b3 : decide (55296 ≤ r) = true := decide_eq_true h3
        by_cases h4 : r ≤ 57343
        · have b4 : decide (r ≤ 57343) = true := decide_eq_true h4
          rw [decide_eq_false (show ¬ Cd.ruOk r from fun h => h.2.2 ⟨h3, h4⟩)]
          clear h1 h2 h3 h4
          go_enter Tryd.func44, Tryd.ntmps44
          go_wp2
          go_ret
          exact ⟨rfl, rfl⟩
        · have b4 : decide (r ≤ 57343) = false := decide_eq_false h4
          rw [decide_eq_true (show Cd.ruOk r from ⟨h1, h2, fun h => h4 h.2⟩)]
          clear h1 h2 h3 h4
          go_enter Tryd.func44, Tryd.ntmps44
          go_wp2
          go_ret
          exact ⟨rfl, rfl⟩
      · have b3 : decide (55296 ≤ r) = false := decide_eq_false h3
        rw [decide_eq_true (show Cd.ruOk r from ⟨h1, h2, fun h => h3 h.1⟩)]
        clear h1 h2 h3
        go_enter Tryd.func44, Tryd.ntmps44
        go_wp2
        go_ret
        exact ⟨rfl, rfl⟩
    · have b2 : decide (r ≤ 1114111) = false := decide_eq_false h2
      rw [decide_eq_false (show ¬ Cd.ruOk r from fun h => h2 h.2.1)]
      clear h1 h2
      go_enter Tryd.func44, Tryd.ntmps44
      go_wp2
      go_ret
      exact ⟨rfl, rfl⟩
  · have b1 : decide (1 ≤ r) = false := decide_eq_false h1
    rw [decide_eq_false (show ¬ Cd.ruOk r from fun h => h1 h.1)]
    clear h1
    go_enter Tryd.func44, Tryd.ntmps44
    go_wp2
    go_ret
    exact ⟨rfl, rfl⟩
set_option maxRecDepth 100000 in
theorem rvec_any (A : Option Addr) (n c : Nat) (xs : List Int) (w : World) (hA : Nums w A n xs) (hn : n ≤ 17592186044416) :
    Calls Tryd.prog 23 #[.slice A n c] w fun e w' => e = .returned (.bool (decide (Cd.vecOk xs))) ∧ w' = w := by
  obtain ⟨E, hE⟩ : ∃ E, decide (Cd.vecOk xs) = E := ⟨_, rfl⟩
  rw [hE]
  have HE := Lib.hid hE
  have HA := Lib.hid hA
  clear hA hE
  go_enter Tryd.func23, Tryd.ntmps23
  go_wp2_with fail
  go_loop [3] (fun i => ∃ k : Nat, k ≤ n ∧ i = .int .i64 k ∧ ∀ (j : Nat) (x : Int), j < k → xs[j]? = some x → inV x) (fun i => n - (intOf i).toNat)
  case atStart => exact ⟨0, Nat.zero_le _, rfl, fun j x hj => by omega⟩
  case round =>
    obtain ⟨k, hk, rfl, hat⟩ := hrel
    have HAT := Lib.hid hat
    clear hat
    by_cases hkn : k < n
    · obtain ⟨ad, x, rfl, hx, hc⟩ := HA.out.cell hkn
      have b1 : decide (k < n) = true := decide_eq_true hkn
      have b2 : decide ((k : Int) < (n : Int)) = true := decide_eq_true (by omega)
      have t1 : (0 : Int) ≤ (k : Int) := by omega
      have t2 : (k : Int) < (n : Int) := by omega
      have HX := Lib.hid hx
      clear hx
      have cN := fun W => znum_any x 2000 W
      by_cases hv : 0 ≤ x ∧ x ≤ 2000
      · rw [decide_eq_true hv] at cN
        have HN : Hid (∀ (j : Nat) (y : Int), j < k + 1 → xs[j]? = some y → inV y) := by
          show ∀ (j : Nat) (y : Int), j < k + 1 → xs[j]? = some y → inV y
          intro j y hj hy
          by_cases hjk : j < k
          · exact HAT.out j y hjk hy
          · obtain rfl : j = k := by omega
            rw [HX.out] at hy
            injection hy with hy
            exact hy ▸ hv
        clear hv
        go_wp2_with (go_at_call 51; refine (cN _).mono ?_; rintro e w' ⟨rfl, hw⟩; have hw2 := hw.symm; subst hw2)
        go_round
        case rel => exact ⟨k + 1, by omega, by go_num, HN.out⟩
        case measure => simp [intOf] <;> omega
      · rw [decide_eq_false hv] at cN
        have HF : Hid (E = false) := HE.out.symm.trans (decide_eq_false (fun h => hv (vec_at h HX.out)))
        clear hv
        go_wp2_with (go_at_call 51; refine (cN _).mono ?_; rintro e w' ⟨rfl, hw⟩; have hw2 := hw.symm; subst hw2)
        go_ret
        rw [HF.out]
        exact ⟨rfl, rfl⟩
    · obtain rfl : k = n := by omega
      have b1 : decide (k < k) = false := decide_eq_false (by omega)
      have b2 : decide ((k : Int) < (k : Int)) = false := decide_eq_false (by omega)
      have hall : ∀ (j : Nat) (x : Int), xs[j]? = some x → inV x := fun j x hj => HAT.out j x (by
        by_cases hjk : j < k
        · exact hjk
        · rw [List.getElem?_eq_none (by have := HA.out.1; omega)] at hj; cases hj) hj
      by_cases h4 : k = 4
      · have HF : Hid (E = true) := HE.out.symm.trans (decide_eq_true (vec_of (by rw [HA.out.1]; exact h4) hall))
        have b4 : ((k : Int) == 4) = true := by rw [h4]; rfl
        clear h4 hall
        go_wp2_with fail
        go_ret
        rw [HF.out]
        exact ⟨rfl, rfl⟩
      · have HF : Hid (E = false) := HE.out.symm.trans (decide_eq_false (fun h => h4 (by rw [← HA.out.1]; exact h.1)))
        have b4 : ((k : Int) == 4) = false := beq_eq_false_iff_ne.2 (by omega)
        clear h4 hall
        go_wp2_with fail
        go_ret
        rw [HF.out]
        exact ⟨rfl, rfl⟩
set_option maxRecDepth 100000 in
set_option maxHeartbeats 8000000 in
theorem rop_any (b : OpS) (w : World) (hb : OpOk w b) :
    Calls Tryd.prog 11 #[opV b] w fun e w' => e = .returned (.bool (decide (Cd.opOk b.o))) ∧ Kept (fun _ => False) w w' := by
  have hK0 : Hid (Kept (fun _ => False) w (w.alloc (opO b))) := (Kept.refl _ w).alloc _
  have HO : Hid (Op9 (w.alloc (opO b)) ⟨w.heap.size, 0, none⟩ b) := op9_new
  have hS := hb.seen.kept hK0.out (fun _ _ => id)
  have HS := Lib.hid hS
  have hn := hb.n
  obtain ⟨E, hE⟩ : ∃ E, decide (Cd.opOk b.o) = E := ⟨_, rfl⟩
  rw [hE]
  have HEE := Lib.hid hE
  clear hb hS hE
  unfold opV
  go_enter Tryd.func11, Tryd.ntmps11
  obtain ⟨⟨kd, t, si, t0, s0, rn, st, nn, seen⟩, A, n, c⟩ := b
  simp only [opO] at *
  go_upto_region 1 with fail
  generalize w.alloc (.cells #[.int .i64 kd, .int .i64 t, .int .i64 si, .int .i64 t0, .int .i64 s0, .int .i64 rn, .int .i64 st, .int .i64 nn, .slice A n c] 32) = w1 at *
  generalize w.heap.size = pb at *
  obtain ⟨c0, c1, c2, c3, c4, c5, c6, c7, c8⟩ := HO.out.cs
  simp only at c0 c1 c2 c3 c4 c5 c6 c7 c8
  have cI := fun W => rid_any t si W
  have cS := fun W => zbtw_any st 1 4 W
  have cN := fun W => zbtw_any nn 1 2000 W
  have cV := fun W (hk : Kept (fun _ => False) w1 W) => rvec_any A n c seen W (HS.out.kept hk (fun _ _ => id)) hn
  by_cases h1 : Cd.idOk t si
  · rw [decide_eq_true h1] at cI
    by_cases h2 : 1 ≤ st ∧ st ≤ 4
    · rw [decide_eq_true h2] at cS
      by_cases h3 : 1 ≤ nn ∧ nn ≤ 2000
      · rw [decide_eq_true h3] at cN
        by_cases h4 : Cd.vecOk seen
        · have cV' : ∀ W, Kept (fun _ => False) w1 W → Calls Tryd.prog 23 #[.slice A n c] W fun e w' => e = .returned (.bool true) ∧ w' = W := fun W hk => by have := cV W hk; rwa [decide_eq_true h4] at this
          clear cV
          by_cases k2 : kd = 2
          · have e2 : (kd == 2) = true := by rw [k2]; rfl
            by_cases hz0 : t0 = 0
            · have z0 : (t0 == 0) = true := by rw [hz0]; rfl
              by_cases hz1 : s0 = 0
              · have z1 : (s0 == 0) = true := by rw [hz1]; rfl
                by_cases hr : rn = 0
                · have zr : (rn == 0) = true := by rw [hr]; rfl
                  have HE : Hid (E = true) := HEE.out.symm.trans (decide_eq_true (⟨h1, h2, h3, h4, .inr ⟨k2, hr, hz0, hz1⟩⟩))
                  clear h1 h2 h3 h4 hz0 hz1 hr k2
                  go_wp2_with (first | (go_at_call 41; refine (cI _).mono ?_; clear cI; rintro e w2 ⟨rfl, hk2⟩; have HK2 := Lib.hid hk2; have d0 := cell_kept hk2 c0 id; have d1 := cell_kept hk2 c1 id; have d2 := cell_kept hk2 c2 id; have d3 := cell_kept hk2 c3 id; have d4 := cell_kept hk2 c4 id; have d5 := cell_kept hk2 c5 id; have d6 := cell_kept hk2 c6 id; have d7 := cell_kept hk2 c7 id; have d8 := cell_kept hk2 c8 id; clear hk2) | (go_at_call 42; first | (refine (cS _).mono ?_; clear cS; rintro e w' ⟨rfl, hw⟩; have hw2 := hw.symm; subst hw2) | (refine (cN _).mono ?_; clear cN; rintro e w' ⟨rfl, hw⟩; have hw2 := hw.symm; subst hw2)) | (go_at_call 23; refine (cV' _ HK2.out).mono ?_; clear cV'; rintro e w' ⟨rfl, hw⟩; have hw2 := hw.symm; subst hw2))
                  go_ret
                  rw [HE.out]
                  exact ⟨rfl, hK0.out.trans HK2.out⟩
                · have zr : (rn == 0) = false := beq_eq_false_iff_ne.2 hr
                  have HE : Hid (E = false) := HEE.out.symm.trans (decide_eq_false (fun ho => by rcases ho.2.2.2.2 with ⟨h, _⟩ | ⟨_, h, _⟩ <;> first | exact hr h | (have h : kd = 1 := h; omega)))
                  clear h1 h2 h3 h4 hz0 hz1 hr k2
                  go_wp2_with (first | (go_at_call 41; refine (cI _).mono ?_; clear cI; rintro e w2 ⟨rfl, hk2⟩; have HK2 := Lib.hid hk2; have d0 := cell_kept hk2 c0 id; have d1 := cell_kept hk2 c1 id; have d2 := cell_kept hk2 c2 id; have d3 := cell_kept hk2 c3 id; have d4 := cell_kept hk2 c4 id; have d5 := cell_kept hk2 c5 id; have d6 := cell_kept hk2 c6 id; have d7 := cell_kept hk2 c7 id; have d8 := cell_kept hk2 c8 id; clear hk2) | (go_at_call 42; first | (refine (cS _).mono ?_; clear cS; rintro e w' ⟨rfl, hw⟩; have hw2 := hw.symm; subst hw2) | (refine (cN _).mono ?_; clear cN; rintro e w' ⟨rfl, hw⟩; have hw2 := hw.symm; subst hw2)) | (go_at_call 23; refine (cV' _ HK2.out).mono ?_; clear cV'; rintro e w' ⟨rfl, hw⟩; have hw2 := hw.symm; subst hw2))
                  go_ret
                  rw [HE.out]
                  exact ⟨rfl, hK0.out.trans HK2.out⟩
              · have z1 : (s0 == 0) = false := beq_eq_false_iff_ne.2 hz1
                have HE : Hid (E = false) := HEE.out.symm.trans (decide_eq_false (fun ho => by rcases ho.2.2.2.2 with ⟨h, _⟩ | ⟨_, _, _, h⟩ <;> first | exact hz1 h | (have h : kd = 1 := h; omega)))
                clear h1 h2 h3 h4 hz0 hz1 k2
                go_wp2_with (first | (go_at_call 41; refine (cI _).mono ?_; clear cI; rintro e w2 ⟨rfl, hk2⟩; have HK2 := Lib.hid hk2; have d0 := cell_kept hk2 c0 id; have d1 := cell_kept hk2 c1 id; have d2 := cell_kept hk2 c2 id; have d3 := cell_kept hk2 c3 id; have d4 := cell_kept hk2 c4 id; have d5 := cell_kept hk2 c5 id; have d6 := cell_kept hk2 c6 id; have d7 := cell_kept hk2 c7 id; have d8 := cell_kept hk2 c8 id; clear hk2) | (go_at_call 42; first | (refine (cS _).mono ?_; clear cS; rintro e w' ⟨rfl, hw⟩; have hw2 := hw.symm; subst hw2) | (refine (cN _).mono ?_; clear cN; rintro e w' ⟨rfl, hw⟩; have hw2 := hw.symm; subst hw2)) | (go_at_call 23; refine (cV' _ HK2.out).mono ?_; clear cV'; rintro e w' ⟨rfl, hw⟩; have hw2 := hw.symm; subst hw2))
                go_ret
                rw [HE.out]
                exact ⟨rfl, hK0.out.trans HK2.out⟩
            · have z0 : (t0 == 0) = false := beq_eq_false_iff_ne.2 hz0
              have HE : Hid (E = false) := HEE.out.symm.trans (decide_eq_false (fun ho => by rcases ho.2.2.2.2 with ⟨h, _⟩ | ⟨_, _, h, _⟩ <;> first | exact hz0 h | (have h : kd = 1 := h; omega)))
              clear h1 h2 h3 h4 hz0 k2
              go_wp2_with (first | (go_at_call 41; refine (cI _).mono ?_; clear cI; rintro e w2 ⟨rfl, hk2⟩; have HK2 := Lib.hid hk2; have d0 := cell_kept hk2 c0 id; have d1 := cell_kept hk2 c1 id; have d2 := cell_kept hk2 c2 id; have d3 := cell_kept hk2 c3 id; have d4 := cell_kept hk2 c4 id; have d5 := cell_kept hk2 c5 id; have d6 := cell_kept hk2 c6 id; have d7 := cell_kept hk2 c7 id; have d8 := cell_kept hk2 c8 id; clear hk2) | (go_at_call 42; first | (refine (cS _).mono ?_; clear cS; rintro e w' ⟨rfl, hw⟩; have hw2 := hw.symm; subst hw2) | (refine (cN _).mono ?_; clear cN; rintro e w' ⟨rfl, hw⟩; have hw2 := hw.symm; subst hw2)) | (go_at_call 23; refine (cV' _ HK2.out).mono ?_; clear cV'; rintro e w' ⟨rfl, hw⟩; have hw2 := hw.symm; subst hw2))
              go_ret
              rw [HE.out]
              exact ⟨rfl, hK0.out.trans HK2.out⟩
          · have e2 : (kd == 2) = false := beq_eq_false_iff_ne.2 k2
            by_cases k1 : kd = 1
            · have e1 : (kd == 1) = true := by rw [k1]; rfl
              have cR := fun W => rrune_any rn W
              by_cases hr : Cd.ruOk rn
              · rw [decide_eq_true hr] at cR
                by_cases hz0 : t0 = 0
                · have z0 : (t0 == 0) = true := by rw [hz0]; rfl
                  by_cases hz1 : s0 = 0
                  · have z1 : (s0 == 0) = true := by rw [hz1]; rfl
                    have HE : Hid (E = true) := HEE.out.symm.trans (decide_eq_true (⟨h1, h2, h3, h4, .inl ⟨k1, hr, .inl ⟨hz0, hz1⟩⟩⟩))
                    clear h1 h2 h3 h4 hz0 hz1 hr k1 k2
                    go_wp2_with (first | (go_at_call 41; refine (cI _).mono ?_; clear cI; rintro e w2 ⟨rfl, hk2⟩; have HK2 := Lib.hid hk2; have d0 := cell_kept hk2 c0 id; have d1 := cell_kept hk2 c1 id; have d2 := cell_kept hk2 c2 id; have d3 := cell_kept hk2 c3 id; have d4 := cell_kept hk2 c4 id; have d5 := cell_kept hk2 c5 id; have d6 := cell_kept hk2 c6 id; have d7 := cell_kept hk2 c7 id; have d8 := cell_kept hk2 c8 id; clear hk2) | (go_at_call 42; first | (refine (cS _).mono ?_; clear cS; rintro e w' ⟨rfl, hw⟩; have hw2 := hw.symm; subst hw2) | (refine (cN _).mono ?_; clear cN; rintro e w' ⟨rfl, hw⟩; have hw2 := hw.symm; subst hw2)) | (go_at_call 23; refine (cV' _ HK2.out).mono ?_; clear cV'; rintro e w' ⟨rfl, hw⟩; have hw2 := hw.symm; subst hw2) | (go_at_call 44; refine (cR _).mono ?_; clear cR; rintro e w' ⟨rfl, hw⟩; have hw2 := hw.symm; subst hw2))
                    go_ret
                    rw [HE.out]
                    exact ⟨rfl, hK0.out.trans HK2.out⟩
                  · have z1 : (s0 == 0) = false := beq_eq_false_iff_ne.2 hz1
                    have hz : ¬ (t0 = 0 ∧ s0 = 0) := fun h => hz1 h.2
                    clear hz0 hz1
                    have cJ := fun W => rid_any t0 s0 W
                    by_cases hi : Cd.idOk t0 s0
                    · rw [decide_eq_true hi] at cJ
                      have cL := fun W => rless_any t0 s0 t si W
                      by_cases hl : Cd.lessP t0 s0 t si
                      · rw [decide_eq_true hl] at cL
                        have HE : Hid (E = true) := HEE.out.symm.trans (decide_eq_true (⟨h1, h2, h3, h4, .inl ⟨k1, hr, .inr ⟨hi, hl⟩⟩⟩))
                        clear h1 h2 h3 h4 hz hi hl hr k1 k2
                        go_wp2_with (first | (go_at_call 41; refine (cI _).mono ?_; clear cI; rintro e w2 ⟨rfl, hk2⟩; have HK2 := Lib.hid hk2; have d0 := cell_kept hk2 c0 id; have d1 := cell_kept hk2 c1 id; have d2 := cell_kept hk2 c2 id; have d3 := cell_kept hk2 c3 id; have d4 := cell_kept hk2 c4 id; have d5 := cell_kept hk2 c5 id; have d6 := cell_kept hk2 c6 id; have d7 := cell_kept hk2 c7 id; have d8 := cell_kept hk2 c8 id; clear hk2) | (go_at_call 42; first | (refine (cS _).mono ?_; clear cS; rintro e w' ⟨rfl, hw⟩; have hw2 := hw.symm; subst hw2) | (refine (cN _).mono ?_; clear cN; rintro e w' ⟨rfl, hw⟩; have hw2 := hw.symm; subst hw2)) | (go_at_call 23; refine (cV' _ HK2.out).mono ?_; clear cV'; rintro e w' ⟨rfl, hw⟩; have hw2 := hw.symm; subst hw2) | (go_at_call 41; refine (cJ _).mono ?_; clear cJ; rintro e w4 ⟨rfl, hk4⟩; have HK4 := Lib.hid (HK2.out.trans hk4); have g1 := cell_kept hk4 d1 id; have g2 := cell_kept hk4 d2 id; have g3 := cell_kept hk4 d3 id; have g4 := cell_kept hk4 d4 id; have g5 := cell_kept hk4 d5 id; clear hk4) | (go_at_call 43; refine (cL _).mono ?_; clear cL; rintro e w5 ⟨rfl, hk5⟩; have HK5 := Lib.hid (HK4.out.trans hk5); have q5 := cell_kept hk5 g5 id; clear hk5) | (go_at_call 44; refine (cR _).mono ?_; clear cR; rintro e w' ⟨rfl, hw⟩; have hw2 := hw.symm; subst hw2))
                        go_ret
                        rw [HE.out]
                        exact ⟨rfl, hK0.out.trans HK5.out⟩
                      · rw [decide_eq_false hl] at cL
                        have HE : Hid (E = false) := HEE.out.symm.trans (decide_eq_false (fun ho => by rcases ho.2.2.2.2 with ⟨_, _, hzz | ⟨_, h⟩⟩ | ⟨h, _⟩ <;> first | exact hl h | exact hz hzz | exact k2 h))
                        clear h1 h2 h3 h4 hz hi hl hr k1 k2
                        go_wp2_with (first | (go_at_call 41; refine (cI _).mono ?_; clear cI; rintro e w2 ⟨rfl, hk2⟩; have HK2 := Lib.hid hk2; have d0 := cell_kept hk2 c0 id; have d1 := cell_kept hk2 c1 id; have d2 := cell_kept hk2 c2 id; have d3 := cell_kept hk2 c3 id; have d4 := cell_kept hk2 c4 id; have d5 := cell_kept hk2 c5 id; have d6 := cell_kept hk2 c6 id; have d7 := cell_kept hk2 c7 id; have d8 := cell_kept hk2 c8 id; clear hk2) | (go_at_call 42; first | (refine (cS _).mono ?_; clear cS; rintro e w' ⟨rfl, hw⟩; have hw2 := hw.symm; subst hw2) | (refine (cN _).mono ?_; clear cN; rintro e w' ⟨rfl, hw⟩; have hw2 := hw.symm; subst hw2)) | (go_at_call 23; refine (cV' _ HK2.out).mono ?_; clear cV'; rintro e w' ⟨rfl, hw⟩; have hw2 := hw.symm; subst hw2) | (go_at_call 41; refine (cJ _).mono ?_; clear cJ; rintro e w4 ⟨rfl, hk4⟩; have HK4 := Lib.hid (HK2.out.trans hk4); have g1 := cell_kept hk4 d1 id; have g2 := cell_kept hk4 d2 id; have g3 := cell_kept hk4 d3 id; have g4 := cell_kept hk4 d4 id; have g5 := cell_kept hk4 d5 id; clear hk4) | (go_at_call 43; refine (cL _).mono ?_; clear cL; rintro e w5 ⟨rfl, hk5⟩; have HK5 := Lib.hid (HK4.out.trans hk5); have q5 := cell_kept hk5 g5 id; clear hk5))
                        go_ret
                        rw [HE.out]
                        exact ⟨rfl, hK0.out.trans HK5.out⟩
                    · rw [decide_eq_false hi] at cJ
                      have HE : Hid (E = false) := HEE.out.symm.trans (decide_eq_false (fun ho => by rcases ho.2.2.2.2 with ⟨_, _, hzz | ⟨h, _⟩⟩ | ⟨h, _⟩ <;> first | exact hi h | exact hz hzz | exact k2 h))
                      clear h1 h2 h3 h4 hz hi hr k1 k2
                      go_wp2_with (first | (go_at_call 41; refine (cI _).mono ?_; clear cI; rintro e w2 ⟨rfl, hk2⟩; have HK2 := Lib.hid hk2; have d0 := cell_kept hk2 c0 id; have d1 := cell_kept hk2 c1 id; have d2 := cell_kept hk2 c2 id; have d3 := cell_kept hk2 c3 id; have d4 := cell_kept hk2 c4 id; have d5 := cell_kept hk2 c5 id; have d6 := cell_kept hk2 c6 id; have d7 := cell_kept hk2 c7 id; have d8 := cell_kept hk2 c8 id; clear hk2) | (go_at_call 42; first | (refine (cS _).mono ?_; clear cS; rintro e w' ⟨rfl, hw⟩; have hw2 := hw.symm; subst hw2) | (refine (cN _).mono ?_; clear cN; rintro e w' ⟨rfl, hw⟩; have hw2 := hw.symm; subst hw2)) | (go_at_call 23; refine (cV' _ HK2.out).mono ?_; clear cV'; rintro e w' ⟨rfl, hw⟩; have hw2 := hw.symm; subst hw2) | (go_at_call 41; refine (cJ _).mono ?_; clear cJ; rintro e w4 ⟨rfl, hk4⟩; have HK4 := Lib.hid (HK2.out.trans hk4); have g1 := cell_kept hk4 d1 id; have g2 := cell_kept hk4 d2 id; have g3 := cell_kept hk4 d3 id; have g4 := cell_kept hk4 d4 id; have g5 := cell_kept hk4 d5 id; clear hk4))
                      go_ret
                      rw [HE.out]
                      exact ⟨rfl, hK0.out.trans HK4.out⟩
                · have z0 : (t0 == 0) = false := beq_eq_false_iff_ne.2 hz0
                  have hz : ¬ (t0 = 0 ∧ s0 = 0) := fun h => hz0 h.1
                  clear hz0
                  have cJ := fun W => rid_any t0 s0 W
                  by_cases hi : Cd.idOk t0 s0
                  · rw [decide_eq_true hi] at cJ
                    have cL := fun W => rless_any t0 s0 t si W
                    by_cases hl : Cd.lessP t0 s0 t si
                    · rw [decide_eq_true hl] at cL
                      have HE : Hid (E = true) := HEE.out.symm.trans (decide_eq_true (⟨h1, h2, h3, h4, .inl ⟨k1, hr, .inr ⟨hi, hl⟩⟩⟩))
                      clear h1 h2 h3 h4 hz hi hl hr k1 k2
                      go_wp2_with (first | (go_at_call 41; refine (cI _).mono ?_; clear cI; rintro e w2 ⟨rfl, hk2⟩; have HK2 := Lib.hid hk2; have d0 := cell_kept hk2 c0 id; have d1 := cell_kept hk2 c1 id; have d2 := cell_kept hk2 c2 id; have d3 := cell_kept hk2 c3 id; have d4 := cell_kept hk2 c4 id; have d5 := cell_kept hk2 c5 id; have d6 := cell_kept hk2 c6 id; have d7 := cell_kept hk2 c7 id; have d8 := cell_kept hk2 c8 id; clear hk2) | (go_at_call 42; first | (refine (cS _).mono ?_; clear cS; rintro e w' ⟨rfl, hw⟩; have hw2 := hw.symm; subst hw2) | (refine (cN _).mono ?_; clear cN; rintro e w' ⟨rfl, hw⟩; have hw2 := hw.symm; subst hw2)) | (go_at_call 23; refine (cV' _ HK2.out).mono ?_; clear cV'; rintro e w' ⟨rfl, hw⟩; have hw2 := hw.symm; subst hw2) | (go_at_call 41; refine (cJ _).mono ?_; clear cJ; rintro e w4 ⟨rfl, hk4⟩; have HK4 := Lib.hid (HK2.out.trans hk4); have g1 := cell_kept hk4 d1 id; have g2 := cell_kept hk4 d2 id; have g3 := cell_kept hk4 d3 id; have g4 := cell_kept hk4 d4 id; have g5 := cell_kept hk4 d5 id; clear hk4) | (go_at_call 43; refine (cL _).mono ?_; clear cL; rintro e w5 ⟨rfl, hk5⟩; have HK5 := Lib.hid (HK4.out.trans hk5); have q5 := cell_kept hk5 g5 id; clear hk5) | (go_at_call 44; refine (cR _).mono ?_; clear cR; rintro e w' ⟨rfl, hw⟩; have hw2 := hw.symm; subst hw2))
                      go_ret
                      rw [HE.out]
                      exact ⟨rfl, hK0.out.trans HK5.out⟩
                    · rw [decide_eq_false hl] at cL
                      have HE : Hid (E = false) := HEE.out.symm.trans (decide_eq_false (fun ho => by rcases ho.2.2.2.2 with ⟨_, _, hzz | ⟨_, h⟩⟩ | ⟨h, _⟩ <;> first | exact hl h | exact hz hzz | exact k2 h))
                      clear h1 h2 h3 h4 hz hi hl hr k1 k2
                      go_wp2_with (first | (go_at_call 41; refine (cI _).mono ?_; clear cI; rintro e w2 ⟨rfl, hk2⟩; have HK2 := Lib.hid hk2; have d0 := cell_kept hk2 c0 id; have d1 := cell_kept hk2 c1 id; have d2 := cell_kept hk2 c2 id; have d3 := cell_kept hk2 c3 id; have d4 := cell_kept hk2 c4 id; have d5 := cell_kept hk2 c5 id; have d6 := cell_kept hk2 c6 id; have d7 := cell_kept hk2 c7 id; have d8 := cell_kept hk2 c8 id; clear hk2) | (go_at_call 42; first | (refine (cS _).mono ?_; clear cS; rintro e w' ⟨rfl, hw⟩; have hw2 := hw.symm; subst hw2) | (refine (cN _).mono ?_; clear cN; rintro e w' ⟨rfl, hw⟩; have hw2 := hw.symm; subst hw2)) | (go_at_call 23; refine (cV' _ HK2.out).mono ?_; clear cV'; rintro e w' ⟨rfl, hw⟩; have hw2 := hw.symm; subst hw2) | (go_at_call 41; refine (cJ _).mono ?_; clear cJ; rintro e w4 ⟨rfl, hk4⟩; have HK4 := Lib.hid (HK2.out.trans hk4); have g1 := cell_kept hk4 d1 id; have g2 := cell_kept hk4 d2 id; have g3 := cell_kept hk4 d3 id; have g4 := cell_kept hk4 d4 id; have g5 := cell_kept hk4 d5 id; clear hk4) | (go_at_call 43; refine (cL _).mono ?_; clear cL; rintro e w5 ⟨rfl, hk5⟩; have HK5 := Lib.hid (HK4.out.trans hk5); have q5 := cell_kept hk5 g5 id; clear hk5))
                      go_ret
                      rw [HE.out]
                      exact ⟨rfl, hK0.out.trans HK5.out⟩
                  · rw [decide_eq_false hi] at cJ
                    have HE : Hid (E = false) := HEE.out.symm.trans (decide_eq_false (fun ho => by rcases ho.2.2.2.2 with ⟨_, _, hzz | ⟨h, _⟩⟩ | ⟨h, _⟩ <;> first | exact hi h | exact hz hzz | exact k2 h))
                    clear h1 h2 h3 h4 hz hi hr k1 k2
                    go_wp2_with (first | (go_at_call 41; refine (cI _).mono ?_; clear cI; rintro e w2 ⟨rfl, hk2⟩; have HK2 := Lib.hid hk2; have d0 := cell_kept hk2 c0 id; have d1 := cell_kept hk2 c1 id; have d2 := cell_kept hk2 c2 id; have d3 := cell_kept hk2 c3 id; have d4 := cell_kept hk2 c4 id; have d5 := cell_kept hk2 c5 id; have d6 := cell_kept hk2 c6 id; have d7 := cell_kept hk2 c7 id; have d8 := cell_kept hk2 c8 id; clear hk2) | (go_at_call 42; first | (refine (cS _).mono ?_; clear cS; rintro e w' ⟨rfl, hw⟩; have hw2 := hw.symm; subst hw2) | (refine (cN _).mono ?_; clear cN; rintro e w' ⟨rfl, hw⟩; have hw2 := hw.symm; subst hw2)) | (go_at_call 23; refine (cV' _ HK2.out).mono ?_; clear cV'; rintro e w' ⟨rfl, hw⟩; have hw2 := hw.symm; subst hw2) | (go_at_call 41; refine (cJ _).mono ?_; clear cJ; rintro e w4 ⟨rfl, hk4⟩; have HK4 := Lib.hid (HK2.out.trans hk4); have g1 := cell_kept hk4 d1 id; have g2 := cell_kept hk4 d2 id; have g3 := cell_kept hk4 d3 id; have g4 := cell_kept hk4 d4 id; have g5 := cell_kept hk4 d5 id; clear hk4))
                    go_ret
                    rw [HE.out]
                    exact ⟨rfl, hK0.out.trans HK4.out⟩
              · rw [decide_eq_false hr] at cR
                by_cases hz0 : t0 = 0
                · have z0 : (t0 == 0) = true := by rw [hz0]; rfl
                  by_cases hz1 : s0 = 0
                  · have z1 : (s0 == 0) = true := by rw [hz1]; rfl
                    have HE : Hid (E = false) := HEE.out.symm.trans (decide_eq_false (fun ho => by rcases ho.2.2.2.2 with ⟨_, h, _⟩ | ⟨h, _⟩ <;> first | exact hr h | exact k2 h))
                    clear h1 h2 h3 h4 hz0 hz1 hr k1 k2
                    go_wp2_with (first | (go_at_call 41; refine (cI _).mono ?_; clear cI; rintro e w2 ⟨rfl, hk2⟩; have HK2 := Lib.hid hk2; have d0 := cell_kept hk2 c0 id; have d1 := cell_kept hk2 c1 id; have d2 := cell_kept hk2 c2 id; have d3 := cell_kept hk2 c3 id; have d4 := cell_kept hk2 c4 id; have d5 := cell_kept hk2 c5 id; have d6 := cell_kept hk2 c6 id; have d7 := cell_kept hk2 c7 id; have d8 := cell_kept hk2 c8 id; clear hk2) | (go_at_call 42; first | (refine (cS _).mono ?_; clear cS; rintro e w' ⟨rfl, hw⟩; have hw2 := hw.symm; subst hw2) | (refine (cN _).mono ?_; clear cN; rintro e w' ⟨rfl, hw⟩; have hw2 := hw.symm; subst hw2)) | (go_at_call 23; refine (cV' _ HK2.out).mono ?_; clear cV'; rintro e w' ⟨rfl, hw⟩; have hw2 := hw.symm; subst hw2) | (go_at_call 44; refine (cR _).mono ?_; clear cR; rintro e w' ⟨rfl, hw⟩; have hw2 := hw.symm; subst hw2))
                    go_ret
                    rw [HE.out]
                    exact ⟨rfl, hK0.out.trans HK2.out⟩
                  · have z1 : (s0 == 0) = false := beq_eq_false_iff_ne.2 hz1
                    have hz : ¬ (t0 = 0 ∧ s0 = 0) := fun h => hz1 h.2
                    clear hz0 hz1
                    have cJ := fun W => rid_any t0 s0 W
                    by_cases hi : Cd.idOk t0 s0
                    · rw [decide_eq_true hi] at cJ
                      have cL := fun W => rless_any t0 s0 t si W
                      by_cases hl : Cd.lessP t0 s0 t si
                      · rw [decide_eq_true hl] at cL
                        have HE : Hid (E = false) := HEE.out.symm.trans (decide_eq_false (fun ho => by rcases ho.2.2.2.2 with ⟨_, h, _⟩ | ⟨h, _⟩ <;> first | exact hr h | exact k2 h))
                        clear h1 h2 h3 h4 hz hi hl hr k1 k2
                        go_wp2_with (first | (go_at_call 41; refine (cI _).mono ?_; clear cI; rintro e w2 ⟨rfl, hk2⟩; have HK2 := Lib.hid hk2; have d0 := cell_kept hk2 c0 id; have d1 := cell_kept hk2 c1 id; have d2 := cell_kept hk2 c2 id; have d3 := cell_kept hk2 c3 id; have d4 := cell_kept hk2 c4 id; have d5 := cell_kept hk2 c5 id; have d6 := cell_kept hk2 c6 id; have d7 := cell_kept hk2 c7 id; have d8 := cell_kept hk2 c8 id; clear hk2) | (go_at_call 42; first | (refine (cS _).mono ?_; clear cS; rintro e w' ⟨rfl, hw⟩; have hw2 := hw.symm; subst hw2) | (refine (cN _).mono ?_; clear cN; rintro e w' ⟨rfl, hw⟩; have hw2 := hw.symm; subst hw2)) | (go_at_call 23; refine (cV' _ HK2.out).mono ?_; clear cV'; rintro e w' ⟨rfl, hw⟩; have hw2 := hw.symm; subst hw2) | (go_at_call 41; refine (cJ _).mono ?_; clear cJ; rintro e w4 ⟨rfl, hk4⟩; have HK4 := Lib.hid (HK2.out.trans hk4); have g1 := cell_kept hk4 d1 id; have g2 := cell_kept hk4 d2 id; have g3 := cell_kept hk4 d3 id; have g4 := cell_kept hk4 d4 id; have g5 := cell_kept hk4 d5 id; clear hk4) | (go_at_call 43; refine (cL _).mono ?_; clear cL; rintro e w5 ⟨rfl, hk5⟩; have HK5 := Lib.hid (HK4.out.trans hk5); have q5 := cell_kept hk5 g5 id; clear hk5) | (go_at_call 44; refine (cR _).mono ?_; clear cR; rintro e w' ⟨rfl, hw⟩; have hw2 := hw.symm; subst hw2))
                        go_ret
                        rw [HE.out]
                        exact ⟨rfl, hK0.out.trans HK5.out⟩
                      · rw [decide_eq_false hl] at cL
                        have HE : Hid (E = false) := HEE.out.symm.trans (decide_eq_false (fun ho => by rcases ho.2.2.2.2 with ⟨_, _, hzz | ⟨_, h⟩⟩ | ⟨h, _⟩ <;> first | exact hl h | exact hz hzz | exact k2 h))
                        clear h1 h2 h3 h4 hz hi hl hr k1 k2
                        go_wp2_with (first | (go_at_call 41; refine (cI _).mono ?_; clear cI; rintro e w2 ⟨rfl, hk2⟩; have HK2 := Lib.hid hk2; have d0 := cell_kept hk2 c0 id; have d1 := cell_kept hk2 c1 id; have d2 := cell_kept hk2 c2 id; have d3 := cell_kept hk2 c3 id; have d4 := cell_kept hk2 c4 id; have d5 := cell_kept hk2 c5 id; have d6 := cell_kept hk2 c6 id; have d7 := cell_kept hk2 c7 id; have d8 := cell_kept hk2 c8 id; clear hk2) | (go_at_call 42; first | (refine (cS _).mono ?_; clear cS; rintro e w' ⟨rfl, hw⟩; have hw2 := hw.symm; subst hw2) | (refine (cN _).mono ?_; clear cN; rintro e w' ⟨rfl, hw⟩; have hw2 := hw.symm; subst hw2)) | (go_at_call 23; refine (cV' _ HK2.out).mono ?_; clear cV'; rintro e w' ⟨rfl, hw⟩; have hw2 := hw.symm; subst hw2) | (go_at_call 41; refine (cJ _).mono ?_; clear cJ; rintro e w4 ⟨rfl, hk4⟩; have HK4 := Lib.hid (HK2.out.trans hk4); have g1 := cell_kept hk4 d1 id; have g2 := cell_kept hk4 d2 id; have g3 := cell_kept hk4 d3 id; have g4 := cell_kept hk4 d4 id; have g5 := cell_kept hk4 d5 id; clear hk4) | (go_at_call 43; refine (cL _).mono ?_; clear cL; rintro e w5 ⟨rfl, hk5⟩; have HK5 := Lib.hid (HK4.out.trans hk5); have q5 := cell_kept hk5 g5 id; clear hk5))
                        go_ret
                        rw [HE.out]
                        exact ⟨rfl, hK0.out.trans HK5.out⟩
                    · rw [decide_eq_false hi] at cJ
                      have HE : Hid (E = false) := HEE.out.symm.trans (decide_eq_false (fun ho => by rcases ho.2.2.2.2 with ⟨_, _, hzz | ⟨h, _⟩⟩ | ⟨h, _⟩ <;> first | exact hi h | exact hz hzz | exact k2 h))
                      clear h1 h2 h3 h4 hz hi hr k1 k2
                      go_wp2_with (first | (go_at_call 41; refine (cI _).mono ?_; clear cI; rintro e w2 ⟨rfl, hk2⟩; have HK2 := Lib.hid hk2; have d0 := cell_kept hk2 c0 id; have d1 := cell_kept hk2 c1 id; have d2 := cell_kept hk2 c2 id; have d3 := cell_kept hk2 c3 id; have d4 := cell_kept hk2 c4 id; have d5 := cell_kept hk2 c5 id; have d6 := cell_kept hk2 c6 id; have d7 := cell_kept hk2 c7 id; have d8 := cell_kept hk2 c8 id; clear hk2) | (go_at_call 42; first | (refine (cS _).mono ?_; clear cS; rintro e w' ⟨rfl, hw⟩; have hw2 := hw.symm; subst hw2) | (refine (cN _).mono ?_; clear cN; rintro e w' ⟨rfl, hw⟩; have hw2 := hw.symm; subst hw2)) | (go_at_call 23; refine (cV' _ HK2.out).mono ?_; clear cV'; rintro e w' ⟨rfl, hw⟩; have hw2 := hw.symm; subst hw2) | (go_at_call 41; refine (cJ _).mono ?_; clear cJ; rintro e w4 ⟨rfl, hk4⟩; have HK4 := Lib.hid (HK2.out.trans hk4); have g1 := cell_kept hk4 d1 id; have g2 := cell_kept hk4 d2 id; have g3 := cell_kept hk4 d3 id; have g4 := cell_kept hk4 d4 id; have g5 := cell_kept hk4 d5 id; clear hk4))
                      go_ret
                      rw [HE.out]
                      exact ⟨rfl, hK0.out.trans HK4.out⟩
                · have z0 : (t0 == 0) = false := beq_eq_false_iff_ne.2 hz0
                  have hz : ¬ (t0 = 0 ∧ s0 = 0) := fun h => hz0 h.1
                  clear hz0
                  have cJ := fun W => rid_any t0 s0 W
                  by_cases hi : Cd.idOk t0 s0
                  · rw [decide_eq_true hi] at cJ
                    have cL := fun W => rless_any t0 s0 t si W
                    by_cases hl : Cd.lessP t0 s0 t si
                    · rw [decide_eq_true hl] at cL
                      have HE : Hid (E = false) := HEE.out.symm.trans (decide_eq_false (fun ho => by rcases ho.2.2.2.2 with ⟨_, h, _⟩ | ⟨h, _⟩ <;> first | exact hr h | exact k2 h))
                      clear h1 h2 h3 h4 hz hi hl hr k1 k2
                      go_wp2_with (first | (go_at_call 41; refine (cI _).mono ?_; clear cI; rintro e w2 ⟨rfl, hk2⟩; have HK2 := Lib.hid hk2; have d0 := cell_kept hk2 c0 id; have d1 := cell_kept hk2 c1 id; have d2 := cell_kept hk2 c2 id; have d3 := cell_kept hk2 c3 id; have d4 := cell_kept hk2 c4 id; have d5 := cell_kept hk2 c5 id; have d6 := cell_kept hk2 c6 id; have d7 := cell_kept hk2 c7 id; have d8 := cell_kept hk2 c8 id; clear hk2) | (go_at_call 42; first | (refine (cS _).mono ?_; clear cS; rintro e w' ⟨rfl, hw⟩; have hw2 := hw.symm; subst hw2) | (refine (cN _).mono ?_; clear cN; rintro e w' ⟨rfl, hw⟩; have hw2 := hw.symm; subst hw2)) | (go_at_call 23; refine (cV' _ HK2.out).mono ?_; clear cV'; rintro e w' ⟨rfl, hw⟩; have hw2 := hw.symm; subst hw2) | (go_at_call 41; refine (cJ _).mono ?_; clear cJ; rintro e w4 ⟨rfl, hk4⟩; have HK4 := Lib.hid (HK2.out.trans hk4); have g1 := cell_kept hk4 d1 id; have g2 := cell_kept hk4 d2 id; have g3 := cell_kept hk4 d3 id; have g4 := cell_kept hk4 d4 id; have g5 := cell_kept hk4 d5 id; clear hk4) | (go_at_call 43; refine (cL _).mono ?_; clear cL; rintro e w5 ⟨rfl, hk5⟩; have HK5 := Lib.hid (HK4.out.trans hk5); have q5 := cell_kept hk5 g5 id; clear hk5) | (go_at_call 44; refine (cR _).mono ?_; clear cR; rintro e w' ⟨rfl, hw⟩; have hw2 := hw.symm; subst hw2))
                      go_ret
                      rw [HE.out]
                      exact ⟨rfl, hK0.out.trans HK5.out⟩
                    · rw [decide_eq_false hl] at cL
                      have HE : Hid (E = false) := HEE.out.symm.trans (decide_eq_false (fun ho => by rcases ho.2.2.2.2 with ⟨_, _, hzz | ⟨_, h⟩⟩ | ⟨h, _⟩ <;> first | exact hl h | exact hz hzz | exact k2 h))
                      clear h1 h2 h3 h4 hz hi hl hr k1 k2
                      go_wp2_with (first | (go_at_call 41; refine (cI _).mono ?_; clear cI; rintro e w2 ⟨rfl, hk2⟩; have HK2 := Lib.hid hk2; have d0 := cell_kept hk2 c0 id; have d1 := cell_kept hk2 c1 id; have d2 := cell_kept hk2 c2 id; have d3 := cell_kept hk2 c3 id; have d4 := cell_kept hk2 c4 id; have d5 := cell_kept hk2 c5 id; have d6 := cell_kept hk2 c6 id; have d7 := cell_kept hk2 c7 id; have d8 := cell_kept hk2 c8 id; clear hk2) | (go_at_call 42; first | (refine (cS _).mono ?_; clear cS; rintro e w' ⟨rfl, hw⟩; have hw2 := hw.symm; subst hw2) | (refine (cN _).mono ?_; clear cN; rintro e w' ⟨rfl, hw⟩; have hw2 := hw.symm; subst hw2)) | (go_at_call 23; refine (cV' _ HK2.out).mono ?_; clear cV'; rintro e w' ⟨rfl, hw⟩; have hw2 := hw.symm; subst hw2) | (go_at_call 41; refine (cJ _).mono ?_; clear cJ; rintro e w4 ⟨rfl, hk4⟩; have HK4 := Lib.hid (HK2.out.trans hk4); have g1 := cell_kept hk4 d1 id; have g2 := cell_kept hk4 d2 id; have g3 := cell_kept hk4 d3 id; have g4 := cell_kept hk4 d4 id; have g5 := cell_kept hk4 d5 id; clear hk4) | (go_at_call 43; refine (cL _).mono ?_; clear cL; rintro e w5 ⟨rfl, hk5⟩; have HK5 := Lib.hid (HK4.out.trans hk5); have q5 := cell_kept hk5 g5 id; clear hk5))
                      go_ret
                      rw [HE.out]
                      exact ⟨rfl, hK0.out.trans HK5.out⟩
                  · rw [decide_eq_false hi] at cJ
                    have HE : Hid (E = false) := HEE.out.symm.trans (decide_eq_false (fun ho => by rcases ho.2.2.2.2 with ⟨_, _, hzz | ⟨h, _⟩⟩ | ⟨h, _⟩ <;> first | exact hi h | exact hz hzz | exact k2 h))
                    clear h1 h2 h3 h4 hz hi hr k1 k2
                    go_wp2_with (first | (go_at_call 41; refine (cI _).mono ?_; clear cI; rintro e w2 ⟨rfl, hk2⟩; have HK2 := Lib.hid hk2; have d0 := cell_kept hk2 c0 id; have d1 := cell_kept hk2 c1 id; have d2 := cell_kept hk2 c2 id; have d3 := cell_kept hk2 c3 id; have d4 := cell_kept hk2 c4 id; have d5 := cell_kept hk2 c5 id; have d6 := cell_kept hk2 c6 id; have d7 := cell_kept hk2 c7 id; have d8 := cell_kept hk2 c8 id; clear hk2) | (go_at_call 42; first | (refine (cS _).mono ?_; clear cS; rintro e w' ⟨rfl, hw⟩; have hw2 := hw.symm; subst hw2) | (refine (cN _).mono ?_; clear cN; rintro e w' ⟨rfl, hw⟩; have hw2 := hw.symm; subst hw2)) | (go_at_call 23; refine (cV' _ HK2.out).mono ?_; clear cV'; rintro e w' ⟨rfl, hw⟩; have hw2 := hw.symm; subst hw2) | (go_at_call 41; refine (cJ _).mono ?_; clear cJ; rintro e w4 ⟨rfl, hk4⟩; have HK4 := Lib.hid (HK2.out.trans hk4); have g1 := cell_kept hk4 d1 id; have g2 := cell_kept hk4 d2 id; have g3 := cell_kept hk4 d3 id; have g4 := cell_kept hk4 d4 id; have g5 := cell_kept hk4 d5 id; clear hk4))
                    go_ret
                    rw [HE.out]
                    exact ⟨rfl, hK0.out.trans HK4.out⟩
            · have e1 : (kd == 1) = false := beq_eq_false_iff_ne.2 k1
              have HE : Hid (E = false) := HEE.out.symm.trans (decide_eq_false (fun ho => by rcases ho.2.2.2.2 with ⟨h, _⟩ | ⟨h, _⟩ <;> first | exact k1 h | exact k2 h))
              clear h1 h2 h3 h4 k1 k2
              go_wp2_with (first | (go_at_call 41; refine (cI _).mono ?_; clear cI; rintro e w2 ⟨rfl, hk2⟩; have HK2 := Lib.hid hk2; have d0 := cell_kept hk2 c0 id; have d1 := cell_kept hk2 c1 id; have d2 := cell_kept hk2 c2 id; have d3 := cell_kept hk2 c3 id; have d4 := cell_kept hk2 c4 id; have d5 := cell_kept hk2 c5 id; have d6 := cell_kept hk2 c6 id; have d7 := cell_kept hk2 c7 id; have d8 := cell_kept hk2 c8 id; clear hk2) | (go_at_call 42; first | (refine (cS _).mono ?_; clear cS; rintro e w' ⟨rfl, hw⟩; have hw2 := hw.symm; subst hw2) | (refine (cN _).mono ?_; clear cN; rintro e w' ⟨rfl, hw⟩; have hw2 := hw.symm; subst hw2)) | (go_at_call 23; refine (cV' _ HK2.out).mono ?_; clear cV'; rintro e w' ⟨rfl, hw⟩; have hw2 := hw.symm; subst hw2))
              go_ret
              rw [HE.out]
              exact ⟨rfl, hK0.out.trans HK2.out⟩
        · have cV' : ∀ W, Kept (fun _ => False) w1 W → Calls Tryd.prog 23 #[.slice A n c] W fun e w' => e = .returned (.bool false) ∧ w' = W := fun W hk => by have := cV W hk; rwa [decide_eq_false h4] at this
          clear cV
          have HE : Hid (E = false) := HEE.out.symm.trans (decide_eq_false (fun ho => h4 ho.2.2.2.1))
          clear h1 h2 h3 h4
          go_wp2_with (first | (go_at_call 41; refine (cI _).mono ?_; clear cI; rintro e w2 ⟨rfl, hk2⟩; have HK2 := Lib.hid hk2; have d0 := cell_kept hk2 c0 id; have d1 := cell_kept hk2 c1 id; have d2 := cell_kept hk2 c2 id; have d3 := cell_kept hk2 c3 id; have d4 := cell_kept hk2 c4 id; have d5 := cell_kept hk2 c5 id; have d6 := cell_kept hk2 c6 id; have d7 := cell_kept hk2 c7 id; have d8 := cell_kept hk2 c8 id; clear hk2) | (go_at_call 42; first | (refine (cS _).mono ?_; clear cS; rintro e w' ⟨rfl, hw⟩; have hw2 := hw.symm; subst hw2) | (refine (cN _).mono ?_; clear cN; rintro e w' ⟨rfl, hw⟩; have hw2 := hw.symm; subst hw2)) | (go_at_call 23; refine (cV' _ HK2.out).mono ?_; clear cV'; rintro e w' ⟨rfl, hw⟩; have hw2 := hw.symm; subst hw2))
          go_ret
          rw [HE.out]
          exact ⟨rfl, hK0.out.trans HK2.out⟩
      · rw [decide_eq_false h3] at cN
        have HE : Hid (E = false) := HEE.out.symm.trans (decide_eq_false (fun ho => h3 ho.2.2.1))
        clear h1 h2 h3
        go_wp2_with (first | (go_at_call 41; refine (cI _).mono ?_; clear cI; rintro e w2 ⟨rfl, hk2⟩; have HK2 := Lib.hid hk2; have d0 := cell_kept hk2 c0 id; have d1 := cell_kept hk2 c1 id; have d2 := cell_kept hk2 c2 id; have d3 := cell_kept hk2 c3 id; have d4 := cell_kept hk2 c4 id; have d5 := cell_kept hk2 c5 id; have d6 := cell_kept hk2 c6 id; have d7 := cell_kept hk2 c7 id; have d8 := cell_kept hk2 c8 id; clear hk2) | (go_at_call 42; first | (refine (cS _).mono ?_; clear cS; rintro e w' ⟨rfl, hw⟩; have hw2 := hw.symm; subst hw2) | (refine (cN _).mono ?_; clear cN; rintro e w' ⟨rfl, hw⟩; have hw2 := hw.symm; subst hw2)))
        go_ret
        rw [HE.out]
        exact ⟨rfl, hK0.out.trans HK2.out⟩
    · rw [decide_eq_false h2] at cS
      have HE : Hid (E = false) := HEE.out.symm.trans (decide_eq_false (fun ho => h2 ho.2.1))
      clear h1 h2
      go_wp2_with (first | (go_at_call 41; refine (cI _).mono ?_; clear cI; rintro e w2 ⟨rfl, hk2⟩; have HK2 := Lib.hid hk2; have d0 := cell_kept hk2 c0 id; have d1 := cell_kept hk2 c1 id; have d2 := cell_kept hk2 c2 id; have d3 := cell_kept hk2 c3 id; have d4 := cell_kept hk2 c4 id; have d5 := cell_kept hk2 c5 id; have d6 := cell_kept hk2 c6 id; have d7 := cell_kept hk2 c7 id; have d8 := cell_kept hk2 c8 id; clear hk2) | (go_at_call 42; first | (refine (cS _).mono ?_; clear cS; rintro e w' ⟨rfl, hw⟩; have hw2 := hw.symm; subst hw2) | (refine (cN _).mono ?_; clear cN; rintro e w' ⟨rfl, hw⟩; have hw2 := hw.symm; subst hw2)))
      go_ret
      rw [HE.out]
      exact ⟨rfl, hK0.out.trans HK2.out⟩
  · rw [decide_eq_false h1] at cI
    have HE : Hid (E = false) := HEE.out.symm.trans (decide_eq_false (fun ho => h1 ho.1))
    clear h1
    go_wp2_with (first | (go_at_call 41; refine (cI _).mono ?_; clear cI; rintro e w2 ⟨rfl, hk2⟩; have HK2 := Lib.hid hk2; have d0 := cell_kept hk2 c0 id; have d1 := cell_kept hk2 c1 id; have d2 := cell_kept hk2 c2 id; have d3 := cell_kept hk2 c3 id; have d4 := cell_kept hk2 c4 id; have d5 := cell_kept hk2 c5 id; have d6 := cell_kept hk2 c6 id; have d7 := cell_kept hk2 c7 id; have d8 := cell_kept hk2 c8 id; clear hk2))
    go_ret
    rw [HE.out]
    exact ⟨rfl, hK0.out.trans HK2.out⟩
end Go.Proofs.YtpgicfbaefcbmaaDoor
