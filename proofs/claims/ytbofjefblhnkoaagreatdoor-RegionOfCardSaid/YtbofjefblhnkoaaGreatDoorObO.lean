/-
  PIECES, of the program, by all keys.
-/
import Derived.Test.YtbofjefblhnkoaaGreatDoorObN
set_option linter.unusedVariables false
set_option maxRecDepth 100000
namespace Go.Proofs.YtbofjefblhnkoaaGreatDoor
open Go Go.RowKit Pk

theorem ansR_form (o : Option (Int × Int × Bool)) : ∃ (a b : Int) (l : Bool) (er : Int), ansR o = .tuple #[rngV a b l, .int .i64 er] := by
  cases o with
  | none => exact ⟨_, _, _, _, rfl⟩
  | some p => exact ⟨_, _, _, _, rfl⟩
theorem around_bound {t : List Int} {k : Nat} {kind : Int} {cnt x : Nat} {y : Int} (h : Rw.around t k kind cnt = some (x, y)) : x < t.length ∧ 0 ≤ y ∧ y < t.length := by
  obtain ⟨h1, _, h3, h4⟩ := Rw.arn_some _ _ _ _ (by omega) h
  refine ⟨by omega, by omega, ?_⟩
  rw [h4]
  unfold Rw.mt
  cases hm : Rw.mate t x with
  | none => simp only; omega
  | some m => have := Rw.mate_mate hm; simp only; omega
/-- What brackets tell. -/
def brR (wide : Int) (o : Option (Nat × Int)) : Value := ansR (o.map fun p => ((Rw.ins wide p.1 p.2).1, (Rw.ins wide p.1 p.2).2, false))
theorem pce_br {t : List Int} {k cnt : Nat} {wide key kind : Int} (h : Rw.brk key = some kind) : ansR (Rw.pce t k wide key cnt) = brR wide (Rw.around t k kind cnt) := by unfold Rw.pce; rw [h]; rfl
theorem pce_many {t : List Int} {k cnt : Nat} {wide key : Int} (h : Rw.brk key = none) (hc : 1 < cnt) : Rw.pce t k wide key cnt = none := by unfold Rw.pce; rw [h]; simp only; rw [if_pos hc]
theorem pce_q {t : List Int} {k : Nat} {wide : Int} : ansR (Rw.pce t k wide 34 1) = qR wide (Rw.qtd t k) := by unfold Rw.pce; rw [show Rw.brk 34 = none by decide]; rfl
theorem pce_p {t : List Int} {k : Nat} {wide : Int} : ansR (Rw.pce t k wide 112 1) = pR (Rw.par t wide k) := by unfold Rw.pce; rw [show Rw.brk 112 = none by decide]; rfl
theorem pce_w {t : List Int} {k : Nat} {wide : Int} : ansR (Rw.pce t k wide 119 1) = wR (Rw.wrd t false wide k) := by unfold Rw.pce; rw [show Rw.brk 119 = none by decide]; rfl
theorem pce_W {t : List Int} {k : Nat} {wide : Int} : ansR (Rw.pce t k wide 87 1) = wR (Rw.wrd t true wide k) := by unfold Rw.pce; rw [show Rw.brk 87 = none by decide]; rfl
set_option maxRecDepth 100000 in
set_option maxHeartbeats 1000000 in
theorem pbetween_yes (s : ByteArray) (k cnt : Nat) (wide kind : Int) (w : World) (hT : Tabs w) (hm : mayB s = true) (hk : k ≤ (rs s).length) (hkind : kind = 40 ∨ kind = 91 ∨ kind = 123) (hc1 : 1 ≤ cnt) (hc2 : cnt ≤ 999) :
    Calls Tryz.prog 44 #[.string s, .int .i64 k, .int .i64 wide, .int .i64 kind, .int .i64 cnt] w fun e w' => e = .returned (brR wide (Rw.around (rs s) k kind cnt)) ∧ Kept (fun _ => False) w w' := by
  have hka : Kept (fun _ => False) w (w.alloc (rngO 0 0 false)) := (Kept.refl _ w).alloc _
  have HKA := Lib.hid hka
  have HG : Hid ((w.alloc (rngO 0 0 false)).heap[w.heap.size]? = some (rngO 0 0 false)) := heap_alloc_new w _
  have cA := paround_yes s k cnt kind _ (hT.kept hka id id) hm hk hkind hc1 hc2
  have hsz := mayB_size hm
  have hl := rs_len s
  obtain ⟨R, hR⟩ : ∃ R, Rw.around (rs s) k kind cnt = R := ⟨_, rfl⟩
  rw [hR] at cA ⊢
  clear hT hm hka
  cases R with
  | none =>
    unfold ansA at cA
    simp only at cA
    clear hR
    go_enter Tryz.func44, Tryz.ntmps44
    go_wp2_with (go_at_call 78; refine cA.mono ?_; rintro e w2 ⟨hk2, rfl⟩; have h8 : w2.heap[w.heap.size]? = some (rngO 0 0 false) := (hk2.block _ (heap_lt HG.out) id).trans HG.out; have H8 := Lib.hid h8; have HK2 := Lib.hid (HKA.out.trans hk2); obtain ⟨f0, f1, f2⟩ := rng_facts h8; obtain ⟨y0, y1, y2⟩ := rng_free h8; clear h8 hk2 cA)
    refine bodyPost_ret (res_rng2 rfl _ _ _ _ _ _ (0, 0) rfl (rng_three H8.out _ _ _)) rfl ⟨rfl, ?_⟩
    exact HK2.out.fresh (Kept.three (Kept.refl (fun q => q = w.heap.size) _) rfl _ _ _) (fun q hq (e : q = w.heap.size) => by omega)
  | some p =>
    obtain ⟨x, y⟩ := p
    obtain ⟨q1, q2, q3⟩ := around_bound hR
    have cI := fun W => inside_any (x : Int) y wide W (by omega) (by omega)
    unfold ansA at cA
    simp only at cA
    clear hR
    go_enter Tryz.func44, Tryz.ntmps44
    go_upto_region 4 with (go_at_call 78; refine cA.mono ?_; rintro e w2 ⟨hk2, rfl⟩; have h8 : w2.heap[w.heap.size]? = some (rngO 0 0 false) := (hk2.block _ (heap_lt HG.out) id).trans HG.out; have H7 := Lib.hid h8; have HK2 := Lib.hid (HKA.out.trans hk2); clear h8 hk2 cA)
    go_wp2_with (go_at_call 79; refine (cI w2).mono ?_; rintro e w3 ⟨rfl, hk3⟩; have h8 : w3.heap[w.heap.size]? = some (rngO 0 0 false) := (hk3.block _ (heap_lt H7.out) id).trans H7.out; have H8 := Lib.hid h8; have HK3 := Lib.hid (HK2.out.trans hk3); obtain ⟨f0, f1, f2⟩ := rng_facts h8; obtain ⟨y0, y1, y2⟩ := rng_free h8; clear h8 hk3 cI)
    refine bodyPost_ret (res_rng2 rfl _ _ _ _ _ _ (0, 0) rfl (rng_three H8.out _ _ _)) rfl ⟨rfl, ?_⟩
    exact HK3.out.fresh (Kept.three (Kept.refl (fun q => q = w.heap.size) _) rfl _ _ _) (fun q hq (e : q = w.heap.size) => by omega)
set_option maxRecDepth 100000 in
set_option maxHeartbeats 4000000 in
theorem ppiece_yes (s : ByteArray) (k cnt : Nat) (wide key : Int) (w : World) (hT : Tabs w) (hm : mayB s = true) (hk : k ≤ (rs s).length) (hw : wide = 105 ∨ wide = 97) (hO : Rw.Obj key) (hc1 : 1 ≤ cnt) (hc2 : cnt ≤ 999) :
    Calls Tryz.prog 22 #[.string s, .int .i64 k, .int .i64 wide, .int .i64 key, .int .i64 cnt] w fun e w' => e = .returned (ansR (Rw.pce (rs s) k wide key cnt)) ∧ Kept (fun _ => False) w w' := by
  have hka : Kept (fun _ => False) w (w.alloc (rngO 0 0 false)) := (Kept.refl _ w).alloc _
  have HKA := Lib.hid hka
  have HG : Hid ((w.alloc (rngO 0 0 false)).heap[w.heap.size]? = some (rngO 0 0 false)) := heap_alloc_new w _
  have cU := runes_yes s k _ (hT.kept hka id id) hm hk
  have HTW := Lib.hid (hT.kept hka id id)
  have HMM := Lib.hid hm
  have hsz := mayB_size hm
  have hl := rs_len s
  have cB := fun kind (hkind : kind = 40 ∨ kind = 91 ∨ kind = 123) W (hK : Kept (fun _ => False) (w.alloc (rngO 0 0 false)) W) => pbetween_yes s k cnt wide kind W ((hT.kept hka id id).kept hK id id) hm hk hkind hc1 hc2
  have cW := fun bb cap big W (hK : Kept (fun _ => False) (w.alloc (rngO 0 0 false)) W) (hR : Rn W (some ⟨bb, 0, none⟩) (rs s).length (rs s)) => pword_any s (some ⟨bb, 0, none⟩) (rs s).length cap k wide big (rs s) W ((hT.kept hka id id).kept hK id id) hm rfl hR (by omega) hk hw
  have hq1 : ((wide != 105) = false) ∨ ((wide != 105) = true ∧ (wide != 97) = false) := by
    rcases hw with rfl | rfl
    · exact .inl rfl
    · exact .inr ⟨rfl, rfl⟩
  have d1 : decide ((cnt : Int) < 1) = false := decide_eq_false (by omega)
  have d1' : decide (cnt < 1) = false := decide_eq_false (by omega)
  have d2 : decide ((999 : Int) < (cnt : Int)) = false := decide_eq_false (by omega)
  have d2' : decide (999 < cnt) = false := decide_eq_false (by omega)
  generalize rs s = t at *
  have HWD := Lib.hid hw
  clear hT hm hka hw
  rcases hO with rfl | rfl | rfl | rfl | rfl | rfl | rfl | rfl | rfl | rfl | rfl | rfl
  · by_cases hcc : 1 < cnt
    · rw [pce_many (show Rw.brk 119 = none by decide) hcc]
      have d3 : decide (1 < cnt) = true := decide_eq_true hcc
      have d4 : decide ((1 : Int) < (cnt : Int)) = true := decide_eq_true (by omega)
      clear cW cB
      rcases hq1 with q1 | ⟨q1, q2⟩
      all_goals
        go_enter Tryz.func22, Tryz.ntmps22
        go_wp2_with (go_at_call 34; refine cU.mono ?_; rintro e w2 ⟨hk2, bb, cap, rfl, hbg, hR⟩; have HR2 := Lib.hid hR; have h8 : w2.heap[w.heap.size]? = some (rngO 0 0 false) := (hk2.block _ (heap_lt HG.out) id).trans HG.out; have H7 := Lib.hid h8; have HK1 := Lib.hid hk2; have HK2 := Lib.hid (HKA.out.trans hk2); obtain ⟨f0, f1, f2⟩ := rng_facts h8; obtain ⟨y0, y1, y2⟩ := rng_free h8; clear h8 hk2 hR cU)
        refine bodyPost_ret (res_rng2 rfl _ _ _ _ _ _ (0, 0) rfl (rng_three H7.out _ _ _)) rfl ⟨rfl, ?_⟩
        exact HK2.out.fresh (Kept.three (Kept.refl (fun q => q = w.heap.size) _) rfl _ _ _) (fun q hq (e : q = w.heap.size) => by omega)
    · obtain rfl : cnt = 1 := by omega
      obtain ⟨a, b, l, er, hform⟩ := ansR_form (Rw.pce t k wide 119 1)
      have hf := (pce_w (t := t) (k := k) (wide := wide)).symm.trans hform
      rw [hform]
      clear cB hform hcc d1 d1' d2 d2'
      rcases hq1 with q1 | ⟨q1, q2⟩
      all_goals
        go_enter Tryz.func22, Tryz.ntmps22
        go_wp2_with (first | (go_at_call 34; refine cU.mono ?_; rintro e w2 ⟨hk2, bb, cap, rfl, hbg, hR⟩; have HR2 := Lib.hid hR; have h8 : w2.heap[w.heap.size]? = some (rngO 0 0 false) := (hk2.block _ (heap_lt HG.out) id).trans HG.out; have H7 := Lib.hid h8; have HK1 := Lib.hid hk2; have HK2 := Lib.hid (HKA.out.trans hk2); obtain ⟨f0, f1, f2⟩ := rng_facts h8; obtain ⟨y0, y1, y2⟩ := rng_free h8; clear h8 hk2 hR cU) | (go_at_call 45; refine (cW bb cap false w2 HK1.out HR2.out).mono ?_; rintro e w3 ⟨he, hk3⟩; rw [hf] at he; subst he; have h8 : w3.heap[w.heap.size]? = some (rngO 0 0 false) := (hk3.block _ (heap_lt H7.out) id).trans H7.out; have H8 := Lib.hid h8; have HK3 := Lib.hid (HK2.out.trans hk3); obtain ⟨x0, x1, x2⟩ := rng_facts h8; obtain ⟨z0, z1, z2⟩ := rng_free h8; clear h8 hk3))
        refine bodyPost_ret (res_rng2 rfl _ _ _ _ _ _ (0, 0) rfl (rng_three H8.out _ _ _)) rfl ⟨rfl, ?_⟩
        exact HK3.out.fresh (Kept.three (Kept.refl (fun q => q = w.heap.size) _) rfl _ _ _) (fun q hq (e : q = w.heap.size) => by omega)
  · by_cases hcc : 1 < cnt
    · rw [pce_many (show Rw.brk 87 = none by decide) hcc]
      have d3 : decide (1 < cnt) = true := decide_eq_true hcc
      have d4 : decide ((1 : Int) < (cnt : Int)) = true := decide_eq_true (by omega)
      clear cW cB
      rcases hq1 with q1 | ⟨q1, q2⟩
      all_goals
        go_enter Tryz.func22, Tryz.ntmps22
        go_wp2_with (go_at_call 34; refine cU.mono ?_; rintro e w2 ⟨hk2, bb, cap, rfl, hbg, hR⟩; have HR2 := Lib.hid hR; have h8 : w2.heap[w.heap.size]? = some (rngO 0 0 false) := (hk2.block _ (heap_lt HG.out) id).trans HG.out; have H7 := Lib.hid h8; have HK1 := Lib.hid hk2; have HK2 := Lib.hid (HKA.out.trans hk2); obtain ⟨f0, f1, f2⟩ := rng_facts h8; obtain ⟨y0, y1, y2⟩ := rng_free h8; clear h8 hk2 hR cU)
        refine bodyPost_ret (res_rng2 rfl _ _ _ _ _ _ (0, 0) rfl (rng_three H7.out _ _ _)) rfl ⟨rfl, ?_⟩
        exact HK2.out.fresh (Kept.three (Kept.refl (fun q => q = w.heap.size) _) rfl _ _ _) (fun q hq (e : q = w.heap.size) => by omega)
    · obtain rfl : cnt = 1 := by omega
      obtain ⟨a, b, l, er, hform⟩ := ansR_form (Rw.pce t k wide 87 1)
      have hf := (pce_W (t := t) (k := k) (wide := wide)).symm.trans hform
      rw [hform]
      clear cB hform hcc d1 d1' d2 d2'
      rcases hq1 with q1 | ⟨q1, q2⟩
      all_goals
        go_enter Tryz.func22, Tryz.ntmps22
        go_wp2_with (first | (go_at_call 34; refine cU.mono ?_; rintro e w2 ⟨hk2, bb, cap, rfl, hbg, hR⟩; have HR2 := Lib.hid hR; have h8 : w2.heap[w.heap.size]? = some (rngO 0 0 false) := (hk2.block _ (heap_lt HG.out) id).trans HG.out; have H7 := Lib.hid h8; have HK1 := Lib.hid hk2; have HK2 := Lib.hid (HKA.out.trans hk2); obtain ⟨f0, f1, f2⟩ := rng_facts h8; obtain ⟨y0, y1, y2⟩ := rng_free h8; clear h8 hk2 hR cU) | (go_at_call 45; refine (cW bb cap true w2 HK1.out HR2.out).mono ?_; rintro e w3 ⟨he, hk3⟩; rw [hf] at he; subst he; have h8 : w3.heap[w.heap.size]? = some (rngO 0 0 false) := (hk3.block _ (heap_lt H7.out) id).trans H7.out; have H8 := Lib.hid h8; have HK3 := Lib.hid (HK2.out.trans hk3); obtain ⟨x0, x1, x2⟩ := rng_facts h8; obtain ⟨z0, z1, z2⟩ := rng_free h8; clear h8 hk3))
        refine bodyPost_ret (res_rng2 rfl _ _ _ _ _ _ (0, 0) rfl (rng_three H8.out _ _ _)) rfl ⟨rfl, ?_⟩
        exact HK3.out.fresh (Kept.three (Kept.refl (fun q => q = w.heap.size) _) rfl _ _ _) (fun q hq (e : q = w.heap.size) => by omega)
  · by_cases hcc : 1 < cnt
    · rw [pce_many (show Rw.brk 34 = none by decide) hcc]
      have d3 : decide (1 < cnt) = true := decide_eq_true hcc
      have d4 : decide ((1 : Int) < (cnt : Int)) = true := decide_eq_true (by omega)
      clear cW cB
      rcases hq1 with q1 | ⟨q1, q2⟩
      all_goals
        go_enter Tryz.func22, Tryz.ntmps22
        go_wp2_with (go_at_call 34; refine cU.mono ?_; rintro e w2 ⟨hk2, bb, cap, rfl, hbg, hR⟩; have HR2 := Lib.hid hR; have h8 : w2.heap[w.heap.size]? = some (rngO 0 0 false) := (hk2.block _ (heap_lt HG.out) id).trans HG.out; have H7 := Lib.hid h8; have HK1 := Lib.hid hk2; have HK2 := Lib.hid (HKA.out.trans hk2); obtain ⟨f0, f1, f2⟩ := rng_facts h8; obtain ⟨y0, y1, y2⟩ := rng_free h8; clear h8 hk2 hR cU)
        refine bodyPost_ret (res_rng2 rfl _ _ _ _ _ _ (0, 0) rfl (rng_three H7.out _ _ _)) rfl ⟨rfl, ?_⟩
        exact HK2.out.fresh (Kept.three (Kept.refl (fun q => q = w.heap.size) _) rfl _ _ _) (fun q hq (e : q = w.heap.size) => by omega)
    · obtain rfl : cnt = 1 := by omega
      obtain ⟨a, b, l, er, hform⟩ := ansR_form (Rw.pce t k wide 34 1)
      have hf := (pce_q (t := t) (k := k) (wide := wide)).symm.trans hform
      rw [hform]
      clear cB hform hcc d1 d1' d2 d2'
      rcases hq1 with q1 | ⟨q1, q2⟩
      all_goals
        go_enter Tryz.func22, Tryz.ntmps22
        go_wp2_with (first | (go_at_call 34; refine cU.mono ?_; rintro e w2 ⟨hk2, bb, cap, rfl, hbg, hR⟩; have HR2 := Lib.hid hR; have h8 : w2.heap[w.heap.size]? = some (rngO 0 0 false) := (hk2.block _ (heap_lt HG.out) id).trans HG.out; have H7 := Lib.hid h8; have HK1 := Lib.hid hk2; have HK2 := Lib.hid (HKA.out.trans hk2); obtain ⟨f0, f1, f2⟩ := rng_facts h8; obtain ⟨y0, y1, y2⟩ := rng_free h8; clear h8 hk2 hR cU) | (go_at_call 46; refine (pquoted_any _ _ cap k wide t w2 HR2.out (by omega) hk).mono ?_; rintro e w3 ⟨he, hk3⟩; rw [hf] at he; subst he; have h8 : w3.heap[w.heap.size]? = some (rngO 0 0 false) := (hk3.block _ (heap_lt H7.out) id).trans H7.out; have H8 := Lib.hid h8; have HK3 := Lib.hid (HK2.out.trans hk3); obtain ⟨x0, x1, x2⟩ := rng_facts h8; obtain ⟨z0, z1, z2⟩ := rng_free h8; clear h8 hk3))
        refine bodyPost_ret (res_rng2 rfl _ _ _ _ _ _ (0, 0) rfl (rng_three H8.out _ _ _)) rfl ⟨rfl, ?_⟩
        exact HK3.out.fresh (Kept.three (Kept.refl (fun q => q = w.heap.size) _) rfl _ _ _) (fun q hq (e : q = w.heap.size) => by omega)
  · obtain ⟨a, b, l, er, hform⟩ := ansR_form (Rw.pce t k wide 40 cnt)
    have hf := (pce_br (t := t) (k := k) (cnt := cnt) (wide := wide) (show Rw.brk 40 = some 40 by decide)).symm.trans hform
    rw [hform]
    clear cW hform
    rcases hq1 with q1 | ⟨q1, q2⟩
    all_goals
      go_enter Tryz.func22, Tryz.ntmps22
      go_wp2_with (first | (go_at_call 34; refine cU.mono ?_; rintro e w2 ⟨hk2, bb, cap, rfl, hbg, hR⟩; have HR2 := Lib.hid hR; have h8 : w2.heap[w.heap.size]? = some (rngO 0 0 false) := (hk2.block _ (heap_lt HG.out) id).trans HG.out; have H7 := Lib.hid h8; have HK1 := Lib.hid hk2; have HK2 := Lib.hid (HKA.out.trans hk2); obtain ⟨f0, f1, f2⟩ := rng_facts h8; obtain ⟨y0, y1, y2⟩ := rng_free h8; clear h8 hk2 hR cU) | (go_at_call 44; refine (cB 40 (by simp) w2 HK1.out).mono ?_; rintro e w3 ⟨he, hk3⟩; rw [hf] at he; subst he; have h8 : w3.heap[w.heap.size]? = some (rngO 0 0 false) := (hk3.block _ (heap_lt H7.out) id).trans H7.out; have H8 := Lib.hid h8; have HK3 := Lib.hid (HK2.out.trans hk3); obtain ⟨x0, x1, x2⟩ := rng_facts h8; obtain ⟨z0, z1, z2⟩ := rng_free h8; clear h8 hk3))
      refine bodyPost_ret (res_rng2 rfl _ _ _ _ _ _ (0, 0) rfl (rng_three H8.out _ _ _)) rfl ⟨rfl, ?_⟩
      exact HK3.out.fresh (Kept.three (Kept.refl (fun q => q = w.heap.size) _) rfl _ _ _) (fun q hq (e : q = w.heap.size) => by omega)
  · obtain ⟨a, b, l, er, hform⟩ := ansR_form (Rw.pce t k wide 41 cnt)
    have hf := (pce_br (t := t) (k := k) (cnt := cnt) (wide := wide) (show Rw.brk 41 = some 40 by decide)).symm.trans hform
    rw [hform]
    clear cW hform
    rcases hq1 with q1 | ⟨q1, q2⟩
    all_goals
      go_enter Tryz.func22, Tryz.ntmps22
      go_wp2_with (first | (go_at_call 34; refine cU.mono ?_; rintro e w2 ⟨hk2, bb, cap, rfl, hbg, hR⟩; have HR2 := Lib.hid hR; have h8 : w2.heap[w.heap.size]? = some (rngO 0 0 false) := (hk2.block _ (heap_lt HG.out) id).trans HG.out; have H7 := Lib.hid h8; have HK1 := Lib.hid hk2; have HK2 := Lib.hid (HKA.out.trans hk2); obtain ⟨f0, f1, f2⟩ := rng_facts h8; obtain ⟨y0, y1, y2⟩ := rng_free h8; clear h8 hk2 hR cU) | (go_at_call 44; refine (cB 40 (by simp) w2 HK1.out).mono ?_; rintro e w3 ⟨he, hk3⟩; rw [hf] at he; subst he; have h8 : w3.heap[w.heap.size]? = some (rngO 0 0 false) := (hk3.block _ (heap_lt H7.out) id).trans H7.out; have H8 := Lib.hid h8; have HK3 := Lib.hid (HK2.out.trans hk3); obtain ⟨x0, x1, x2⟩ := rng_facts h8; obtain ⟨z0, z1, z2⟩ := rng_free h8; clear h8 hk3))
      refine bodyPost_ret (res_rng2 rfl _ _ _ _ _ _ (0, 0) rfl (rng_three H8.out _ _ _)) rfl ⟨rfl, ?_⟩
      exact HK3.out.fresh (Kept.three (Kept.refl (fun q => q = w.heap.size) _) rfl _ _ _) (fun q hq (e : q = w.heap.size) => by omega)
  · obtain ⟨a, b, l, er, hform⟩ := ansR_form (Rw.pce t k wide 98 cnt)
    have hf := (pce_br (t := t) (k := k) (cnt := cnt) (wide := wide) (show Rw.brk 98 = some 40 by decide)).symm.trans hform
    rw [hform]
    clear cW hform
    rcases hq1 with q1 | ⟨q1, q2⟩
    all_goals
      go_enter Tryz.func22, Tryz.ntmps22
      go_wp2_with (first | (go_at_call 34; refine cU.mono ?_; rintro e w2 ⟨hk2, bb, cap, rfl, hbg, hR⟩; have HR2 := Lib.hid hR; have h8 : w2.heap[w.heap.size]? = some (rngO 0 0 false) := (hk2.block _ (heap_lt HG.out) id).trans HG.out; have H7 := Lib.hid h8; have HK1 := Lib.hid hk2; have HK2 := Lib.hid (HKA.out.trans hk2); obtain ⟨f0, f1, f2⟩ := rng_facts h8; obtain ⟨y0, y1, y2⟩ := rng_free h8; clear h8 hk2 hR cU) | (go_at_call 44; refine (cB 40 (by simp) w2 HK1.out).mono ?_; rintro e w3 ⟨he, hk3⟩; rw [hf] at he; subst he; have h8 : w3.heap[w.heap.size]? = some (rngO 0 0 false) := (hk3.block _ (heap_lt H7.out) id).trans H7.out; have H8 := Lib.hid h8; have HK3 := Lib.hid (HK2.out.trans hk3); obtain ⟨x0, x1, x2⟩ := rng_facts h8; obtain ⟨z0, z1, z2⟩ := rng_free h8; clear h8 hk3))
      refine bodyPost_ret (res_rng2 rfl _ _ _ _ _ _ (0, 0) rfl (rng_three H8.out _ _ _)) rfl ⟨rfl, ?_⟩
      exact HK3.out.fresh (Kept.three (Kept.refl (fun q => q = w.heap.size) _) rfl _ _ _) (fun q hq (e : q = w.heap.size) => by omega)
  · obtain ⟨a, b, l, er, hform⟩ := ansR_form (Rw.pce t k wide 91 cnt)
    have hf := (pce_br (t := t) (k := k) (cnt := cnt) (wide := wide) (show Rw.brk 91 = some 91 by decide)).symm.trans hform
    rw [hform]
    clear cW hform
    rcases hq1 with q1 | ⟨q1, q2⟩
    all_goals
      go_enter Tryz.func22, Tryz.ntmps22
      go_wp2_with (first | (go_at_call 34; refine cU.mono ?_; rintro e w2 ⟨hk2, bb, cap, rfl, hbg, hR⟩; have HR2 := Lib.hid hR; have h8 : w2.heap[w.heap.size]? = some (rngO 0 0 false) := (hk2.block _ (heap_lt HG.out) id).trans HG.out; have H7 := Lib.hid h8; have HK1 := Lib.hid hk2; have HK2 := Lib.hid (HKA.out.trans hk2); obtain ⟨f0, f1, f2⟩ := rng_facts h8; obtain ⟨y0, y1, y2⟩ := rng_free h8; clear h8 hk2 hR cU) | (go_at_call 44; refine (cB 91 (by simp) w2 HK1.out).mono ?_; rintro e w3 ⟨he, hk3⟩; rw [hf] at he; subst he; have h8 : w3.heap[w.heap.size]? = some (rngO 0 0 false) := (hk3.block _ (heap_lt H7.out) id).trans H7.out; have H8 := Lib.hid h8; have HK3 := Lib.hid (HK2.out.trans hk3); obtain ⟨x0, x1, x2⟩ := rng_facts h8; obtain ⟨z0, z1, z2⟩ := rng_free h8; clear h8 hk3))
      refine bodyPost_ret (res_rng2 rfl _ _ _ _ _ _ (0, 0) rfl (rng_three H8.out _ _ _)) rfl ⟨rfl, ?_⟩
      exact HK3.out.fresh (Kept.three (Kept.refl (fun q => q = w.heap.size) _) rfl _ _ _) (fun q hq (e : q = w.heap.size) => by omega)
  · obtain ⟨a, b, l, er, hform⟩ := ansR_form (Rw.pce t k wide 93 cnt)
    have hf := (pce_br (t := t) (k := k) (cnt := cnt) (wide := wide) (show Rw.brk 93 = some 91 by decide)).symm.trans hform
    rw [hform]
    clear cW hform
    rcases hq1 with q1 | ⟨q1, q2⟩
    all_goals
      go_enter Tryz.func22, Tryz.ntmps22
      go_wp2_with (first | (go_at_call 34; refine cU.mono ?_; rintro e w2 ⟨hk2, bb, cap, rfl, hbg, hR⟩; have HR2 := Lib.hid hR; have h8 : w2.heap[w.heap.size]? = some (rngO 0 0 false) := (hk2.block _ (heap_lt HG.out) id).trans HG.out; have H7 := Lib.hid h8; have HK1 := Lib.hid hk2; have HK2 := Lib.hid (HKA.out.trans hk2); obtain ⟨f0, f1, f2⟩ := rng_facts h8; obtain ⟨y0, y1, y2⟩ := rng_free h8; clear h8 hk2 hR cU) | (go_at_call 44; refine (cB 91 (by simp) w2 HK1.out).mono ?_; rintro e w3 ⟨he, hk3⟩; rw [hf] at he; subst he; have h8 : w3.heap[w.heap.size]? = some (rngO 0 0 false) := (hk3.block _ (heap_lt H7.out) id).trans H7.out; have H8 := Lib.hid h8; have HK3 := Lib.hid (HK2.out.trans hk3); obtain ⟨x0, x1, x2⟩ := rng_facts h8; obtain ⟨z0, z1, z2⟩ := rng_free h8; clear h8 hk3))
      refine bodyPost_ret (res_rng2 rfl _ _ _ _ _ _ (0, 0) rfl (rng_three H8.out _ _ _)) rfl ⟨rfl, ?_⟩
      exact HK3.out.fresh (Kept.three (Kept.refl (fun q => q = w.heap.size) _) rfl _ _ _) (fun q hq (e : q = w.heap.size) => by omega)
  · obtain ⟨a, b, l, er, hform⟩ := ansR_form (Rw.pce t k wide 123 cnt)
    have hf := (pce_br (t := t) (k := k) (cnt := cnt) (wide := wide) (show Rw.brk 123 = some 123 by decide)).symm.trans hform
    rw [hform]
    clear cW hform
    rcases hq1 with q1 | ⟨q1, q2⟩
    all_goals
      go_enter Tryz.func22, Tryz.ntmps22
      go_wp2_with (first | (go_at_call 34; refine cU.mono ?_; rintro e w2 ⟨hk2, bb, cap, rfl, hbg, hR⟩; have HR2 := Lib.hid hR; have h8 : w2.heap[w.heap.size]? = some (rngO 0 0 false) := (hk2.block _ (heap_lt HG.out) id).trans HG.out; have H7 := Lib.hid h8; have HK1 := Lib.hid hk2; have HK2 := Lib.hid (HKA.out.trans hk2); obtain ⟨f0, f1, f2⟩ := rng_facts h8; obtain ⟨y0, y1, y2⟩ := rng_free h8; clear h8 hk2 hR cU) | (go_at_call 44; refine (cB 123 (by simp) w2 HK1.out).mono ?_; rintro e w3 ⟨he, hk3⟩; rw [hf] at he; subst he; have h8 : w3.heap[w.heap.size]? = some (rngO 0 0 false) := (hk3.block _ (heap_lt H7.out) id).trans H7.out; have H8 := Lib.hid h8; have HK3 := Lib.hid (HK2.out.trans hk3); obtain ⟨x0, x1, x2⟩ := rng_facts h8; obtain ⟨z0, z1, z2⟩ := rng_free h8; clear h8 hk3))
      refine bodyPost_ret (res_rng2 rfl _ _ _ _ _ _ (0, 0) rfl (rng_three H8.out _ _ _)) rfl ⟨rfl, ?_⟩
      exact HK3.out.fresh (Kept.three (Kept.refl (fun q => q = w.heap.size) _) rfl _ _ _) (fun q hq (e : q = w.heap.size) => by omega)
  · obtain ⟨a, b, l, er, hform⟩ := ansR_form (Rw.pce t k wide 125 cnt)
    have hf := (pce_br (t := t) (k := k) (cnt := cnt) (wide := wide) (show Rw.brk 125 = some 123 by decide)).symm.trans hform
    rw [hform]
    clear cW hform
    rcases hq1 with q1 | ⟨q1, q2⟩
    all_goals
      go_enter Tryz.func22, Tryz.ntmps22
      go_wp2_with (first | (go_at_call 34; refine cU.mono ?_; rintro e w2 ⟨hk2, bb, cap, rfl, hbg, hR⟩; have HR2 := Lib.hid hR; have h8 : w2.heap[w.heap.size]? = some (rngO 0 0 false) := (hk2.block _ (heap_lt HG.out) id).trans HG.out; have H7 := Lib.hid h8; have HK1 := Lib.hid hk2; have HK2 := Lib.hid (HKA.out.trans hk2); obtain ⟨f0, f1, f2⟩ := rng_facts h8; obtain ⟨y0, y1, y2⟩ := rng_free h8; clear h8 hk2 hR cU) | (go_at_call 44; refine (cB 123 (by simp) w2 HK1.out).mono ?_; rintro e w3 ⟨he, hk3⟩; rw [hf] at he; subst he; have h8 : w3.heap[w.heap.size]? = some (rngO 0 0 false) := (hk3.block _ (heap_lt H7.out) id).trans H7.out; have H8 := Lib.hid h8; have HK3 := Lib.hid (HK2.out.trans hk3); obtain ⟨x0, x1, x2⟩ := rng_facts h8; obtain ⟨z0, z1, z2⟩ := rng_free h8; clear h8 hk3))
      refine bodyPost_ret (res_rng2 rfl _ _ _ _ _ _ (0, 0) rfl (rng_three H8.out _ _ _)) rfl ⟨rfl, ?_⟩
      exact HK3.out.fresh (Kept.three (Kept.refl (fun q => q = w.heap.size) _) rfl _ _ _) (fun q hq (e : q = w.heap.size) => by omega)
  · obtain ⟨a, b, l, er, hform⟩ := ansR_form (Rw.pce t k wide 66 cnt)
    have hf := (pce_br (t := t) (k := k) (cnt := cnt) (wide := wide) (show Rw.brk 66 = some 123 by decide)).symm.trans hform
    rw [hform]
    clear cW hform
    rcases hq1 with q1 | ⟨q1, q2⟩
    all_goals
      go_enter Tryz.func22, Tryz.ntmps22
      go_wp2_with (first | (go_at_call 34; refine cU.mono ?_; rintro e w2 ⟨hk2, bb, cap, rfl, hbg, hR⟩; have HR2 := Lib.hid hR; have h8 : w2.heap[w.heap.size]? = some (rngO 0 0 false) := (hk2.block _ (heap_lt HG.out) id).trans HG.out; have H7 := Lib.hid h8; have HK1 := Lib.hid hk2; have HK2 := Lib.hid (HKA.out.trans hk2); obtain ⟨f0, f1, f2⟩ := rng_facts h8; obtain ⟨y0, y1, y2⟩ := rng_free h8; clear h8 hk2 hR cU) | (go_at_call 44; refine (cB 123 (by simp) w2 HK1.out).mono ?_; rintro e w3 ⟨he, hk3⟩; rw [hf] at he; subst he; have h8 : w3.heap[w.heap.size]? = some (rngO 0 0 false) := (hk3.block _ (heap_lt H7.out) id).trans H7.out; have H8 := Lib.hid h8; have HK3 := Lib.hid (HK2.out.trans hk3); obtain ⟨x0, x1, x2⟩ := rng_facts h8; obtain ⟨z0, z1, z2⟩ := rng_free h8; clear h8 hk3))
      refine bodyPost_ret (res_rng2 rfl _ _ _ _ _ _ (0, 0) rfl (rng_three H8.out _ _ _)) rfl ⟨rfl, ?_⟩
      exact HK3.out.fresh (Kept.three (Kept.refl (fun q => q = w.heap.size) _) rfl _ _ _) (fun q hq (e : q = w.heap.size) => by omega)
  · by_cases hcc : 1 < cnt
    · rw [pce_many (show Rw.brk 112 = none by decide) hcc]
      have d3 : decide (1 < cnt) = true := decide_eq_true hcc
      have d4 : decide ((1 : Int) < (cnt : Int)) = true := decide_eq_true (by omega)
      clear cW cB
      rcases hq1 with q1 | ⟨q1, q2⟩
      all_goals
        go_enter Tryz.func22, Tryz.ntmps22
        go_wp2_with (go_at_call 34; refine cU.mono ?_; rintro e w2 ⟨hk2, bb, cap, rfl, hbg, hR⟩; have HR2 := Lib.hid hR; have h8 : w2.heap[w.heap.size]? = some (rngO 0 0 false) := (hk2.block _ (heap_lt HG.out) id).trans HG.out; have H7 := Lib.hid h8; have HK1 := Lib.hid hk2; have HK2 := Lib.hid (HKA.out.trans hk2); obtain ⟨f0, f1, f2⟩ := rng_facts h8; obtain ⟨y0, y1, y2⟩ := rng_free h8; clear h8 hk2 hR cU)
        refine bodyPost_ret (res_rng2 rfl _ _ _ _ _ _ (0, 0) rfl (rng_three H7.out _ _ _)) rfl ⟨rfl, ?_⟩
        exact HK2.out.fresh (Kept.three (Kept.refl (fun q => q = w.heap.size) _) rfl _ _ _) (fun q hq (e : q = w.heap.size) => by omega)
    · obtain rfl : cnt = 1 := by omega
      obtain ⟨a, b, l, er, hform⟩ := ansR_form (Rw.pce t k wide 112 1)
      have hf := (pce_p (t := t) (k := k) (wide := wide)).symm.trans hform
      rw [hform]
      clear cB hform hcc d1 d1' d2 d2'
      rcases hq1 with q1 | ⟨q1, q2⟩
      all_goals
        go_enter Tryz.func22, Tryz.ntmps22
        go_wp2_with (first | (go_at_call 34; refine cU.mono ?_; rintro e w2 ⟨hk2, bb, cap, rfl, hbg, hR⟩; have HR2 := Lib.hid hR; have h8 : w2.heap[w.heap.size]? = some (rngO 0 0 false) := (hk2.block _ (heap_lt HG.out) id).trans HG.out; have H7 := Lib.hid h8; have HK1 := Lib.hid hk2; have HK2 := Lib.hid (HKA.out.trans hk2); obtain ⟨f0, f1, f2⟩ := rng_facts h8; obtain ⟨y0, y1, y2⟩ := rng_free h8; clear h8 hk2 hR cU) | (go_at_call 47; refine (ppar_any _ _ cap k wide t w2 HR2.out (by omega) hk HWD.out).mono ?_; rintro e w3 ⟨he, hk3⟩; rw [hf] at he; subst he; have h8 : w3.heap[w.heap.size]? = some (rngO 0 0 false) := (hk3.block _ (heap_lt H7.out) id).trans H7.out; have H8 := Lib.hid h8; have HK3 := Lib.hid (HK2.out.trans hk3); obtain ⟨x0, x1, x2⟩ := rng_facts h8; obtain ⟨z0, z1, z2⟩ := rng_free h8; clear h8 hk3))
        refine bodyPost_ret (res_rng2 rfl _ _ _ _ _ _ (0, 0) rfl (rng_three H8.out _ _ _)) rfl ⟨rfl, ?_⟩
        exact HK3.out.fresh (Kept.three (Kept.refl (fun q => q = w.heap.size) _) rfl _ _ _) (fun q hq (e : q = w.heap.size) => by omega)
end Go.Proofs.YtbofjefblhnkoaaGreatDoor
