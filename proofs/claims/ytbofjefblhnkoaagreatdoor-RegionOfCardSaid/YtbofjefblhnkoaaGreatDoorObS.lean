/-
  PIECES: the program's, of whatever arguments; the reference's, by all keys.
-/
import Derived.Test.YtbofjefblhnkoaaGreatDoorObO
set_option linter.unusedVariables false
set_option maxRecDepth 100000
namespace Go.Proofs.YtbofjefblhnkoaaGreatDoor
open Go Go.RowKit Pk

def GoodO (s : ByteArray) (x wide key cnt : Int) : Prop := GoodP s x ∧ (wide = 105 ∨ wide = 97) ∧ Rw.Obj key ∧ 1 ≤ cnt ∧ cnt ≤ 999
instance (s : ByteArray) (x wide key cnt : Int) : Decidable (GoodO s x wide key cnt) := by unfold GoodO; infer_instance
set_option maxRecDepth 100000 in
set_option maxHeartbeats 4000000 in
theorem ppiece_no (s : ByteArray) (x wide key cnt : Int) (w : World) (hs : s.size ≤ 140737488351232) (hT : Tabs w) (h : ¬ GoodO s x wide key cnt) :
    Calls Tryz.prog 22 #[.string s, .int .i64 x, .int .i64 wide, .int .i64 key, .int .i64 cnt] w fun e w' => e = .returned (.tuple #[rngV 0 0 false, .int .i64 1]) ∧ Kept (fun _ => False) w w' := by
  have hka : Kept (fun _ => False) w (w.alloc (rngO 0 0 false)) := (Kept.refl _ w).alloc _
  have HKA := Lib.hid hka
  have HG : Hid ((w.alloc (rngO 0 0 false)).heap[w.heap.size]? = some (rngO 0 0 false)) := heap_alloc_new w _
  by_cases hy : GoodP s x
  · obtain ⟨hm, h0, h1⟩ := id hy
    obtain ⟨k, rfl⟩ := Int.eq_ofNat_of_zero_le h0
    have cU := runes_yes s k _ (hT.kept hka id id) hm (by omega)
    have hways : ((wide != 105) = true ∧ (wide != 97) = true) ∨ (((wide != 105) = false ∨ ((wide != 105) = true ∧ (wide != 97) = false)) ∧ (cnt < 1 ∨ (1 ≤ cnt ∧ 999 < cnt) ∨ (1 ≤ cnt ∧ cnt ≤ 999 ∧ ¬ Rw.Obj key))) := by
      by_cases e1 : wide = 105 ∨ wide = 97
      · right
        refine ⟨by rcases e1 with rfl | rfl <;> simp, ?_⟩
        by_cases c1 : cnt < 1
        · exact .inl c1
        · by_cases c2 : 999 < cnt
          · exact .inr (.inl ⟨by omega, c2⟩)
          · exact .inr (.inr ⟨by omega, by omega, fun ho => h ⟨hy, e1, ho, by omega, by omega⟩⟩)
      · have e2 := not_or.1 e1
        exact .inl ⟨by simpa using e2.1, by simpa using e2.2⟩
    clear hT hm h0 h1 hy h hka
    generalize rs s = t at *
    rcases hways with ⟨q1, q2⟩ | ⟨q1 | ⟨q1, q2⟩, c1 | ⟨c1, c2⟩ | ⟨c1, c2, ho⟩⟩
    case' inr.inl.inl | inr.inr.inl => have d1 : decide (cnt < 1) = true := decide_eq_true c1
    case' inr.inl.inr.inl | inr.inr.inr.inl =>
      have d1 : decide (cnt < 1) = false := decide_eq_false (by omega)
      have d2 : decide (999 < cnt) = true := decide_eq_true c2
    case' inr.inl.inr.inr | inr.inr.inr.inr =>
      have d1 : decide (cnt < 1) = false := decide_eq_false (by omega)
      have d2 : decide (999 < cnt) = false := decide_eq_false (by omega)
      unfold Rw.Obj at ho
      simp only [not_or] at ho
      obtain ⟨n1, n2, n3, n4, n5, n6, n7, n8, n9, n10, n11, n12⟩ := ho
      have k1 : (key == 119) = false := beq_eq_false_iff_ne.2 n1
      have k2 : (key == 87) = false := beq_eq_false_iff_ne.2 n2
      have k3 : (key == 34) = false := beq_eq_false_iff_ne.2 n3
      have k4 : (key == 40) = false := beq_eq_false_iff_ne.2 n4
      have k5 : (key == 41) = false := beq_eq_false_iff_ne.2 n5
      have k6 : (key == 98) = false := beq_eq_false_iff_ne.2 n6
      have k7 : (key == 91) = false := beq_eq_false_iff_ne.2 n7
      have k8 : (key == 93) = false := beq_eq_false_iff_ne.2 n8
      have k9 : (key == 123) = false := beq_eq_false_iff_ne.2 n9
      have k10 : (key == 125) = false := beq_eq_false_iff_ne.2 n10
      have k11 : (key == 66) = false := beq_eq_false_iff_ne.2 n11
      have k12 : (key == 112) = false := beq_eq_false_iff_ne.2 n12
      clear n1 n2 n3 n4 n5 n6 n7 n8 n9 n10 n11 n12
    all_goals
      go_enter Tryz.func22, Tryz.ntmps22
      go_wp2_with (go_at_call 34; refine cU.mono ?_; rintro e w2 ⟨hk2, bb, cap, rfl, hbg, hR⟩; have h8 : w2.heap[w.heap.size]? = some (rngO 0 0 false) := (hk2.block _ (heap_lt HG.out) id).trans HG.out; have H7 := Lib.hid h8; have HK2 := Lib.hid (HKA.out.trans hk2); obtain ⟨f0, f1, f2⟩ := rng_facts h8; obtain ⟨y0, y1, y2⟩ := rng_free h8; clear h8 hk2 hR cU)
      refine bodyPost_ret (res_rng2 rfl _ _ _ _ _ _ (0, 0) rfl (rng_three H7.out _ _ _)) rfl ⟨rfl, ?_⟩
      exact HK2.out.fresh (Kept.three (Kept.refl (fun q => q = w.heap.size) _) rfl _ _ _) (fun q hq (e : q = w.heap.size) => by omega)
  · have cU := runes_no s x _ hs (hT.kept hka id id) hy
    clear hT h hy hka
    go_enter Tryz.func22, Tryz.ntmps22
    go_wp2_with (go_at_call 34; refine cU.mono ?_; rintro e w2 ⟨hk2, rfl⟩; have h8 : w2.heap[w.heap.size]? = some (rngO 0 0 false) := (hk2.block _ (heap_lt HG.out) id).trans HG.out; have H7 := Lib.hid h8; have HK2 := Lib.hid (HKA.out.trans hk2); obtain ⟨f0, f1, f2⟩ := rng_facts h8; obtain ⟨y0, y1, y2⟩ := rng_free h8; clear h8 hk2 cU)
    refine bodyPost_ret (res_rng2 rfl _ _ _ _ _ _ (0, 0) rfl (rng_three H7.out _ _ _)) rfl ⟨rfl, ?_⟩
    exact HK2.out.fresh (Kept.three (Kept.refl (fun q => q = w.heap.size) _) rfl _ _ _) (fun q hq (e : q = w.heap.size) => by omega)
/-- A piece, told of whatever arguments. -/
def ToldO (s : ByteArray) (x wide key cnt a b : Int) (l : Bool) (er : Int) : Prop := (GoodO s x wide key cnt → ansR (Rw.pce (rs s) x.toNat wide key cnt.toNat) = .tuple #[rngV a b l, .int .i64 er]) ∧ (¬ GoodO s x wide key cnt → a = 0 ∧ b = 0 ∧ l = false ∧ er = 1)
theorem ppiece_all (s : ByteArray) (x wide key cnt : Int) (w : World) (hs : s.size ≤ 140737488351232) (hT : Tabs w) :
    Calls Tryz.prog 22 #[.string s, .int .i64 x, .int .i64 wide, .int .i64 key, .int .i64 cnt] w fun e w' => (∃ (a b : Int) (l : Bool) (er : Int), e = .returned (.tuple #[rngV a b l, .int .i64 er]) ∧ ToldO s x wide key cnt a b l er) ∧ Kept (fun _ => False) w w' := by
  by_cases hg : GoodO s x wide key cnt
  · obtain ⟨⟨g1, g2, g3⟩, g4, g5, g6, g7⟩ := id hg
    obtain ⟨k, rfl⟩ := Int.eq_ofNat_of_zero_le g2
    obtain ⟨c, rfl⟩ := Int.eq_ofNat_of_zero_le (show 0 ≤ cnt by omega)
    refine (ppiece_yes s k c wide key w hT g1 (by omega) g4 g5 (by omega) (by omega)).mono ?_
    rintro e w' ⟨rfl, hk⟩
    obtain ⟨a, b, l, er, he⟩ := ansR_form (Rw.pce (rs s) k wide key c)
    exact ⟨⟨a, b, l, er, by rw [he], fun _ => he, fun h => absurd hg h⟩, hk⟩
  · refine (ppiece_no s x wide key cnt w hs hT hg).mono ?_
    rintro e w' ⟨rfl, hk⟩
    exact ⟨⟨0, 0, false, 1, rfl, fun h => absurd h hg, fun _ => ⟨rfl, rfl, rfl, rfl⟩⟩, hk⟩
/-- Is it an object's key? -/
theorem robject_any (key : Int) (w : World) : Calls Tryz.prog 29 #[.int .i64 key] w fun e w' => e = .returned (.bool (decide (Rw.Obj key))) ∧ Kept (fun _ => False) w w' := by
  have hN := nums_new w [119, 87, 34, 40, 41, 98, 91, 93, 123, 125, 66, 112] 3
  have cI := zin_any (some ⟨w.heap.size, 0, none⟩) 12 12 _ key _ hN (by decide)
  have HL : Hid (key ∈ ([119, 87, 34, 40, 41, 98, 91, 93, 123, 125, 66, 112] : List Int) ↔ Rw.Obj key) := by
    show _ ↔ _
    unfold Rw.Obj
    simp
  clear hN
  go_enter Tryz.func29, Tryz.ntmps29
  go_wp2_with (go_at_call 59; refine cI.mono ?_; rintro e w' ⟨⟨r, rfl, h1, h2, h3⟩, rfl⟩; have H3 := Lib.hid h3; clear h3)
  have hb : decide (0 ≤ r) = decide (Rw.Obj key) := decide_eq_decide.2 (H3.out.trans HL.out)
  have HB := Lib.hid hb
  clear hb H3
  go_ret
  rw [← HB.out]
  exact ⟨rfl, (Kept.refl _ w).alloc _⟩
set_option maxRecDepth 100000 in
set_option maxHeartbeats 8000000 in
theorem rpiece_yes (A : Option Addr) (n c k cnt : Nat) (wide key : Int) (t : List Int) (w : World) (hA : Rn w A n t) (hr : Runey t) (hn : n ≤ 6000) (hk : k ≤ n) (hw : wide = 105 ∨ wide = 97) (hO : Rw.Obj key) (hc1 : 1 ≤ cnt) (hc2 : cnt ≤ 999) :
    Calls Tryz.prog 31 #[.slice A n c, .int .i64 k, .int .i64 wide, .int .i64 key, .int .i64 cnt] w fun e w' => e = .returned (ansR (Rw.pce t k wide key cnt)) ∧ Kept (fun _ => False) w w' := by
  have hlen := hA.1
  have hka : Kept (fun _ => False) w (w.alloc (rngO 0 0 false)) := (Kept.refl _ w).alloc _
  have HKA := Lib.hid hka
  have HG : Hid ((w.alloc (rngO 0 0 false)).heap[w.heap.size]? = some (rngO 0 0 false)) := heap_alloc_new w _
  have HA := Lib.hid (hA.kept hka (fun _ _ => id))
  have HR := Lib.hid hr
  have HWD := Lib.hid hw
  have HL := Lib.hid hlen
  have g1 := rng_facts HG.out
  have g2 := rng_free HG.out
  clear hA hr hka hw hlen
  rcases hO with rfl | rfl | rfl | rfl | rfl | rfl | rfl | rfl | rfl | rfl | rfl | rfl
  · by_cases hcc : 1 < cnt
    · rw [pce_many (show Rw.brk 119 = none by decide) hcc]
      have d3 : ((cnt : Int) == 1) = false := by rw [beq_eq_false_iff_ne]; omega
      obtain ⟨x0, x1, x2⟩ := g1
      obtain ⟨z0, z1, z2⟩ := g2
      go_enter Tryz.func31, Tryz.ntmps31
      go_wp2_with fail
      refine bodyPost_ret (res_rng2 rfl _ _ _ _ _ _ (0, 0) rfl HG.out) rfl ⟨rfl, HKA.out⟩
    · obtain rfl : cnt = 1 := by omega
      obtain ⟨a, b, l, er, hform⟩ := ansR_form (Rw.pce t k wide 119 1)
      have hf := (pce_w (t := t) (k := k) (wide := wide)).symm.trans hform
      rw [hform]
      clear hform hcc g1 g2
      go_enter Tryz.func31, Tryz.ntmps31
      go_wp2_with (go_at_call 63; refine (rword_any A n c k wide false t _ HA.out HR.out hn hk HWD.out).mono ?_; rintro e w3 ⟨he, hk3⟩; rw [hf] at he; subst he; have h8 : w3.heap[w.heap.size]? = some (rngO 0 0 false) := (hk3.block _ (heap_lt HG.out) id).trans HG.out; have H8 := Lib.hid h8; have HK3 := Lib.hid (HKA.out.trans hk3); obtain ⟨x0, x1, x2⟩ := rng_facts h8; obtain ⟨z0, z1, z2⟩ := rng_free h8; clear h8 hk3)
      refine bodyPost_ret (res_rng2 rfl _ _ _ _ _ _ (0, 0) rfl (rng_three H8.out _ _ _)) rfl ⟨rfl, ?_⟩
      exact HK3.out.fresh (Kept.three (Kept.refl (fun q => q = w.heap.size) _) rfl _ _ _) (fun q hq (e : q = w.heap.size) => by omega)
  · by_cases hcc : 1 < cnt
    · rw [pce_many (show Rw.brk 87 = none by decide) hcc]
      have d3 : ((cnt : Int) == 1) = false := by rw [beq_eq_false_iff_ne]; omega
      obtain ⟨x0, x1, x2⟩ := g1
      obtain ⟨z0, z1, z2⟩ := g2
      go_enter Tryz.func31, Tryz.ntmps31
      go_wp2_with fail
      refine bodyPost_ret (res_rng2 rfl _ _ _ _ _ _ (0, 0) rfl HG.out) rfl ⟨rfl, HKA.out⟩
    · obtain rfl : cnt = 1 := by omega
      obtain ⟨a, b, l, er, hform⟩ := ansR_form (Rw.pce t k wide 87 1)
      have hf := (pce_W (t := t) (k := k) (wide := wide)).symm.trans hform
      rw [hform]
      clear hform hcc g1 g2
      go_enter Tryz.func31, Tryz.ntmps31
      go_wp2_with (go_at_call 63; refine (rword_any A n c k wide true t _ HA.out HR.out hn hk HWD.out).mono ?_; rintro e w3 ⟨he, hk3⟩; rw [hf] at he; subst he; have h8 : w3.heap[w.heap.size]? = some (rngO 0 0 false) := (hk3.block _ (heap_lt HG.out) id).trans HG.out; have H8 := Lib.hid h8; have HK3 := Lib.hid (HKA.out.trans hk3); obtain ⟨x0, x1, x2⟩ := rng_facts h8; obtain ⟨z0, z1, z2⟩ := rng_free h8; clear h8 hk3)
      refine bodyPost_ret (res_rng2 rfl _ _ _ _ _ _ (0, 0) rfl (rng_three H8.out _ _ _)) rfl ⟨rfl, ?_⟩
      exact HK3.out.fresh (Kept.three (Kept.refl (fun q => q = w.heap.size) _) rfl _ _ _) (fun q hq (e : q = w.heap.size) => by omega)
  · by_cases hcc : 1 < cnt
    · rw [pce_many (show Rw.brk 34 = none by decide) hcc]
      have d3 : ((cnt : Int) == 1) = false := by rw [beq_eq_false_iff_ne]; omega
      obtain ⟨x0, x1, x2⟩ := g1
      obtain ⟨z0, z1, z2⟩ := g2
      go_enter Tryz.func31, Tryz.ntmps31
      go_wp2_with fail
      refine bodyPost_ret (res_rng2 rfl _ _ _ _ _ _ (0, 0) rfl HG.out) rfl ⟨rfl, HKA.out⟩
    · obtain rfl : cnt = 1 := by omega
      obtain ⟨a, b, l, er, hform⟩ := ansR_form (Rw.pce t k wide 34 1)
      have hf := (pce_q (t := t) (k := k) (wide := wide)).symm.trans hform
      rw [hform]
      clear hform hcc g1 g2
      go_enter Tryz.func31, Tryz.ntmps31
      go_wp2_with (go_at_call 64; refine (rquoted_any A n c k wide t _ HA.out hn hk).mono ?_; rintro e w3 ⟨he, hk3⟩; rw [hf] at he; subst he; have h8 : w3.heap[w.heap.size]? = some (rngO 0 0 false) := (hk3.block _ (heap_lt HG.out) id).trans HG.out; have H8 := Lib.hid h8; have HK3 := Lib.hid (HKA.out.trans hk3); obtain ⟨x0, x1, x2⟩ := rng_facts h8; obtain ⟨z0, z1, z2⟩ := rng_free h8; clear h8 hk3)
      refine bodyPost_ret (res_rng2 rfl _ _ _ _ _ _ (0, 0) rfl (rng_three H8.out _ _ _)) rfl ⟨rfl, ?_⟩
      exact HK3.out.fresh (Kept.three (Kept.refl (fun q => q = w.heap.size) _) rfl _ _ _) (fun q hq (e : q = w.heap.size) => by omega)
  · rw [pce_br (t := t) (k := k) (cnt := cnt) (wide := wide) (show Rw.brk 40 = some 40 by decide)]
    have cA := raround_any A n c k cnt 40 t _ HA.out HR.out hn hk hc1 hc2
    obtain ⟨R, hR⟩ : ∃ R, Rw.around t k 40 cnt = R := ⟨_, rfl⟩
    rw [hR] at cA ⊢
    cases R with
    | none =>
      unfold ansB at cA
      simp only at cA
      clear hR g1 g2
      go_enter Tryz.func31, Tryz.ntmps31
      go_wp2_with (go_at_call 66; refine cA.mono ?_; rintro e w3 ⟨hk3, rfl⟩; have h8 : w3.heap[w.heap.size]? = some (rngO 0 0 false) := (hk3.block _ (heap_lt HG.out) id).trans HG.out; have H8 := Lib.hid h8; have HK3 := Lib.hid (HKA.out.trans hk3); obtain ⟨x0, x1, x2⟩ := rng_facts h8; obtain ⟨z0, z1, z2⟩ := rng_free h8; clear h8 hk3 cA)
      refine bodyPost_ret (res_rng2 rfl _ _ _ _ _ _ (0, 0) rfl (rng_three H8.out _ _ _)) rfl ⟨rfl, ?_⟩
      exact HK3.out.fresh (Kept.three (Kept.refl (fun q => q = w.heap.size) _) rfl _ _ _) (fun q hq (e : q = w.heap.size) => by omega)
    | some p =>
      obtain ⟨x, y⟩ := p
      obtain ⟨q1, q2, q3⟩ := around_bound hR
      have hl := HL.out
      have b1 : decide ((0 : Int) ≤ (x : Int)) = true := decide_eq_true (by omega)
      have e1 : IntKind.i64.wrap ((x : Int) + 1) = (x : Int) + 1 := wrapI rfl (by omega) (by omega)
      have e2 : IntKind.i64.wrap (y + 1) = y + 1 := wrapI rfl (by omega) (by omega)
      unfold ansB at cA
      simp only at cA
      clear hR g1 g2
      rcases HWD.out with rfl | rfl
      all_goals
        go_enter Tryz.func31, Tryz.ntmps31
        go_wp2_with (go_at_call 66; refine cA.mono ?_; rintro e w3 ⟨hk3, rfl⟩; have h8 : w3.heap[w.heap.size]? = some (rngO 0 0 false) := (hk3.block _ (heap_lt HG.out) id).trans HG.out; have H8 := Lib.hid h8; have HK3 := Lib.hid (HKA.out.trans hk3); obtain ⟨x0, x1, x2⟩ := rng_facts h8; obtain ⟨z0, z1, z2⟩ := rng_free h8; clear h8 hk3 cA)
        refine bodyPost_ret (res_rng2 rfl _ _ _ _ _ _ (0, 0) rfl (rng_three H8.out _ _ _)) rfl ⟨rfl, ?_⟩
        exact HK3.out.fresh (Kept.three (Kept.refl (fun q => q = w.heap.size) _) rfl _ _ _) (fun q hq (e : q = w.heap.size) => by omega)
  · rw [pce_br (t := t) (k := k) (cnt := cnt) (wide := wide) (show Rw.brk 41 = some 40 by decide)]
    have cA := raround_any A n c k cnt 40 t _ HA.out HR.out hn hk hc1 hc2
    obtain ⟨R, hR⟩ : ∃ R, Rw.around t k 40 cnt = R := ⟨_, rfl⟩
    rw [hR] at cA ⊢
    cases R with
    | none =>
      unfold ansB at cA
      simp only at cA
      clear hR g1 g2
      go_enter Tryz.func31, Tryz.ntmps31
      go_wp2_with (go_at_call 66; refine cA.mono ?_; rintro e w3 ⟨hk3, rfl⟩; have h8 : w3.heap[w.heap.size]? = some (rngO 0 0 false) := (hk3.block _ (heap_lt HG.out) id).trans HG.out; have H8 := Lib.hid h8; have HK3 := Lib.hid (HKA.out.trans hk3); obtain ⟨x0, x1, x2⟩ := rng_facts h8; obtain ⟨z0, z1, z2⟩ := rng_free h8; clear h8 hk3 cA)
      refine bodyPost_ret (res_rng2 rfl _ _ _ _ _ _ (0, 0) rfl (rng_three H8.out _ _ _)) rfl ⟨rfl, ?_⟩
      exact HK3.out.fresh (Kept.three (Kept.refl (fun q => q = w.heap.size) _) rfl _ _ _) (fun q hq (e : q = w.heap.size) => by omega)
    | some p =>
      obtain ⟨x, y⟩ := p
      obtain ⟨q1, q2, q3⟩ := around_bound hR
      have hl := HL.out
      have b1 : decide ((0 : Int) ≤ (x : Int)) = true := decide_eq_true (by omega)
      have e1 : IntKind.i64.wrap ((x : Int) + 1) = (x : Int) + 1 := wrapI rfl (by omega) (by omega)
      have e2 : IntKind.i64.wrap (y + 1) = y + 1 := wrapI rfl (by omega) (by omega)
      unfold ansB at cA
      simp only at cA
      clear hR g1 g2
      rcases HWD.out with rfl | rfl
      all_goals
        go_enter Tryz.func31, Tryz.ntmps31
        go_wp2_with (go_at_call 66; refine cA.mono ?_; rintro e w3 ⟨hk3, rfl⟩; have h8 : w3.heap[w.heap.size]? = some (rngO 0 0 false) := (hk3.block _ (heap_lt HG.out) id).trans HG.out; have H8 := Lib.hid h8; have HK3 := Lib.hid (HKA.out.trans hk3); obtain ⟨x0, x1, x2⟩ := rng_facts h8; obtain ⟨z0, z1, z2⟩ := rng_free h8; clear h8 hk3 cA)
        refine bodyPost_ret (res_rng2 rfl _ _ _ _ _ _ (0, 0) rfl (rng_three H8.out _ _ _)) rfl ⟨rfl, ?_⟩
        exact HK3.out.fresh (Kept.three (Kept.refl (fun q => q = w.heap.size) _) rfl _ _ _) (fun q hq (e : q = w.heap.size) => by omega)
  · rw [pce_br (t := t) (k := k) (cnt := cnt) (wide := wide) (show Rw.brk 98 = some 40 by decide)]
    have cA := raround_any A n c k cnt 40 t _ HA.out HR.out hn hk hc1 hc2
    obtain ⟨R, hR⟩ : ∃ R, Rw.around t k 40 cnt = R := ⟨_, rfl⟩
    rw [hR] at cA ⊢
    cases R with
    | none =>
      unfold ansB at cA
      simp only at cA
      clear hR g1 g2
      go_enter Tryz.func31, Tryz.ntmps31
      go_wp2_with (go_at_call 66; refine cA.mono ?_; rintro e w3 ⟨hk3, rfl⟩; have h8 : w3.heap[w.heap.size]? = some (rngO 0 0 false) := (hk3.block _ (heap_lt HG.out) id).trans HG.out; have H8 := Lib.hid h8; have HK3 := Lib.hid (HKA.out.trans hk3); obtain ⟨x0, x1, x2⟩ := rng_facts h8; obtain ⟨z0, z1, z2⟩ := rng_free h8; clear h8 hk3 cA)
      refine bodyPost_ret (res_rng2 rfl _ _ _ _ _ _ (0, 0) rfl (rng_three H8.out _ _ _)) rfl ⟨rfl, ?_⟩
      exact HK3.out.fresh (Kept.three (Kept.refl (fun q => q = w.heap.size) _) rfl _ _ _) (fun q hq (e : q = w.heap.size) => by omega)
    | some p =>
      obtain ⟨x, y⟩ := p
      obtain ⟨q1, q2, q3⟩ := around_bound hR
      have hl := HL.out
      have b1 : decide ((0 : Int) ≤ (x : Int)) = true := decide_eq_true (by omega)
      have e1 : IntKind.i64.wrap ((x : Int) + 1) = (x : Int) + 1 := wrapI rfl (by omega) (by omega)
      have e2 : IntKind.i64.wrap (y + 1) = y + 1 := wrapI rfl (by omega) (by omega)
      unfold ansB at cA
      simp only at cA
      clear hR g1 g2
      rcases HWD.out with rfl | rfl
      all_goals
        go_enter Tryz.func31, Tryz.ntmps31
        go_wp2_with (go_at_call 66; refine cA.mono ?_; rintro e w3 ⟨hk3, rfl⟩; have h8 : w3.heap[w.heap.size]? = some (rngO 0 0 false) := (hk3.block _ (heap_lt HG.out) id).trans HG.out; have H8 := Lib.hid h8; have HK3 := Lib.hid (HKA.out.trans hk3); obtain ⟨x0, x1, x2⟩ := rng_facts h8; obtain ⟨z0, z1, z2⟩ := rng_free h8; clear h8 hk3 cA)
        refine bodyPost_ret (res_rng2 rfl _ _ _ _ _ _ (0, 0) rfl (rng_three H8.out _ _ _)) rfl ⟨rfl, ?_⟩
        exact HK3.out.fresh (Kept.three (Kept.refl (fun q => q = w.heap.size) _) rfl _ _ _) (fun q hq (e : q = w.heap.size) => by omega)
  · rw [pce_br (t := t) (k := k) (cnt := cnt) (wide := wide) (show Rw.brk 91 = some 91 by decide)]
    have cA := raround_any A n c k cnt 91 t _ HA.out HR.out hn hk hc1 hc2
    obtain ⟨R, hR⟩ : ∃ R, Rw.around t k 91 cnt = R := ⟨_, rfl⟩
    rw [hR] at cA ⊢
    cases R with
    | none =>
      unfold ansB at cA
      simp only at cA
      clear hR g1 g2
      go_enter Tryz.func31, Tryz.ntmps31
      go_wp2_with (go_at_call 66; refine cA.mono ?_; rintro e w3 ⟨hk3, rfl⟩; have h8 : w3.heap[w.heap.size]? = some (rngO 0 0 false) := (hk3.block _ (heap_lt HG.out) id).trans HG.out; have H8 := Lib.hid h8; have HK3 := Lib.hid (HKA.out.trans hk3); obtain ⟨x0, x1, x2⟩ := rng_facts h8; obtain ⟨z0, z1, z2⟩ := rng_free h8; clear h8 hk3 cA)
      refine bodyPost_ret (res_rng2 rfl _ _ _ _ _ _ (0, 0) rfl (rng_three H8.out _ _ _)) rfl ⟨rfl, ?_⟩
      exact HK3.out.fresh (Kept.three (Kept.refl (fun q => q = w.heap.size) _) rfl _ _ _) (fun q hq (e : q = w.heap.size) => by omega)
    | some p =>
      obtain ⟨x, y⟩ := p
      obtain ⟨q1, q2, q3⟩ := around_bound hR
      have hl := HL.out
      have b1 : decide ((0 : Int) ≤ (x : Int)) = true := decide_eq_true (by omega)
      have e1 : IntKind.i64.wrap ((x : Int) + 1) = (x : Int) + 1 := wrapI rfl (by omega) (by omega)
      have e2 : IntKind.i64.wrap (y + 1) = y + 1 := wrapI rfl (by omega) (by omega)
      unfold ansB at cA
      simp only at cA
      clear hR g1 g2
      rcases HWD.out with rfl | rfl
      all_goals
        go_enter Tryz.func31, Tryz.ntmps31
        go_wp2_with (go_at_call 66; refine cA.mono ?_; rintro e w3 ⟨hk3, rfl⟩; have h8 : w3.heap[w.heap.size]? = some (rngO 0 0 false) := (hk3.block _ (heap_lt HG.out) id).trans HG.out; have H8 := Lib.hid h8; have HK3 := Lib.hid (HKA.out.trans hk3); obtain ⟨x0, x1, x2⟩ := rng_facts h8; obtain ⟨z0, z1, z2⟩ := rng_free h8; clear h8 hk3 cA)
        refine bodyPost_ret (res_rng2 rfl _ _ _ _ _ _ (0, 0) rfl (rng_three H8.out _ _ _)) rfl ⟨rfl, ?_⟩
        exact HK3.out.fresh (Kept.three (Kept.refl (fun q => q = w.heap.size) _) rfl _ _ _) (fun q hq (e : q = w.heap.size) => by omega)
  · rw [pce_br (t := t) (k := k) (cnt := cnt) (wide := wide) (show Rw.brk 93 = some 91 by decide)]
    have cA := raround_any A n c k cnt 91 t _ HA.out HR.out hn hk hc1 hc2
    obtain ⟨R, hR⟩ : ∃ R, Rw.around t k 91 cnt = R := ⟨_, rfl⟩
    rw [hR] at cA ⊢
    cases R with
    | none =>
      unfold ansB at cA
      simp only at cA
      clear hR g1 g2
      go_enter Tryz.func31, Tryz.ntmps31
      go_wp2_with (go_at_call 66; refine cA.mono ?_; rintro e w3 ⟨hk3, rfl⟩; have h8 : w3.heap[w.heap.size]? = some (rngO 0 0 false) := (hk3.block _ (heap_lt HG.out) id).trans HG.out; have H8 := Lib.hid h8; have HK3 := Lib.hid (HKA.out.trans hk3); obtain ⟨x0, x1, x2⟩ := rng_facts h8; obtain ⟨z0, z1, z2⟩ := rng_free h8; clear h8 hk3 cA)
      refine bodyPost_ret (res_rng2 rfl _ _ _ _ _ _ (0, 0) rfl (rng_three H8.out _ _ _)) rfl ⟨rfl, ?_⟩
      exact HK3.out.fresh (Kept.three (Kept.refl (fun q => q = w.heap.size) _) rfl _ _ _) (fun q hq (e : q = w.heap.size) => by omega)
    | some p =>
      obtain ⟨x, y⟩ := p
      obtain ⟨q1, q2, q3⟩ := around_bound hR
      have hl := HL.out
      have b1 : decide ((0 : Int) ≤ (x : Int)) = true := decide_eq_true (by omega)
      have e1 : IntKind.i64.wrap ((x : Int) + 1) = (x : Int) + 1 := wrapI rfl (by omega) (by omega)
      have e2 : IntKind.i64.wrap (y + 1) = y + 1 := wrapI rfl (by omega) (by omega)
      unfold ansB at cA
      simp only at cA
      clear hR g1 g2
      rcases HWD.out with rfl | rfl
      all_goals
        go_enter Tryz.func31, Tryz.ntmps31
        go_wp2_with (go_at_call 66; refine cA.mono ?_; rintro e w3 ⟨hk3, rfl⟩; have h8 : w3.heap[w.heap.size]? = some (rngO 0 0 false) := (hk3.block _ (heap_lt HG.out) id).trans HG.out; have H8 := Lib.hid h8; have HK3 := Lib.hid (HKA.out.trans hk3); obtain ⟨x0, x1, x2⟩ := rng_facts h8; obtain ⟨z0, z1, z2⟩ := rng_free h8; clear h8 hk3 cA)
        refine bodyPost_ret (res_rng2 rfl _ _ _ _ _ _ (0, 0) rfl (rng_three H8.out _ _ _)) rfl ⟨rfl, ?_⟩
        exact HK3.out.fresh (Kept.three (Kept.refl (fun q => q = w.heap.size) _) rfl _ _ _) (fun q hq (e : q = w.heap.size) => by omega)
  · rw [pce_br (t := t) (k := k) (cnt := cnt) (wide := wide) (show Rw.brk 123 = some 123 by decide)]
    have cA := raround_any A n c k cnt 123 t _ HA.out HR.out hn hk hc1 hc2
    obtain ⟨R, hR⟩ : ∃ R, Rw.around t k 123 cnt = R := ⟨_, rfl⟩
    rw [hR] at cA ⊢
    cases R with
    | none =>
      unfold ansB at cA
      simp only at cA
      clear hR g1 g2
      go_enter Tryz.func31, Tryz.ntmps31
      go_wp2_with (go_at_call 66; refine cA.mono ?_; rintro e w3 ⟨hk3, rfl⟩; have h8 : w3.heap[w.heap.size]? = some (rngO 0 0 false) := (hk3.block _ (heap_lt HG.out) id).trans HG.out; have H8 := Lib.hid h8; have HK3 := Lib.hid (HKA.out.trans hk3); obtain ⟨x0, x1, x2⟩ := rng_facts h8; obtain ⟨z0, z1, z2⟩ := rng_free h8; clear h8 hk3 cA)
      refine bodyPost_ret (res_rng2 rfl _ _ _ _ _ _ (0, 0) rfl (rng_three H8.out _ _ _)) rfl ⟨rfl, ?_⟩
      exact HK3.out.fresh (Kept.three (Kept.refl (fun q => q = w.heap.size) _) rfl _ _ _) (fun q hq (e : q = w.heap.size) => by omega)
    | some p =>
      obtain ⟨x, y⟩ := p
      obtain ⟨q1, q2, q3⟩ := around_bound hR
      have hl := HL.out
      have b1 : decide ((0 : Int) ≤ (x : Int)) = true := decide_eq_true (by omega)
      have e1 : IntKind.i64.wrap ((x : Int) + 1) = (x : Int) + 1 := wrapI rfl (by omega) (by omega)
      have e2 : IntKind.i64.wrap (y + 1) = y + 1 := wrapI rfl (by omega) (by omega)
      unfold ansB at cA
      simp only at cA
      clear hR g1 g2
      rcases HWD.out with rfl | rfl
      all_goals
        go_enter Tryz.func31, Tryz.ntmps31
        go_wp2_with (go_at_call 66; refine cA.mono ?_; rintro e w3 ⟨hk3, rfl⟩; have h8 : w3.heap[w.heap.size]? = some (rngO 0 0 false) := (hk3.block _ (heap_lt HG.out) id).trans HG.out; have H8 := Lib.hid h8; have HK3 := Lib.hid (HKA.out.trans hk3); obtain ⟨x0, x1, x2⟩ := rng_facts h8; obtain ⟨z0, z1, z2⟩ := rng_free h8; clear h8 hk3 cA)
        refine bodyPost_ret (res_rng2 rfl _ _ _ _ _ _ (0, 0) rfl (rng_three H8.out _ _ _)) rfl ⟨rfl, ?_⟩
        exact HK3.out.fresh (Kept.three (Kept.refl (fun q => q = w.heap.size) _) rfl _ _ _) (fun q hq (e : q = w.heap.size) => by omega)
  · rw [pce_br (t := t) (k := k) (cnt := cnt) (wide := wide) (show Rw.brk 125 = some 123 by decide)]
    have cA := raround_any A n c k cnt 123 t _ HA.out HR.out hn hk hc1 hc2
    obtain ⟨R, hR⟩ : ∃ R, Rw.around t k 123 cnt = R := ⟨_, rfl⟩
    rw [hR] at cA ⊢
    cases R with
    | none =>
      unfold ansB at cA
      simp only at cA
      clear hR g1 g2
      go_enter Tryz.func31, Tryz.ntmps31
      go_wp2_with (go_at_call 66; refine cA.mono ?_; rintro e w3 ⟨hk3, rfl⟩; have h8 : w3.heap[w.heap.size]? = some (rngO 0 0 false) := (hk3.block _ (heap_lt HG.out) id).trans HG.out; have H8 := Lib.hid h8; have HK3 := Lib.hid (HKA.out.trans hk3); obtain ⟨x0, x1, x2⟩ := rng_facts h8; obtain ⟨z0, z1, z2⟩ := rng_free h8; clear h8 hk3 cA)
      refine bodyPost_ret (res_rng2 rfl _ _ _ _ _ _ (0, 0) rfl (rng_three H8.out _ _ _)) rfl ⟨rfl, ?_⟩
      exact HK3.out.fresh (Kept.three (Kept.refl (fun q => q = w.heap.size) _) rfl _ _ _) (fun q hq (e : q = w.heap.size) => by omega)
    | some p =>
      obtain ⟨x, y⟩ := p
      obtain ⟨q1, q2, q3⟩ := around_bound hR
      have hl := HL.out
      have b1 : decide ((0 : Int) ≤ (x : Int)) = true := decide_eq_true (by omega)
      have e1 : IntKind.i64.wrap ((x : Int) + 1) = (x : Int) + 1 := wrapI rfl (by omega) (by omega)
      have e2 : IntKind.i64.wrap (y + 1) = y + 1 := wrapI rfl (by omega) (by omega)
      unfold ansB at cA
      simp only at cA
      clear hR g1 g2
      rcases HWD.out with rfl | rfl
      all_goals
        go_enter Tryz.func31, Tryz.ntmps31
        go_wp2_with (go_at_call 66; refine cA.mono ?_; rintro e w3 ⟨hk3, rfl⟩; have h8 : w3.heap[w.heap.size]? = some (rngO 0 0 false) := (hk3.block _ (heap_lt HG.out) id).trans HG.out; have H8 := Lib.hid h8; have HK3 := Lib.hid (HKA.out.trans hk3); obtain ⟨x0, x1, x2⟩ := rng_facts h8; obtain ⟨z0, z1, z2⟩ := rng_free h8; clear h8 hk3 cA)
        refine bodyPost_ret (res_rng2 rfl _ _ _ _ _ _ (0, 0) rfl (rng_three H8.out _ _ _)) rfl ⟨rfl, ?_⟩
        exact HK3.out.fresh (Kept.three (Kept.refl (fun q => q = w.heap.size) _) rfl _ _ _) (fun q hq (e : q = w.heap.size) => by omega)
  · rw [pce_br (t := t) (k := k) (cnt := cnt) (wide := wide) (show Rw.brk 66 = some 123 by decide)]
    have cA := raround_any A n c k cnt 123 t _ HA.out HR.out hn hk hc1 hc2
    obtain ⟨R, hR⟩ : ∃ R, Rw.around t k 123 cnt = R := ⟨_, rfl⟩
    rw [hR] at cA ⊢
    cases R with
    | none =>
      unfold ansB at cA
      simp only at cA
      clear hR g1 g2
      go_enter Tryz.func31, Tryz.ntmps31
      go_wp2_with (go_at_call 66; refine cA.mono ?_; rintro e w3 ⟨hk3, rfl⟩; have h8 : w3.heap[w.heap.size]? = some (rngO 0 0 false) := (hk3.block _ (heap_lt HG.out) id).trans HG.out; have H8 := Lib.hid h8; have HK3 := Lib.hid (HKA.out.trans hk3); obtain ⟨x0, x1, x2⟩ := rng_facts h8; obtain ⟨z0, z1, z2⟩ := rng_free h8; clear h8 hk3 cA)
      refine bodyPost_ret (res_rng2 rfl _ _ _ _ _ _ (0, 0) rfl (rng_three H8.out _ _ _)) rfl ⟨rfl, ?_⟩
      exact HK3.out.fresh (Kept.three (Kept.refl (fun q => q = w.heap.size) _) rfl _ _ _) (fun q hq (e : q = w.heap.size) => by omega)
    | some p =>
      obtain ⟨x, y⟩ := p
      obtain ⟨q1, q2, q3⟩ := around_bound hR
      have hl := HL.out
      have b1 : decide ((0 : Int) ≤ (x : Int)) = true := decide_eq_true (by omega)
      have e1 : IntKind.i64.wrap ((x : Int) + 1) = (x : Int) + 1 := wrapI rfl (by omega) (by omega)
      have e2 : IntKind.i64.wrap (y + 1) = y + 1 := wrapI rfl (by omega) (by omega)
      unfold ansB at cA
      simp only at cA
      clear hR g1 g2
      rcases HWD.out with rfl | rfl
      all_goals
        go_enter Tryz.func31, Tryz.ntmps31
        go_wp2_with (go_at_call 66; refine cA.mono ?_; rintro e w3 ⟨hk3, rfl⟩; have h8 : w3.heap[w.heap.size]? = some (rngO 0 0 false) := (hk3.block _ (heap_lt HG.out) id).trans HG.out; have H8 := Lib.hid h8; have HK3 := Lib.hid (HKA.out.trans hk3); obtain ⟨x0, x1, x2⟩ := rng_facts h8; obtain ⟨z0, z1, z2⟩ := rng_free h8; clear h8 hk3 cA)
        refine bodyPost_ret (res_rng2 rfl _ _ _ _ _ _ (0, 0) rfl (rng_three H8.out _ _ _)) rfl ⟨rfl, ?_⟩
        exact HK3.out.fresh (Kept.three (Kept.refl (fun q => q = w.heap.size) _) rfl _ _ _) (fun q hq (e : q = w.heap.size) => by omega)
  · by_cases hcc : 1 < cnt
    · rw [pce_many (show Rw.brk 112 = none by decide) hcc]
      have d3 : ((cnt : Int) == 1) = false := by rw [beq_eq_false_iff_ne]; omega
      obtain ⟨x0, x1, x2⟩ := g1
      obtain ⟨z0, z1, z2⟩ := g2
      go_enter Tryz.func31, Tryz.ntmps31
      go_wp2_with fail
      refine bodyPost_ret (res_rng2 rfl _ _ _ _ _ _ (0, 0) rfl HG.out) rfl ⟨rfl, HKA.out⟩
    · obtain rfl : cnt = 1 := by omega
      obtain ⟨a, b, l, er, hform⟩ := ansR_form (Rw.pce t k wide 112 1)
      have hf := (pce_p (t := t) (k := k) (wide := wide)).symm.trans hform
      rw [hform]
      clear hform hcc g1 g2
      go_enter Tryz.func31, Tryz.ntmps31
      go_wp2_with (go_at_call 65; refine (rpar_any A n c k wide t _ HA.out hn hk HWD.out).mono ?_; rintro e w3 ⟨he, hk3⟩; rw [hf] at he; subst he; have h8 : w3.heap[w.heap.size]? = some (rngO 0 0 false) := (hk3.block _ (heap_lt HG.out) id).trans HG.out; have H8 := Lib.hid h8; have HK3 := Lib.hid (HKA.out.trans hk3); obtain ⟨x0, x1, x2⟩ := rng_facts h8; obtain ⟨z0, z1, z2⟩ := rng_free h8; clear h8 hk3)
      refine bodyPost_ret (res_rng2 rfl _ _ _ _ _ _ (0, 0) rfl (rng_three H8.out _ _ _)) rfl ⟨rfl, ?_⟩
      exact HK3.out.fresh (Kept.three (Kept.refl (fun q => q = w.heap.size) _) rfl _ _ _) (fun q hq (e : q = w.heap.size) => by omega)
end Go.Proofs.YtbofjefblhnkoaaGreatDoor
