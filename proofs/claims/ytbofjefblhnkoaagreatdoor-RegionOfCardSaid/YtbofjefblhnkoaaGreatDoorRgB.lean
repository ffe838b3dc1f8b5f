/-
  REGIONS: what lies between two offsets, of the program and of the reference.
-/
import Derived.Test.YtbofjefblhnkoaaGreatDoorRgA
import Derived.Deep.RegionWith
import Derived.Lib.MinMax
set_option linter.unusedVariables false
namespace Go.Proofs.YtbofjefblhnkoaaGreatDoor
open Go Go.RowKit

/-- What lies between two offsets. -/
def Rw.bt (t : List Int) (a b : Nat) (kind : Int) : Nat × Nat × Bool :=
  if kind = 0 then (min a b, max a b, false)
  else if kind = 1 then (min a b, if max a b < t.length ∧ t[max a b]? ≠ some 10 then max a b + 1 else max a b, false)
  else (Rw.beg t (min a b), Rw.en t (max a b), true)
theorem Rw.bt_le (t : List Int) (a b : Nat) (kind : Int) (ha : a ≤ t.length) (hb : b ≤ t.length) : (Rw.bt t a b kind).1 ≤ (Rw.bt t a b kind).2.1 ∧ (Rw.bt t a b kind).2.1 ≤ t.length := by
  unfold Rw.bt
  split
  · simp only; omega
  · split
    · simp only
      split
      · next h => obtain ⟨h1, _⟩ := h; omega
      · omega
    · have h1 := Rw.beg_le t (min a b)
      have h2 := Rw.en_ge t (max a b)
      have h3 := Rw.en_le t (max a b) (by omega)
      simp only
      omega
/-- What is told of it. -/
def btR (p : Nat × Nat × Bool) : Value := rngV (p.1 : Nat) (p.2.1 : Nat) p.2.2
theorem Rn.far {S : Nat → Prop} {w w' : World} {A : Option Addr} {n : Nat} {t : List Int} (h : Rn w A n t) (hk : Kept S w w') (hS : ∀ k, k < w.heap.size → ¬ S k) : Rn w' A n t := by
  refine ⟨h.1, fun j x hj => ?_⟩
  obtain ⟨ad, e, r⟩ := h.2 j x hj
  exact ⟨ad, e, cell_kept hk r (hS _ (World.block_lt_of_cell? w _ r))⟩
set_option maxRecDepth 100000 in
set_option maxHeartbeats 2000000 in
theorem pbtw_yes (s : ByteArray) (a b : Nat) (kind : Int) (w : World) (hT : Tabs w) (hm : mayB s = true) (ha : a ≤ (rs s).length) (hb : b ≤ (rs s).length) (hkind : kind = 0 ∨ kind = 1 ∨ kind = 2) :
    Calls Tryz.prog 15 #[.string s, .int .i64 a, .int .i64 b, .int .i64 kind] w fun e w' => e = .returned (.tuple #[btR (Rw.bt (rs s) a b kind), .int .i64 0]) ∧ Kept (fun _ => False) w w' := by
  have hsz := mayB_size hm
  have hl := rs_len s
  have hka : Kept (fun _ => False) w (w.alloc (rngO 0 0 false)) := (Kept.refl _ w).alloc _
  have HKA := Lib.hid hka
  have HG : Hid ((w.alloc (rngO 0 0 false)).heap[w.heap.size]? = some (rngO 0 0 false)) := heap_alloc_new w _
  have cU := runes_yes s a _ (hT.kept hka id id) hm ha
  generalize rs s = t at *
  obtain ⟨n, hn⟩ : ∃ n, t.length = n := ⟨_, rfl⟩
  rw [hn] at cU ha hb hl
  obtain ⟨m, hm'⟩ : ∃ m, min a b = m := ⟨_, rfl⟩
  obtain ⟨M, hM'⟩ : ∃ M, max a b = M := ⟨_, rfl⟩
  have hmI : min (a : Int) (b : Int) = (m : Int) := by omega
  have hMI : max (a : Int) (b : Int) = (M : Int) := by omega
  have hmn : m ≤ n := by omega
  have hMn : M ≤ n := by omega
  have d1 : decide ((b : Int) < 0) = false := decide_eq_false (by omega)
  have d2 : decide (n < b) = false := decide_eq_false (by omega)
  have d3 : decide ((n : Int) < (b : Int)) = false := decide_eq_false (by omega)
  obtain ⟨V, hV⟩ : ∃ V, Rw.bt t a b kind = V := ⟨_, rfl⟩
  have HV : Hid ((kind = 0 → V = (m, M, false)) ∧ (kind = 1 → V = (m, if M < n ∧ t[M]? ≠ some 10 then M + 1 else M, false)) ∧ (kind = 2 → V = (Rw.beg t m, Rw.en t M, true))) := by
    show _ ∧ _
    rw [← hV]
    unfold Rw.bt
    rw [hm', hM', hn]
    exact ⟨fun e => by rw [if_pos e], fun e => by rw [if_neg (by omega), if_pos e], fun e => by rw [if_neg (by omega), if_neg (by omega)]⟩
  rw [hV]
  have HN := Lib.hid hn
  obtain ⟨g, hg⟩ : ∃ g, w.heap.size = g := ⟨_, rfl⟩
  have HGW : Hid (w.heap.size = g) := hg
  clear hT hm hka hm' hM' hV hn
  go_enter Tryz.func15, Tryz.ntmps15
  go_upto_region 4 with (go_at_call 34; refine cU.mono ?_; rintro e w2 ⟨hk2, bb, cap, rfl, hbg, hR⟩; have H7 := Lib.hid ((hk2.block _ (heap_lt HG.out) id).trans HG.out); have HK2 := Lib.hid (HKA.out.trans hk2); have HR := Lib.hid hR; clear hk2 hR cU)
  clear d1 d2 d3
  go_upto_region 5 with fail
  simp only [hg] at H7 ⊢
  clear hg
  have HZ : Hid (g < w2.heap.size) := heap_lt H7.out
  have HK3 : Hid (Kept (fun _ => False) w (w2.alloc (rngO m M false))) := HK2.out.alloc _
  have HG3 : Hid ((w2.alloc (rngO m M false)).heap[g]? = some (rngO 0 0 false)) := (heap_alloc_old w2 _ HZ.out).trans H7.out
  have HY3 : Hid ((w2.alloc (rngO m M false)).heap[w2.heap.size]? = some (rngO m M false)) := heap_alloc_new w2 _
  have HR3 : Hid (Rn (w2.alloc (rngO m M false)) (some ⟨bb, 0, none⟩) n t) := HR.out.far ((Kept.refl (fun _ => False) w2).alloc _) (fun _ _ => id)
  have HRW : Hid (∀ v, Rn ((w2.alloc (rngO m M false)).setCell ⟨w2.heap.size, 0, none⟩ v) (some ⟨bb, 0, none⟩) n t) := fun v => HR.out.far (S := fun q => q = w2.heap.size) (((Kept.refl (fun q => q = w2.heap.size) w2).alloc _).setCell (p := ⟨w2.heap.size, 0, none⟩) rfl v) (fun k hk e => by omega)
  have hzz := HZ.out
  have hgw := HGW.out
  have hbs : w.heap.size ≤ w2.heap.size := by rw [HGW.out]; omega
  clear hmI hMI HR HK2 H7 HZ
  generalize w2.heap.size = g2 at *
  generalize w2.alloc (rngO m M false) = W0 at *
  obtain ⟨f0, f1, f2⟩ := rng_facts HY3.out
  obtain ⟨k0, k1, k2⟩ := rng_free HY3.out
  obtain ⟨d0, d1, d2⟩ := rng_facts HG3.out
  obtain ⟨e0, e1, e2⟩ := rng_free HG3.out
  have hgg1 : ¬ g = g2 := by omega
  have hgg2 : ¬ g2 = g := by omega
  have HKg : Hid (∀ W, Kept (fun q => q = g ∨ q = g2) W0 W → Kept (fun _ => False) w W) := fun W h => HK3.out.fresh h (fun q hq (e : q = g ∨ q = g2) => by have := HGW.out; omega)
  have HNB := HN.out
  rcases hkind with rfl | rfl | rfl
  · obtain rfl := HV.out.1 rfl
    clear hgw
    go_wp2_with fail
    refine bodyPost_ret (res_rng2 rfl _ _ g _ _ _ (0, 0) rfl (rng_three HG3.out _ _ _)) rfl ⟨rfl, HKg.out _ (Kept.three (Kept.refl _ _) (.inl rfl) _ _ _)⟩
  · have hVV := HV.out.2.1 rfl
    have hc : (V = (m, M, false) ∧ (M = n ∨ M < n ∧ W0.cell? ⟨bb, M, none⟩ = some (.int .i32 10))) ∨ (V = (m, M + 1, false) ∧ ∃ y, M < n ∧ y ≠ 10 ∧ W0.cell? ⟨bb, M, none⟩ = some (.int .i32 y)) := by
      by_cases h : M < n
      · obtain ⟨ad, y, e, hy1, hy⟩ := HR3.out.cell h
        injection e with e
        rw [← e, addr_add, Nat.zero_add] at hy
        by_cases h10 : y = 10
        · subst h10
          rw [if_neg (fun hh => hh.2 hy1)] at hVV
          exact .inl ⟨hVV, .inr ⟨h, hy⟩⟩
        · rw [if_pos ⟨h, fun hh => h10 (by rw [hy1] at hh; injection hh)⟩] at hVV
          exact .inr ⟨hVV, y, h, h10, hy⟩
      · rw [if_neg (fun hh => h hh.1)] at hVV
        exact .inl ⟨hVV, .inl (by omega)⟩
    clear hVV HNB hgw
    rcases hc with ⟨rfl, rfl | ⟨hlt, hy⟩⟩ | ⟨rfl, y, hlt, h10, hy⟩
    · have b1 : decide (M < M) = false := by simp
      go_wp2_with fail
      refine bodyPost_ret (res_rng2 rfl _ _ g _ _ _ (0, 0) rfl (rng_three HG3.out _ _ _)) rfl ⟨rfl, HKg.out _ (Kept.three (Kept.refl _ _) (.inl rfl) _ _ _)⟩
    · have b1 : decide (M < n) = true := decide_eq_true hlt
      have b2 : decide ((M : Int) < (n : Int)) = true := decide_eq_true (by omega)
      go_wp2_with fail
      refine bodyPost_ret (res_rng2 rfl _ _ g _ _ _ (0, 0) rfl (rng_three HG3.out _ _ _)) rfl ⟨rfl, HKg.out _ (Kept.three (Kept.refl _ _) (.inl rfl) _ _ _)⟩
    · have b1 : decide (M < n) = true := decide_eq_true hlt
      have b2 : decide ((M : Int) < (n : Int)) = true := decide_eq_true (by omega)
      have d4 : (y == 10) = false := by rw [beq_eq_false_iff_ne]; exact h10
      have d5 : (y != 10) = true := by simp [h10]
      clear h10
      go_wp2_with fail
      refine bodyPost_ret (res_rng2 rfl _ _ g _ _ _ (0, 0) rfl (rng_three ((heap_far hgg1 _).trans HG3.out) _ _ _)) rfl ⟨rfl, HKg.out _ (Kept.three ((Kept.refl _ W0).setCell (p := ⟨g2, 1, none⟩) (.inr rfl) _) (.inl rfl) _ _ _)⟩
  · obtain rfl := HV.out.2.2 rfl
    clear hgw HNB
    have cR1 := row_any (some ⟨bb, 0, none⟩) n cap t m W0 HR3.out hmn (by omega)
    have cR2 := row_any (some ⟨bb, 0, none⟩) n cap t M _ (HRW.out (.int .i64 (Rw.beg t m : Nat))) hMn (by omega)
    go_wp2_with fail
    refine cR1.mono ?_
    rintro e w3 ⟨rfl, hw⟩
    have hw2 := hw.symm
    subst hw2
    clear cR1 hw
    go_wp2_with fail
    refine cR2.mono ?_
    rintro e w3 ⟨rfl, hw⟩
    have hw2 := hw.symm
    subst hw2
    clear cR2 hw
    go_wp2_with fail
    refine bodyPost_ret (res_rng2 rfl _ _ g _ _ _ (0, 0) rfl (rng_three ((heap_far hgg1 _).trans ((heap_far hgg1 _).trans ((heap_far hgg1 _).trans HG3.out))) _ _ _)) rfl ⟨rfl, HKg.out _ (Kept.three (Kept.three (Kept.refl _ W0) (.inr rfl) _ _ _) (.inl rfl) _ _ _)⟩
set_option maxRecDepth 100000 in
set_option maxHeartbeats 2000000 in
theorem pbtw_no (s : ByteArray) (a b kind : Int) (w : World) (hs : s.size ≤ 140737488351232) (hT : Tabs w) (hno : ¬ (mayB s = true ∧ (0 ≤ a ∧ a ≤ ((rs s).length : Int)) ∧ (0 ≤ b ∧ b ≤ ((rs s).length : Int)) ∧ 0 ≤ kind ∧ kind ≤ 2)) :
    Calls Tryz.prog 15 #[.string s, .int .i64 a, .int .i64 b, .int .i64 kind] w fun e w' => e = .returned (.tuple #[rngV 0 0 false, .int .i64 1]) ∧ Kept (fun _ => False) w w' := by
  have hka : Kept (fun _ => False) w (w.alloc (rngO 0 0 false)) := (Kept.refl _ w).alloc _
  have HKA := Lib.hid hka
  have HG : Hid ((w.alloc (rngO 0 0 false)).heap[w.heap.size]? = some (rngO 0 0 false)) := heap_alloc_new w _
  by_cases hy : mayB s = true ∧ 0 ≤ a ∧ a ≤ ((rs s).length : Int)
  · obtain ⟨hm, h0, h1⟩ := id hy
    obtain ⟨k, rfl⟩ := Int.eq_ofNat_of_zero_le h0
    have cU := runes_yes s k _ (hT.kept hka id id) hm (by omega)
    have hways : b < 0 ∨ (0 ≤ b ∧ ((rs s).length : Int) < b) ∨ (0 ≤ b ∧ b ≤ ((rs s).length : Int) ∧ ¬ (0 ≤ kind ∧ kind ≤ 2)) := by
      by_cases h2 : b < 0
      · exact .inl h2
      · by_cases h3 : ((rs s).length : Int) < b
        · exact .inr (.inl ⟨by omega, h3⟩)
        · exact .inr (.inr ⟨by omega, by omega, fun h => hno ⟨hm, ⟨h0, h1⟩, ⟨by omega, by omega⟩, h⟩⟩)
    have hl := rs_len s
    clear hT hm h0 h1 hy hno hka
    generalize rs s = t at *
    rcases hways with c1 | ⟨c1, c2⟩ | ⟨c1, c2, c3⟩
    · have d1 : decide (b < 0) = true := decide_eq_true c1
      go_enter Tryz.func15, Tryz.ntmps15
      go_wp2_with (go_at_call 34; refine cU.mono ?_; rintro e w2 ⟨hk2, bb, cap, rfl, hbg, hR⟩; have h8 : w2.heap[w.heap.size]? = some (rngO 0 0 false) := (hk2.block _ (heap_lt HG.out) id).trans HG.out; have H7 := Lib.hid h8; have HK2 := Lib.hid (HKA.out.trans hk2); obtain ⟨f0, f1, f2⟩ := rng_facts h8; obtain ⟨y0, y1, y2⟩ := rng_free h8; clear h8 hk2 hR cU)
      refine bodyPost_ret (res_rng2 rfl _ _ _ _ _ _ (0, 0) rfl (rng_three H7.out _ _ _)) rfl ⟨rfl, ?_⟩
      exact HK2.out.fresh (Kept.three (Kept.refl (fun q => q = w.heap.size) _) rfl _ _ _) (fun q hq (e : q = w.heap.size) => by omega)
    · have d1 : decide (b < 0) = false := decide_eq_false (by omega)
      have d2 : decide ((t.length : Int) < b) = true := decide_eq_true c2
      go_enter Tryz.func15, Tryz.ntmps15
      go_wp2_with (go_at_call 34; refine cU.mono ?_; rintro e w2 ⟨hk2, bb, cap, rfl, hbg, hR⟩; have h8 : w2.heap[w.heap.size]? = some (rngO 0 0 false) := (hk2.block _ (heap_lt HG.out) id).trans HG.out; have H7 := Lib.hid h8; have HK2 := Lib.hid (HKA.out.trans hk2); obtain ⟨f0, f1, f2⟩ := rng_facts h8; obtain ⟨y0, y1, y2⟩ := rng_free h8; clear h8 hk2 hR cU)
      refine bodyPost_ret (res_rng2 rfl _ _ _ _ _ _ (0, 0) rfl (rng_three H7.out _ _ _)) rfl ⟨rfl, ?_⟩
      exact HK2.out.fresh (Kept.three (Kept.refl (fun q => q = w.heap.size) _) rfl _ _ _) (fun q hq (e : q = w.heap.size) => by omega)
    · have d1 : decide (b < 0) = false := decide_eq_false (by omega)
      have d2 : decide ((t.length : Int) < b) = false := decide_eq_false (by omega)
      have k1 : (kind == 0) = false := beq_eq_false_iff_ne.2 (by omega)
      have k2 : (kind == 1) = false := beq_eq_false_iff_ne.2 (by omega)
      have k3 : (kind == 2) = false := beq_eq_false_iff_ne.2 (by omega)
      clear c3
      go_enter Tryz.func15, Tryz.ntmps15
      go_upto_region 4 with (go_at_call 34; refine cU.mono ?_; rintro e w2 ⟨hk2, bb, cap, rfl, hbg, hR⟩; have H7 := Lib.hid ((hk2.block _ (heap_lt HG.out) id).trans HG.out); have HK2 := Lib.hid (HKA.out.trans hk2); clear hk2 hR cU)
      go_upto_region 5 with fail
      have HZ : Hid (w.heap.size < w2.heap.size) := heap_lt H7.out
      have h8 : (w2.alloc (rngO (min (k : Int) b) (max (k : Int) b) false)).heap[w.heap.size]? = some (rngO 0 0 false) := (heap_alloc_old w2 _ HZ.out).trans H7.out
      have H8 := Lib.hid h8
      have HK3 : Hid (Kept (fun _ => False) w (w2.alloc (rngO (min (k : Int) b) (max (k : Int) b) false))) := HK2.out.alloc _
      obtain ⟨f0, f1, f2⟩ := rng_facts h8
      obtain ⟨y0, y1, y2⟩ := rng_free h8
      clear h8
      generalize w2.alloc (rngO (min (k : Int) b) (max (k : Int) b) false) = W0 at *
      go_wp2_with fail
      refine bodyPost_ret (res_rng2 rfl _ _ _ _ _ _ (0, 0) rfl (rng_three H8.out _ _ _)) rfl ⟨rfl, ?_⟩
      exact HK3.out.fresh (Kept.three (Kept.refl (fun q => q = w.heap.size) _) rfl _ _ _) (fun q hq (e : q = w.heap.size) => by omega)
  · have cU := runes_no s a _ hs (hT.kept hka id id) hy
    clear hT hno hy hka
    go_enter Tryz.func15, Tryz.ntmps15
    go_wp2_with (go_at_call 34; refine cU.mono ?_; rintro e w2 ⟨hk2, rfl⟩; have h8 : w2.heap[w.heap.size]? = some (rngO 0 0 false) := (hk2.block _ (heap_lt HG.out) id).trans HG.out; have H7 := Lib.hid h8; have HK2 := Lib.hid (HKA.out.trans hk2); obtain ⟨f0, f1, f2⟩ := rng_facts h8; obtain ⟨y0, y1, y2⟩ := rng_free h8; clear h8 hk2 cU)
    refine bodyPost_ret (res_rng2 rfl _ _ _ _ _ _ (0, 0) rfl (rng_three H7.out _ _ _)) rfl ⟨rfl, ?_⟩
    exact HK2.out.fresh (Kept.three (Kept.refl (fun q => q = w.heap.size) _) rfl _ _ _) (fun q hq (e : q = w.heap.size) => by omega)
set_option maxRecDepth 100000 in
set_option maxHeartbeats 2000000 in
theorem rbtw_yes (A : Option Addr) (n c : Nat) (t : List Int) (a b : Nat) (kind : Int) (w : World) (hA : Rn w A n t) (ha : a ≤ n) (hb : b ≤ n) (hn : n ≤ 6000) (hkind : kind = 0 ∨ kind = 1 ∨ kind = 2) :
    Calls Tryz.prog 18 #[.slice A n c, .int .i64 a, .int .i64 b, .int .i64 kind] w fun e w' => e = .returned (btR (Rw.bt t a b kind)) ∧ Kept (fun _ => False) w w' := by
  obtain ⟨m, hm⟩ : ∃ m, min a b = m := ⟨_, rfl⟩
  obtain ⟨M, hM⟩ : ∃ M, max a b = M := ⟨_, rfl⟩
  have hmI : min (a : Int) (b : Int) = (m : Int) := by omega
  have hMI : max (a : Int) (b : Int) = (M : Int) := by omega
  have hmn : m ≤ n := by omega
  have hMn : M ≤ n := by omega
  obtain ⟨V, hV⟩ : ∃ V, Rw.bt t a b kind = V := ⟨_, rfl⟩
  have HV : Hid ((kind = 0 → V = (m, M, false)) ∧ (kind = 1 → V = (m, if M < n ∧ t[M]? ≠ some 10 then M + 1 else M, false)) ∧ (kind = 2 → V = (Rw.beg t m, Rw.en t M, true))) := by
    show _ ∧ _
    rw [← hV]
    unfold Rw.bt
    rw [hm, hM, hA.1]
    exact ⟨fun e => by rw [if_pos e], fun e => by rw [if_neg (by omega), if_pos e], fun e => by rw [if_neg (by omega), if_neg (by omega)]⟩
  rw [hV]
  clear hV
  have hka : Kept (fun _ => False) w ((w.alloc (rngO 0 0 false)).alloc (rngO m M false)) := ((Kept.refl _ w).alloc _).alloc _
  have hR := hA.kept hka (fun _ _ => id)
  have HG0 : Hid (((w.alloc (rngO 0 0 false)).alloc (rngO m M false)).heap[w.heap.size]? = some (rngO 0 0 false)) := (heap_alloc_old (w.alloc (rngO 0 0 false)) _ (heap_lt (heap_alloc_new w _))).trans (heap_alloc_new w _)
  have HY0 : Hid (((w.alloc (rngO 0 0 false)).alloc (rngO m M false)).heap[w.heap.size + 1]? = some (rngO m M false)) := by show _ = _; have := heap_alloc_new (w.alloc (rngO 0 0 false)) (rngO m M false); simpa using this
  have HKA := Lib.hid hka
  have HR := Lib.hid hR
  obtain ⟨g, hg⟩ : ∃ g, w.heap.size = g := ⟨_, rfl⟩
  have HG := Lib.hid hg
  rw [hg] at HG0 HY0
  clear hA hka hg hR hm hM
  go_enter Tryz.func18, Tryz.ntmps18
  go_upto_region 2 with fail
  simp only [HG.out]
  generalize (w.alloc (rngO 0 0 false)).alloc (rngO m M false) = W0 at *
  obtain ⟨f0, f1, f2⟩ := rng_facts HY0.out
  obtain ⟨k0, k1, k2⟩ := rng_free HY0.out
  obtain ⟨d0, d1, d2⟩ := rng_facts HG0.out
  obtain ⟨e0, e1, e2⟩ := rng_free HG0.out
  have cB := fun (q : Nat) => rbegin_any A n c t m (W0.drewN q) (HR.out.drewN q) hmn (by omega)
  have cE := fun (q : Nat) => rend_any A n c t M (W0.drewN q) (HR.out.drewN q) hMn (by omega)
  clear hmI hMI
  have hgg1 : ¬ g = g + 1 := by omega
  have hgg2 : ¬ g + 1 = g := by omega
  rcases hkind with rfl | rfl | rfl
  · obtain rfl := HV.out.1 rfl
    go_wp2
    refine bodyPost_ret (res_rng rfl _ _ g _ _ _ (0, 0) rfl (rng_three HG0.out _ _ _)) rfl ⟨rfl, ?_⟩
    exact HKA.out.fresh (Kept.three (Kept.refl (fun q => q = g) _) rfl _ _ _) (fun q hq (e : q = g) => by have := HG.out; omega)
  · have hVV := HV.out.2.1 rfl
    have hc : (V = (m, M, false) ∧ (M = n ∨ ∃ ad, A = some ad ∧ M < n ∧ W0.cell? (ad.add M) = some (.int .i32 10))) ∨ (V = (m, M + 1, false) ∧ ∃ y ad, A = some ad ∧ M < n ∧ y ≠ 10 ∧ W0.cell? (ad.add M) = some (.int .i32 y)) := by
      by_cases h : M < n
      · obtain ⟨ad, y, e, hy1, hy⟩ := HR.out.cell h
        by_cases h10 : y = 10
        · subst h10
          rw [if_neg (fun hh => hh.2 hy1)] at hVV
          exact .inl ⟨hVV, .inr ⟨ad, e, h, hy⟩⟩
        · rw [if_pos ⟨h, fun hh => h10 (by rw [hy1] at hh; injection hh)⟩] at hVV
          exact .inr ⟨hVV, y, ad, e, h, h10, hy⟩
      · rw [if_neg (fun hh => h hh.1)] at hVV
        exact .inl ⟨hVV, .inl (by omega)⟩
    clear hVV
    rcases hc with ⟨rfl, rfl | ⟨ad, rfl, hlt, hy⟩⟩ | ⟨rfl, y, ad, rfl, hlt, h10, hy⟩
    · have b1 : decide (M < M) = false := by simp
      go_wp2
      refine bodyPost_ret (res_rng rfl _ _ g _ _ _ (0, 0) rfl (rng_three HG0.out _ _ _)) rfl ⟨rfl, ?_⟩
      exact HKA.out.fresh (Kept.three (Kept.refl (fun q => q = g) _) rfl _ _ _) (fun q hq (e : q = g) => by have := HG.out; omega)
    · have b1 : decide (M < n) = true := decide_eq_true hlt
      have b2 : decide ((M : Int) < (n : Int)) = true := decide_eq_true (by omega)
      go_wp2
      refine bodyPost_ret (res_rng rfl _ _ g _ _ _ (0, 0) rfl (rng_three HG0.out _ _ _)) rfl ⟨rfl, ?_⟩
      exact HKA.out.fresh (Kept.three (Kept.refl (fun q => q = g) _) rfl _ _ _) (fun q hq (e : q = g) => by have := HG.out; omega)
    · have b1 : decide (M < n) = true := decide_eq_true hlt
      have b2 : decide ((M : Int) < (n : Int)) = true := decide_eq_true (by omega)
      have d4 : (y == 10) = false := by rw [beq_eq_false_iff_ne]; exact h10
      have d5 : (y != 10) = true := by simp [h10]
      clear h10
      go_wp2
      refine bodyPost_ret (res_rng rfl _ _ g _ _ _ (0, 0) rfl (rng_three ((heap_far (by omega) _).trans HG0.out) _ _ _)) rfl ⟨rfl, ?_⟩
      exact HKA.out.fresh (Kept.three ((Kept.refl (fun q => q = g ∨ q = g + 1) W0).setCell (p := ⟨g + 1, 1, none⟩) (.inr rfl) _) (.inl rfl) _ _ _) (fun q hq (e : q = g ∨ q = g + 1) => by have := HG.out; omega)
  · obtain rfl := HV.out.2.2 rfl
    have HXd : Hid (∀ (q : Nat) v0 v1 v2, ((((W0.drewN q).setCell ⟨g + 1, 0, none⟩ v0).setCell ⟨g + 1, 1, none⟩ v1).setCell ⟨g + 1, 2, none⟩ v2).heap[g]? = some (rngO 0 0 false)) := fun q v0 v1 v2 => (heap_far hgg1 _).trans ((heap_far hgg1 _).trans ((heap_far hgg1 _).trans HG0.out))
    have HKd : Hid (∀ (q : Nat) v0 v1 v2 u0 u1 u2, Kept (fun _ => False) w (((((((W0.drewN q).setCell ⟨g + 1, 0, none⟩ v0).setCell ⟨g + 1, 1, none⟩ v1).setCell ⟨g + 1, 2, none⟩ v2).setCell ⟨g, 0, none⟩ u0).setCell ⟨g, 1, none⟩ u1).setCell ⟨g, 2, none⟩ u2)) := fun q v0 v1 v2 u0 u1 u2 =>
      (HKA.out.drewN q).fresh (Kept.three (Kept.three (Kept.refl (fun r => r = g ∨ r = g + 1) _) (.inr rfl) _ _ _) (.inl rfl) _ _ _) (fun r hr (e : r = g ∨ r = g + 1) => by have := HG.out; omega)
    go_upto_region 7 with fail
    go_region_with (first
      | (go_at_call 36; refine (cB _).mono ?_; rintro e w2 ⟨rfl, hw⟩; have hw2 := hw.symm; subst hw2)
      | (go_at_call 37; refine (cE _).mono ?_; rintro e w2 ⟨rfl, hw⟩; have hw2 := hw.symm; subst hw2))
    all_goals
      go_wp2_with fail
      refine bodyPost_ret (res_rng rfl _ _ g _ _ _ (0, 0) rfl (rng_three (HXd.out _ _ _ _) _ _ _)) rfl ⟨rfl, ?_⟩
      exact HKd.out _ _ _ _ _ _ _
end Go.Proofs.YtbofjefblhnkoaaGreatDoor
