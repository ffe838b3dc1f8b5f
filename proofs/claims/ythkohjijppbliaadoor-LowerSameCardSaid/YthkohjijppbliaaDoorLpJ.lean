/-
  ELEMENTS: slices.Insert, walked.
-/
import Derived.Test.YthkohjijppbliaaDoorLpI
set_option linter.unusedVariables false
namespace Go.Proofs.YthkohjijppbliaaDoor
open Go Go.RowKit

set_option maxRecDepth 100000 in
set_option maxHeartbeats 4000000 in
theorem einsert_zero (A kA : Option Addr) (n c i kc : Nat) (w : World) (hi : i ≤ n) (hc : n ≤ c) :
    Calls Tryd.prog 79 #[.slice A n c, .int .i64 i, .slice kA 0 kc] w fun e w' => e = .returned (.slice A n c) ∧ w' = w := by
  have t1 : (0 : Int) ≤ (i : Int) := by omega
  have t2 : (i : Int) ≤ (n : Int) := by omega
  go_enter Tryd.func79, Tryd.ntmps79
  go_wp2_with fail
  all_goals
    go_ret
    exact ⟨rfl, rfl⟩
set_option maxRecDepth 100000 in
set_option maxHeartbeats 4000000 in
theorem einsert_end (v : Value) (B n m kc : Nat) (ka : Addr) (L K : List ElemS) (w : World) (hv : Oe w B v L) (hn : L.length = n) (hk : Eg w (some ka) m K) (hm : 0 < m) (hb : n + m ≤ 100000) (hB : B ≤ w.heap.size) :
    Calls Tryd.prog 79 #[v, .int .i64 n, .slice (some ka) m kc] w fun e w' => (∃ v', e = .returned v' ∧ Oe w' B v' (L ++ K)) ∧ Kept (fun z => v.ownBlock = some z) w w' := by
  obtain ⟨A, c, hv2⟩ := hv.form
  rw [hn] at hv2
  subst hv2
  have hnc : n ≤ c := by
    obtain ⟨A', n', c', h1, _, h3, _⟩ := hv.se
    injection h1 with h1 h2 h4
    omega
  have t1 : (0 : Int) ≤ (n : Int) := by omega
  have b1 : ((m : Int) == 0) = false := by rw [beq_eq_false_iff_ne]; omega
  have b2 : (m == 0) = false := by rw [beq_eq_false_iff_ne]; omega
  have b3 : ((n : Int) == (n : Int)) = true := by rw [beq_iff_eq]
  have HV := Lib.hid hv
  have HK := Lib.hid hk
  obtain ⟨OB, hOB⟩ : ∃ OB, (Value.slice A n c).ownBlock = OB := ⟨_, rfl⟩
  rw [hOB]
  have HOB := Lib.hid hOB
  clear hOB
  have HBN : Hid (L.length + m ≤ 100000) := by show _ ≤ _; omega
  have HBB := Lib.hid hB
  clear hv hk hn hB
  go_enter Tryd.func79, Tryd.ntmps79
  go_wp2_with (at_builtin; refine wpList_app_els rfl (.tmp 23) (.tmp 24) rfl B _ _ rfl HV.out (some ka) m _ K rfl HK.out (fun h => by cases h) HBN.out HBB.out ?_; intro T7 w7 hown7 hgrow7 hat7; have HO7 := Lib.hid hown7; have HG7 : Hid (w.grownBy w7 OB) := (by rw [← HOB.out]; exact hgrow7); clear hown7 hgrow7 hat7)
  all_goals
    go_ret
    exact ⟨⟨_, rfl, HO7.out⟩, ⟨HG7.out.os, HG7.out.tape, HG7.out.output, HG7.out.size, fun k hk hs => HG7.out.block k hk (fun e => hs e.symm)⟩⟩
set_option maxRecDepth 100000 in
set_option maxHeartbeats 4000000 in
theorem einsert_room (g B n c m kc vb i : Nat) (L K : List ElemS) (w : World) (hv : Em w g c L) (hn : L.length = n) (hk : Em w vb kc K) (hmK : K.length = m) (hm : 0 < m) (hi : i < n) (hroom : n + m ≤ c) (hvb : vb ≠ g) (hcm : c ≤ maxLen) :
    Calls Tryd.prog 79 #[.slice (some ⟨g, 0, none⟩) n c, .int .i64 i, .slice (some ⟨vb, 0, none⟩) m kc] w fun e w' => (e = .returned (.slice (some ⟨g, 0, none⟩) (n + m) c) ∧ Em w' g c (L.take i ++ K ++ L.drop i)) ∧ Kept (fun z => z = g) w w' := by
  have hcm' : c ≤ 9223372036854775807 := by unfold maxLen at hcm; omega
  have e1 := fun u => cutE_l u g n c i (i : Int) rfl (by omega) (by omega) (by omega)
  have t1 : (0 : Int) ≤ (i : Int) := by omega
  have t2 : (i : Int) ≤ (n : Int) := by omega
  have b0 : ((i : Int) == (n : Int)) = false := beq_eq_false_iff_ne.2 (by omega)
  have b1 : ((m : Int) == 0) = false := by rw [beq_eq_false_iff_ne]; omega
  have b2 : (m == 0) = false := by rw [beq_eq_false_iff_ne]; omega
  have ea : IntKind.i64.wrap ((n : Int) + (m : Int)) = (n : Int) + (m : Int) := IntWalk.i64_in _ ⟨by omega, by omega⟩
  have eb : IntKind.i64.wrap ((i : Int) + (m : Int)) = (i : Int) + (m : Int) := IntWalk.i64_in _ ⟨by omega, by omega⟩
  have e2 := fun u => cutE_h u g n c (n + m) ((n : Int) + (m : Int)) (by omega) (by omega) (by omega)
  have e3 := fun u => cutE_l u g (n + m) c (i + m) ((i : Int) + (m : Int)) (by omega) (by omega) (by omega) (by omega)
  have e4 := fun u => cutE_l u g (n + m) c i (i : Int) rfl (by omega) (by omega) (by omega)
  have b5 : decide ((c : Int) < (n : Int) + (m : Int)) = false := decide_eq_false (by omega)
  have b6 : decide (c < n + m) = false := decide_eq_false (by omega)
  obtain ⟨cur, hc1, hc2, _⟩ := hv.h
  obtain ⟨cuk, hd1, hd2, _⟩ := hk.h
  have hov : ∀ lb cb, (callFunc 106 #[.slice (some ⟨vb, 0, none⟩) m kc, .slice (some ⟨g, (i + m) * 4, none⟩) lb cb]).run Tryd.prog w = .ok (.value (.bool false)) w := fun lb cb => by
    rw [run_callFunc_extern Tryd.func106 (by kernel_rfl) (by kernel_rfl) (by kernel_rfl) (e := Extern.SlicesOverlaps.overlaps #[22, 22] #[4]) (by kernel_rfl),
      Lib.run_overlaps_apart w 22 4 71 Tryd.underlying22 4 (fun w => by kernel_rfl) ⟨vb, 0, none⟩ ⟨g, (i + m) * 4, none⟩ m kc lb cb hvb 71 71 (kc * 4) (c * 4) (by unfold World.shape?; simp only [hd1]; rw [hd2]) (by unfold World.shape?; simp only [hc1]; rw [hc2]) (by omega) (frozen_of hd1) (frozen_of hd1)]
    rfl
  have hdr : Kept (fun _ => False) w w.drew := (Kept.refl _ _).drew
  have hvd : Em w.drew g c L := ⟨⟨cur, hc1, hc2, by assumption⟩, hv.le⟩
  obtain ⟨wa, wb, hq1, hq2, hrm, hkk⟩ := hvd.shift (K := K) hn hmK hi hroom vb kc hvb (fun j u hj => cell_kept hdr (hk.cell hj) id)
  rw [show n + m - (i + m) = n - i by omega] at hq1
  have HRM := Lib.hid hrm
  have HKK := Lib.hid (((Kept.refl (fun q => q = g) w).drew).trans hkk)
  have hn1 : n + m - (i + m) = n - i := by omega
  clear hrm hkk hv hk hc1 hc2 hd1 hd2 hdr hvd hcm
  go_enter Tryd.func79, Tryd.ntmps79
  go_wp2_with (simp only [hov])
  go_region_law (refine step_copy_runI rfl _ _ 22 22 rfl _ _ (by simp [Act.eval, Act.put]) (by simp [Act.eval, Act.put]) (hq1 _ _ _) ?_)
  all_goals
    go_wp2_with (at_builtin; refine wpList_copy_runI _ rfl _ _ 22 22 rfl _ _ rfl rfl (hq2 _ _) ?_)
    go_ret
    exact ⟨⟨rfl, HRM.out⟩, HKK.out⟩
theorem app_zero (w : World) (g i c k : Nat) (pre : List Value) (hpl : pre.length = i * 4) (hpre : ∀ j u, pre[j]? = some u → w.cell? ⟨g, j, none⟩ = some u) (h0 : 0 < k) (hc : c < i + k) (hb : i + k ≤ 100000) :
    ∃ G W1, (∀ ty, (Builtin.append_ #[22, 3] ty #[.slice (some ⟨g, 0, none⟩) i c, .int .i64 (k : Int)]).run Tryd.prog w = .ok (.slice (some ⟨w.heap.size, 0, none⟩) (i + k) G) W1) ∧
      (∃ cur : Array Value, W1.heap[w.heap.size]? = some (.cells cur 71 (0, 0)) ∧ cur.size = G * 4 ∧ cur.toList.take (i * 4) = pre) ∧ i + k ≤ G ∧ G ≤ maxLen ∧ Kept (fun _ => False) w W1 := by
  obtain ⟨i0, hi, hz0, hz1, hz2⟩ := info_parts info_elem
  have hold : (Builtin.firstCells i0.size i (.slice (some ⟨g, 0, none⟩) i c)).run Tryd.prog w.drew = .ok pre.toArray w.drew :=
    run_firstCells_some w.drew i0.size i ⟨g, 0, none⟩ i c pre (by rw [hz1]; exact hpl) (fun j u hj => by rw [addr_add, Nat.zero_add]; exact hpre j u hj)
  have hge := grownCap_ge w (i + k) c 71
  have hle := grownCap_le_maxLen w (i + k) c 71 (by unfold maxLen; omega)
  refine ⟨_, _, fun ty => Lib.run_append_grow_zeros w 22 3 ty 71 i0 _ .i64 .i64 Tryd.underlying22 Tryd.underlying3 hi hz0 (some ⟨g, 0, none⟩) i c pre hold k h0 (by rw [hz1]; decide) hc (by omega) (by rw [hz2]; omega) (growslice_fits hc (by rw [hz2]; omega)), ⟨_, heap_alloc_new w.drew _, ?_, ?_⟩, hge, hle, ?_⟩
  · rw [Array.size_append, Array.size_append, size_zeroCells, size_zeroCells, List.size_toArray, hpl]
    show i * 4 + k * 4 + (grownCap w (i + k) c 71 - (i + k)) * 4 = _
    omega
  · rw [Array.toList_append, Array.toList_append, List.append_assoc, ← hpl]
    exact List.take_left
  · exact (Kept.refl (fun _ => False) w).drew.alloc _
set_option maxRecDepth 100000 in
set_option maxHeartbeats 4000000 in
theorem einsert_grow (g B n c m kc vb i : Nat) (L K : List ElemS) (w : World) (hv : Em w g c L) (hn : L.length = n) (hk : Em w vb kc K) (hmK : K.length = m) (hm : 0 < m) (hi : i < n) (hroom : c < n + m) (hb : n + m ≤ 100000) (hB : B ≤ w.heap.size) :
    Calls Tryd.prog 79 #[.slice (some ⟨g, 0, none⟩) n c, .int .i64 i, .slice (some ⟨vb, 0, none⟩) m kc] w fun e w' => (∃ v', e = .returned v' ∧ Oe w' B v' (L.take i ++ K ++ L.drop i)) ∧ Kept (fun _ => False) w w' := by
  have hnc := hv.le
  have hgl := hv.lt
  have hvl := hk.lt
  have e1 := fun u => cutE_l u g n c i (i : Int) rfl (by omega) (by omega) (by omega)
  have e2 := fun u => cutE_h u g n c i (i : Int) rfl (by omega) (by omega)
  have t1 : (0 : Int) ≤ (i : Int) := by omega
  have t2 : (i : Int) ≤ (n : Int) := by omega
  have b0 : ((i : Int) == (n : Int)) = false := beq_eq_false_iff_ne.2 (by omega)
  have b1 : ((m : Int) == 0) = false := by rw [beq_eq_false_iff_ne]; omega
  have b2 : (m == 0) = false := by rw [beq_eq_false_iff_ne]; omega
  have ea : IntKind.i64.wrap ((n : Int) + (m : Int)) = (n : Int) + (m : Int) := IntWalk.i64_in _ ⟨by omega, by omega⟩
  have eb : IntKind.i64.wrap ((i : Int) + (m : Int)) = (i : Int) + (m : Int) := IntWalk.i64_in _ ⟨by omega, by omega⟩
  have ec : IntKind.i64.wrap ((n : Int) + (m : Int) - (i : Int)) = (n : Int) + (m : Int) - (i : Int) := IntWalk.i64_in _ ⟨by omega, by omega⟩
  have b5 : decide ((c : Int) < (n : Int) + (m : Int)) = true := decide_eq_true (by omega)
  have b6 : decide (c < n + m) = true := decide_eq_true (by omega)
  obtain ⟨G, W1, hrz, ⟨cur, hcu1, hcu2, hcu3⟩, hG1, hG2, hk1⟩ := app_zero w g i c (n + m - i) (flatE (L.take i)) (by rw [flatE_len, List.length_take]; congr 1; omega) (fun j u hj => by
    rw [← flatE_take L i (by omega), List.getElem?_take] at hj
    split at hj
    · exact hv.cell hj
    · cases hj) (by omega) (by omega) (by omega)
  rw [show i + (n + m - i) = n + m by omega] at hrz hG1
  rw [show ((n + m - i : Nat) : Int) = (n : Int) + (m : Int) - (i : Int) by omega] at hrz
  have hG3 : G ≤ 9223372036854775807 := by unfold maxLen at hG2; omega
  obtain ⟨N, hNN⟩ : ∃ N, w.heap.size = N := ⟨_, rfl⟩
  rw [hNN] at hrz hcu1 hgl hvl
  have hcl : cur.toList.length = G * 4 := by rw [Array.length_toList]; exact hcu2
  have hKl : (flatE K).length = m * 4 := by rw [flatE_len, hmK]
  have hDl : (flatE (L.drop i)).length = (n - i) * 4 := by rw [flatE_len, List.length_drop, hn]
  have hq1 := fun ty dc => run_copyE W1 ty N (i * 4) (n + m - i) dc ⟨vb, 0, none⟩ m kc m (flatE K) cur (by simp only [Nat.min_def]; split <;> omega) hKl (fun j u hj => by rw [addr_add, Nat.zero_add]; exact cell_kept hk1 (hk.cell hj) id) hcu1 (by rw [hKl, hcu2]; omega) flatE_one'
  have hl1 := put_len (c := cur.toList) (o := i * 4) (cs := flatE K) (by rw [hKl, hcl]; omega)
  have ht1 := put_take (c := cur.toList) (o := i * 4) (cs := flatE K) (by rw [hcl]; omega) hKl
  obtain ⟨c1, hc1e⟩ : ∃ c1, put cur.toList (i * 4) (flatE K) = c1 := ⟨_, rfl⟩
  rw [hc1e] at hq1 hl1 ht1
  have hW2 : (W1.setRow N c1.toArray).heap[N]? = some (.cells c1.toArray 71 (0, 0)) := setRow_heap W1 N cur _ _ _ hcu1
  have hk2 : Kept (fun q => q = N) W1 (W1.setRow N c1.toArray) := (Kept.refl (fun q => q = N) W1).setRow rfl _
  have hk12 : Kept (fun q => q = N) w (W1.setRow N c1.toArray) := hk1.any.trans hk2
  generalize W1.setRow N c1.toArray = W2 at *
  have hq2 := fun ty dc sc => run_copyE W2.drew ty N ((i + m) * 4) (n + m - (i + m)) dc ⟨g, i * 4, none⟩ (n - i) sc (n - i) (flatE (L.drop i)) c1.toArray (by simp only [Nat.min_def]; split <;> omega) hDl (fun j u hj => by
    rw [addr_add]
    rw [← flatE_drop L i (by omega), List.getElem?_drop] at hj
    exact cell_kept hk12.drew (hv.cell hj) (fun e => by have e : g = N := e; omega)) hW2 (by rw [hDl, List.size_toArray, hl1, hcl]; omega) flatE_one'
  have hl2 := put_len (c := c1) (o := (i + m) * 4) (cs := flatE (L.drop i)) (by rw [hDl, hl1, hcl]; omega)
  have ht2 := put_take (c := c1) (o := (i + m) * 4) (cs := flatE (L.drop i)) (by rw [hl1, hcl]; omega) hDl
  have hW3 : (W2.drew.setRow N (put c1 ((i + m) * 4) (flatE (L.drop i))).toArray).heap[N]? = some (.cells (put c1 ((i + m) * 4) (flatE (L.drop i))).toArray 71 (0, 0)) := setRow_heap W2.drew N c1.toArray _ _ _ hW2
  have hk3 : Kept (fun q => q = N) w (W2.drew.setRow N (put c1 ((i + m) * 4) (flatE (L.drop i))).toArray) := hk12.drew.setRow rfl _
  have hem : Em (W2.drew.setRow N (put c1 ((i + m) * 4) (flatE (L.drop i))).toArray) N G (L.take i ++ K ++ L.drop i) := by
    have hln : (L.take i ++ K ++ L.drop i).length = n + m := by rw [List.length_append, List.length_append, List.length_take, List.length_drop, hn, hmK, Nat.min_eq_left (by omega)]; omega
    refine ⟨⟨_, hW3, by rw [List.size_toArray, hl2, hl1, hcl], ?_⟩, by rw [hln]; exact hG1⟩
    rw [hln]
    show (put c1 ((i + m) * 4) (flatE (L.drop i))).take _ = _
    rw [show (n + m) * 4 = (i + m) * 4 + (n - i) * 4 by omega, ht2, show (i + m) * 4 = i * 4 + m * 4 by omega, ht1, hcu3, flatE_app, flatE_app]
  have HOE : Hid (Oe (W2.drew.setRow N (put c1 ((i + m) * 4) (flatE (L.drop i))).toArray) B (.slice (some ⟨N, 0, none⟩) (n + m) G) (L.take i ++ K ++ L.drop i)) := hem.oe (by omega) hG2 (by rw [List.length_append, List.length_append, List.length_take, List.length_drop, hn, hmK, Nat.min_eq_left (by omega)]; omega)
  have HK3 : Hid (Kept (fun _ => False) w (W2.drew.setRow N (put c1 ((i + m) * 4) (flatE (L.drop i))).toArray)) := (Kept.refl (fun _ => False) w).fresh hk3 (fun q hq e => by have e : q = N := e; omega)
  have hq2 : ∀ ty dc sc, (Builtin.copy_ #[22, 22] ty #[.slice (some ⟨N, (i + m) * 4, none⟩) (n + m - (i + m)) dc, .slice (some ⟨g, i * 4, none⟩) (n - i) sc]).run Tryd.prog W2.drew = .ok (goInt ((n - i : Nat) : Int)) (W2.drew.setRow N (put c1 ((i + m) * 4) (flatE (L.drop i))).toArray) := hq2
  generalize W2.drew.setRow N (put c1 ((i + m) * 4) (flatE (L.drop i))).toArray = W3 at *
  have e3 := fun u => cutE_l u N (n + m) G i (i : Int) rfl (by omega) (by omega) (by omega)
  have e4 := fun u => cutE_l u N (n + m) G (i + m) ((i : Int) + (m : Int)) (by omega) (by omega) (by omega) (by omega)
  clear hv hk hcu1 hcu2 hcu3 hk1 hcl hKl hDl hl1 ht1 hc1e hW2 hk2 hk12 hl2 ht2 hW3 hk3 hem hgl hvl hNN hG2
  go_enter Tryd.func79, Tryd.ntmps79
  go_wp2_with (first
    | (at_builtin; refine Lib.wpList_append_run _ rfl _ _ _ _ rfl _ _ rfl rfl _ _ (hrz _) ?_)
    | (at_builtin; refine wpList_copy_runI _ rfl _ _ 22 22 rfl _ _ rfl rfl (hq1 _ _) ?_))
  go_region_law (refine step_copy_runI rfl _ _ 22 22 rfl _ _ (by simp [Act.eval, Act.put]) (by simp [Act.eval, Act.put]) (hq2 _ _ _) ?_)
  all_goals
    go_wp2_with fail
    go_ret
    exact ⟨⟨_, rfl, HOE.out⟩, HK3.out⟩
/-- In general. -/
theorem einsert_any (v kv : Value) (B Bk i : Nat) (L K : List ElemS) (w : World) (hv : Oe w B v L) (hk : Oe w Bk kv K) (hne : ∀ z, v.ownBlock = some z → kv.ownBlock = some z → False) (hi : i ≤ L.length) (hb : L.length + K.length ≤ 100000) (hB : B ≤ w.heap.size) :
    Calls Tryd.prog 79 #[v, .int .i64 i, kv] w fun e w' => (∃ v', e = .returned v' ∧ Oe w' B v' (L.take i ++ K ++ L.drop i)) ∧ Kept (fun z => v.ownBlock = some z) w w' := by
  obtain ⟨n, hn⟩ : ∃ n, L.length = n := ⟨_, rfl⟩
  obtain ⟨m, hm⟩ : ∃ m, K.length = m := ⟨_, rfl⟩
  by_cases h0 : m = 0
  · subst h0
    obtain rfl := List.eq_nil_of_length_eq_zero hm
    obtain ⟨kA, kc, rfl⟩ := hk.form
    obtain ⟨A, n', c, rfl, _, hnc, _⟩ := id hv.se
    obtain ⟨A2, c2, e⟩ := hv.form
    injection e with e1 e2 e3
    have hc := einsert_zero A kA n' c i kc w (by omega) hnc
    refine hc.mono fun e w' ⟨he, hw⟩ => ?_
    subst hw
    refine ⟨⟨_, he, ?_⟩, Kept.refl _ _⟩
    rw [List.append_nil, List.take_append_drop]
    exact hv
  · by_cases hin : i = n
    · subst hin
      obtain ⟨kA, n', kc, rfl, hE, hnc, hN⟩ := hk.se
      have hl := hE.1
      cases kA with
      | none => have := hN rfl; omega
      | some ka =>
        obtain rfl : n' = m := by omega
        have hc := einsert_end v B i n' kc ka L K w hv hn hE (by omega) (by omega) hB
        refine hc.mono fun e w' ⟨⟨v', he, ho⟩, hkk⟩ => ⟨⟨v', he, ?_⟩, hkk⟩
        rw [List.take_of_length_le (by omega), List.drop_of_length_le (by omega), List.append_nil]
        exact ho
    · rcases hv.em with ⟨_, h⟩ | ⟨g, c, rfl, hBg, hE, hcm⟩
      · rw [h] at hn hi; simp at hn hi; omega
      · rcases hk.em with ⟨_, h⟩ | ⟨vb, kc, rfl, hBk, hEk, _⟩
        · rw [h] at hm; simp at hm; omega
        · have hvb : vb ≠ g := fun e => hne g rfl (by rw [← e]; rfl)
          by_cases hroom : n + m ≤ c
          · have hc := einsert_room g B n c m kc vb i L K w hE hn hEk hm (by omega) (by omega) hroom hvb hcm
            rw [hn, hm]
            refine hc.mono fun e w' ⟨⟨he, ho⟩, hkk⟩ => ⟨⟨_, he, ho.oe hBg hcm ?_⟩, hkk.mono fun k _ h => by subst h; rfl⟩
            rw [List.length_append, List.length_append, List.length_take, List.length_drop, hn, hm, Nat.min_eq_left (by omega)]
            omega
          · have hc := einsert_grow g B n c m kc vb i L K w hE hn hEk hm (by omega) (by omega) (by omega) (by omega) hB
            rw [hn, hm]
            exact hc.mono fun e w' ⟨h1, hkk⟩ => ⟨h1, hkk.any⟩
end Go.Proofs.YthkohjijppbliaaDoor
