/-
  TREES: whether one may be (where it may not).
-/
import Derived.Test.YthbfmdnibijapaaDoorHz03
set_option linter.unusedVariables false
namespace Go.Proofs.YthbfmdnibijapaaDoor
open Go Go.RowKit

theorem least_bad {P : Nat → Prop} : ∀ (n : Nat), (∀ i, i < n → P i) ∨ ∃ k, k < n ∧ ¬ P k ∧ ∀ j, j < k → P j
  | 0 => .inl fun i hi => absurd hi (Nat.not_lt_zero _)
  | n + 1 => by
    rcases least_bad (P := P) n with h | ⟨k, h1, h2, h3⟩
    · by_cases hn : P n
      · exact .inl fun i hi => by
          by_cases hi2 : i = n
          · subst hi2; exact hn
          · exact h i (by omega)
      · exact .inr ⟨n, by omega, hn, h⟩
    · exact .inr ⟨k, by omega, h2, h3⟩
set_option maxRecDepth 100000 in
set_option maxHeartbeats 4000000 in
theorem tcheck_size (A : Option Addr) (n c : Nat) (L : List NodeS) (cur : Int) (w : World) (hno : n = 0 ∨ 64 < n) :
    Calls Tryd.prog 59 #[treeV (.slice A n c) cur] w fun r w' => r = .returned (.int .i64 1) ∧ Kept (fun _ => False) w w' := by
  have hk0 : Kept (fun _ => False) w (w.alloc (treeO (.slice A n c) cur)) := (Kept.refl _ w).alloc _
  have hTB : (w.alloc (treeO (.slice A n c) cur)).heap[w.heap.size]? = some (treeO (.slice A n c) cur) := heap_alloc_new w _
  obtain ⟨t0, t1, _⟩ := tree_facts hTB
  have HK0 := Lib.hid hk0
  clear hk0 hTB
  go_enter Tryd.func59, Tryd.ntmps59
  go_upto_region 1 with fail
  simp only [treeO] at t0 t1 HK0
  generalize w.alloc _ = w0 at *
  generalize w.heap.size = tb at *
  rcases hno with rfl | h
  · go_wp2_with fail
    go_ret
    exact ⟨rfl, HK0.out⟩
  · have b1 : ((n : Int) == 0) = false := by rw [beq_eq_false_iff_ne]; omega
    have b2 : decide ((64 : Int) < (n : Int)) = true := decide_eq_true (by omega)
    have b3 : decide (64 < n) = true := decide_eq_true h
    go_wp2_with fail
    go_ret
    exact ⟨rfl, HK0.out⟩
set_option maxRecDepth 100000 in
set_option maxHeartbeats 4000000 in
theorem tcheck_cur (A : Option Addr) (n c : Nat) (L : List NodeS) (cur : Int) (w : World) (hA : Ng w A n L) (hnc : n ≤ c) (hT : Tabs w) (hge : 1 ≤ L.length) (hle : L.length ≤ 64) (hok : ∀ i e, L[i]? = some e → OkN (L.take i) e) (hcu : idx L cur < 0) :
    Calls Tryd.prog 59 #[treeV (.slice A n c) cur] w fun r w' => r = .returned (.int .i64 1) ∧ Kept (fun _ => False) w w' := by
  have hl := hA.len
  rw [hl] at hge hle
  have hs := ok_srt hok
  have hk0 : Kept (fun _ => False) w (w.alloc (treeO (.slice A n c) cur)) := (Kept.refl _ w).alloc _
  have HA := Lib.hid (hA.kept hk0 (fun _ _ => id))
  have HT := Lib.hid (hT.kept hk0 id id)
  have hTB : (w.alloc (treeO (.slice A n c) cur)).heap[w.heap.size]? = some (treeO (.slice A n c) cur) := heap_alloc_new w _
  have HTB : Hid (∀ W, Kept (fun _ => False) (w.alloc (treeO (.slice A n c) cur)) W → W.cell? ⟨w.heap.size, 0, none⟩ = some (.slice A n c) ∧ W.cell? ⟨w.heap.size, 1, none⟩ = some (.int .i64 cur)) := fun W hk => ⟨cell_kept hk (by rw [cell_of_row _ _ _ _ _ _ hTB]; rfl) id, cell_kept hk (by rw [cell_of_row _ _ _ _ _ _ hTB]; rfl) id⟩
  have HK0 := Lib.hid hk0
  have HOK := Lib.hid hok
  have HS := Lib.hid hs
  have cF := fun W (hW : Ng W A n L) => nfind_any A n c L cur W hW (by omega) hs
  obtain ⟨z, hz⟩ : ∃ z, idx L cur = z := ⟨_, rfl⟩
  rw [hz] at cF hcu
  have HL := Lib.hid hl
  clear hA hT hk0 hTB hok hs hz hl
  go_enter Tryd.func59, Tryd.ntmps59
  go_upto_region 1 with fail
  simp only [treeO] at HA HT HTB HK0
  generalize w.alloc _ = w0 at *
  generalize w.heap.size = tb at *
  obtain ⟨t0, t1⟩ := HTB.out w0 (Kept.refl _ _)
  have b1 : ((n : Int) == 0) = false := by rw [beq_eq_false_iff_ne]; omega
  have b2 : decide ((64 : Int) < (n : Int)) = false := decide_eq_false (by omega)
  have b3 : decide (64 < n) = false := decide_eq_false (by omega)
  go_wp2_with fail
  clear t0 t1 b1 b2 b3
  go_loopw [18] (fun v wr => ∃ i : Nat, i ≤ n ∧ v = .int .i64 i ∧ Kept (fun _ => False) w0 wr) (fun v _ => n - (intOf v).toNat)
  case atStart => exact ⟨0, Nat.zero_le _, rfl, Kept.refl _ _⟩
  case round =>
    obtain ⟨i, hi, rfl, hkr⟩ := hrel
    have HK := Lib.hid hkr
    clear hkr
    by_cases hlt : i < n
    · obtain ⟨ad, e, rfl, he, h4⟩ := (HA.out.kept HK.out (fun _ _ => id)).at_ hlt
      have hoke := HOK.out i e he
      have hic : i ≤ c := by omega
      have hPre := (HA.out.kept HK.out (fun _ _ => id)).take (show i ≤ n by omega)
      have HPR := Lib.hid hPre
      have f0 := h4.c0
      have f1 := h4.c1
      have f2 := h4.c2
      have f3 := h4.c3
      have HN : Hid (∀ W, Kept (fun _ => False) (wr.alloc (nodeO e)) W → Nd4 W ⟨wr.heap.size, 0, none⟩ e) := fun W hk => nd4_new.kept hk id
      have hk1 : Kept (fun _ => False) wr (wr.alloc (nodeO e)) := (Kept.refl _ wr).alloc _
      have HK1 := Lib.hid (HK.out.trans hk1)
      have HPR1 := Lib.hid (hPre.kept hk1 (fun _ _ => id))
      have b1 : decide ((i : Int) < (n : Int)) = true := decide_eq_true (by omega)
      have b2 : decide (i < n) = true := decide_eq_true hlt
      have t1 : (0 : Int) ≤ (i : Int) := by omega
      have t2 : (i : Int) < (n : Int) := by omega
      clear h4 hPre hk1 he
      go_upto_region 6 with fail
      clear f0 f1 f2 f3 b1 b2
      simp only [nodeO] at HN HK1 HPR1
      generalize wr.alloc _ = w1 at *
      generalize wr.heap.size = nb at *
      have cP := placed_any (some ad) i c (L.take i) e w1.drew (HPR1.out.kept (Kept.refl (fun _ => False) w1).drew (fun _ _ => id)) (by omega) (srt_take HS.out i)
      rw [decide_eq_true hoke.1] at cP
      have hsz := mayB_size hoke.2.2.2
      have cC := fun W (h : Tabs W) => check_any e.tx W (by omega) h
      rw [if_pos hoke.2.2.2] at cC
      have hcut := fun u => run_ncut_h u (some ad) n c i (i : Int) rfl hic
      have q1 : decide (e.at_ < 0) = false := decide_eq_false (by have := hoke.2.1; omega)
      have q2 : decide ((4000 : Int) < e.at_) = false := decide_eq_false (by have := hoke.2.2.1; omega)
      have KF : Hid (∀ W, Kept (fun _ => False) w1 W → W.cell? ⟨tb, 0, none⟩ = some (.slice (some ad) n c) ∧ W.cell? ⟨nb, 0, none⟩ = some (.int .i64 e.sq) ∧ W.cell? ⟨nb, 1, none⟩ = some (.int .i64 e.pa) ∧ W.cell? ⟨nb, 2, none⟩ = some (.int .i64 e.at_) ∧ W.cell? ⟨nb, 3, none⟩ = some (.string e.tx)) := fun W hk => ⟨(HTB.out W (HK1.out.trans hk)).1, (HN.out W hk).cs⟩
      have KA := KF.out w1.drew (Kept.refl _ w1).drew
      obtain ⟨sq, pa, at_, tx⟩ := e
      simp only at cP cC q1 q2 KF KA hsz
      clear hoke
      go_region_held3 (fun (W : World) => W.cell? ⟨tb, 0, none⟩ = some (.slice (some ad) n c) ∧ W.cell? ⟨nb, 0, none⟩ = some (.int .i64 sq) ∧ W.cell? ⟨nb, 1, none⟩ = some (.int .i64 pa) ∧ W.cell? ⟨nb, 2, none⟩ = some (.int .i64 at_) ∧ W.cell? ⟨nb, 3, none⟩ = some (.string tx))
        (first | with_reducible exact KC | with_reducible exact KB | with_reducible exact KA)
        (first
          | (go_at_call 68; refine cP.mono ?_; clear cP; rintro r w3 ⟨rfl, hk3⟩; have HK3 := Lib.hid ((Kept.refl (fun _ => False) w1).drew.trans hk3); have KB := KF.out w3 HK3.out; clear hk3)
          | (go_at_call 48; refine (cC _ (HT.out.kept (HK1.out.trans HK3.out) id id)).mono ?_; clear cC; rintro r w4 ⟨rfl, hk4⟩; have HK4 := Lib.hid (HK3.out.trans hk4); have KC := KF.out w4 HK4.out; clear hk4))
      go_wp2_with fail
      go_roundw
      case rel => exact ⟨i + 1, by omega, by go_num, HK1.out.trans HK4.out⟩
      case measure => simp [intOf]; omega
    · obtain rfl : i = n := by omega
      have b1 : decide ((i : Int) < (i : Int)) = false := by simp
      have b2 : decide (i < i) = false := by simp
      obtain ⟨t0, t1⟩ := HTB.out wr HK.out
      have cF1 := cF wr (HA.out.kept HK.out (fun _ _ => id))
      have q1 : decide (z < 0) = true := decide_eq_true hcu
      clear cF
      go_wp2_with (go_at_call 62; refine cF1.mono ?_; rintro r w3 ⟨rfl, hk3⟩; have HK3 := Lib.hid (HK.out.trans hk3); clear hk3 cF1)
      go_ret
      exact ⟨rfl, HK0.out.trans HK3.out⟩
set_option linter.unusedSimpArgs false in
set_option maxRecDepth 100000 in
set_option maxHeartbeats 4000000 in
theorem tcheck_node (A : Option Addr) (n c : Nat) (L : List NodeS) (cur : Int) (w : World) (hA : Ng w A n L) (hnc : n ≤ c) (hT : Tabs w) (hge : 1 ≤ L.length) (hle : L.length ≤ 64) (k0 : Nat) (e0 : NodeS) (he0 : L[k0]? = some e0) (hbad : ¬ OkN (L.take k0) e0) (hok : ∀ i e, i < k0 → L[i]? = some e → OkN (L.take i) e) (hsz0 : e0.tx.size ≤ 140737488351232) :
    Calls Tryd.prog 59 #[treeV (.slice A n c) cur] w fun r w' => r = .returned (.int .i64 1) ∧ Kept (fun _ => False) w w' := by
  have hl := hA.len
  rw [hl] at hge hle
  have hk0n : k0 < n := by
    rcases Nat.lt_or_ge k0 L.length with h | h
    · omega
    · rw [List.getElem?_eq_none h] at he0; cases he0
  have hs : Srt (L.take k0) := ok_srt (fun i e he => by
    rw [List.getElem?_take] at he
    split at he
    · rw [List.take_take, Nat.min_eq_left (by omega)]
      exact hok i e (by omega) he
    · cases he)
  have hk0 : Kept (fun _ => False) w (w.alloc (treeO (.slice A n c) cur)) := (Kept.refl _ w).alloc _
  have HA := Lib.hid (hA.kept hk0 (fun _ _ => id))
  have HT := Lib.hid (hT.kept hk0 id id)
  have hTB : (w.alloc (treeO (.slice A n c) cur)).heap[w.heap.size]? = some (treeO (.slice A n c) cur) := heap_alloc_new w _
  have HTB : Hid (∀ W, Kept (fun _ => False) (w.alloc (treeO (.slice A n c) cur)) W → W.cell? ⟨w.heap.size, 0, none⟩ = some (.slice A n c) ∧ W.cell? ⟨w.heap.size, 1, none⟩ = some (.int .i64 cur)) := fun W hk => ⟨cell_kept hk (by rw [cell_of_row _ _ _ _ _ _ hTB]; rfl) id, cell_kept hk (by rw [cell_of_row _ _ _ _ _ _ hTB]; rfl) id⟩
  have HK0 := Lib.hid hk0
  have HOK := Lib.hid hok
  have HS := Lib.hid hs
  have HL := Lib.hid hl
  have HE0 := Lib.hid he0
  have HBAD := Lib.hid hbad
  clear hA hT hk0 hTB hok hs hl he0 hbad
  go_enter Tryd.func59, Tryd.ntmps59
  go_upto_region 1 with fail
  simp only [treeO] at HA HT HTB HK0
  generalize w.alloc _ = w0 at *
  generalize w.heap.size = tb at *
  obtain ⟨t0, t1⟩ := HTB.out w0 (Kept.refl _ _)
  have b1 : ((n : Int) == 0) = false := by rw [beq_eq_false_iff_ne]; omega
  have b2 : decide ((64 : Int) < (n : Int)) = false := decide_eq_false (by omega)
  have b3 : decide (64 < n) = false := decide_eq_false (by omega)
  go_wp2_with fail
  clear t0 t1 b1 b2 b3
  go_loopw [18] (fun v wr => ∃ i : Nat, i ≤ k0 ∧ v = .int .i64 i ∧ Kept (fun _ => False) w0 wr) (fun v _ => n - (intOf v).toNat)
  case atStart => exact ⟨0, Nat.zero_le _, rfl, Kept.refl _ _⟩
  case round =>
    obtain ⟨i, hi, rfl, hkr⟩ := hrel
    have HK := Lib.hid hkr
    clear hkr
    by_cases hlk : i < k0
    · have hlt : i < n := by omega
      obtain ⟨ad, e, rfl, he, h4⟩ := (HA.out.kept HK.out (fun _ _ => id)).at_ hlt
      have hoke := HOK.out i e hlk he
      have hic : i ≤ c := by omega
      have hPre := (HA.out.kept HK.out (fun _ _ => id)).take (show i ≤ n by omega)
      have HPR := Lib.hid hPre
      have f0 := h4.c0
      have f1 := h4.c1
      have f2 := h4.c2
      have f3 := h4.c3
      have HN : Hid (∀ W, Kept (fun _ => False) (wr.alloc (nodeO e)) W → Nd4 W ⟨wr.heap.size, 0, none⟩ e) := fun W hk => nd4_new.kept hk id
      have hk1 : Kept (fun _ => False) wr (wr.alloc (nodeO e)) := (Kept.refl _ wr).alloc _
      have HK1 := Lib.hid (HK.out.trans hk1)
      have HPR1 := Lib.hid (hPre.kept hk1 (fun _ _ => id))
      have b1 : decide ((i : Int) < (n : Int)) = true := decide_eq_true (by omega)
      have b2 : decide (i < n) = true := decide_eq_true hlt
      have t1 : (0 : Int) ≤ (i : Int) := by omega
      have t2 : (i : Int) < (n : Int) := by omega
      clear h4 hPre hk1 he
      go_upto_region 6 with fail
      clear f0 f1 f2 f3 b1 b2
      simp only [nodeO] at HN HK1 HPR1
      generalize wr.alloc _ = w1 at *
      generalize wr.heap.size = nb at *
      have cP := placed_any (some ad) i c (L.take i) e w1.drew (HPR1.out.kept (Kept.refl (fun _ => False) w1).drew (fun _ _ => id)) (by omega) (by have h := srt_take HS.out i; rw [List.take_take, Nat.min_eq_left (by omega)] at h; exact h)
      rw [decide_eq_true hoke.1] at cP
      have hsz := mayB_size hoke.2.2.2
      have cC := fun W (h : Tabs W) => check_any e.tx W (by omega) h
      rw [if_pos hoke.2.2.2] at cC
      have hcut := fun u => run_ncut_h u (some ad) n c i (i : Int) rfl hic
      have q1 : decide (e.at_ < 0) = false := decide_eq_false (by have := hoke.2.1; omega)
      have q2 : decide ((4000 : Int) < e.at_) = false := decide_eq_false (by have := hoke.2.2.1; omega)
      have KF : Hid (∀ W, Kept (fun _ => False) w1 W → W.cell? ⟨tb, 0, none⟩ = some (.slice (some ad) n c) ∧ W.cell? ⟨nb, 0, none⟩ = some (.int .i64 e.sq) ∧ W.cell? ⟨nb, 1, none⟩ = some (.int .i64 e.pa) ∧ W.cell? ⟨nb, 2, none⟩ = some (.int .i64 e.at_) ∧ W.cell? ⟨nb, 3, none⟩ = some (.string e.tx)) := fun W hk => ⟨(HTB.out W (HK1.out.trans hk)).1, (HN.out W hk).cs⟩
      have KA := KF.out w1.drew (Kept.refl _ w1).drew
      obtain ⟨sq, pa, at_, tx⟩ := e
      simp only at cP cC q1 q2 KF KA hsz
      clear hoke
      go_region_held3 (fun (W : World) => W.cell? ⟨tb, 0, none⟩ = some (.slice (some ad) n c) ∧ W.cell? ⟨nb, 0, none⟩ = some (.int .i64 sq) ∧ W.cell? ⟨nb, 1, none⟩ = some (.int .i64 pa) ∧ W.cell? ⟨nb, 2, none⟩ = some (.int .i64 at_) ∧ W.cell? ⟨nb, 3, none⟩ = some (.string tx))
        (first | with_reducible exact KC | with_reducible exact KB | with_reducible exact KA)
        (first
          | (go_at_call 68; refine cP.mono ?_; clear cP; rintro r w3 ⟨rfl, hk3⟩; have HK3 := Lib.hid ((Kept.refl (fun _ => False) w1).drew.trans hk3); have KB := KF.out w3 HK3.out; clear hk3)
          | (go_at_call 48; refine (cC _ (HT.out.kept (HK1.out.trans HK3.out) id id)).mono ?_; clear cC; rintro r w4 ⟨rfl, hk4⟩; have HK4 := Lib.hid (HK3.out.trans hk4); have KC := KF.out w4 HK4.out; clear hk4))
      go_wp2_with fail
      go_roundw
      case rel => exact ⟨i + 1, by omega, by go_num, HK1.out.trans HK4.out⟩
      case measure => simp [intOf]; omega
    · obtain rfl : i = k0 := by omega
      have hlt : i < n := hk0n
      obtain ⟨ad, e, rfl, he, h4⟩ := (HA.out.kept HK.out (fun _ _ => id)).at_ hlt
      rw [HE0.out] at he
      injection he with he
      subst he
      have hic : i ≤ c := by omega
      have hPre := (HA.out.kept HK.out (fun _ _ => id)).take (show i ≤ n by omega)
      have HPR := Lib.hid hPre
      have f0 := h4.c0
      have f1 := h4.c1
      have f2 := h4.c2
      have f3 := h4.c3
      have HN : Hid (∀ W, Kept (fun _ => False) (wr.alloc (nodeO e0)) W → Nd4 W ⟨wr.heap.size, 0, none⟩ e0) := fun W hk => nd4_new.kept hk id
      have hk1 : Kept (fun _ => False) wr (wr.alloc (nodeO e0)) := (Kept.refl _ wr).alloc _
      have HK1 := Lib.hid (HK.out.trans hk1)
      have HPR1 := Lib.hid (hPre.kept hk1 (fun _ _ => id))
      have b1 : decide ((i : Int) < (n : Int)) = true := decide_eq_true (by omega)
      have b2 : decide (i < n) = true := decide_eq_true hlt
      have t1 : (0 : Int) ≤ (i : Int) := by omega
      have t2 : (i : Int) < (n : Int) := by omega
      clear h4 hPre hk1
      go_upto_region 6 with fail
      clear f0 f1 f2 f3 b1 b2
      simp only [nodeO] at HN HK1 HPR1
      generalize wr.alloc _ = w1 at *
      generalize wr.heap.size = nb at *
      have cP := placed_any (some ad) i c (L.take i) e0 w1.drew (HPR1.out.kept (Kept.refl (fun _ => False) w1).drew (fun _ _ => id)) (by omega) (by have h := srt_take HS.out i; rw [List.take_take, Nat.min_eq_left (by omega)] at h; exact h)
      have cC := fun W (h : Tabs W) => check_any e0.tx W hsz0 h
      have hcut := fun u => run_ncut_h u (some ad) n c i (i : Int) rfl hic
      have KF : Hid (∀ W, Kept (fun _ => False) w1 W → W.cell? ⟨tb, 0, none⟩ = some (.slice (some ad) n c) ∧ W.cell? ⟨nb, 0, none⟩ = some (.int .i64 e0.sq) ∧ W.cell? ⟨nb, 1, none⟩ = some (.int .i64 e0.pa) ∧ W.cell? ⟨nb, 2, none⟩ = some (.int .i64 e0.at_) ∧ W.cell? ⟨nb, 3, none⟩ = some (.string e0.tx)) := fun W hk => ⟨(HTB.out W (HK1.out.trans hk)).1, (HN.out W hk).cs⟩
      have KA := KF.out w1.drew (Kept.refl _ w1).drew
      obtain ⟨sq, pa, at_, tx⟩ := e0
      simp only at cP cC KF KA
      have hb := HBAD.out
      have hcases : ¬ Pl (L.take i) ⟨sq, pa, at_, tx⟩ ∨ (Pl (L.take i) ⟨sq, pa, at_, tx⟩ ∧ at_ < 0) ∨ (Pl (L.take i) ⟨sq, pa, at_, tx⟩ ∧ 0 ≤ at_ ∧ 4000 < at_) ∨ (Pl (L.take i) ⟨sq, pa, at_, tx⟩ ∧ 0 ≤ at_ ∧ at_ ≤ 4000 ∧ mayB tx = false) := by
        by_cases h1 : Pl (L.take i) ⟨sq, pa, at_, tx⟩
        · by_cases h2 : at_ < 0
          · exact .inr (.inl ⟨h1, h2⟩)
          · by_cases h3 : 4000 < at_
            · exact .inr (.inr (.inl ⟨h1, by omega, h3⟩))
            · refine .inr (.inr (.inr ⟨h1, by omega, by omega, ?_⟩))
              cases h4 : mayB tx with
              | false => rfl
              | true => exact absurd ⟨h1, (show 0 ≤ at_ by omega), (show at_ ≤ 4000 by omega), h4⟩ hb
        · exact .inl h1
      clear hb HBAD HE0
      rcases hcases with h1 | ⟨h1, h2⟩ | ⟨h1, h2, h3⟩ | ⟨h1, h2, h3, h4⟩
      case' inl =>
        rw [decide_eq_false h1] at cP
        clear h1
      case' inr.inl =>
        rw [decide_eq_true h1] at cP
        have q1 : decide (at_ < 0) = true := decide_eq_true h2
        clear h1 h2
      case' inr.inr.inl =>
        rw [decide_eq_true h1] at cP
        have q1 : decide (at_ < 0) = false := decide_eq_false (by omega)
        have q2 : decide ((4000 : Int) < at_) = true := decide_eq_true h3
        clear h1 h2 h3
      case' inl =>
        refine wp_region_noPanic ?_
        refine wp_region_held_drew (S := (fun (W : World) => W.cell? ⟨tb, 0, none⟩ = some (.slice (some ad) n c) ∧ W.cell? ⟨nb, 0, none⟩ = some (.int .i64 sq) ∧ W.cell? ⟨nb, 1, none⟩ = some (.int .i64 pa) ∧ W.cell? ⟨nb, 2, none⟩ = some (.int .i64 at_) ∧ W.cell? ⟨nb, 3, none⟩ = some (.string tx))) (by kernel_rfl) KA (fun hHeld => ?_)
        refine wpAnyH_take (i := 0) (oi := _) (v := .pointer (some ⟨tb, 0, none⟩)) rfl (by kernel_rfl) (by kernel_rfl) (by kernel_rfl) (fun _ _ _ h => h) (Or.inl ⟨by rfl, fun w hSw => by go_simp⟩) (by assumption) ?_
        try simp only [List.getElem_toArray, List.getElem_cons_succ, List.getElem_cons_zero, Act.put, List.setIfInBounds_toArray, List.set_cons_zero, List.set_cons_succ]
        refine wpAnyH_take (i := 1) (oi := _) (v := .slice (some ad) n c) rfl (by kernel_rfl) (by kernel_rfl) (by kernel_rfl) (fun _ _ _ h => h) (Or.inl ⟨by rfl, fun w hSw => by go_simp⟩) (by assumption) ?_
        try simp only [List.getElem_toArray, List.getElem_cons_succ, List.getElem_cons_zero, Act.put, List.setIfInBounds_toArray, List.set_cons_zero, List.set_cons_succ]
        refine wpAnyH_take (i := 2) (oi := _) (v := .int .i64 i) rfl (by kernel_rfl) (by kernel_rfl) (by kernel_rfl) (fun _ _ _ h => h) (Or.inl ⟨by rfl, fun w hSw => by go_simp⟩) (by assumption) ?_
        try simp only [List.getElem_toArray, List.getElem_cons_succ, List.getElem_cons_zero, Act.put, List.setIfInBounds_toArray, List.set_cons_zero, List.set_cons_succ]
        refine wpAnyH_take (i := 3) (oi := _) (v := .slice (some ad) i c) rfl (by kernel_rfl) (by kernel_rfl) (by kernel_rfl) (fun _ _ _ h => h) (Or.inl ⟨by rfl, fun w hSw => by go_simp⟩) (by assumption) ?_
        try simp only [List.getElem_toArray, List.getElem_cons_succ, List.getElem_cons_zero, Act.put, List.setIfInBounds_toArray, List.set_cons_zero, List.set_cons_succ]
        refine wpAnyH_take (i := 4) (oi := _) (v := .agg #[.int .i64 sq, .int .i64 pa, .int .i64 at_, .string tx]) rfl (by kernel_rfl) (by kernel_rfl) (by kernel_rfl) (fun _ _ _ h => h) (Or.inl ⟨by rfl, fun w hSw => by go_simp⟩) (by assumption) ?_
        try simp only [List.getElem_toArray, List.getElem_cons_succ, List.getElem_cons_zero, Act.put, List.setIfInBounds_toArray, List.set_cons_zero, List.set_cons_succ]
        refine wpAnyH_ready (rs := [5]) (by kernel_rfl) (by simp) ?_
        refine AllReadyH.cons rfl (fun K hK => ?_) AllReadyH.nil
        go_simp
        refine cP.mono ?_
        rintro r w3 ⟨rfl, hk3⟩
        have HK3 := Lib.hid ((Kept.refl (fun _ => False) w1).drew.trans hk3)
        have KB := KF.out w3 HK3.out
        refine hK.out _ _ KB (fun hHeld2 => ?_)
        clear hK K hk3
        refine wpAnyH_take (i := 6) (oi := _) (v := .bool true) rfl (by kernel_rfl) (by kernel_rfl) (by kernel_rfl) (fun _ _ _ h => h) (Or.inl ⟨by rfl, fun w hSw => by go_simp⟩) (by assumption) ?_
        try simp only [List.getElem_toArray, List.getElem_cons_succ, List.getElem_cons_zero, Act.put, List.setIfInBounds_toArray, List.set_cons_zero, List.set_cons_succ]
        refine wpAnyH_take (i := 7) (oi := _) (v := .bool true) rfl (by kernel_rfl) (by kernel_rfl) (by kernel_rfl) (fun _ _ _ h => h) (Or.inl ⟨by rfl, fun w hSw => by go_simp⟩) (by assumption) ?_
        try simp only [List.getElem_toArray, List.getElem_cons_succ, List.getElem_cons_zero, Act.put, List.setIfInBounds_toArray, List.set_cons_zero, List.set_cons_succ]
        refine wpAnyH_take (i := 8) (oi := _) (v := undef) rfl (by kernel_rfl) (by kernel_rfl) (by kernel_rfl) (fun _ _ _ h => h) (Or.inr ⟨by kernel_rfl, rfl⟩) (by assumption) ?_
        try simp only [List.getElem_toArray, List.getElem_cons_succ, List.getElem_cons_zero, Act.put, List.setIfInBounds_toArray, List.set_cons_zero, List.set_cons_succ]
        refine wpAnyH_take (i := 9) (oi := _) (v := undef) rfl (by kernel_rfl) (by kernel_rfl) (by kernel_rfl) (fun _ _ _ h => h) (Or.inr ⟨by kernel_rfl, rfl⟩) (by assumption) ?_
        try simp only [List.getElem_toArray, List.getElem_cons_succ, List.getElem_cons_zero, Act.put, List.setIfInBounds_toArray, List.set_cons_zero, List.set_cons_succ]
        refine wpAnyH_take (i := 10) (oi := _) (v := undef) rfl (by kernel_rfl) (by kernel_rfl) (by kernel_rfl) (fun _ _ _ h => h) (Or.inr ⟨by kernel_rfl, rfl⟩) (by assumption) ?_
        try simp only [List.getElem_toArray, List.getElem_cons_succ, List.getElem_cons_zero, Act.put, List.setIfInBounds_toArray, List.set_cons_zero, List.set_cons_succ]
        refine wpAnyH_take (i := 11) (oi := _) (v := .bool true) rfl (by kernel_rfl) (by kernel_rfl) (by kernel_rfl) (fun _ _ _ h => h) (Or.inl ⟨by rfl, fun w hSw => by go_simp⟩) (by assumption) ?_
        try simp only [List.getElem_toArray, List.getElem_cons_succ, List.getElem_cons_zero, Act.put, List.setIfInBounds_toArray, List.set_cons_zero, List.set_cons_succ]
        refine wpAnyH_take (i := 12) (oi := _) (v := .bool true) rfl (by kernel_rfl) (by kernel_rfl) (by kernel_rfl) (fun _ _ _ h => h) (Or.inl ⟨by rfl, fun w hSw => by go_simp⟩) (by assumption) ?_
        try simp only [List.getElem_toArray, List.getElem_cons_succ, List.getElem_cons_zero, Act.put, List.setIfInBounds_toArray, List.set_cons_zero, List.set_cons_succ]
        refine wpAnyH_take (i := 13) (oi := _) (v := undef) rfl (by kernel_rfl) (by kernel_rfl) (by kernel_rfl) (fun _ _ _ h => h) (Or.inr ⟨by kernel_rfl, rfl⟩) (by assumption) ?_
        try simp only [List.getElem_toArray, List.getElem_cons_succ, List.getElem_cons_zero, Act.put, List.setIfInBounds_toArray, List.set_cons_zero, List.set_cons_succ]
        refine wpAnyH_take (i := 14) (oi := _) (v := undef) rfl (by kernel_rfl) (by kernel_rfl) (by kernel_rfl) (fun _ _ _ h => h) (Or.inr ⟨by kernel_rfl, rfl⟩) (by assumption) ?_
        try simp only [List.getElem_toArray, List.getElem_cons_succ, List.getElem_cons_zero, Act.put, List.setIfInBounds_toArray, List.set_cons_zero, List.set_cons_succ]
        refine wpAnyH_take (i := 15) (oi := _) (v := undef) rfl (by kernel_rfl) (by kernel_rfl) (by kernel_rfl) (fun _ _ _ h => h) (Or.inr ⟨by kernel_rfl, rfl⟩) (by assumption) ?_
        try simp only [List.getElem_toArray, List.getElem_cons_succ, List.getElem_cons_zero, Act.put, List.setIfInBounds_toArray, List.set_cons_zero, List.set_cons_succ]
        refine wpAnyH_take (i := 16) (oi := _) (v := .bool true) rfl (by kernel_rfl) (by kernel_rfl) (by kernel_rfl) (fun _ _ _ h => h) (Or.inl ⟨by rfl, fun w hSw => by go_simp⟩) (by assumption) ?_
        try simp only [List.getElem_toArray, List.getElem_cons_succ, List.getElem_cons_zero, Act.put, List.setIfInBounds_toArray, List.set_cons_zero, List.set_cons_succ]
        refine wpAnyH_take (i := 17) (oi := _) (v := .bool true) rfl (by kernel_rfl) (by kernel_rfl) (by kernel_rfl) (fun _ _ _ h => h) (Or.inl ⟨by rfl, fun w hSw => by go_simp⟩) (by assumption) ?_
        try simp only [List.getElem_toArray, List.getElem_cons_succ, List.getElem_cons_zero, Act.put, List.setIfInBounds_toArray, List.set_cons_zero, List.set_cons_succ]
        refine wpAnyH_take (i := 18) (oi := _) (v := undef) rfl (by kernel_rfl) (by kernel_rfl) (by kernel_rfl) (fun _ _ _ h => h) (Or.inr ⟨by kernel_rfl, rfl⟩) (by assumption) ?_
        try simp only [List.getElem_toArray, List.getElem_cons_succ, List.getElem_cons_zero, Act.put, List.setIfInBounds_toArray, List.set_cons_zero, List.set_cons_succ]
        refine wpAnyH_take (i := 19) (oi := _) (v := undef) rfl (by kernel_rfl) (by kernel_rfl) (by kernel_rfl) (fun _ _ _ h => h) (Or.inr ⟨by kernel_rfl, rfl⟩) (by assumption) ?_
        try simp only [List.getElem_toArray, List.getElem_cons_succ, List.getElem_cons_zero, Act.put, List.setIfInBounds_toArray, List.set_cons_zero, List.set_cons_succ]
        refine wpAnyH_take (i := 20) (oi := _) (v := undef) rfl (by kernel_rfl) (by kernel_rfl) (by kernel_rfl) (fun _ _ _ h => h) (Or.inr ⟨by kernel_rfl, rfl⟩) (by assumption) ?_
        try simp only [List.getElem_toArray, List.getElem_cons_succ, List.getElem_cons_zero, Act.put, List.setIfInBounds_toArray, List.set_cons_zero, List.set_cons_succ]
        refine wpAnyH_take (i := 21) (oi := _) (v := undef) rfl (by kernel_rfl) (by kernel_rfl) (by kernel_rfl) (fun _ _ _ h => h) (Or.inr ⟨by kernel_rfl, rfl⟩) (by assumption) ?_
        try simp only [List.getElem_toArray, List.getElem_cons_succ, List.getElem_cons_zero, Act.put, List.setIfInBounds_toArray, List.set_cons_zero, List.set_cons_succ]
        refine wpAnyH_take (i := 22) (oi := _) (v := .bool true) rfl (by kernel_rfl) (by kernel_rfl) (by kernel_rfl) (fun _ _ _ h => h) (Or.inl ⟨by rfl, fun w hSw => by go_simp⟩) (by assumption) ?_
        try simp only [List.getElem_toArray, List.getElem_cons_succ, List.getElem_cons_zero, Act.put, List.setIfInBounds_toArray, List.set_cons_zero, List.set_cons_succ]
        refine wpAnyH_done (by kernel_rfl) ?_ _
        refine NoPanic.normal ?_
        try simp only [List.getElem_toArray, List.getElem_cons_succ, List.getElem_cons_zero, Act.put, List.setIfInBounds_toArray, List.set_cons_zero, List.set_cons_succ]
        go_wp2_with fail
        go_ret
        exact ⟨rfl, HK0.out.trans (HK1.out.trans HK3.out)⟩
      case' inr.inl =>
        refine wp_region_noPanic ?_
        refine wp_region_held_drew (S := (fun (W : World) => W.cell? ⟨tb, 0, none⟩ = some (.slice (some ad) n c) ∧ W.cell? ⟨nb, 0, none⟩ = some (.int .i64 sq) ∧ W.cell? ⟨nb, 1, none⟩ = some (.int .i64 pa) ∧ W.cell? ⟨nb, 2, none⟩ = some (.int .i64 at_) ∧ W.cell? ⟨nb, 3, none⟩ = some (.string tx))) (by kernel_rfl) KA (fun hHeld => ?_)
        refine wpAnyH_take (i := 0) (oi := _) (v := .pointer (some ⟨tb, 0, none⟩)) rfl (by kernel_rfl) (by kernel_rfl) (by kernel_rfl) (fun _ _ _ h => h) (Or.inl ⟨by rfl, fun w hSw => by go_simp⟩) (by assumption) ?_
        try simp only [List.getElem_toArray, List.getElem_cons_succ, List.getElem_cons_zero, Act.put, List.setIfInBounds_toArray, List.set_cons_zero, List.set_cons_succ]
        refine wpAnyH_take (i := 1) (oi := _) (v := .slice (some ad) n c) rfl (by kernel_rfl) (by kernel_rfl) (by kernel_rfl) (fun _ _ _ h => h) (Or.inl ⟨by rfl, fun w hSw => by go_simp⟩) (by assumption) ?_
        try simp only [List.getElem_toArray, List.getElem_cons_succ, List.getElem_cons_zero, Act.put, List.setIfInBounds_toArray, List.set_cons_zero, List.set_cons_succ]
        refine wpAnyH_take (i := 2) (oi := _) (v := .int .i64 i) rfl (by kernel_rfl) (by kernel_rfl) (by kernel_rfl) (fun _ _ _ h => h) (Or.inl ⟨by rfl, fun w hSw => by go_simp⟩) (by assumption) ?_
        try simp only [List.getElem_toArray, List.getElem_cons_succ, List.getElem_cons_zero, Act.put, List.setIfInBounds_toArray, List.set_cons_zero, List.set_cons_succ]
        refine wpAnyH_take (i := 3) (oi := _) (v := .slice (some ad) i c) rfl (by kernel_rfl) (by kernel_rfl) (by kernel_rfl) (fun _ _ _ h => h) (Or.inl ⟨by rfl, fun w hSw => by go_simp⟩) (by assumption) ?_
        try simp only [List.getElem_toArray, List.getElem_cons_succ, List.getElem_cons_zero, Act.put, List.setIfInBounds_toArray, List.set_cons_zero, List.set_cons_succ]
        refine wpAnyH_take (i := 4) (oi := _) (v := .agg #[.int .i64 sq, .int .i64 pa, .int .i64 at_, .string tx]) rfl (by kernel_rfl) (by kernel_rfl) (by kernel_rfl) (fun _ _ _ h => h) (Or.inl ⟨by rfl, fun w hSw => by go_simp⟩) (by assumption) ?_
        try simp only [List.getElem_toArray, List.getElem_cons_succ, List.getElem_cons_zero, Act.put, List.setIfInBounds_toArray, List.set_cons_zero, List.set_cons_succ]
        refine wpAnyH_ready (rs := [5]) (by kernel_rfl) (by simp) ?_
        refine AllReadyH.cons rfl (fun K hK => ?_) AllReadyH.nil
        go_simp
        refine cP.mono ?_
        rintro r w3 ⟨rfl, hk3⟩
        have HK3 := Lib.hid ((Kept.refl (fun _ => False) w1).drew.trans hk3)
        have KB := KF.out w3 HK3.out
        refine hK.out _ _ KB (fun hHeld2 => ?_)
        clear hK K hk3
        refine wpAnyH_take (i := 6) (oi := _) (v := .bool false) rfl (by kernel_rfl) (by kernel_rfl) (by kernel_rfl) (fun _ _ _ h => h) (Or.inl ⟨by rfl, fun w hSw => by go_simp⟩) (by assumption) ?_
        try simp only [List.getElem_toArray, List.getElem_cons_succ, List.getElem_cons_zero, Act.put, List.setIfInBounds_toArray, List.set_cons_zero, List.set_cons_succ]
        refine wpAnyH_take (i := 7) (oi := _) (v := .bool false) rfl (by kernel_rfl) (by kernel_rfl) (by kernel_rfl) (fun _ _ _ h => h) (Or.inl ⟨by rfl, fun w hSw => by go_simp⟩) (by assumption) ?_
        try simp only [List.getElem_toArray, List.getElem_cons_succ, List.getElem_cons_zero, Act.put, List.setIfInBounds_toArray, List.set_cons_zero, List.set_cons_succ]
        refine wpAnyH_take (i := 8) (oi := _) (v := .pointer (some ⟨nb, 2, none⟩)) rfl (by kernel_rfl) (by kernel_rfl) (by kernel_rfl) (fun _ _ _ h => h) (Or.inl ⟨by rfl, fun w hSw => by go_simp⟩) (by assumption) ?_
        try simp only [List.getElem_toArray, List.getElem_cons_succ, List.getElem_cons_zero, Act.put, List.setIfInBounds_toArray, List.set_cons_zero, List.set_cons_succ]
        refine wpAnyH_take (i := 9) (oi := _) (v := .int .i64 at_) rfl (by kernel_rfl) (by kernel_rfl) (by kernel_rfl) (fun _ _ _ h => h) (Or.inl ⟨by rfl, fun w hSw => by go_simp⟩) (by assumption) ?_
        try simp only [List.getElem_toArray, List.getElem_cons_succ, List.getElem_cons_zero, Act.put, List.setIfInBounds_toArray, List.set_cons_zero, List.set_cons_succ]
        refine wpAnyH_take (i := 10) (oi := _) (v := .bool true) rfl (by kernel_rfl) (by kernel_rfl) (by kernel_rfl) (fun _ _ _ h => h) (Or.inl ⟨by rfl, fun w hSw => by go_simp⟩) (by assumption) ?_
        try simp only [List.getElem_toArray, List.getElem_cons_succ, List.getElem_cons_zero, Act.put, List.setIfInBounds_toArray, List.set_cons_zero, List.set_cons_succ]
        refine wpAnyH_take (i := 11) (oi := _) (v := .bool true) rfl (by kernel_rfl) (by kernel_rfl) (by kernel_rfl) (fun _ _ _ h => h) (Or.inl ⟨by rfl, fun w hSw => by go_simp⟩) (by assumption) ?_
        try simp only [List.getElem_toArray, List.getElem_cons_succ, List.getElem_cons_zero, Act.put, List.setIfInBounds_toArray, List.set_cons_zero, List.set_cons_succ]
        refine wpAnyH_take (i := 12) (oi := _) (v := .bool true) rfl (by kernel_rfl) (by kernel_rfl) (by kernel_rfl) (fun _ _ _ h => h) (Or.inl ⟨by rfl, fun w hSw => by go_simp⟩) (by assumption) ?_
        try simp only [List.getElem_toArray, List.getElem_cons_succ, List.getElem_cons_zero, Act.put, List.setIfInBounds_toArray, List.set_cons_zero, List.set_cons_succ]
        refine wpAnyH_take (i := 13) (oi := _) (v := undef) rfl (by kernel_rfl) (by kernel_rfl) (by kernel_rfl) (fun _ _ _ h => h) (Or.inr ⟨by kernel_rfl, rfl⟩) (by assumption) ?_
        try simp only [List.getElem_toArray, List.getElem_cons_succ, List.getElem_cons_zero, Act.put, List.setIfInBounds_toArray, List.set_cons_zero, List.set_cons_succ]
        refine wpAnyH_take (i := 14) (oi := _) (v := undef) rfl (by kernel_rfl) (by kernel_rfl) (by kernel_rfl) (fun _ _ _ h => h) (Or.inr ⟨by kernel_rfl, rfl⟩) (by assumption) ?_
        try simp only [List.getElem_toArray, List.getElem_cons_succ, List.getElem_cons_zero, Act.put, List.setIfInBounds_toArray, List.set_cons_zero, List.set_cons_succ]
        refine wpAnyH_take (i := 15) (oi := _) (v := undef) rfl (by kernel_rfl) (by kernel_rfl) (by kernel_rfl) (fun _ _ _ h => h) (Or.inr ⟨by kernel_rfl, rfl⟩) (by assumption) ?_
        try simp only [List.getElem_toArray, List.getElem_cons_succ, List.getElem_cons_zero, Act.put, List.setIfInBounds_toArray, List.set_cons_zero, List.set_cons_succ]
        refine wpAnyH_take (i := 16) (oi := _) (v := .bool true) rfl (by kernel_rfl) (by kernel_rfl) (by kernel_rfl) (fun _ _ _ h => h) (Or.inl ⟨by rfl, fun w hSw => by go_simp⟩) (by assumption) ?_
        try simp only [List.getElem_toArray, List.getElem_cons_succ, List.getElem_cons_zero, Act.put, List.setIfInBounds_toArray, List.set_cons_zero, List.set_cons_succ]
        refine wpAnyH_take (i := 17) (oi := _) (v := .bool true) rfl (by kernel_rfl) (by kernel_rfl) (by kernel_rfl) (fun _ _ _ h => h) (Or.inl ⟨by rfl, fun w hSw => by go_simp⟩) (by assumption) ?_
        try simp only [List.getElem_toArray, List.getElem_cons_succ, List.getElem_cons_zero, Act.put, List.setIfInBounds_toArray, List.set_cons_zero, List.set_cons_succ]
        refine wpAnyH_take (i := 18) (oi := _) (v := undef) rfl (by kernel_rfl) (by kernel_rfl) (by kernel_rfl) (fun _ _ _ h => h) (Or.inr ⟨by kernel_rfl, rfl⟩) (by assumption) ?_
        try simp only [List.getElem_toArray, List.getElem_cons_succ, List.getElem_cons_zero, Act.put, List.setIfInBounds_toArray, List.set_cons_zero, List.set_cons_succ]
        refine wpAnyH_take (i := 19) (oi := _) (v := undef) rfl (by kernel_rfl) (by kernel_rfl) (by kernel_rfl) (fun _ _ _ h => h) (Or.inr ⟨by kernel_rfl, rfl⟩) (by assumption) ?_
        try simp only [List.getElem_toArray, List.getElem_cons_succ, List.getElem_cons_zero, Act.put, List.setIfInBounds_toArray, List.set_cons_zero, List.set_cons_succ]
        refine wpAnyH_take (i := 20) (oi := _) (v := undef) rfl (by kernel_rfl) (by kernel_rfl) (by kernel_rfl) (fun _ _ _ h => h) (Or.inr ⟨by kernel_rfl, rfl⟩) (by assumption) ?_
        try simp only [List.getElem_toArray, List.getElem_cons_succ, List.getElem_cons_zero, Act.put, List.setIfInBounds_toArray, List.set_cons_zero, List.set_cons_succ]
        refine wpAnyH_take (i := 21) (oi := _) (v := undef) rfl (by kernel_rfl) (by kernel_rfl) (by kernel_rfl) (fun _ _ _ h => h) (Or.inr ⟨by kernel_rfl, rfl⟩) (by assumption) ?_
        try simp only [List.getElem_toArray, List.getElem_cons_succ, List.getElem_cons_zero, Act.put, List.setIfInBounds_toArray, List.set_cons_zero, List.set_cons_succ]
        refine wpAnyH_take (i := 22) (oi := _) (v := .bool true) rfl (by kernel_rfl) (by kernel_rfl) (by kernel_rfl) (fun _ _ _ h => h) (Or.inl ⟨by rfl, fun w hSw => by go_simp⟩) (by assumption) ?_
        try simp only [List.getElem_toArray, List.getElem_cons_succ, List.getElem_cons_zero, Act.put, List.setIfInBounds_toArray, List.set_cons_zero, List.set_cons_succ]
        refine wpAnyH_done (by kernel_rfl) ?_ _
        refine NoPanic.normal ?_
        try simp only [List.getElem_toArray, List.getElem_cons_succ, List.getElem_cons_zero, Act.put, List.setIfInBounds_toArray, List.set_cons_zero, List.set_cons_succ]
        go_wp2_with fail
        go_ret
        exact ⟨rfl, HK0.out.trans (HK1.out.trans HK3.out)⟩
      case' inr.inr.inl =>
        refine wp_region_noPanic ?_
        refine wp_region_held_drew (S := (fun (W : World) => W.cell? ⟨tb, 0, none⟩ = some (.slice (some ad) n c) ∧ W.cell? ⟨nb, 0, none⟩ = some (.int .i64 sq) ∧ W.cell? ⟨nb, 1, none⟩ = some (.int .i64 pa) ∧ W.cell? ⟨nb, 2, none⟩ = some (.int .i64 at_) ∧ W.cell? ⟨nb, 3, none⟩ = some (.string tx))) (by kernel_rfl) KA (fun hHeld => ?_)
        refine wpAnyH_take (i := 0) (oi := _) (v := .pointer (some ⟨tb, 0, none⟩)) rfl (by kernel_rfl) (by kernel_rfl) (by kernel_rfl) (fun _ _ _ h => h) (Or.inl ⟨by rfl, fun w hSw => by go_simp⟩) (by assumption) ?_
        try simp only [List.getElem_toArray, List.getElem_cons_succ, List.getElem_cons_zero, Act.put, List.setIfInBounds_toArray, List.set_cons_zero, List.set_cons_succ]
        refine wpAnyH_take (i := 1) (oi := _) (v := .slice (some ad) n c) rfl (by kernel_rfl) (by kernel_rfl) (by kernel_rfl) (fun _ _ _ h => h) (Or.inl ⟨by rfl, fun w hSw => by go_simp⟩) (by assumption) ?_
        try simp only [List.getElem_toArray, List.getElem_cons_succ, List.getElem_cons_zero, Act.put, List.setIfInBounds_toArray, List.set_cons_zero, List.set_cons_succ]
        refine wpAnyH_take (i := 2) (oi := _) (v := .int .i64 i) rfl (by kernel_rfl) (by kernel_rfl) (by kernel_rfl) (fun _ _ _ h => h) (Or.inl ⟨by rfl, fun w hSw => by go_simp⟩) (by assumption) ?_
        try simp only [List.getElem_toArray, List.getElem_cons_succ, List.getElem_cons_zero, Act.put, List.setIfInBounds_toArray, List.set_cons_zero, List.set_cons_succ]
        refine wpAnyH_take (i := 3) (oi := _) (v := .slice (some ad) i c) rfl (by kernel_rfl) (by kernel_rfl) (by kernel_rfl) (fun _ _ _ h => h) (Or.inl ⟨by rfl, fun w hSw => by go_simp⟩) (by assumption) ?_
        try simp only [List.getElem_toArray, List.getElem_cons_succ, List.getElem_cons_zero, Act.put, List.setIfInBounds_toArray, List.set_cons_zero, List.set_cons_succ]
        refine wpAnyH_take (i := 4) (oi := _) (v := .agg #[.int .i64 sq, .int .i64 pa, .int .i64 at_, .string tx]) rfl (by kernel_rfl) (by kernel_rfl) (by kernel_rfl) (fun _ _ _ h => h) (Or.inl ⟨by rfl, fun w hSw => by go_simp⟩) (by assumption) ?_
        try simp only [List.getElem_toArray, List.getElem_cons_succ, List.getElem_cons_zero, Act.put, List.setIfInBounds_toArray, List.set_cons_zero, List.set_cons_succ]
        refine wpAnyH_ready (rs := [5]) (by kernel_rfl) (by simp) ?_
        refine AllReadyH.cons rfl (fun K hK => ?_) AllReadyH.nil
        go_simp
        refine cP.mono ?_
        rintro r w3 ⟨rfl, hk3⟩
        have HK3 := Lib.hid ((Kept.refl (fun _ => False) w1).drew.trans hk3)
        have KB := KF.out w3 HK3.out
        refine hK.out _ _ KB (fun hHeld2 => ?_)
        clear hK K hk3
        refine wpAnyH_take (i := 6) (oi := _) (v := .bool false) rfl (by kernel_rfl) (by kernel_rfl) (by kernel_rfl) (fun _ _ _ h => h) (Or.inl ⟨by rfl, fun w hSw => by go_simp⟩) (by assumption) ?_
        try simp only [List.getElem_toArray, List.getElem_cons_succ, List.getElem_cons_zero, Act.put, List.setIfInBounds_toArray, List.set_cons_zero, List.set_cons_succ]
        refine wpAnyH_take (i := 7) (oi := _) (v := .bool false) rfl (by kernel_rfl) (by kernel_rfl) (by kernel_rfl) (fun _ _ _ h => h) (Or.inl ⟨by rfl, fun w hSw => by go_simp⟩) (by assumption) ?_
        try simp only [List.getElem_toArray, List.getElem_cons_succ, List.getElem_cons_zero, Act.put, List.setIfInBounds_toArray, List.set_cons_zero, List.set_cons_succ]
        refine wpAnyH_take (i := 8) (oi := _) (v := .pointer (some ⟨nb, 2, none⟩)) rfl (by kernel_rfl) (by kernel_rfl) (by kernel_rfl) (fun _ _ _ h => h) (Or.inl ⟨by rfl, fun w hSw => by go_simp⟩) (by assumption) ?_
        try simp only [List.getElem_toArray, List.getElem_cons_succ, List.getElem_cons_zero, Act.put, List.setIfInBounds_toArray, List.set_cons_zero, List.set_cons_succ]
        refine wpAnyH_take (i := 9) (oi := _) (v := .int .i64 at_) rfl (by kernel_rfl) (by kernel_rfl) (by kernel_rfl) (fun _ _ _ h => h) (Or.inl ⟨by rfl, fun w hSw => by go_simp⟩) (by assumption) ?_
        try simp only [List.getElem_toArray, List.getElem_cons_succ, List.getElem_cons_zero, Act.put, List.setIfInBounds_toArray, List.set_cons_zero, List.set_cons_succ]
        refine wpAnyH_take (i := 10) (oi := _) (v := .bool false) rfl (by kernel_rfl) (by kernel_rfl) (by kernel_rfl) (fun _ _ _ h => h) (Or.inl ⟨by rfl, fun w hSw => by go_simp⟩) (by assumption) ?_
        try simp only [List.getElem_toArray, List.getElem_cons_succ, List.getElem_cons_zero, Act.put, List.setIfInBounds_toArray, List.set_cons_zero, List.set_cons_succ]
        refine wpAnyH_take (i := 11) (oi := _) (v := .bool false) rfl (by kernel_rfl) (by kernel_rfl) (by kernel_rfl) (fun _ _ _ h => h) (Or.inl ⟨by rfl, fun w hSw => by go_simp⟩) (by assumption) ?_
        try simp only [List.getElem_toArray, List.getElem_cons_succ, List.getElem_cons_zero, Act.put, List.setIfInBounds_toArray, List.set_cons_zero, List.set_cons_succ]
        refine wpAnyH_take (i := 12) (oi := _) (v := .bool false) rfl (by kernel_rfl) (by kernel_rfl) (by kernel_rfl) (fun _ _ _ h => h) (Or.inl ⟨by rfl, fun w hSw => by go_simp⟩) (by assumption) ?_
        try simp only [List.getElem_toArray, List.getElem_cons_succ, List.getElem_cons_zero, Act.put, List.setIfInBounds_toArray, List.set_cons_zero, List.set_cons_succ]
        refine wpAnyH_take (i := 13) (oi := _) (v := .pointer (some ⟨nb, 2, none⟩)) rfl (by kernel_rfl) (by kernel_rfl) (by kernel_rfl) (fun _ _ _ h => h) (Or.inl ⟨by rfl, fun w hSw => by go_simp⟩) (by assumption) ?_
        try simp only [List.getElem_toArray, List.getElem_cons_succ, List.getElem_cons_zero, Act.put, List.setIfInBounds_toArray, List.set_cons_zero, List.set_cons_succ]
        refine wpAnyH_take (i := 14) (oi := _) (v := .int .i64 at_) rfl (by kernel_rfl) (by kernel_rfl) (by kernel_rfl) (fun _ _ _ h => h) (Or.inl ⟨by rfl, fun w hSw => by go_simp⟩) (by assumption) ?_
        try simp only [List.getElem_toArray, List.getElem_cons_succ, List.getElem_cons_zero, Act.put, List.setIfInBounds_toArray, List.set_cons_zero, List.set_cons_succ]
        refine wpAnyH_take (i := 15) (oi := _) (v := .bool true) rfl (by kernel_rfl) (by kernel_rfl) (by kernel_rfl) (fun _ _ _ h => h) (Or.inl ⟨by rfl, fun w hSw => by go_simp⟩) (by assumption) ?_
        try simp only [List.getElem_toArray, List.getElem_cons_succ, List.getElem_cons_zero, Act.put, List.setIfInBounds_toArray, List.set_cons_zero, List.set_cons_succ]
        refine wpAnyH_take (i := 16) (oi := _) (v := .bool true) rfl (by kernel_rfl) (by kernel_rfl) (by kernel_rfl) (fun _ _ _ h => h) (Or.inl ⟨by rfl, fun w hSw => by go_simp⟩) (by assumption) ?_
        try simp only [List.getElem_toArray, List.getElem_cons_succ, List.getElem_cons_zero, Act.put, List.setIfInBounds_toArray, List.set_cons_zero, List.set_cons_succ]
        refine wpAnyH_take (i := 17) (oi := _) (v := .bool true) rfl (by kernel_rfl) (by kernel_rfl) (by kernel_rfl) (fun _ _ _ h => h) (Or.inl ⟨by rfl, fun w hSw => by go_simp⟩) (by assumption) ?_
        try simp only [List.getElem_toArray, List.getElem_cons_succ, List.getElem_cons_zero, Act.put, List.setIfInBounds_toArray, List.set_cons_zero, List.set_cons_succ]
        refine wpAnyH_take (i := 18) (oi := _) (v := undef) rfl (by kernel_rfl) (by kernel_rfl) (by kernel_rfl) (fun _ _ _ h => h) (Or.inr ⟨by kernel_rfl, rfl⟩) (by assumption) ?_
        try simp only [List.getElem_toArray, List.getElem_cons_succ, List.getElem_cons_zero, Act.put, List.setIfInBounds_toArray, List.set_cons_zero, List.set_cons_succ]
        refine wpAnyH_take (i := 19) (oi := _) (v := undef) rfl (by kernel_rfl) (by kernel_rfl) (by kernel_rfl) (fun _ _ _ h => h) (Or.inr ⟨by kernel_rfl, rfl⟩) (by assumption) ?_
        try simp only [List.getElem_toArray, List.getElem_cons_succ, List.getElem_cons_zero, Act.put, List.setIfInBounds_toArray, List.set_cons_zero, List.set_cons_succ]
        refine wpAnyH_take (i := 20) (oi := _) (v := undef) rfl (by kernel_rfl) (by kernel_rfl) (by kernel_rfl) (fun _ _ _ h => h) (Or.inr ⟨by kernel_rfl, rfl⟩) (by assumption) ?_
        try simp only [List.getElem_toArray, List.getElem_cons_succ, List.getElem_cons_zero, Act.put, List.setIfInBounds_toArray, List.set_cons_zero, List.set_cons_succ]
        refine wpAnyH_take (i := 21) (oi := _) (v := undef) rfl (by kernel_rfl) (by kernel_rfl) (by kernel_rfl) (fun _ _ _ h => h) (Or.inr ⟨by kernel_rfl, rfl⟩) (by assumption) ?_
        try simp only [List.getElem_toArray, List.getElem_cons_succ, List.getElem_cons_zero, Act.put, List.setIfInBounds_toArray, List.set_cons_zero, List.set_cons_succ]
        refine wpAnyH_take (i := 22) (oi := _) (v := .bool true) rfl (by kernel_rfl) (by kernel_rfl) (by kernel_rfl) (fun _ _ _ h => h) (Or.inl ⟨by rfl, fun w hSw => by go_simp⟩) (by assumption) ?_
        try simp only [List.getElem_toArray, List.getElem_cons_succ, List.getElem_cons_zero, Act.put, List.setIfInBounds_toArray, List.set_cons_zero, List.set_cons_succ]
        refine wpAnyH_done (by kernel_rfl) ?_ _
        refine NoPanic.normal ?_
        try simp only [List.getElem_toArray, List.getElem_cons_succ, List.getElem_cons_zero, Act.put, List.setIfInBounds_toArray, List.set_cons_zero, List.set_cons_succ]
        go_wp2_with fail
        go_ret
        exact ⟨rfl, HK0.out.trans (HK1.out.trans HK3.out)⟩
      case inr.inr.inr =>
        rw [decide_eq_true h1] at cP
        simp only [h4, Bool.false_eq_true, if_false] at cC
        have q1 : decide (at_ < 0) = false := decide_eq_false (by omega)
        have q2 : decide ((4000 : Int) < at_) = false := decide_eq_false (by omega)
        clear h1 h2 h3 h4
        go_region_held3 (fun (W : World) => W.cell? ⟨tb, 0, none⟩ = some (.slice (some ad) n c) ∧ W.cell? ⟨nb, 0, none⟩ = some (.int .i64 sq) ∧ W.cell? ⟨nb, 1, none⟩ = some (.int .i64 pa) ∧ W.cell? ⟨nb, 2, none⟩ = some (.int .i64 at_) ∧ W.cell? ⟨nb, 3, none⟩ = some (.string tx))
          (first | with_reducible exact KC | with_reducible exact KB | with_reducible exact KA)
          (first
            | (go_at_call 68; refine cP.mono ?_; clear cP; rintro r w3 ⟨rfl, hk3⟩; have HK3 := Lib.hid ((Kept.refl (fun _ => False) w1).drew.trans hk3); have KB := KF.out w3 HK3.out; clear hk3)
            | (go_at_call 48; refine (cC _ (HT.out.kept (HK1.out.trans HK3.out) id id)).mono ?_; clear cC; rintro r w4 ⟨rfl, hk4⟩; have HK4 := Lib.hid (HK3.out.trans hk4); have KC := KF.out w4 HK4.out; clear hk4))
        go_wp2_with fail
        go_ret
        exact ⟨rfl, HK0.out.trans (HK1.out.trans HK4.out)⟩
theorem idx_neg {L : List NodeS} {z : Int} (h : ¬ 0 ≤ idx L z) : idx L z < 0 := by omega
/-- Check, whatever tree. -/
theorem tcheck_bad (A : Option Addr) (n c : Nat) (L : List NodeS) (cur : Int) (w : World) (hA : Ng w A n L) (hnc : n ≤ c) (hT : Tabs w) (hg : ∀ e ∈ L, e.tx.size ≤ 140737488351232) (hno : ¬ MayT L cur) :
    Calls Tryd.prog 59 #[treeV (.slice A n c) cur] w fun r w' => r = .returned (.int .i64 1) ∧ Kept (fun _ => False) w w' := by
  have hl := hA.len
  by_cases h0 : n = 0 ∨ 64 < n
  · exact tcheck_size A n c L cur w h0
  · rcases least_bad (P := fun i => ∀ e, L[i]? = some e → OkN (L.take i) e) L.length with h | ⟨k, hk, hb, hj⟩
    · have hok : ∀ i e, L[i]? = some e → OkN (L.take i) e := fun i e he => by
        rcases Nat.lt_or_ge i L.length with h' | h'
        · exact h i h' e he
        · rw [List.getElem?_eq_none h'] at he; cases he
      exact tcheck_cur A n c L cur w hA hnc hT (by omega) (by omega) hok (idx_neg fun hc => hno ⟨by omega, by omega, hok, hc⟩)
    · have hex : ∃ e, L[k]? = some e ∧ ¬ OkN (L.take k) e := by
        refine ⟨L[k], List.getElem?_eq_getElem hk, fun h2 => hb fun e he => ?_⟩
        rw [List.getElem?_eq_getElem hk] at he
        injection he with he
        subst he
        exact h2
      obtain ⟨e, he, hbe⟩ := hex
      exact tcheck_node A n c L cur w hA hnc hT (by omega) (by omega) k e he hbe (fun i e' hi he' => hj i hi e' he') (hg e (List.mem_of_getElem? he))
end Go.Proofs.YthbfmdnibijapaaDoor
