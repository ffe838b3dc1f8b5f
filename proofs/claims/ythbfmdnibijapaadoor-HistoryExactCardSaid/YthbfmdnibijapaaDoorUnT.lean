/-
  THE REFERENCE's small ones: copies, a node's place, Here, Root.
-/
import Derived.Test.YthbfmdnibijapaaDoorHz08
import Derived.Test.YthbfmdnibijapaaDoorHz04
set_option linter.unusedVariables false
namespace Go.Proofs.YthbfmdnibijapaaDoor
open Go Go.RowKit

set_option maxRecDepth 100000 in
theorem res_t0 {fn : Func} {p : Tmp} (h : fn.results = #[.cell p 24]) (tmps : Array Value) (w : World) (g : Nat) (v : Value) (cur : Int) (hp : tmps.getD p undef = .pointer (some ⟨g, 0, none⟩)) (hg : w.heap[g]? = some (treeO v cur)) :
    (results fn tmps).run Tryd.prog w = .ok (treeV v cur) w :=
  results_cell_row h tmps _ g _ _ _ _ hp hg Tryd.underlying24 rfl (by kernel_rfl)
set_option maxRecDepth 100000 in
set_option maxHeartbeats 4000000 in
theorem copynodes_any (A : Option Addr) (n c : Nat) (M : List NodeS) (w : World) (hA : Ng w A n M) (hn : n ≤ 100000) :
    Calls Tryd.prog 34 #[.slice A n c] w fun e w' => (∃ v', e = .returned v' ∧ On w' w.heap.size v' M) ∧ Kept (fun _ => False) w w' := by
  obtain ⟨i0, hi, hz0, hz1, hz2⟩ := info_parts info_node
  have hN := hA.len
  have HA := Lib.hid hA
  have HN := Lib.hid hN
  obtain ⟨B, hB⟩ : ∃ B, w.heap.size = B := ⟨_, rfl⟩
  have HB := Lib.hid hB
  rw [hB]
  clear hA hN hB
  go_enter Tryd.func34, Tryd.ntmps34
  go_wp2_with fail
  go_loopw [3, 4] (fun v i wr => ∃ k : Nat, k ≤ n ∧ i = .int .i64 k ∧ On wr B v (M.take k) ∧ Kept (fun _ => False) w wr) (fun _ i _ => n - (intOf i).toNat)
  case atStart => exact ⟨0, Nat.zero_le _, rfl, on_nil _ _, Kept.refl _ _⟩
  case round =>
    obtain ⟨k, hk, rfl, hown, hkept⟩ := hrel
    have HK := Lib.hid hkept
    have hsz := hkept.size
    clear hkept
    by_cases hlt : k < n
    · obtain ⟨ad, r, rfl, hr, h3⟩ := (HA.out.kept HK.out (fun _ _ => id)).at_ hlt
      have b1 : decide (k < n) = true := decide_eq_true hlt
      have b2 : decide ((k : Int) < (n : Int)) = true := decide_eq_true (by omega)
      have t1 : (0 : Int) ≤ (k : Int) := by omega
      have t2 : (k : Int) < (n : Int) := by omega
      have c0 := h3.c0
      have c1 := h3.c1
      have c2 := h3.c2
      have c3 := h3.c3
      have HE : Hid (M.take (k + 1) = M.take k ++ [r]) := by show _ = _; rw [List.take_add_one, hr]; rfl
      have hLL : (M.take k).length ≤ n := by rw [List.length_take]; omega
      have hBw : B ≤ wr.heap.size := by have := HB.out; omega
      clear hr h3
      generalize M.take k = L at *
      go_wp2_with (at_builtin; refine wpList_append_own_at _ rfl (.tmp 11) (.tmp 16) 22 rfl B 46 i0 (.agg #[.int .i64 0, .int .i64 0, .int .i64 0, .string ⟨#[]⟩]) 4 40 Tryd.underlying22 hi hz0 hz1 hz2 rfl (by decide) _ _ _ rfl (World.ownsRow.alloc hown _) ⟨_, 0, none⟩ 1 1 (NodeS.vs r) rfl rfl nfour_cells nfour_one (by unfold maxLen; omega) (by omega) (by simp <;> omega) ?_; intro v5 w5 hown5 hgrow5 _ hat5; have HO5 := Lib.hid (On.snoc hown5); have HK5 := Lib.hid (Kept.grew (HK.out.alloc _) hgrow5 (fun q hq => by have := (hown.lt q hq).1; have := HB.out; omega)); clear hown5 hgrow5 hat5)
      go_roundw
      case rel => exact ⟨k + 1, by omega, by go_num, by rw [HE.out]; exact HO5.out, HK5.out⟩
      case measure => simp [intOf] <;> omega
    · obtain rfl : k = n := by omega
      have b1 : decide (k < k) = false := decide_eq_false (by omega)
      have b2 : decide ((k : Int) < (k : Int)) = false := decide_eq_false (by omega)
      have hall : M.take k = M := List.take_of_length_le (by rw [HN.out]; exact Nat.le_refl _)
      rw [hall] at hown
      clear hall
      go_wp2_with fail
      go_ret
      exact ⟨⟨_, rfl, hown⟩, HK.out⟩
set_option maxRecDepth 100000 in
set_option maxHeartbeats 4000000 in
theorem copytree_any (A : Option Addr) (n c : Nat) (L : List NodeS) (cur : Int) (w : World) (hA : Ng w A n L) (hn : n ≤ 100000) :
    Calls Tryd.prog 14 #[treeV (.slice A n c) cur] w fun r w' => (∃ v, r = .returned (treeV v cur) ∧ On w' w.heap.size v L) ∧ Kept (fun _ => False) w w' := by
  have hka := ((Kept.refl (fun _ => False) w).alloc (treeO (.slice A n c) cur)).alloc nilT
  have hX := heap_two1 w (treeO (.slice A n c) cur) nilT
  have hY := heap_two2 w (treeO (.slice A n c) cur) nilT
  have HK0 := Lib.hid hka
  have HA := Lib.hid (hA.kept hka (fun _ _ => id))
  have HX := Lib.hid hX
  have HY := Lib.hid hY
  obtain ⟨tb, htb⟩ : ∃ tb, w.heap.size = tb := ⟨_, rfl⟩
  have HTB := Lib.hid htb
  rw [htb] at HX HY
  clear hka hX hY hA htb
  go_enter Tryd.func14, Tryd.ntmps14
  go_upto_region 1 with fail
  simp only [HTB.out]
  simp only [treeO, nilT] at HX HY HK0 HA
  generalize (w.alloc _).alloc _ = w0 at *
  obtain ⟨t0, t1, _⟩ := tree_facts HX.out
  have hkb := (Kept.refl (fun _ => False) w0).alloc (treeO (.slice A n c) cur)
  have HX1 := Lib.hid ((hkb.block _ (heap_lt HX.out) id).trans HX.out)
  have HY1 := Lib.hid ((hkb.block _ (heap_lt HY.out) id).trans HY.out)
  have HZ1 : Hid ((w0.alloc (treeO (.slice A n c) cur)).heap[w0.heap.size]? = some (treeO (.slice A n c) cur)) := heap_alloc_new w0 _
  have HA1 := Lib.hid (HA.out.kept hkb (fun _ _ => id))
  have HK1 := Lib.hid (HK0.out.trans hkb)
  have HS0 : Hid (tb + 1 < w0.heap.size) := heap_lt HY.out
  clear hkb
  go_upto_region 2 with fail
  simp only [treeO] at HX1 HY1 HZ1 HA1 HK1
  generalize w0.alloc _ = w1 at *
  generalize w0.heap.size = zb at *
  clear t0 t1
  obtain ⟨t0, t1, _⟩ := tree_facts HX1.out
  have cC := copynodes_any A n c L w1 HA1.out hn
  go_upto_region 3 with (go_at_call 34; refine cC.mono ?_; rintro r w2 ⟨⟨v, rfl, hO⟩, hk2⟩; obtain ⟨A', n', c', rfl, _⟩ := hO.sn; have HO := Lib.hid hO; have HK2 := Lib.hid (HK1.out.trans hk2); have HZ2 := Lib.hid ((hk2.block _ (heap_lt HZ1.out) id).trans HZ1.out); have HY2 := Lib.hid ((hk2.block _ (heap_lt HY1.out) id).trans HY1.out); have HS1 : Hid (zb < w1.heap.size) := heap_lt HZ1.out; clear hk2 hO cC t0 t1; obtain ⟨t0, t1, t2, t3⟩ := tree_facts HZ2.out)
  have HZ3 : Hid ((w2.setCell ⟨zb, 0, none⟩ (.slice A' n' c')).heap[zb]? = some (treeO (.slice A' n' c') cur)) := (heap_set HZ2.out _).trans rfl
  have hks : Kept (fun q => q = zb) w2 (w2.setCell ⟨zb, 0, none⟩ (.slice A' n' c')) := (Kept.refl (fun q => q = zb) w2).setCell (p := ⟨zb, 0, none⟩) rfl _
  have HY3 := Lib.hid ((hks.block _ (heap_lt HY2.out) (by have := HS0.out; show ¬ tb + 1 = zb; omega)).trans HY2.out)
  have HO3 := Lib.hid (HO.out.keptS hks (fun k hk h => by have := HS1.out; omega))
  have HK3 : Hid (Kept (fun q => q = zb) w2 (w2.setCell ⟨zb, 0, none⟩ (.slice A' n' c'))) := hks
  clear hks t0 t1 t2 t3
  generalize w2.setCell ⟨zb, 0, none⟩ (.slice A' n' c') = w3 at *
  obtain ⟨t0, t1, t2, t3⟩ := tree_facts HZ3.out
  obtain ⟨r0, r1, r2, r3⟩ := tree_facts HY3.out
  go_wp2_with fail
  refine bodyPost_ret (res_t0 rfl _ _ (tb + 1) _ cur rfl (tree_set HY3.out _ _)) rfl ⟨⟨_, rfl, ?ho⟩, ?hk⟩
  case ho =>
    have h1 := HO3.out.keptS (Kept.tree (g := tb + 1) (S := fun q => q = tb + 1) (Kept.refl (fun q => q = tb + 1) w3) rfl (.slice A' n' c') (.int .i64 cur)) (fun k hk h => by have := HS1.out; have := HS0.out; omega)
    exact h1.mono (by have := HS1.out; have := HS0.out; have := HTB.out; omega)
  case hk => exact HK2.out.fresh (Kept.tree (g := tb + 1) (S := fun q => q = tb + 1 ∨ q = zb) (HK3.out.mono (fun _ _ h => .inr h)) (.inl rfl) _ _) (fun b hb h => by have := HTB.out; have := HS0.out; omega)
theorem idx_first7 {L : List NodeS} {k : Nat} {e : NodeS} {z : Int} (h : L[k]? = some e) (hz : e.sq = z) (hn : ∀ (j : Nat) (b : NodeS), j < k → L[j]? = some b → b.sq ≠ z) : idx L z = (k : Nat) := by
  unfold idx
  have e1 : L.findIdx? (fun e => decide (e.sq = z)) = some k := by
    rw [List.findIdx?_eq_some_iff_getElem]
    obtain ⟨hl, he⟩ := List.getElem?_eq_some_iff.1 h
    refine ⟨hl, by rw [he]; simpa using hz, fun j hj => ?_⟩
    have := hn j _ hj (List.getElem?_eq_getElem (Nat.lt_trans hj hl))
    simpa using this
  rw [e1]
set_option maxRecDepth 100000 in
set_option maxHeartbeats 4000000 in
theorem rnode_any (A : Option Addr) (n c : Nat) (L : List NodeS) (cur z : Int) (w : World) (hA : Ng w A n L) (hn : n ≤ 100000) :
    Calls Tryd.prog 13 #[treeV (.slice A n c) cur, .int .i64 z] w fun r w' => r = .returned (.int .i64 (idx L z)) ∧ Kept (fun _ => False) w w' := by
  have hk0 : Kept (fun _ => False) w (w.alloc (treeO (.slice A n c) cur)) := (Kept.refl _ w).alloc _
  have hB : (w.alloc (treeO (.slice A n c) cur)).heap[w.heap.size]? = some (treeO (.slice A n c) cur) := heap_alloc_new w _
  obtain ⟨t0, t1, _⟩ := tree_facts hB
  have HA := Lib.hid (hA.kept hk0 (fun _ _ => id))
  have HK0 := Lib.hid hk0
  have HHL := Lib.hid hA.len
  obtain ⟨R, hR⟩ : ∃ R, idx L z = R := ⟨_, rfl⟩
  rw [hR]
  have HR := Lib.hid hR
  clear hk0 hB hA hR
  go_enter Tryd.func13, Tryd.ntmps13
  go_upto_region 1 with fail
  simp only [treeO] at HA HK0 t0 t1
  generalize w.alloc _ = w0 at *
  generalize w.heap.size = tb at *
  go_wp2_with fail
  go_loop [5] (fun v => ∃ k : Nat, k ≤ n ∧ v = .int .i64 k ∧ ∀ (j : Nat) (b : NodeS), j < k → L[j]? = some b → b.sq ≠ z) (fun v => n - (intOf v).toNat)
  case atStart => exact ⟨0, Nat.zero_le _, rfl, fun j b hj => absurd hj (Nat.not_lt_zero _)⟩
  case round =>
    obtain ⟨k, hk, rfl, hat⟩ := hrel
    have HAT := Lib.hid hat
    clear hat
    by_cases hlt : k < n
    · obtain ⟨ad, e, rfl, he, h4⟩ := HA.out.at_ hlt
      have c0 := h4.c0
      have b1 : decide (k < n) = true := decide_eq_true hlt
      have b2 : decide ((k : Int) < (n : Int)) = true := decide_eq_true (by omega)
      have t1_ : (0 : Int) ≤ (k : Int) := by omega
      have t2_ : (k : Int) < (n : Int) := by omega
      have HE := Lib.hid he
      clear he h4
      by_cases hz : e.sq = z
      · have hb : (e.sq == z) = true := by simp [hz]
        have HF : Hid (R = (k : Nat)) := by show _ = _; rw [← HR.out]; exact idx_first7 HE.out hz HAT.out
        clear hz
        go_wp2
        go_ret
        exact ⟨by rw [HF.out]; rfl, HK0.out⟩
      · have hb : (e.sq == z) = false := by rw [beq_eq_false_iff_ne]; exact hz
        have HF : Hid (∀ (j : Nat) (b : NodeS), j < k + 1 → L[j]? = some b → b.sq ≠ z) := fun j b hj hb => by
          by_cases h : j = k
          · subst h
            rw [HE.out] at hb
            injection hb with hb
            subst hb
            exact hz
          · exact HAT.out j b (by omega) hb
        clear hz
        go_wp2
        go_round
        case rel => exact ⟨k + 1, by omega, by go_num, HF.out⟩
        case measure => simp [intOf]; omega
    · obtain rfl : k = n := by omega
      have b1 : decide (k < k) = false := decide_eq_false (by omega)
      have b2 : decide ((k : Int) < (k : Int)) = false := decide_eq_false (by omega)
      have HF : Hid (R = -1) := by
        show _ = _
        rw [← HR.out]
        refine idx_miss fun e he hz => ?_
        obtain ⟨j, hj, rfl⟩ := List.getElem_of_mem he
        exact HAT.out j _ (by have := HHL.out; omega) (List.getElem?_eq_getElem hj) hz
      go_wp2
      go_ret
      exact ⟨by rw [HF.out]; rfl, HK0.out⟩
set_option maxRecDepth 100000 in
set_option maxHeartbeats 4000000 in
theorem rhere_any (ad : Addr) (n c : Nat) (L : List NodeS) (cur : Int) (w : World) (hA : Ng w (some ad) n L) (hn : n ≤ 64) (hT : Tabs w) (i : Nat) (e : NodeS) (hi : idx L cur = (i : Nat)) (he : L[i]? = some e) :
    Calls Tryd.prog 21 #[treeV (.slice (some ad) n c) cur] w fun r w' => r = .returned (.string e.tx) ∧ Kept (fun _ => False) w w' := by
  have HK0 : Hid (Kept (fun _ => False) w (w.alloc (treeO (.slice (some ad) n c) cur))) := (Kept.refl _ w).alloc _
  have HI0 := Lib.hid (trh_new (c := c) (cur := cur) hT hA)
  have cF := fun W (h : TrH ad n c L cur w.heap.size W) => rnode_any (some ad) n c L cur cur W h.ng (by omega)
  rw [hi] at cF
  have HND : Hid (∀ W, TrH ad n c L cur w.heap.size W → Nd4 W (ad.add (i * 4)) e) := fun W h => (h.ng.nd he).2
  have hin : i < n := (hA.nd he).1
  obtain ⟨tb, htb⟩ : ∃ tb, w.heap.size = tb := ⟨_, rfl⟩
  have HTB := Lib.hid htb
  rw [htb] at HI0 cF HND
  have HCF := Lib.hid cF
  clear htb hA hT hi cF he
  go_enter Tryd.func21, Tryd.ntmps21
  go_upto_region 1 with fail
  simp only [HTB.out]
  simp only [treeO] at HI0 HK0
  generalize w.alloc _ = w1 at *
  have b1 : (0 : Int) ≤ (i : Int) := by omega
  have b2 : (i : Int) < (n : Int) := by omega
  have HI1d := Lib.hid HI0.out.drew
  have KF : Hid (∀ W, Kept (fun _ => False) w1 W → W.cell? ⟨tb, 0, none⟩ = some (.slice (some ad) n c) ∧ W.cell? ⟨tb, 1, none⟩ = some (.int .i64 cur) ∧ W.cell? ⟨(ad.add (i * 4)).block, (ad.add (i * 4)).off + 3, none⟩ = some (.string e.tx)) := by
    show ∀ W, _
    intro W hk
    have hI := HI0.out.kept hk
    exact ⟨hI.cells.1, hI.cells.2, (HND.out W hI).c3⟩
  have KA := KF.out w1.drew (Kept.refl _ w1).drew
  go_region_held3 (fun (W : World) => W.cell? ⟨tb, 0, none⟩ = some (.slice (some ad) n c) ∧ W.cell? ⟨tb, 1, none⟩ = some (.int .i64 cur) ∧ W.cell? ⟨(ad.add (i * 4)).block, (ad.add (i * 4)).off + 3, none⟩ = some (.string e.tx))
    (first | with_reducible exact KB | with_reducible exact KA)
    (first | (go_at_call 13; refine (HCF.out _ HI1d.out).mono ?_; rintro r w3 ⟨rfl, hk3⟩; have HK3 := Lib.hid ((Kept.refl (fun _ => False) w1).drew.trans hk3); have KB := KF.out w3 HK3.out; clear hk3))
  all_goals
    go_wp2_with fail
    go_ret
    exact ⟨rfl, HK0.out.trans HK3.out⟩
set_option maxRecDepth 100000 in
set_option maxHeartbeats 4000000 in
theorem rroot_any (s : ByteArray) (w : World) :
    Calls Tryd.prog 10 #[.string s] w fun r w' => (∃ v, r = .returned (treeV v 0) ∧ On w' w.heap.size v [⟨0, -1, 0, s⟩]) ∧ Kept (fun _ => False) w w' := by
  have hk0 : Kept (fun _ => False) w (w.alloc nilT) := (Kept.refl _ w).alloc _
  have HK1 := Lib.hid hk0
  have HY1 : Hid ((w.alloc nilT).heap[w.heap.size]? = some nilT) := heap_alloc_new w _
  obtain ⟨tb, htb⟩ : ∃ tb, w.heap.size = tb := ⟨_, rfl⟩
  have HTB := Lib.hid htb
  rw [htb] at HY1
  clear htb hk0
  go_enter Tryd.func10, Tryd.ntmps10
  go_upto_region 1 with fail
  simp only [HTB.out]
  simp only [nilT, treeO] at HY1 HK1
  generalize w.alloc _ = w1 at *
  have hY2 : (w1.alloc (nodeO ⟨0, -1, 0, s⟩)).heap[tb]? = some nilT := (((Kept.refl (fun _ => False) w1).alloc _).block tb (heap_lt HY1.out) id).trans HY1.out
  have HY2 := Lib.hid hY2
  obtain ⟨r0, r1, r2, r3⟩ := tree_facts hY2
  have HTW : Hid (tb < w1.heap.size) := heap_lt HY1.out
  have HO : Hid (On (w1.alloc (nodeO ⟨0, -1, 0, s⟩)) w1.heap.size (.slice (some ⟨w1.heap.size, 0, none⟩) 1 1) [⟨0, -1, 0, s⟩]) := by
    have h := World.ownsRow_lit (base := w1.heap.size) (e := 46) (size := 4) w1 #[.int .i64 0, .int .i64 (-1), .int .i64 0, .string s] 1 (Nat.le_refl _) (by decide) rfl
    unfold On
    rw [flatN_one]
    exact h
  have HK2 : Hid (Kept (fun _ => False) w1 (w1.alloc (nodeO ⟨0, -1, 0, s⟩))) := (Kept.refl _ w1).alloc _
  clear hY2
  go_wp2_with fail
  refine bodyPost_ret (res_t0 rfl _ _ tb _ 0 rfl (tree_set HY2.out _ 0)) rfl ⟨⟨_, rfl, ?ho⟩, ?hk⟩
  case ho =>
    have h1 := HO.out.keptS (Kept.tree (g := tb) (S := fun q => q = tb) (Kept.refl (fun q => q = tb) _) rfl (.slice (some ⟨w1.heap.size, 0, none⟩) 1 1) (.int .i64 0)) (fun k hk h => by have := HTW.out; omega)
    exact h1.mono (by have := HTW.out; have := HTB.out; omega)
  case hk => exact (HK1.out.trans HK2.out).fresh (Kept.tree (g := tb) (S := fun q => q = tb) (Kept.refl (fun q => q = tb) _) rfl _ _) (fun b hb h => by have := HTB.out; omega)
end Go.Proofs.YthbfmdnibijapaaDoor
