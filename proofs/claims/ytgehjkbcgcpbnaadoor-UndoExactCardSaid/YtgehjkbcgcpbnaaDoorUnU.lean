/-
  THE REFERENCE's Tree: whether one may be.
-/
import Derived.Test.YtgehjkbcgcpbnaaDoorUnT
import Derived.Test.YtgehjkbcgcpbnaaDoorUnS
import Derived.BigQuiet
set_option linter.unusedVariables false
namespace Go.Proofs.YtgehjkbcgcpbnaaDoor
open Go Go.RowKit

set_option maxRecDepth 100000 in
theorem rmay_any (s : ByteArray) (w : World) (hs : s.size ≤ 140737488351232) (hT : Tabs w) :
    Calls Tryd.prog 13 #[.string s] w fun e w' => e = .returned (.bool (mayB s)) ∧ Kept (fun _ => False) w w' := by
  by_cases h1 : s.size ≤ 4000
  · have cV := valid_any s w (by omega) hT
    have HT := Lib.hid hT
    clear hT
    have b1 : decide (4000 < s.size) = false := by simp; omega
    have b2 : decide (4000 < (s.size : Int)) = false := by simp; omega
    cases hv : Lib.validD s.data.toList
    · have hm : mayB s = false := by unfold mayB; rw [hv]; simp
      rw [hm]
      rw [hv] at cV
      clear hv hm
      go_enter Tryd.func13, Tryd.ntmps13
      go_wp2_with (go_at_call 31; refine cV.mono ?_; rintro e w1 ⟨rfl, hk1⟩)
      go_ret
      exact ⟨rfl, hk1⟩
    · have hm : mayB s = s.data.toList.all fun b => b != 0 := by
        unfold mayB
        rw [hv]
        simp [h1]
      obtain ⟨V, hV⟩ : ∃ V, mayB s = V := ⟨_, rfl⟩
      rw [hV]
      rw [hV] at hm
      have HM := Lib.hid hm
      rw [hv] at cV
      clear hm hv hV
      go_enter Tryd.func13, Tryd.ntmps13
      go_wp2_with (go_at_call 31; refine cV.mono ?_; rintro e w1 ⟨rfl, hk1⟩)
      have HK := Lib.hid hk1
      clear hk1
      go_loop [3] (fun v => ∃ k : Nat, k ≤ s.size ∧ v = .int .i64 k ∧ (s.data.toList.take k).all (fun b => b != 0) = true) (fun v => s.size - (intOf v).toNat)
      case atStart => exact ⟨0, Nat.zero_le _, rfl, rfl⟩
      case round =>
        obtain ⟨k, hk, rfl, hall⟩ := hrel
        have HA := Lib.hid hall
        clear hall
        by_cases hlt : k < s.size
        · obtain ⟨b, hb⟩ : ∃ b, s[k]'hlt = b := ⟨_, rfl⟩
          have hlist : Hid (s.data.toList[k]? = some b) := by
            rw [← hb]
            exact byte_at s k hlt
          by_cases h0 : b = 0
          · have b3 : ((b.toNat : Int) == 0) = true := by rw [h0]; rfl
            have hV : Hid (V = false) := by
              show _ = _
              rw [HM.out, List.all_eq_false]
              exact ⟨b, List.mem_of_getElem? hlist.out, by rw [h0]; decide⟩
            clear h0
            go_wp2
            go_ret
            rw [hV.out]
            exact ⟨rfl, HK.out⟩
          · have b3 : ((b.toNat : Int) == 0) = false := by
              rw [beq_eq_false_iff_ne]
              intro h
              exact h0 (UInt8.toNat_inj.1 (by simp; omega))
            have H0 : Hid ((b != 0) = true) := by show _ = _; simpa using h0
            clear h0
            go_wp2
            go_round
            case rel =>
              refine ⟨k + 1, by omega, by go_num, ?_⟩
              rw [List.take_add_one, hlist.out, List.all_append, HA.out]
              simpa using H0.out
            case measure => simp [intOf]; omega
        · obtain rfl : k = s.size := by omega
          have hsz := Lib.size_eq s
          have hfin : Hid (V = true) := by
            show _ = _
            have h := HA.out
            rw [HM.out]
            rwa [List.take_of_length_le (by omega)] at h
          clear hsz
          go_wp2
          go_ret
          rw [hfin.out]
          exact ⟨rfl, HK.out⟩
  · have b1 : decide (4000 < s.size) = true := by simp; omega
    have b2 : decide (4000 < (s.size : Int)) = true := by simp; omega
    have hm : mayB s = false := by unfold mayB; simp [h1]
    rw [hm]
    clear hm hT
    go_enter Tryd.func13, Tryd.ntmps13
    go_wp2
    go_ret
    exact ⟨rfl, Kept.refl _ _⟩
def RA (i : Nat) (e : NodeS) : Prop := (i = 0 → e.sq = 0 ∧ e.pa = -1) ∧ (0 ≤ e.sq ∧ e.sq ≤ 1073741824) ∧ (0 ≤ e.at_ ∧ e.at_ ≤ 4000) ∧ mayB e.tx = true
def RB (L : List NodeS) (i : Nat) (e : NodeS) : Prop := 0 < i → (∀ p, L[i - 1]? = some p → p.sq < e.sq) ∧ e.pa < e.sq ∧ 0 ≤ idx L e.pa
theorem get_lt {L : List NodeS} {i : Nat} {e : NodeS} (h : L[i]? = some e) : i < L.length := by
  rcases Nat.lt_or_ge i L.length with h' | h'
  · exact h'
  · rw [List.getElem?_eq_none h'] at h; cases h
theorem idx_some {L : List NodeS} {z : Int} (h : 0 ≤ idx L z) : ∃ (j : Nat) (e : NodeS), idx L z = (j : Nat) ∧ L[j]? = some e ∧ e.sq = z := by
  unfold idx at h ⊢
  cases hf : L.findIdx? (fun e => decide (e.sq = z)) with
  | none => rw [hf] at h; simp at h
  | some j =>
    obtain ⟨hl, hp, _⟩ := List.findIdx?_eq_some_iff_getElem.1 hf
    exact ⟨j, L[j], rfl, List.getElem?_eq_getElem hl, by simpa using hp⟩
theorem idx_ge {L : List NodeS} {z : Int} {j : Nat} {e : NodeS} (h : L[j]? = some e) (hz : e.sq = z) : 0 ≤ idx L z := by
  unfold idx
  cases hf : L.findIdx? (fun e => decide (e.sq = z)) with
  | none =>
    rw [List.findIdx?_eq_none_iff] at hf
    have := hf e (List.mem_of_getElem? h)
    simp [hz] at this
  | some j => simp
/-- Nodes in order, each behind its parent. -/
structure Ord (L : List NodeS) : Prop where
  srt : Srt L
  pa : ∀ e ∈ L, e.pa < e.sq
  ge : ∀ e ∈ L, 0 ≤ e.sq
theorem ok_of_ref {L : List NodeS} (h : ∀ i e, L[i]? = some e → RA i e ∧ RB L i e) : ∀ i e, L[i]? = some e → OkN (L.take i) e := by
  have hs : Srt L := by
    have step : ∀ (d i : Nat) (a b : NodeS), L[i]? = some a → L[i + d + 1]? = some b → a.sq < b.sq := by
      intro d
      induction d with
      | zero =>
        intro i a b ha hb
        exact ((h (i + 0 + 1) b hb).2 (by omega)).1 a (by rw [show i + 0 + 1 - 1 = i by omega]; exact ha)
      | succ d ih =>
        intro i a b ha hb
        have hl := get_lt hb
        have hm : L[i + d + 1]? = some L[i + d + 1] := List.getElem?_eq_getElem (by omega)
        have h1 := ih i a _ ha hm
        have h2 := ((h (i + (d + 1) + 1) b hb).2 (by omega)).1 L[i + d + 1] (by rw [show i + (d + 1) + 1 - 1 = i + d + 1 by omega]; exact hm)
        omega
    intro i j a b ha hb hij
    have := step (j - i - 1) i a b ha
    rw [show i + (j - i - 1) + 1 = j by omega] at this
    exact this hb
  intro i e he
  obtain ⟨⟨h1, h2, h3, h4⟩, h5⟩ := h i e he
  refine ⟨?_, h3.1, h3.2, h4⟩
  by_cases hi : i = 0
  · subst hi
    exact h1 rfl
  · have hl := get_lt he
    have hp : (L.take i).getLast? = some L[i - 1] := by
      rw [List.getLast?_eq_getElem?, List.length_take, List.getElem?_take, if_pos (by omega), show min i L.length - 1 = i - 1 by omega]
      exact List.getElem?_eq_getElem (by omega)
    obtain ⟨h6, h7, h8⟩ := h5 (by omega)
    refine (pl_some hp).2 ⟨h6 _ (List.getElem?_eq_getElem (by omega)), h2.2, ?_⟩
    obtain ⟨j, e', hj, hje, hz⟩ := idx_some h8
    have hji : j < i := by
      rcases Nat.lt_or_ge j i with h' | h'
      · exact h'
      · exfalso
        by_cases hji : j = i
        · subst hji
          rw [he] at hje
          injection hje with hje
          subst hje
          omega
        · have := hs i j e e' he hje (by omega)
          omega
    exact idx_ge (j := j) (e := e') (by rw [List.getElem?_take, if_pos hji]; exact hje) hz
theorem ok_ord {L : List NodeS} (h : ∀ i e, L[i]? = some e → OkN (L.take i) e) : Ord L := by
  have hs := ok_srt h
  have h0 : ∀ e, L[0]? = some e → e.sq = 0 ∧ e.pa = -1 := fun e he => by
    have := (h 0 e he).1
    rw [List.take_zero] at this
    exact this
  have hge : ∀ (i : Nat) (e : NodeS), L[i]? = some e → 0 ≤ e.sq := fun i e he => by
    have hl := get_lt he
    have h1 : L[0]? = some L[0] := List.getElem?_eq_getElem (by omega)
    have h2 := (h0 _ h1).1
    by_cases hi : i = 0
    · subst hi
      rw [h1] at he
      injection he with he
      subst he
      omega
    · have := hs 0 i _ e h1 he (by omega)
      omega
  refine ⟨hs, fun e he => ?_, fun e he => ?_⟩
  · obtain ⟨i, hi, rfl⟩ := List.getElem_of_mem he
    have he' : L[i]? = some L[i] := List.getElem?_eq_getElem hi
    by_cases h0' : i = 0
    · subst h0'
      have := h0 _ he'
      omega
    · have hp : (L.take i).getLast? = some L[i - 1] := by
        rw [List.getLast?_eq_getElem?, List.length_take, List.getElem?_take, if_pos (by omega), show min i L.length - 1 = i - 1 by omega]
        exact List.getElem?_eq_getElem (by omega)
      obtain ⟨_, _, h8⟩ := (pl_some hp).1 (h i _ he').1
      obtain ⟨j, e', _, hje, hz⟩ := idx_some h8
      rw [List.getElem?_take] at hje
      split at hje
      · rename_i hji
        have := hs j i e' _ hje he' hji
        omega
      · cases hje
  · obtain ⟨i, hi, rfl⟩ := List.getElem_of_mem he
    exact hge i _ (List.getElem?_eq_getElem hi)
theorem ref_of_ok {L : List NodeS} (h : ∀ i e, L[i]? = some e → OkN (L.take i) e) : ∀ i e, L[i]? = some e → RA i e ∧ RB L i e := by
  have ho := ok_ord h
  intro i e he
  have hm := List.mem_of_getElem? he
  obtain ⟨h1, h2, h3, h4⟩ := h i e he
  by_cases hi : i = 0
  · subst hi
    rw [List.take_zero] at h1
    have h1 : e.sq = 0 ∧ e.pa = -1 := h1
    exact ⟨⟨fun _ => h1, ⟨ho.ge e hm, by omega⟩, ⟨h2, h3⟩, h4⟩, fun h => absurd h (by omega)⟩
  · have hl := get_lt he
    have hp : (L.take i).getLast? = some L[i - 1] := by
      rw [List.getLast?_eq_getElem?, List.length_take, List.getElem?_take, if_pos (by omega), show min i L.length - 1 = i - 1 by omega]
      exact List.getElem?_eq_getElem (by omega)
    obtain ⟨h6, h7, h8⟩ := (pl_some hp).1 h1
    refine ⟨⟨fun h => absurd h hi, ⟨ho.ge e hm, h7⟩, ⟨h2, h3⟩, h4⟩, fun _ => ⟨fun p hp' => ?_, ho.pa e hm, ?_⟩⟩
    · rw [List.getElem?_eq_getElem (by omega)] at hp'
      injection hp' with hp'
      subst hp'
      exact h6
    · obtain ⟨j, e', _, hje, hz⟩ := idx_some h8
      rw [List.getElem?_take] at hje
      split at hje
      · exact idx_ge hje hz
      · cases hje
set_option maxRecDepth 100000 in
set_option maxHeartbeats 8000000 in
theorem rtree_size (A : Option Addr) (n c : Nat) (L : List NodeS) (cur : Int) (w : World) (hA : Ng w A n L) (hnc : n ≤ c) (hT : Tabs w) (hno : n = 0 ∨ 64 < n) :
    Calls Tryd.prog 9 #[treeV (.slice A n c) cur] w fun r w' => r = .returned (.bool false) ∧ Kept (fun _ => False) w w' := by
  have hk0 : Kept (fun _ => False) w (w.alloc (treeO (.slice A n c) cur)) := (Kept.refl _ w).alloc _
  have hTB0 : (w.alloc (treeO (.slice A n c) cur)).heap[w.heap.size]? = some (treeO (.slice A n c) cur) := heap_alloc_new w _
  obtain ⟨t0, t1, _⟩ := tree_facts hTB0
  have HTB : Hid (∀ W, Kept (fun _ => False) (w.alloc (treeO (.slice A n c) cur)) W → W.cell? ⟨w.heap.size, 0, none⟩ = some (.slice A n c) ∧ W.cell? ⟨w.heap.size, 1, none⟩ = some (.int .i64 cur)) := fun W hk => ⟨cell_kept hk t0 id, cell_kept hk t1 id⟩
  have HK0 := Lib.hid hk0
  have HA := Lib.hid (hA.kept hk0 (fun _ _ => id))
  have HT := Lib.hid (hT.kept hk0 id id)
  have HL := Lib.hid hA.len
  have cB := mbtw_any (n : Int) 1 64
  rw [decide_eq_false (show ¬ ((1 : Int) ≤ (n : Int) ∧ (n : Int) ≤ 64) by omega)] at cB
  clear hk0 hTB0 hA hT
  go_enter Tryd.func9, Tryd.ntmps9
  go_upto_region 1 with fail
  simp only [treeO] at HA HT HTB HK0 t0 t1
  generalize w.alloc _ = w0 at *
  generalize w.heap.size = tb at *
  go_wp2_with (go_at_call 28; refine (cB _).mono ?_; rintro r w' ⟨rfl, hw⟩; have hw2 := hw.symm; subst hw2; clear cB)
  go_ret
  exact ⟨rfl, HK0.out⟩
set_option maxRecDepth 100000 in
set_option maxHeartbeats 8000000 in
theorem rtree_ok (A : Option Addr) (n c : Nat) (L : List NodeS) (cur : Int) (w : World) (hA : Ng w A n L) (hnc : n ≤ c) (hT : Tabs w) (hsz9 : ∀ e ∈ L, e.tx.size ≤ 140737488351232) (hn1 : 1 ≤ n) (hn2 : n ≤ 64) (hok : ∀ i e, L[i]? = some e → RA i e ∧ RB L i e) :
    Calls Tryd.prog 9 #[treeV (.slice A n c) cur] w fun r w' => r = .returned (.bool (decide (0 ≤ idx L cur))) ∧ Kept (fun _ => False) w w' := by
  have hk0 : Kept (fun _ => False) w (w.alloc (treeO (.slice A n c) cur)) := (Kept.refl _ w).alloc _
  have hTB0 : (w.alloc (treeO (.slice A n c) cur)).heap[w.heap.size]? = some (treeO (.slice A n c) cur) := heap_alloc_new w _
  obtain ⟨t0, t1, _⟩ := tree_facts hTB0
  have HTB : Hid (∀ W, Kept (fun _ => False) (w.alloc (treeO (.slice A n c) cur)) W → W.cell? ⟨w.heap.size, 0, none⟩ = some (.slice A n c) ∧ W.cell? ⟨w.heap.size, 1, none⟩ = some (.int .i64 cur)) := fun W hk => ⟨cell_kept hk t0 id, cell_kept hk t1 id⟩
  have HK0 := Lib.hid hk0
  have HA := Lib.hid (hA.kept hk0 (fun _ _ => id))
  have HT := Lib.hid (hT.kept hk0 id id)
  have HL := Lib.hid hA.len
  have cB := mbtw_any (n : Int) 1 64
  rw [decide_eq_true (show ((1 : Int) ≤ (n : Int) ∧ (n : Int) ≤ 64) by omega)] at cB
  have HOK := Lib.hid hok
  have HSZ := Lib.hid hsz9
  obtain ⟨R, hR⟩ : ∃ R, decide (0 ≤ idx L cur) = R := ⟨_, rfl⟩
  rw [hR]
  have HR := Lib.hid hR
  clear hk0 hTB0 hA hT hok hsz9 hR
  go_enter Tryd.func9, Tryd.ntmps9
  go_upto_region 1 with fail
  simp only [treeO] at HA HT HTB HK0 t0 t1
  generalize w.alloc _ = w0 at *
  generalize w.heap.size = tb at *
  go_wp2_with (go_at_call 28; refine (cB _).mono ?_; rintro r w' ⟨rfl, hw⟩; have hw2 := hw.symm; subst hw2; clear cB)
  clear t0 t1
  go_loopw [3] (fun v wr => ∃ i : Nat, i ≤ n ∧ v = .int .i64 i ∧ Kept (fun _ => False) w0 wr) (fun v _ => n - (intOf v).toNat)
  case atStart => exact ⟨0, Nat.zero_le _, rfl, Kept.refl _ _⟩
  case round =>
    obtain ⟨i, hi, rfl, hkr⟩ := hrel
    have HK := Lib.hid hkr
    clear hkr
    by_cases hlt : i < n
    · have hzz : True := trivial
      obtain ⟨ad, e, rfl, he, h4⟩ := (HA.out.kept HK.out (fun _ _ => id)).at_ hlt
      have f0 := h4.c0
      have f1 := h4.c1
      have f2 := h4.c2
      have f3 := h4.c3
      obtain ⟨t0, t1⟩ := HTB.out wr HK.out
      have HN : Hid (∀ W, Kept (fun _ => False) (wr.alloc (nodeO e)) W → Nd4 W ⟨wr.heap.size, 0, none⟩ e) := fun W hk => nd4_new.kept hk id
      have hk1 : Kept (fun _ => False) wr (wr.alloc (nodeO e)) := (Kept.refl _ wr).alloc _
      have HK1 := Lib.hid (HK.out.trans hk1)
      have b1 : decide ((i : Int) < (n : Int)) = true := decide_eq_true (by omega)
      have b2 : decide (i < n) = true := decide_eq_true hlt
      have u1 : (0 : Int) ≤ (i : Int) := by omega
      have u2 : (i : Int) < (n : Int) := by omega
      have hsz : e.tx.size ≤ 140737488351232 := HSZ.out e (List.mem_of_getElem? he)
      have HE := Lib.hid he
      clear h4 hk1 he
      go_upto_region 7 with fail
      clear f0 f1 f2 f3 b1 b2 t0 t1
      simp only [nodeO] at HN HK1
      generalize wr.alloc _ = w1 at *
      generalize wr.heap.size = nb at *
      obtain ⟨c0, c1, c2, c3⟩ := (HN.out w1 (Kept.refl _ _)).cs
      have cM := rmay_any e.tx w1 hsz (HT.out.kept HK1.out id id)
      have n1 := mnum_any e.sq 1073741824
      have n2 := mnum_any e.at_ 4000
      have hra := (HOK.out i e HE.out).1
      have hrb := (HOK.out i e HE.out).2
      rw [decide_eq_true hra.2.1] at n1
      rw [decide_eq_true hra.2.2.1] at n2
      rw [hra.2.2.2] at cM
      have HRB := Lib.hid hrb
      by_cases hi0 : i = 0
      · have z0 : ((i : Int) == 0) = true := by rw [hi0]; rfl
        have s0 : (e.sq != 0) = false := by rw [(hra.1 hi0).1]; rfl
        have p0 : (e.pa != -1) = false := by rw [(hra.1 hi0).2]; rfl
        have z1 : decide ((0 : Int) < (i : Int)) = false := decide_eq_false (by omega)
        have z2 : decide (0 < i) = false := decide_eq_false (by omega)
        clear hi0 hra hrb
        go_upto_region 9 with (first | (go_at_call 29; refine (n1 _).mono ?_; rintro r w' ⟨rfl, hw⟩; have hw2 := hw.symm; subst hw2; clear n1) | (go_at_call 29; refine (n2 _).mono ?_; rintro r w' ⟨rfl, hw⟩; have hw2 := hw.symm; subst hw2; clear n2) | (go_at_call 13; refine cM.mono ?_; clear cM; rintro r w3 ⟨rfl, hk3⟩; have HK3 := Lib.hid (HK1.out.trans hk3); have HK13 := Lib.hid hk3; clear hk3))
        clear z0 s0 p0 c0 c1 c2 c3
        obtain ⟨c0, c1, c2, c3⟩ := (HN.out w3 HK13.out).cs
        obtain ⟨t0, t1⟩ := HTB.out w3 HK3.out
        go_quiet (fail)
        go_wp2_with fail
        go_roundw
        case rel => exact ⟨i + 1, by omega, by go_num, HK3.out.drewN _⟩
        case measure => simp [intOf]; omega
      · have z0 : ((i : Int) == 0) = false := by rw [beq_eq_false_iff_ne]; omega
        have z1 : decide ((0 : Int) < (i : Int)) = true := decide_eq_true (by omega)
        have z2 : decide (0 < i) = true := decide_eq_true (by omega)
        clear hra hrb
        go_upto_region 9 with (first | (go_at_call 29; refine (n1 _).mono ?_; rintro r w' ⟨rfl, hw⟩; have hw2 := hw.symm; subst hw2; clear n1) | (go_at_call 29; refine (n2 _).mono ?_; rintro r w' ⟨rfl, hw⟩; have hw2 := hw.symm; subst hw2; clear n2) | (go_at_call 13; refine cM.mono ?_; clear cM; rintro r w3 ⟨rfl, hk3⟩; have HK3 := Lib.hid (HK1.out.trans hk3); have HK13 := Lib.hid hk3; clear hk3))
        clear z0 c0 c1 c2 c3
        obtain ⟨j, hij⟩ : ∃ j, i = j + 1 := ⟨i - 1, by omega⟩
        have hjn : j < n := by omega
        obtain ⟨pr, hpr⟩ : ∃ pr, L[j]? = some pr := ⟨_, List.getElem?_eq_getElem (by have := get_lt HE.out; omega)⟩
        have HPR : Hid (L[i - 1]? = some pr) := by show _ = _; rw [show i - 1 = j by omega]; exact hpr
        have wi : IntKind.i64.wrap ((i : Int) - 1) = (j : Int) := by rw [show (i : Int) - 1 = (j : Int) by omega]; exact IntWalk.i64_in _ ⟨by omega, by omega⟩
        clear hij
        have u3 : (0 : Int) ≤ (j : Int) := by omega
        have u4 : (j : Int) < (n : Int) := by omega
        have KF : Hid (∀ W, Kept (fun _ => False) w3 W → W.cell? ⟨tb, 0, none⟩ = some (.slice (some ad) n c) ∧ W.cell? ⟨tb, 1, none⟩ = some (.int .i64 cur) ∧ W.cell? ⟨nb, 0, none⟩ = some (.int .i64 e.sq) ∧ W.cell? ⟨nb, 1, none⟩ = some (.int .i64 e.pa) ∧ W.cell? (ad.add (j * 4)) = some (.int .i64 pr.sq)) := by
          show ∀ W, _
          intro W hk
          have h1 := HTB.out W (HK3.out.trans hk)
          have h2 := (HN.out W (HK13.out.trans hk)).cs
          exact ⟨h1.1, h1.2, h2.1, h2.2.1, ((HA.out.kept (HK3.out.trans hk) (fun _ _ => id)).nd hpr).2.c0⟩
        have KA := KF.out w3.drew (Kept.refl _ w3).drew
        have cN := rnode_any (some ad) n c L cur e.pa w3.drew ((HA.out.kept HK3.out (fun _ _ => id)).kept (Kept.refl (fun _ => False) w3).drew (fun _ _ => id)) (by omega)
        clear hpr
        obtain ⟨h6, h7, h8⟩ := HRB.out (by omega)
        have q1 : decide (e.sq ≤ pr.sq) = false := decide_eq_false (by have := h6 pr HPR.out; omega)
        have q2 : decide (e.sq ≤ e.pa) = false := decide_eq_false (by omega)
        have q3 : decide (idx L e.pa < 0) = false := decide_eq_false (by omega)
        generalize idx L e.pa = zz at *
        clear h6 h7 h8
        go_region_held3 (fun (W : World) => W.cell? ⟨tb, 0, none⟩ = some (.slice (some ad) n c) ∧ W.cell? ⟨tb, 1, none⟩ = some (.int .i64 cur) ∧ W.cell? ⟨nb, 0, none⟩ = some (.int .i64 e.sq) ∧ W.cell? ⟨nb, 1, none⟩ = some (.int .i64 e.pa) ∧ W.cell? (ad.add (j * 4)) = some (.int .i64 pr.sq))
          (first | with_reducible exact KB | with_reducible exact KA)
          (first | (go_at_call 30; refine cN.mono ?_; clear cN; rintro r w4 ⟨rfl, hk4⟩; have HK34 := Lib.hid ((Kept.refl (fun _ => False) w3).drew.trans hk4); have HK4 := Lib.hid (HK3.out.trans HK34.out); have KB := KF.out w4 HK34.out; clear hk4))
        all_goals
          go_wp2_with fail
          go_roundw
          case rel => exact ⟨i + 1, by omega, by go_num, HK4.out⟩
          case measure => simp [intOf]; omega
    · obtain rfl : i = n := by omega
      have b1 : decide ((i : Int) < (i : Int)) = false := by simp
      have b2 : decide (i < i) = false := by simp
      obtain ⟨t0, t1⟩ := HTB.out wr HK.out
      have cN := rnode_any A i c L cur cur wr (HA.out.kept HK.out (fun _ _ => id)) (by omega)
      have hr := HR.out
      generalize idx L cur = zz at *
      go_wp2_with (go_at_call 30; refine cN.mono ?_; clear cN; rintro r w4 ⟨rfl, hk4⟩; have HK4 := Lib.hid (HK.out.trans hk4); clear hk4)
      go_ret
      exact ⟨rfl, HK0.out.trans HK4.out⟩
set_option maxRecDepth 100000 in
set_option maxHeartbeats 8000000 in
theorem rtree_bad (A : Option Addr) (n c : Nat) (L : List NodeS) (cur : Int) (w : World) (hA : Ng w A n L) (hnc : n ≤ c) (hT : Tabs w) (hsz9 : ∀ e ∈ L, e.tx.size ≤ 140737488351232) (hn1 : 1 ≤ n) (hn2 : n ≤ 64) (k0 : Nat) (e0 : NodeS) (he0 : L[k0]? = some e0) (hbad : ¬ (RA k0 e0 ∧ RB L k0 e0)) (hok : ∀ i e, i < k0 → L[i]? = some e → RA i e ∧ RB L i e) :
    Calls Tryd.prog 9 #[treeV (.slice A n c) cur] w fun r w' => r = .returned (.bool false) ∧ Kept (fun _ => False) w w' := by
  have hk0 : Kept (fun _ => False) w (w.alloc (treeO (.slice A n c) cur)) := (Kept.refl _ w).alloc _
  have hTB0 : (w.alloc (treeO (.slice A n c) cur)).heap[w.heap.size]? = some (treeO (.slice A n c) cur) := heap_alloc_new w _
  obtain ⟨t0, t1, _⟩ := tree_facts hTB0
  have HTB : Hid (∀ W, Kept (fun _ => False) (w.alloc (treeO (.slice A n c) cur)) W → W.cell? ⟨w.heap.size, 0, none⟩ = some (.slice A n c) ∧ W.cell? ⟨w.heap.size, 1, none⟩ = some (.int .i64 cur)) := fun W hk => ⟨cell_kept hk t0 id, cell_kept hk t1 id⟩
  have HK0 := Lib.hid hk0
  have HA := Lib.hid (hA.kept hk0 (fun _ _ => id))
  have HT := Lib.hid (hT.kept hk0 id id)
  have HL := Lib.hid hA.len
  have cB := mbtw_any (n : Int) 1 64
  rw [decide_eq_true (show ((1 : Int) ≤ (n : Int) ∧ (n : Int) ≤ 64) by omega)] at cB
  have HOK := Lib.hid hok
  have HSZ := Lib.hid hsz9
  have HBAD := Lib.hid hbad
  have HE0 := Lib.hid he0
  have hkn : k0 < n := by have := get_lt he0; have := hA.len; omega
  clear hk0 hTB0 hA hT hok hsz9 hbad he0
  go_enter Tryd.func9, Tryd.ntmps9
  go_upto_region 1 with fail
  simp only [treeO] at HA HT HTB HK0 t0 t1
  generalize w.alloc _ = w0 at *
  generalize w.heap.size = tb at *
  go_wp2_with (go_at_call 28; refine (cB _).mono ?_; rintro r w' ⟨rfl, hw⟩; have hw2 := hw.symm; subst hw2; clear cB)
  clear t0 t1
  go_loopw [3] (fun v wr => ∃ i : Nat, i ≤ k0 ∧ v = .int .i64 i ∧ Kept (fun _ => False) w0 wr) (fun v _ => n - (intOf v).toNat)
  case atStart => exact ⟨0, Nat.zero_le _, rfl, Kept.refl _ _⟩
  case round =>
    obtain ⟨i, hi, rfl, hkr⟩ := hrel
    have HK := Lib.hid hkr
    clear hkr
    by_cases hlk : i < k0
    · have hlt : i < n := by omega
      obtain ⟨ad, e, rfl, he, h4⟩ := (HA.out.kept HK.out (fun _ _ => id)).at_ hlt
      have f0 := h4.c0
      have f1 := h4.c1
      have f2 := h4.c2
      have f3 := h4.c3
      obtain ⟨t0, t1⟩ := HTB.out wr HK.out
      have HN : Hid (∀ W, Kept (fun _ => False) (wr.alloc (nodeO e)) W → Nd4 W ⟨wr.heap.size, 0, none⟩ e) := fun W hk => nd4_new.kept hk id
      have hk1 : Kept (fun _ => False) wr (wr.alloc (nodeO e)) := (Kept.refl _ wr).alloc _
      have HK1 := Lib.hid (HK.out.trans hk1)
      have b1 : decide ((i : Int) < (n : Int)) = true := decide_eq_true (by omega)
      have b2 : decide (i < n) = true := decide_eq_true hlt
      have u1 : (0 : Int) ≤ (i : Int) := by omega
      have u2 : (i : Int) < (n : Int) := by omega
      have hsz : e.tx.size ≤ 140737488351232 := HSZ.out e (List.mem_of_getElem? he)
      have HE := Lib.hid he
      clear h4 hk1 he
      go_upto_region 7 with fail
      clear f0 f1 f2 f3 b1 b2 t0 t1
      simp only [nodeO] at HN HK1
      generalize wr.alloc _ = w1 at *
      generalize wr.heap.size = nb at *
      obtain ⟨c0, c1, c2, c3⟩ := (HN.out w1 (Kept.refl _ _)).cs
      have cM := rmay_any e.tx w1 hsz (HT.out.kept HK1.out id id)
      have n1 := mnum_any e.sq 1073741824
      have n2 := mnum_any e.at_ 4000
      have hra := (HOK.out i e hlk HE.out).1
      have hrb := (HOK.out i e hlk HE.out).2
      rw [decide_eq_true hra.2.1] at n1
      rw [decide_eq_true hra.2.2.1] at n2
      rw [hra.2.2.2] at cM
      have HRB := Lib.hid hrb
      by_cases hi0 : i = 0
      · have z0 : ((i : Int) == 0) = true := by rw [hi0]; rfl
        have s0 : (e.sq != 0) = false := by rw [(hra.1 hi0).1]; rfl
        have p0 : (e.pa != -1) = false := by rw [(hra.1 hi0).2]; rfl
        have z1 : decide ((0 : Int) < (i : Int)) = false := decide_eq_false (by omega)
        have z2 : decide (0 < i) = false := decide_eq_false (by omega)
        clear hi0 hra hrb
        go_upto_region 9 with (first | (go_at_call 29; refine (n1 _).mono ?_; rintro r w' ⟨rfl, hw⟩; have hw2 := hw.symm; subst hw2; clear n1) | (go_at_call 29; refine (n2 _).mono ?_; rintro r w' ⟨rfl, hw⟩; have hw2 := hw.symm; subst hw2; clear n2) | (go_at_call 13; refine cM.mono ?_; clear cM; rintro r w3 ⟨rfl, hk3⟩; have HK3 := Lib.hid (HK1.out.trans hk3); have HK13 := Lib.hid hk3; clear hk3))
        clear z0 s0 p0 c0 c1 c2 c3
        obtain ⟨c0, c1, c2, c3⟩ := (HN.out w3 HK13.out).cs
        obtain ⟨t0, t1⟩ := HTB.out w3 HK3.out
        go_quiet (fail)
        go_wp2_with fail
        go_roundw
        case rel => exact ⟨i + 1, by omega, by go_num, HK3.out.drewN _⟩
        case measure => simp [intOf]; omega
      · have z0 : ((i : Int) == 0) = false := by rw [beq_eq_false_iff_ne]; omega
        have z1 : decide ((0 : Int) < (i : Int)) = true := decide_eq_true (by omega)
        have z2 : decide (0 < i) = true := decide_eq_true (by omega)
        clear hra hrb
        go_upto_region 9 with (first | (go_at_call 29; refine (n1 _).mono ?_; rintro r w' ⟨rfl, hw⟩; have hw2 := hw.symm; subst hw2; clear n1) | (go_at_call 29; refine (n2 _).mono ?_; rintro r w' ⟨rfl, hw⟩; have hw2 := hw.symm; subst hw2; clear n2) | (go_at_call 13; refine cM.mono ?_; clear cM; rintro r w3 ⟨rfl, hk3⟩; have HK3 := Lib.hid (HK1.out.trans hk3); have HK13 := Lib.hid hk3; clear hk3))
        clear z0 c0 c1 c2 c3
        obtain ⟨j, hij⟩ : ∃ j, i = j + 1 := ⟨i - 1, by omega⟩
        have hjn : j < n := by omega
        obtain ⟨pr, hpr⟩ : ∃ pr, L[j]? = some pr := ⟨_, List.getElem?_eq_getElem (by have := get_lt HE.out; omega)⟩
        have HPR : Hid (L[i - 1]? = some pr) := by show _ = _; rw [show i - 1 = j by omega]; exact hpr
        have wi : IntKind.i64.wrap ((i : Int) - 1) = (j : Int) := by rw [show (i : Int) - 1 = (j : Int) by omega]; exact IntWalk.i64_in _ ⟨by omega, by omega⟩
        clear hij
        have u3 : (0 : Int) ≤ (j : Int) := by omega
        have u4 : (j : Int) < (n : Int) := by omega
        have KF : Hid (∀ W, Kept (fun _ => False) w3 W → W.cell? ⟨tb, 0, none⟩ = some (.slice (some ad) n c) ∧ W.cell? ⟨tb, 1, none⟩ = some (.int .i64 cur) ∧ W.cell? ⟨nb, 0, none⟩ = some (.int .i64 e.sq) ∧ W.cell? ⟨nb, 1, none⟩ = some (.int .i64 e.pa) ∧ W.cell? (ad.add (j * 4)) = some (.int .i64 pr.sq)) := by
          show ∀ W, _
          intro W hk
          have h1 := HTB.out W (HK3.out.trans hk)
          have h2 := (HN.out W (HK13.out.trans hk)).cs
          exact ⟨h1.1, h1.2, h2.1, h2.2.1, ((HA.out.kept (HK3.out.trans hk) (fun _ _ => id)).nd hpr).2.c0⟩
        have KA := KF.out w3.drew (Kept.refl _ w3).drew
        have cN := rnode_any (some ad) n c L cur e.pa w3.drew ((HA.out.kept HK3.out (fun _ _ => id)).kept (Kept.refl (fun _ => False) w3).drew (fun _ _ => id)) (by omega)
        clear hpr
        obtain ⟨h6, h7, h8⟩ := HRB.out (by omega)
        have q1 : decide (e.sq ≤ pr.sq) = false := decide_eq_false (by have := h6 pr HPR.out; omega)
        have q2 : decide (e.sq ≤ e.pa) = false := decide_eq_false (by omega)
        have q3 : decide (idx L e.pa < 0) = false := decide_eq_false (by omega)
        generalize idx L e.pa = zz at *
        clear h6 h7 h8
        go_region_held3 (fun (W : World) => W.cell? ⟨tb, 0, none⟩ = some (.slice (some ad) n c) ∧ W.cell? ⟨tb, 1, none⟩ = some (.int .i64 cur) ∧ W.cell? ⟨nb, 0, none⟩ = some (.int .i64 e.sq) ∧ W.cell? ⟨nb, 1, none⟩ = some (.int .i64 e.pa) ∧ W.cell? (ad.add (j * 4)) = some (.int .i64 pr.sq))
          (first | with_reducible exact KB | with_reducible exact KA)
          (first | (go_at_call 30; refine cN.mono ?_; clear cN; rintro r w4 ⟨rfl, hk4⟩; have HK34 := Lib.hid ((Kept.refl (fun _ => False) w3).drew.trans hk4); have HK4 := Lib.hid (HK3.out.trans HK34.out); have KB := KF.out w4 HK34.out; clear hk4))
        all_goals
          go_wp2_with fail
          go_roundw
          case rel => exact ⟨i + 1, by omega, by go_num, HK4.out⟩
          case measure => simp [intOf]; omega
    · have hik : i = k0 := by omega
      have HIK := Lib.hid hik
      have hlt : i < n := by omega
      clear hik hlk
      obtain ⟨ad, e, rfl, he, h4⟩ := (HA.out.kept HK.out (fun _ _ => id)).at_ hlt
      have f0 := h4.c0
      have f1 := h4.c1
      have f2 := h4.c2
      have f3 := h4.c3
      obtain ⟨t0, t1⟩ := HTB.out wr HK.out
      have HN : Hid (∀ W, Kept (fun _ => False) (wr.alloc (nodeO e)) W → Nd4 W ⟨wr.heap.size, 0, none⟩ e) := fun W hk => nd4_new.kept hk id
      have hk1 : Kept (fun _ => False) wr (wr.alloc (nodeO e)) := (Kept.refl _ wr).alloc _
      have HK1 := Lib.hid (HK.out.trans hk1)
      have b1 : decide ((i : Int) < (n : Int)) = true := decide_eq_true (by omega)
      have b2 : decide (i < n) = true := decide_eq_true hlt
      have u1 : (0 : Int) ≤ (i : Int) := by omega
      have u2 : (i : Int) < (n : Int) := by omega
      have hsz : e.tx.size ≤ 140737488351232 := HSZ.out e (List.mem_of_getElem? he)
      have HE := Lib.hid he
      clear h4 hk1 he
      go_upto_region 7 with fail
      clear f0 f1 f2 f3 b1 b2 t0 t1
      simp only [nodeO] at HN HK1
      generalize wr.alloc _ = w1 at *
      generalize wr.heap.size = nb at *
      obtain ⟨c0, c1, c2, c3⟩ := (HN.out w1 (Kept.refl _ _)).cs
      have cM := rmay_any e.tx w1 hsz (HT.out.kept HK1.out id id)
      have n1 := mnum_any e.sq 1073741824
      have n2 := mnum_any e.at_ 4000
      have hee : e = e0 := by have h1 := HE.out; rw [HIK.out, HE0.out] at h1; injection h1 with h1; exact h1.symm
      have hb := HBAD.out
      rw [← HIK.out, ← hee] at hb
      clear HBAD HE0 hee
      by_cases hra : RA i e
      · have hnb : ¬ RB L i e := fun h => hb ⟨hra, h⟩
        have hi0 : i ≠ 0 := fun h => hnb (fun h2 => by omega)
        rw [decide_eq_true hra.2.1] at n1
        rw [decide_eq_true hra.2.2.1] at n2
        rw [hra.2.2.2] at cM
        have z0 : ((i : Int) == 0) = false := by rw [beq_eq_false_iff_ne]; omega
        have z1 : decide ((0 : Int) < (i : Int)) = true := decide_eq_true (by omega)
        have z2 : decide (0 < i) = true := decide_eq_true (by omega)
        have HNB := Lib.hid hnb
        clear hra hnb hb
        go_upto_region 9 with (first | (go_at_call 29; refine (n1 _).mono ?_; rintro r w' ⟨rfl, hw⟩; have hw2 := hw.symm; subst hw2; clear n1) | (go_at_call 29; refine (n2 _).mono ?_; rintro r w' ⟨rfl, hw⟩; have hw2 := hw.symm; subst hw2; clear n2) | (go_at_call 13; refine cM.mono ?_; clear cM; rintro r w3 ⟨rfl, hk3⟩; have HK3 := Lib.hid (HK1.out.trans hk3); have HK13 := Lib.hid hk3; clear hk3))
        clear z0 c0 c1 c2 c3
        obtain ⟨j, hij⟩ : ∃ j, i = j + 1 := ⟨i - 1, by omega⟩
        have hjn : j < n := by omega
        obtain ⟨pr, hpr⟩ : ∃ pr, L[j]? = some pr := ⟨_, List.getElem?_eq_getElem (by have := get_lt HE.out; omega)⟩
        have HPR : Hid (L[i - 1]? = some pr) := by show _ = _; rw [show i - 1 = j by omega]; exact hpr
        have wi : IntKind.i64.wrap ((i : Int) - 1) = (j : Int) := by rw [show (i : Int) - 1 = (j : Int) by omega]; exact IntWalk.i64_in _ ⟨by omega, by omega⟩
        clear hij
        have u3 : (0 : Int) ≤ (j : Int) := by omega
        have u4 : (j : Int) < (n : Int) := by omega
        have KF : Hid (∀ W, Kept (fun _ => False) w3 W → W.cell? ⟨tb, 0, none⟩ = some (.slice (some ad) n c) ∧ W.cell? ⟨tb, 1, none⟩ = some (.int .i64 cur) ∧ W.cell? ⟨nb, 0, none⟩ = some (.int .i64 e.sq) ∧ W.cell? ⟨nb, 1, none⟩ = some (.int .i64 e.pa) ∧ W.cell? (ad.add (j * 4)) = some (.int .i64 pr.sq)) := by
          show ∀ W, _
          intro W hk
          have h1 := HTB.out W (HK3.out.trans hk)
          have h2 := (HN.out W (HK13.out.trans hk)).cs
          exact ⟨h1.1, h1.2, h2.1, h2.2.1, ((HA.out.kept (HK3.out.trans hk) (fun _ _ => id)).nd hpr).2.c0⟩
        have KA := KF.out w3.drew (Kept.refl _ w3).drew
        have cN := rnode_any (some ad) n c L cur e.pa w3.drew ((HA.out.kept HK3.out (fun _ _ => id)).kept (Kept.refl (fun _ => False) w3).drew (fun _ _ => id)) (by omega)
        clear hpr
        have hcases : (e.sq ≤ pr.sq) ∨ (pr.sq < e.sq ∧ e.sq ≤ e.pa) ∨ (pr.sq < e.sq ∧ e.pa < e.sq ∧ idx L e.pa < 0) := by
          by_cases h1 : e.sq ≤ pr.sq
          · exact .inl h1
          · by_cases h2 : e.sq ≤ e.pa
            · exact .inr (.inl ⟨by omega, h2⟩)
            · refine .inr (.inr ⟨by omega, by omega, ?_⟩)
              rcases Int.lt_or_le (idx L e.pa) 0 with h3 | h3
              · exact h3
              · exact absurd (fun _ => ⟨fun p hp => by rw [HPR.out] at hp; injection hp with hp; subst hp; omega, by omega, h3⟩) HNB.out
        clear HNB
        rcases hcases with h1 | ⟨h1, h2⟩ | ⟨h1, h2, h3⟩
        · have q1 : decide (e.sq ≤ pr.sq) = true := decide_eq_true h1
          clear h1
          obtain ⟨t0, t1, c0, c1, f0⟩ := KF.out w3 (Kept.refl _ _)
          clear KA cN
          go_quiet (fail)
          go_wp2_with fail
          go_ret
          exact ⟨rfl, HK0.out.trans (HK3.out.drewN _)⟩
        · have q1 : decide (e.sq ≤ pr.sq) = false := decide_eq_false (by omega)
          have q2 : decide (e.sq ≤ e.pa) = true := decide_eq_true h2
          clear h1 h2
          obtain ⟨t0, t1, c0, c1, f0⟩ := KF.out w3 (Kept.refl _ _)
          clear KA cN
          go_quiet (fail)
          go_wp2_with fail
          go_ret
          exact ⟨rfl, HK0.out.trans (HK3.out.drewN _)⟩
        · have q1 : decide (e.sq ≤ pr.sq) = false := decide_eq_false (by omega)
          have q2 : decide (e.sq ≤ e.pa) = false := decide_eq_false (by omega)
          have q3 : decide (idx L e.pa < 0) = true := decide_eq_true h3
          generalize idx L e.pa = zz at *
          clear h1 h2 h3
          go_region_held3 (fun (W : World) => W.cell? ⟨tb, 0, none⟩ = some (.slice (some ad) n c) ∧ W.cell? ⟨tb, 1, none⟩ = some (.int .i64 cur) ∧ W.cell? ⟨nb, 0, none⟩ = some (.int .i64 e.sq) ∧ W.cell? ⟨nb, 1, none⟩ = some (.int .i64 e.pa) ∧ W.cell? (ad.add (j * 4)) = some (.int .i64 pr.sq))
            (first | with_reducible exact KB | with_reducible exact KA)
            (first | (go_at_call 30; refine cN.mono ?_; clear cN; rintro r w4 ⟨rfl, hk4⟩; have HK34 := Lib.hid ((Kept.refl (fun _ => False) w3).drew.trans hk4); have HK4 := Lib.hid (HK3.out.trans HK34.out); have KB := KF.out w4 HK34.out; clear hk4))
          all_goals
            go_wp2_with fail
            go_ret
            exact ⟨rfl, HK0.out.trans HK4.out⟩
      · have hcases : (i = 0 ∧ e.sq ≠ 0) ∨ (i = 0 ∧ e.sq = 0 ∧ e.pa ≠ -1) ∨ ((i = 0 ∧ e.sq = 0 ∧ e.pa = -1 ∨ i ≠ 0) ∧ (¬ (0 ≤ e.sq ∧ e.sq ≤ 1073741824) ∨ ((0 ≤ e.sq ∧ e.sq ≤ 1073741824) ∧ ¬ (0 ≤ e.at_ ∧ e.at_ ≤ 4000)) ∨ ((0 ≤ e.sq ∧ e.sq ≤ 1073741824) ∧ (0 ≤ e.at_ ∧ e.at_ ≤ 4000) ∧ mayB e.tx = false))) := by
          by_cases h0 : i = 0
          · by_cases h1 : e.sq = 0
            · by_cases h2 : e.pa = -1
              · refine .inr (.inr ⟨.inl ⟨h0, h1, h2⟩, ?_⟩)
                by_cases h3 : (0 ≤ e.sq ∧ e.sq ≤ 1073741824)
                · by_cases h4 : (0 ≤ e.at_ ∧ e.at_ ≤ 4000)
                  · cases h5 : mayB e.tx with
                    | false => exact .inr (.inr ⟨h3, h4, rfl⟩)
                    | true => exact absurd ⟨fun _ => ⟨h1, h2⟩, h3, h4, h5⟩ hra
                  · exact .inr (.inl ⟨h3, h4⟩)
                · exact .inl h3
              · exact .inr (.inl ⟨h0, h1, h2⟩)
            · exact .inl ⟨h0, h1⟩
          · refine .inr (.inr ⟨.inr h0, ?_⟩)
            by_cases h3 : (0 ≤ e.sq ∧ e.sq ≤ 1073741824)
            · by_cases h4 : (0 ≤ e.at_ ∧ e.at_ ≤ 4000)
              · cases h5 : mayB e.tx with
                | false => exact .inr (.inr ⟨h3, h4, rfl⟩)
                | true => exact absurd ⟨fun h => absurd h h0, h3, h4, h5⟩ hra
              · exact .inr (.inl ⟨h3, h4⟩)
            · exact .inl h3
        clear hb hra
        rcases hcases with ⟨h0, h1⟩ | ⟨h0, h1, h2⟩ | ⟨h0, h3 | ⟨h3, h4⟩ | ⟨h3, h4, h5⟩⟩
        · have z0 : ((i : Int) == 0) = true := by rw [h0]; rfl
          have s0 : (e.sq != 0) = true := by simp [h1]
          clear h0 h1
          go_wp2_with fail
          go_ret
          exact ⟨rfl, HK0.out.trans HK1.out⟩
        · have z0 : ((i : Int) == 0) = true := by rw [h0]; rfl
          have s0 : (e.sq != 0) = false := by rw [h1]; rfl
          have p0 : (e.pa != -1) = true := by simp [h2]
          clear h0 h1 h2
          go_wp2_with fail
          go_ret
          exact ⟨rfl, HK0.out.trans HK1.out⟩
        all_goals
          have hzz : (∃ z : Bool, ((i : Int) == 0) = z ∧ (z = true → (e.sq != 0) = false ∧ (e.pa != -1) = false)) := by
            rcases h0 with ⟨g0, g1, g2⟩ | g0
            · exact ⟨true, by rw [g0]; rfl, fun _ => ⟨by rw [g1]; rfl, by rw [g2]; rfl⟩⟩
            · exact ⟨false, by rw [beq_eq_false_iff_ne]; omega, fun h => by cases h⟩
          obtain ⟨z, z0, zs⟩ := hzz
          clear h0
        · rw [decide_eq_false h3] at n1
          clear h3
          cases z with
          | true =>
            obtain ⟨s0, p0⟩ := zs rfl
            clear zs
            go_wp2_with (first | (go_at_call 29; refine (n1 _).mono ?_; rintro r w' ⟨rfl, hw⟩; have hw2 := hw.symm; subst hw2; clear n1))
            go_ret
            exact ⟨rfl, HK0.out.trans HK1.out⟩
          | false =>
            clear zs
            go_wp2_with (first | (go_at_call 29; refine (n1 _).mono ?_; rintro r w' ⟨rfl, hw⟩; have hw2 := hw.symm; subst hw2; clear n1))
            go_ret
            exact ⟨rfl, HK0.out.trans HK1.out⟩
        · rw [decide_eq_true h3] at n1
          rw [decide_eq_false h4] at n2
          clear h3 h4
          cases z with
          | true =>
            obtain ⟨s0, p0⟩ := zs rfl
            clear zs
            go_wp2_with (first | (go_at_call 29; refine (n1 _).mono ?_; rintro r w' ⟨rfl, hw⟩; have hw2 := hw.symm; subst hw2; clear n1) | (go_at_call 29; refine (n2 _).mono ?_; rintro r w' ⟨rfl, hw⟩; have hw2 := hw.symm; subst hw2; clear n2))
            go_ret
            exact ⟨rfl, HK0.out.trans HK1.out⟩
          | false =>
            clear zs
            go_wp2_with (first | (go_at_call 29; refine (n1 _).mono ?_; rintro r w' ⟨rfl, hw⟩; have hw2 := hw.symm; subst hw2; clear n1) | (go_at_call 29; refine (n2 _).mono ?_; rintro r w' ⟨rfl, hw⟩; have hw2 := hw.symm; subst hw2; clear n2))
            go_ret
            exact ⟨rfl, HK0.out.trans HK1.out⟩
        · rw [decide_eq_true h3] at n1
          rw [decide_eq_true h4] at n2
          rw [h5] at cM
          clear h3 h4 h5
          cases z with
          | true =>
            obtain ⟨s0, p0⟩ := zs rfl
            clear zs
            go_wp2_with (first | (go_at_call 29; refine (n1 _).mono ?_; rintro r w' ⟨rfl, hw⟩; have hw2 := hw.symm; subst hw2; clear n1) | (go_at_call 29; refine (n2 _).mono ?_; rintro r w' ⟨rfl, hw⟩; have hw2 := hw.symm; subst hw2; clear n2) | (go_at_call 13; refine cM.mono ?_; clear cM; rintro r w3 ⟨rfl, hk3⟩; have HK3 := Lib.hid (HK1.out.trans hk3); have HK13 := Lib.hid hk3; clear hk3))
            go_ret
            exact ⟨rfl, HK0.out.trans HK3.out⟩
          | false =>
            clear zs
            go_wp2_with (first | (go_at_call 29; refine (n1 _).mono ?_; rintro r w' ⟨rfl, hw⟩; have hw2 := hw.symm; subst hw2; clear n1) | (go_at_call 29; refine (n2 _).mono ?_; rintro r w' ⟨rfl, hw⟩; have hw2 := hw.symm; subst hw2; clear n2) | (go_at_call 13; refine cM.mono ?_; clear cM; rintro r w3 ⟨rfl, hk3⟩; have HK3 := Lib.hid (HK1.out.trans hk3); have HK13 := Lib.hid hk3; clear hk3))
            go_ret
            exact ⟨rfl, HK0.out.trans HK3.out⟩
theorem rtree_any (A : Option Addr) (n c : Nat) (L : List NodeS) (cur : Int) (w : World) (hA : Ng w A n L) (hnc : n ≤ c) (hT : Tabs w) (hsz : ∀ e ∈ L, e.tx.size ≤ 140737488351232) :
    Calls Tryd.prog 9 #[treeV (.slice A n c) cur] w fun r w' => (∃ B : Bool, r = .returned (.bool B) ∧ (B = true ↔ MayT L cur)) ∧ Kept (fun _ => False) w w' := by
  have hl := hA.len
  by_cases h0 : n = 0 ∨ 64 < n
  · refine (rtree_size A n c L cur w hA hnc hT h0).mono fun r w' ⟨hr, hk⟩ => ⟨⟨false, hr, fun h => (by cases h), fun h => ?_⟩, hk⟩
    have h1 := h.ge
    have h2 := h.le
    omega
  · rcases least_bad (P := fun i => ∀ e, L[i]? = some e → RA i e ∧ RB L i e) L.length with h | ⟨k, hk, hb, hj⟩
    · have hok : ∀ i e, L[i]? = some e → RA i e ∧ RB L i e := fun i e he => h i (get_lt he) e he
      refine (rtree_ok A n c L cur w hA hnc hT hsz (by omega) (by omega) hok).mono fun r w' ⟨hr, hk⟩ => ⟨⟨_, hr, fun h => ?_, fun h => ?_⟩, hk⟩
      · exact ⟨by omega, by omega, ok_of_ref hok, by simpa using h⟩
      · simpa using h.cu
    · have hex : ∃ e, L[k]? = some e ∧ ¬ (RA k e ∧ RB L k e) := by
        refine ⟨L[k], List.getElem?_eq_getElem hk, fun h2 => hb fun e he => ?_⟩
        rw [List.getElem?_eq_getElem hk] at he
        injection he with he
        subst he
        exact h2
      obtain ⟨e, he, hbe⟩ := hex
      refine (rtree_bad A n c L cur w hA hnc hT hsz (by omega) (by omega) k e he hbe (fun i e' hi he' => hj i hi e' he')).mono fun r w' ⟨hr, hk⟩ => ⟨⟨false, hr, fun h => (by cases h), fun h => ?_⟩, hk⟩
      exact absurd (ref_of_ok h.ok k e he) hbe
end Go.Proofs.YtgehjkbcgcpbnaaDoor
