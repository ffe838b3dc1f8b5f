/-
  THE LAW's OWN SMALL CALLS.
-/
import Derived.Test.YtdgbaeliabaneaaDoorRoZ
import Derived.Laws.IdiomStrings
import Derived.Laws.Cover4
import Derived.Laws.AppendOwn
import Derived.Maps.AppendAt
set_option linter.unusedVariables false
namespace Go.Proofs.YtdgbaeliabaneaaDoor
open Go Go.RowKit

theorem znum_any (x m : Int) (w : World) : Calls Tryd.prog 14 #[.int .i64 x, .int .i64 m] w fun e w' => e = .returned (.bool (decide (0 ≤ x ∧ x ≤ m))) ∧ w' = w := by
  by_cases h1 : 0 ≤ x
  · have b1 : decide (0 ≤ x) = true := by simp; omega
    by_cases h2 : x ≤ m
    · have b2 : decide (x ≤ m) = true := by simp; omega
      rw [decide_eq_true (show 0 ≤ x ∧ x ≤ m from ⟨h1, h2⟩)]
      clear h1 h2
      go_enter Tryd.func14, Tryd.ntmps14
      go_wp2
      go_ret
      exact ⟨rfl, rfl⟩
    · have b2 : decide (x ≤ m) = false := by simp; omega
      rw [decide_eq_false (show ¬ (0 ≤ x ∧ x ≤ m) by omega)]
      clear h1 h2
      go_enter Tryd.func14, Tryd.ntmps14
      go_wp2
      go_ret
      exact ⟨rfl, rfl⟩
  · have b1 : decide (0 ≤ x) = false := by simp; omega
    rw [decide_eq_false (show ¬ (0 ≤ x ∧ x ≤ m) by omega)]
    clear h1
    go_enter Tryd.func14, Tryd.ntmps14
    go_wp2
    go_ret
    exact ⟨rfl, rfl⟩
theorem within_any (x n : Int) (hn : 1 ≤ n) (hm : n ≤ 9223372036854775807) (w : World) : Calls Tryd.prog 12 #[.int .i64 x, .int .i64 n] w fun e w' => ∃ k : Nat, (k : Int) < n ∧ e = .returned (.int .i64 k) ∧ w' = w := by
  have e1 : IntKind.u64.wrap n = n := IntWalk.u64_in n ⟨by omega, by omega⟩
  obtain ⟨q, hq, hq0⟩ : ∃ q, IntKind.u64.wrap x = q ∧ 0 ≤ q := ⟨_, rfl, by simp [IntKind.wrap, IntKind.bits, IntKind.signed]; omega⟩
  have e2 : q.tmod n = q % n := by rw [Int.tmod_eq_emod_of_nonneg hq0]
  obtain ⟨k, hk⟩ : ∃ k : Nat, q % n = (k : Int) := ⟨(q % n).toNat, by have := Int.emod_nonneg q (show n ≠ 0 by omega); omega⟩
  have hlt : (k : Int) < n := by rw [← hk]; exact Int.emod_lt_of_pos q (by omega)
  have e4 : IntKind.u64.wrap (k : Int) = (k : Int) := IntWalk.u64_in _ ⟨by omega, by omega⟩
  have hn0 : (n == 0) = false := by rw [beq_eq_false_iff_ne]; omega
  have HK := Lib.hid hk
  clear hk
  go_enter Tryd.func12, Tryd.ntmps12
  go_wp2
  go_ret
  refine ⟨k, hlt, ?_, rfl⟩
  show Ending.returned (.int .i64 (wrap64 (q % n))) = _
  rw [HK.out, IntWalk.wrap64_in _ ⟨by omega, by omega⟩]
theorem znum_t {x m : Int} (h : 0 ≤ x ∧ x ≤ m) (w : World) : Calls Tryd.prog 14 #[.int .i64 x, .int .i64 m] w fun e w' => e = .returned (.bool true) ∧ w' = w := by
  have c := znum_any x m w
  rwa [decide_eq_true h] at c
theorem znum_f {x m : Int} (h : ¬ (0 ≤ x ∧ x ≤ m)) (w : World) : Calls Tryd.prog 14 #[.int .i64 x, .int .i64 m] w fun e w' => e = .returned (.bool false) ∧ w' = w := by
  have c := znum_any x m w
  rwa [decide_eq_false h] at c
set_option maxRecDepth 100000 in
theorem mbtw_any (x l m : Int) (w : World) : Calls Tryd.prog 28 #[.int .i64 x, .int .i64 l, .int .i64 m] w fun e w' => e = .returned (.bool (decide (l ≤ x ∧ x ≤ m))) ∧ w' = w := by
  by_cases h1 : l ≤ x
  · have b1 : decide (l ≤ x) = true := by simp; omega
    by_cases h2 : x ≤ m
    · have b2 : decide (x ≤ m) = true := by simp; omega
      rw [decide_eq_true (show l ≤ x ∧ x ≤ m from ⟨h1, h2⟩)]
      clear h1 h2
      go_enter Tryd.func28, Tryd.ntmps28
      go_wp2
      go_ret
      exact ⟨rfl, rfl⟩
    · have b2 : decide (x ≤ m) = false := by simp; omega
      rw [decide_eq_false (show ¬ (l ≤ x ∧ x ≤ m) by omega)]
      clear h1 h2
      go_enter Tryd.func28, Tryd.ntmps28
      go_wp2
      go_ret
      exact ⟨rfl, rfl⟩
  · have b1 : decide (l ≤ x) = false := by simp; omega
    rw [decide_eq_false (show ¬ (l ≤ x ∧ x ≤ m) by omega)]
    clear h1
    go_enter Tryd.func28, Tryd.ntmps28
    go_wp2
    go_ret
    exact ⟨rfl, rfl⟩
set_option maxRecDepth 100000 in
theorem rlen_any (s : ByteArray) (w : World) (h : s.size ≤ 1000000) : Calls Tryd.prog 29 #[.string s] w fun e w' => e = .returned (.int .i64 (rs s).length) ∧ Kept (fun _ => False) w w' := by
  obtain ⟨cap, w2, hcap, hcv, hk2, hlt, hR⟩ := conv_rs s w (by omega)
  generalize rs s = t at *
  have HK := Lib.hid hk2
  clear hk2 hR
  go_enter Tryd.func29, Tryd.ntmps29
  go_wp2
  go_ret
  exact ⟨rfl, HK.out⟩
theorem take_strs {ss : List ByteArray} {k : Nat} {x : ByteArray} (h : ss[k]? = some x) : (ss.take (k + 1)).map Value.string = (ss.take k).map Value.string ++ [.string x] := by
  rw [List.take_add_one, h]
  simp
set_option maxRecDepth 100000 in
set_option maxHeartbeats 1000000 in
theorem copystr_any (A : Option Addr) (n c : Nat) (ss : List ByteArray) (w : World) (hA : Strs w A n ss) (hn : n ≤ 100000) :
    Calls Tryd.prog 6 #[.slice A n c] w fun e w' => (∃ v, e = .returned v ∧ w'.ownsRow w.heap.size 9 1 v n (ss.map .string)) ∧ Kept (fun _ => False) w w' := by
  obtain ⟨i0, hi, hz0, hz1, hz2⟩ := info_parts info_str
  have HA := Lib.hid hA
  clear hA
  go_enter Tryd.func6, Tryd.ntmps6
  go_wp2_with fail
  go_loopw [3, 4] (fun v i wr => ∃ k : Nat, k ≤ n ∧ i = .int .i64 k ∧ wr.ownsRow w.heap.size 9 1 v k ((ss.take k).map .string) ∧ Kept (fun _ => False) w wr) (fun _ i _ => n - (intOf i).toNat)
  case atStart => exact ⟨0, Nat.zero_le _, rfl, World.ownsRow_nil _ _ _ _, Kept.refl _ _⟩
  case round =>
    obtain ⟨k, hk, rfl, hown, hkept⟩ := hrel
    have HK := Lib.hid hkept
    have hszk := hkept.size
    have HSZ := Lib.hid hszk
    clear hkept hszk
    by_cases hkn : k < n
    · obtain ⟨ad, x, rfl, hx, f0, _⟩ := (HA.out.kept HK.out).cell hkn
      have HST := Lib.hid (take_strs hx)
      generalize (ss.take k).map Value.string = ys at *
      have b1 : decide (k < n) = true := decide_eq_true hkn
      have b2 : decide ((k : Int) < (n : Int)) = true := decide_eq_true (by omega)
      have t1 : (0 : Int) ≤ (k : Int) := by omega
      have t2 : (k : Int) < (n : Int) := by omega
      clear hx
      go_wp2_with (at_builtin; refine wpList_append_own_at _ rfl (.tmp 11) (.tmp 16) 22 rfl w.heap.size 9 i0 (.string ⟨#[]⟩) 1 16 Tryd.underlying22 hi hz0 hz1 hz2 rfl (by decide) _ _ _ rfl (hown.alloc _) ⟨_, 0, none⟩ 1 1 [.string x] rfl rfl one_cells one_str (by unfold maxLen; omega) (by omega) (by have := HSZ.out; simp; omega) ?_; intro v' w4 hown' hgrow _ hat; have HK4 := Lib.hid (Kept.grew (HK.out.alloc _) hgrow (fun b hb => (hown.lt b hb).1)); have HO4 := Lib.hid hown'; clear hown' hgrow hat)
      go_roundw
      case rel => exact ⟨k + 1, by omega, by go_num, by rw [HST.out]; exact HO4.out, HK4.out⟩
      case measure => simp [intOf] <;> omega
    · obtain rfl : k = n := by omega
      have b1 : decide (k < k) = false := decide_eq_false (by omega)
      have b2 : decide ((k : Int) < (k : Int)) = false := decide_eq_false (by omega)
      rw [List.take_of_length_le (by rw [HA.out.1]; exact Nat.le_refl _)] at hown
      have HO := Lib.hid hown
      clear hown
      go_wp2_with fail
      go_ret
      exact ⟨⟨_, rfl, HO.out⟩, HK.out⟩

theorem rowB_eq (s : ByteArray) : rowB s = (s.data.toList.all (fun b => b != 10 && b != 0) && Lib.validD s.data.toList) := by
  unfold rowB hasNZ
  congr 1
  rw [List.not_any_eq_all_not]
  congr 1
  funext b
  cases h1 : (b == 10) <;> cases h2 : (b == 0) <;> simp [bne, h1, h2]
theorem rowB_bad {s : ByteArray} {b : UInt8} (h : b ∈ s.data.toList) (hb : (b != 10 && b != 0) = false) : rowB s = false := by
  rw [rowB_eq]
  have : s.data.toList.all (fun b => b != 10 && b != 0) = false := by
    rw [List.all_eq_false]
    exact ⟨b, h, by rw [hb]; simp⟩
  rw [this]
  rfl
def RowRel (s : ByteArray) (v : Value) : Prop := ∃ k : Nat, k ≤ s.size ∧ v = .int .i64 k ∧ (s.data.toList.take k).all (fun b => b != 10 && b != 0) = true
theorem rrow_any (s : ByteArray) (w : World) (hs : s.size ≤ 140737488351232) (hT : Tabs w) :
    Calls Tryd.prog 15 #[.string s] w fun e w' => e = .returned (.bool (rowB s)) ∧ Kept (fun _ => False) w w' := by
  have HT := Lib.hid hT
  clear hT
  go_enter Tryd.func15, Tryd.ntmps15
  go_wp2
  go_loop [3] (fun v => RowRel s v) (fun v => s.size - (intOf v).toNat)
  case atStart => exact ⟨0, Nat.zero_le _, rfl, rfl⟩
  case round =>
    obtain ⟨k, hk, rfl, hall⟩ := hrel
    have HA := Lib.hid hall
    clear hall
    by_cases hlt : k < s.size
    · obtain ⟨b, hb⟩ : ∃ b, s[k]'hlt = b := ⟨_, rfl⟩
      have hlist : Hid (s.data.toList[k]? = some b) := by
        rw [← hb]
        show s.data.toList[k]? = some (s.data[k]'hlt)
        rw [Array.getElem?_toList]
        exact Array.getElem?_eq_getElem hlt
      have hmem : Hid (b ∈ s.data.toList) := List.mem_of_getElem? hlist
      by_cases h1 : b = 10
      · have b1 : ((b.toNat : Int) == 10) = true := by rw [h1]; rfl
        have H1 := Lib.hid h1
        clear h1
        go_wp2
        go_ret
        refine ⟨?_, Kept.refl _ _⟩
        rw [rowB_bad hmem.out (by rw [H1.out]; rfl)]
        rfl
      by_cases h2 : b = 0
      · have b1 : ((b.toNat : Int) == 10) = false := by rw [h2]; rfl
        have b2 : ((b.toNat : Int) == 0) = true := by rw [h2]; rfl
        have H2 := Lib.hid h2
        clear h1 h2
        go_wp2
        go_ret
        refine ⟨?_, Kept.refl _ _⟩
        rw [rowB_bad hmem.out (by rw [H2.out]; rfl)]
        rfl
      have b1 : ((b.toNat : Int) == 10) = false := by
        rw [beq_eq_false_iff_ne]
        intro h
        exact h1 (UInt8.toNat_inj.1 (by simp; omega))
      have b2 : ((b.toNat : Int) == 0) = false := by
        rw [beq_eq_false_iff_ne]
        intro h
        exact h2 (UInt8.toNat_inj.1 (by simp; omega))
      have hgood : Hid ((b != 10 && b != 0) = true) := by
        show _ = true
        simp [h1, h2]
      clear h1 h2
      go_wp2
      go_round
      case rel =>
        refine ⟨k + 1, by omega, by go_num, ?_⟩
        rw [List.take_add_one, hlist.out, List.all_append, HA.out]
        simpa using hgood.out
      case measure => simp [intOf]; omega
    · obtain rfl : k = s.size := by omega
      have hsz := Lib.size_eq s
      have hfin : Hid (rowB s = Lib.validD s.data.toList) := by
        show _ = _
        have h := HA.out
        rw [List.take_of_length_le (by omega)] at h
        rw [rowB_eq, h, Bool.true_and]
      have cV := valid_any s w (by omega) HT.out
      clear hsz
      go_wp2_with (go_at_call 34; refine cV.mono ?_; rintro e w1 ⟨rfl, hk1⟩)
      go_ret
      rw [hfin.out]
      exact ⟨rfl, hk1⟩

theorem num3_any (x : Int) (w : World) : Calls Tryd.prog 9 #[.int .i64 x] w fun e w' => e = .returned (.int .i64 x) ∧ w' = w := by
  go_enter Tryd.func9, Tryd.ntmps9
  go_wp2
  go_ret
  exact ⟨rfl, rfl⟩
/-- How much texts weigh, as far as it is counted. -/
theorem texts_any (A : Option Addr) (n c : Nat) (ss : List ByteArray) (w : World) (hA : Strs w A n ss) (hn : n ≤ 8796093022208) :
    Calls Tryd.prog 24 #[.slice A n c] w fun e w' => (∃ q : Int, e = .returned (.int .i64 q) ∧ 0 ≤ q ∧ q ≤ 200000000000000 ∧ (q ≤ 1000000 → (n : Int) + byL ss = q)) ∧ w' = w := by
  have HA := Lib.hid hA
  clear hA
  go_enter Tryd.func24, Tryd.ntmps24
  go_wp2
  go_loop [3, 4] (fun m i => ∃ (k : Nat) (q : Int), k ≤ n ∧ i = .int .i64 k ∧ m = .int .i64 q ∧ 0 ≤ q ∧ q ≤ 160000000000000 ∧ (n : Int) + byL (ss.take k) = q) (fun _ i => n - (intOf i).toNat)
  case atStart => exact ⟨0, n, Nat.zero_le _, rfl, rfl, by omega, by omega, by simp [byL]⟩
  case round =>
    obtain ⟨k, q, hk, rfl, rfl, h1, h2, h3⟩ := hrel
    have H3 := Lib.hid h3
    clear h3
    by_cases hlt : k < n
    · by_cases hq : q < 1048576
      · obtain ⟨ad, s, rfl, hs, hc, hsz⟩ := HA.out.cell hlt
        have HS := Lib.hid (byL_take_succ hs)
        clear hs
        have bq : decide (q < 1048576) = true := by simp; omega
        go_wp2
        go_round
        case rel => exact ⟨k + 1, q + s.size, by omega, by go_num, by go_num, by omega, by omega, by rw [HS.out]; have := H3.out; omega⟩
        case measure => simp [intOf]; omega
      · have bq : decide (q < 1048576) = false := by simp; omega
        have bq2 : ¬ q < 1048576 := hq
        go_wp2
        go_ret
        exact ⟨⟨q, rfl, by omega, by omega, fun h => by omega⟩, rfl⟩
    · obtain rfl : k = n := by omega
      go_wp2
      go_ret
      refine ⟨⟨q, rfl, by omega, by omega, fun h => ?_⟩, rfl⟩
      have h3 := H3.out
      rw [List.take_of_length_le (by rw [HA.out.1]; exact Nat.le_refl _)] at h3
      exact h3
theorem Strs.keptS {S : Nat → Prop} {w w' : World} {A : Option Addr} {n : Nat} {ss : List ByteArray} (h : Strs w A n ss) (hk : Kept S w w') (hs : ∀ a, A = some a → ¬ S a.block) : Strs w' A n ss := by
  refine ⟨h.1, fun j s hj => ?_⟩
  obtain ⟨ad, e, r, hz⟩ := h.2 j s hj
  exact ⟨ad, e, cell_kept hk r (by rw [show (ad.add j).block = ad.block by unfold Addr.add; split <;> rfl]; exact hs ad e), hz⟩
/-- An own slice of texts, read. -/
theorem own_strs {w : World} {B n : Nat} {v : Value} {L : List ByteArray} (h : w.ownsRow B 9 1 v n (L.map .string)) (hz : byL L ≤ 1000000) : ∃ A c, v = .slice A n c ∧ Strs w A n L ∧ n ≤ c ∧ (∀ a, A = some a → B ≤ a.block ∧ a.block < w.heap.size) := by
  have hl := h.1
  rw [List.length_map, Nat.mul_one] at hl
  rcases h.2 with ⟨rfl, hn⟩ | ⟨g, cap, cur, rfl, hb, hg, hc, hm, hs, ht⟩
  · subst hn
    obtain rfl : L = [] := List.length_eq_zero_iff.1 hl
    exact ⟨none, 0, rfl, ⟨rfl, fun j s hj => by simp at hj⟩, Nat.le_refl _, fun a h => by cases h⟩
  · refine ⟨some ⟨g, 0, none⟩, cap, rfl, ⟨hl, fun j s hj => ⟨_, rfl, ?_, by have := byL_mem (List.mem_of_getElem? hj); omega⟩⟩, hc, fun a ha => by cases ha; exact ⟨hb, heap_lt hg⟩⟩
    have hx := h.cells (g := g) rfl j (.string s) (by rw [List.getElem?_map, hj]; rfl)
    exact hx
set_option maxRecDepth 100000 in
set_option maxHeartbeats 1000000 in
theorem eqstr_yes (A B : Option Addr) (n m c d : Nat) (L : List ByteArray) (w : World) (hA : Strs w A n L) (hB : Strs w B m L) (hn : n ≤ 1000000) :
    Calls Tryd.prog 10 #[.slice A n c, .slice B m d] w fun e w' => e = .returned (.bool true) ∧ Kept (fun _ => False) w w' := by
  obtain rfl : m = n := by rw [← hA.1, ← hB.1]
  have HA := Lib.hid hA
  have HB := Lib.hid hB
  clear hA hB
  go_enter Tryd.func10, Tryd.ntmps10
  go_wp2_with fail
  go_loopw [5] (fun i wr => ∃ k : Nat, k ≤ m ∧ i = .int .i64 k ∧ Kept (fun _ => False) w wr) (fun i _ => m - (intOf i).toNat)
  case atStart => exact ⟨0, Nat.zero_le _, rfl, Kept.refl _ _⟩
  case round =>
    obtain ⟨k, hk, rfl, hkept⟩ := hrel
    have HK := Lib.hid hkept
    clear hkept
    by_cases hlt : k < m
    · obtain ⟨ad, s, rfl, hs, hc, _⟩ := (HA.out.kept HK.out).cell hlt
      obtain ⟨ad2, s2, rfl, hs2, hc2, _⟩ := (HB.out.kept HK.out).cell hlt
      obtain rfl : s2 = s := by rw [hs] at hs2; exact (Option.some.inj hs2).symm
      clear hs hs2
      have b1 : decide (k < m) = true := decide_eq_true hlt
      have b2 : decide ((k : Int) < (m : Int)) = true := decide_eq_true (by omega)
      have t1 : (0 : Int) ≤ (k : Int) := by omega
      have t2 : (k : Int) < (m : Int) := by omega
      go_upto_region 6 with fail
      go_quiet (fail)
      go_wp2_with fail
      go_roundw
      case rel => exact ⟨k + 1, by omega, by go_num, HK.out.drewN _⟩
      case measure => simp [intOf] <;> omega
    · obtain rfl : k = m := by omega
      have b1 : decide (k < k) = false := decide_eq_false (by omega)
      have b2 : decide ((k : Int) < (k : Int)) = false := decide_eq_false (by omega)
      go_wp2_with fail
      go_ret
      exact ⟨rfl, HK.out⟩
set_option maxRecDepth 100000 in
/-- How many bits. -/
theorem bits_any (N : Nat) (w : World) (hN : N ≤ 1000000000) : Calls Tryd.prog 23 #[.int .i64 N] w fun e w' => e = .returned (.int .i64 (bitsN N : Nat)) ∧ w' = w := by
  go_enter Tryd.func23, Tryd.ntmps23
  go_wp2
  go_loop [0, 3] (fun n b => ∃ k m : Nat, n = .int .i64 m ∧ b = .int .i64 k ∧ m ≤ N ∧ bitsN N = k + bitsN m ∧ k + m ≤ N) (fun n _ => (intOf n).toNat)
  case atStart => exact ⟨0, N, rfl, rfl, Nat.le_refl _, by omega, by omega⟩
  case round =>
    obtain ⟨k, m, rfl, rfl, h1, h2, h3⟩ := hrel
    have H2 := Lib.hid h2
    clear h2
    by_cases hm : 0 < m
    · have b1 : decide ((0 : Int) < (m : Int)) = true := decide_eq_true (by omega)
      have b2 : decide (0 < m) = true := decide_eq_true hm
      obtain ⟨q, hq⟩ : ∃ q, m / 2 = q := ⟨_, rfl⟩
      have t0 : wrap64 ((m : Int) / 2) = (q : Int) := by
        rw [show (m : Int) / 2 = (q : Int) by omega]
        exact IntWalk.wrap64_in _ ⟨by omega, by omega⟩
      have HB : Hid (bitsN m = 1 + bitsN q) := by show _ = _; rw [bitsN, dif_neg (by omega), hq]
      have HQ := Lib.hid hq
      clear hq
      go_wp2
      go_round
      case rel => exact ⟨k + 1, q, by have := HQ.out; go_num, by go_num, by have := HQ.out; omega, by have := H2.out; have := HB.out; omega, by have := HQ.out; omega⟩
      case measure =>
        have hq2 : m / 2 = q := HQ.out
        have hq3 : q < m := by omega
        simp [intOf]
        omega
    · obtain rfl : m = 0 := by omega
      have b1 : decide ((0 : Int) < ((0 : Nat) : Int)) = false := by decide
      have HE : Hid (bitsN N = k) := by show _ = _; rw [H2.out]; simp [bitsN]
      go_wp2
      go_ret
      exact ⟨by rw [HE.out]; rfl, rfl⟩
end Go.Proofs.YtdgbaeliabaneaaDoor
