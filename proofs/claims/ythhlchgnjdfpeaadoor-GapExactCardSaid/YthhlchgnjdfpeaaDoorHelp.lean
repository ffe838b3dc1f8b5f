/-
  THE LAWS' SMALL HELPERS, by contract: within, num, two lists of numbers, a copy, which runes may be.
-/
import Derived.Test.YthhlchgnjdfpeaaDoorLaw1
import Derived.WalkKit
import Derived.LoopTactic
set_option linter.unusedVariables false
namespace Go.Proofs.YthhlchgnjdfpeaaDoor
open Go Go.RowKit

theorem info_int : (Tryd.prog.info? 3).map (fun i => (i.zero, i.size, i.bytes)) = some (some (.int .i64 0), 1, 8) := by kernel_rfl

theorem znum_yes (x m : Int) (h : 0 ≤ x ∧ x ≤ m) (w : World) : Calls Tryd.prog 7 #[.int .i64 x, .int .i64 m] w fun e w' => e = .returned (.bool true) ∧ w' = w := by
  obtain ⟨h1, h2⟩ := h
  have b1 : decide (0 ≤ x) = true := by simp; omega
  have b2 : decide (x ≤ m) = true := by simp; omega
  go_enter Tryd.func7, Tryd.ntmps7
  go_wp2
  go_ret
  exact ⟨rfl, rfl⟩
theorem znum_no (x m : Int) (h : ¬ (0 ≤ x ∧ x ≤ m)) (w : World) : Calls Tryd.prog 7 #[.int .i64 x, .int .i64 m] w fun e w' => e = .returned (.bool false) ∧ w' = w := by
  by_cases h1 : 0 ≤ x
  · have b1 : decide (0 ≤ x) = true := by simp; omega
    have b2 : decide (x ≤ m) = false := by simp; omega
    clear h
    go_enter Tryd.func7, Tryd.ntmps7
    go_wp2
    go_ret
    exact ⟨rfl, rfl⟩
  · have b1 : decide (0 ≤ x) = false := by simp; omega
    clear h
    go_enter Tryd.func7, Tryd.ntmps7
    go_wp2
    go_ret
    exact ⟨rfl, rfl⟩

theorem within_any (x n : Int) (hn : 1 ≤ n) (hm : n ≤ 9223372036854775807) (w : World) : Calls Tryd.prog 11 #[.int .i64 x, .int .i64 n] w fun e w' => ∃ k : Nat, (k : Int) < n ∧ e = .returned (.int .i64 k) ∧ w' = w := by
  have e1 : IntKind.u64.wrap n = n := IntWalk.u64_in n ⟨by omega, by omega⟩
  obtain ⟨q, hq, hq0⟩ : ∃ q, IntKind.u64.wrap x = q ∧ 0 ≤ q := ⟨_, rfl, by simp [IntKind.wrap, IntKind.bits, IntKind.signed]; omega⟩
  have e2 : q.tmod n = q % n := by rw [Int.tmod_eq_emod_of_nonneg hq0]
  obtain ⟨k, hk⟩ : ∃ k : Nat, q % n = (k : Int) := ⟨(q % n).toNat, by have := Int.emod_nonneg q (show n ≠ 0 by omega); omega⟩
  have hlt : (k : Int) < n := by rw [← hk]; exact Int.emod_lt_of_pos q (by omega)
  have e4 : IntKind.u64.wrap (k : Int) = (k : Int) := IntWalk.u64_in _ ⟨by omega, by omega⟩
  have hn0 : (n == 0) = false := by rw [beq_eq_false_iff_ne]; omega
  have HK := Lib.hid hk
  clear hk
  go_enter Tryd.func11, Tryd.ntmps11
  go_wp2
  go_ret
  refine ⟨k, hlt, ?_, rfl⟩
  show Ending.returned (.int .i64 (wrap64 (q % n))) = _
  rw [HK.out, IntWalk.wrap64_in _ ⟨by omega, by omega⟩]

theorem lrune_any (x : Int) (w : World) : Calls Tryd.prog 32 #[.int .i64 x] w fun e w' => e = .returned (.bool (decide (1 ≤ x ∧ x ≤ 1114111 ∧ (x < 55296 ∨ 57343 < x)))) ∧ w' = w := by
  by_cases h1 : x < 1
  · have b1 : decide (1 ≤ x) = false := by simp; omega
    have hz : decide (1 ≤ x ∧ x ≤ 1114111 ∧ (x < 55296 ∨ 57343 < x)) = false := by simp; omega
    rw [hz]
    clear hz
    go_enter Tryd.func32, Tryd.ntmps32
    go_wp2
    go_ret
    exact ⟨rfl, rfl⟩
  by_cases h2 : 1114111 < x
  · have b1 : decide (x ≤ 1114111) = false := by simp; omega
    have hz : decide (1 ≤ x ∧ x ≤ 1114111 ∧ (x < 55296 ∨ 57343 < x)) = false := by simp; omega
    rw [hz]
    clear hz
    go_enter Tryd.func32, Tryd.ntmps32
    go_wp2
    go_ret
    exact ⟨rfl, rfl⟩
  by_cases h3 : x < 55296
  · have b1 : decide (55296 ≤ x) = false := by simp; omega
    have hz : decide (1 ≤ x ∧ x ≤ 1114111 ∧ (x < 55296 ∨ 57343 < x)) = true := by simp; omega
    rw [hz]
    clear hz
    go_enter Tryd.func32, Tryd.ntmps32
    go_wp2
    go_ret
    exact ⟨rfl, rfl⟩
  by_cases h4 : 57343 < x
  · have b1 : decide (x ≤ 57343) = false := by simp; omega
    have hz : decide (1 ≤ x ∧ x ≤ 1114111 ∧ (x < 55296 ∨ 57343 < x)) = true := by simp; omega
    rw [hz]
    clear hz
    go_enter Tryd.func32, Tryd.ntmps32
    go_wp2
    go_ret
    exact ⟨rfl, rfl⟩
  · have b1 : decide (x ≤ 57343) = true := by simp; omega
    have hz : decide (1 ≤ x ∧ x ≤ 1114111 ∧ (x < 55296 ∨ 57343 < x)) = false := by simp; omega
    rw [hz]
    clear hz
    go_enter Tryd.func32, Tryd.ntmps32
    go_wp2
    go_ret
    exact ⟨rfl, rfl⟩
theorem lmay_yes (x : Int) (h : May x) (w : World) : Calls Tryd.prog 17 #[.int .i64 x] w fun e w' => e = .returned (.bool true) ∧ w' = w := by
  obtain ⟨h1, h2, h3, h4⟩ := h
  have cR := lrune_any x w
  have hz : decide (1 ≤ x ∧ x ≤ 1114111 ∧ (x < 55296 ∨ 57343 < x)) = true := by simp; omega
  rw [hz] at cR
  have b3 : (x != 10) = true := by rw [bne_iff_ne]; exact h3
  clear h1 h2 h3 h4 hz
  go_enter Tryd.func17, Tryd.ntmps17
  go_wp2_with (go_at_call 32; refine cR.mono ?_; rintro e w' ⟨rfl, rfl⟩)
  go_ret
  exact ⟨rfl, rfl⟩
theorem lmay_no (x : Int) (h : ¬ May x) (w : World) : Calls Tryd.prog 17 #[.int .i64 x] w fun e w' => e = .returned (.bool false) ∧ w' = w := by
  have cR := lrune_any x w
  by_cases h3 : x = 10
  · subst h3
    clear h
    go_enter Tryd.func17, Tryd.ntmps17
    go_wp2_with (go_at_call 32; refine cR.mono ?_; rintro e w' ⟨rfl, rfl⟩)
    go_ret
    exact ⟨rfl, rfl⟩
  · have hz : decide (1 ≤ x ∧ x ≤ 1114111 ∧ (x < 55296 ∨ 57343 < x)) = false := by unfold May at h; simp; omega
    rw [hz] at cR
    clear h hz
    go_enter Tryd.func17, Tryd.ntmps17
    go_wp2_with (go_at_call 32; refine cR.mono ?_; rintro e w' ⟨rfl, rfl⟩)
    go_ret
    exact ⟨rfl, rfl⟩

/-- The same list twice. -/
theorem eqnum_yes (A B : Option Addr) (n c c' : Nat) (xs : List Int) (w : World) (hA : Nums w A n xs) (hB : Nums w B n xs) (hn : n ≤ 17592186044416) :
    Calls Tryd.prog 18 #[.slice A n c, .slice B n c'] w fun e w' => e = .returned (.bool true) ∧ ∃ k, w' = w.drewN k := by
  have HA := Lib.hid hA
  have HB := Lib.hid hB
  clear hA hB
  go_enter Tryd.func18, Tryd.ntmps18
  go_wp2
  go_loopw [5] (fun v wr => ∃ k q : Nat, k ≤ n ∧ v = .int .i64 k ∧ wr = w.drewN q) (fun v _ => n - (intOf v).toNat)
  case atStart => exact ⟨0, 0, Nat.zero_le _, rfl, rfl⟩
  case round =>
    obtain ⟨k, q, hk, rfl, rfl⟩ := hrel
    by_cases hkn : k < n
    · obtain ⟨a, x, rfl, hx, hc⟩ := HA.out.cell hkn
      obtain ⟨b, y, rfl, hy, hd⟩ := HB.out.cell hkn
      have hxy : y = x := by rw [hx] at hy; injection hy with hy; exact hy.symm
      subst hxy
      clear hx hy
      have hc' : (w.drewN q).cell? (a.add k) = some (.int .i64 y) := hc
      have hd' : (w.drewN q).cell? (b.add k) = some (.int .i64 y) := hd
      go_wp2_with fail
      go_quiet (fail)
      go_wp2
      go_roundw
      case rel => exact ⟨k + 1, _, by omega, by go_num, rfl⟩
      case measure => simp [intOf]; omega
    · obtain rfl : k = n := by omega
      go_wp2
      go_ret
      exact ⟨rfl, q, rfl⟩

/-- What is owned reads as a list of numbers. -/
theorem owned_nums {w : World} {base : Nat} {v : Value} {n : Nat} {xs : List Int} (h : w.ownsRow base 3 1 v n (xs.map (Value.int .i64))) (hx : xs.length = n) : ∃ A c, v = .slice A n c ∧ Nums w A n xs ∧ n ≤ c ∧ (∀ a, A = some a → base ≤ a.block) := by
  have hcells : ∀ g, v.ownBlock = some g → ∀ j u, (xs.map (Value.int .i64))[j]? = some u → w.cell? ((⟨g, 0, none⟩ : Addr).add j) = some u := fun g hg => h.cells hg
  rcases h.2 with ⟨rfl, rfl⟩ | ⟨g, cap, cur, rfl, hb, hh, hcap, _, _, _⟩
  · obtain rfl := List.eq_nil_of_length_eq_zero hx
    exact ⟨none, 0, rfl, ⟨rfl, fun j x hj => by simp at hj⟩, Nat.le_refl _, fun a ha => by cases ha⟩
  · refine ⟨_, cap, rfl, ⟨hx, fun j x hj => ⟨_, rfl, hcells g rfl j (.int .i64 x) (by rw [List.getElem?_map, hj]; rfl)⟩⟩, hcap, fun a ha => by cases ha; exact hb⟩
theorem Kept.grew {a b c : World} {row : Option Nat} (h : Kept (fun _ => False) a b) (hg : b.grownBy c row) (hrow : ∀ k, row = some k → a.heap.size ≤ k) : Kept (fun _ => False) a c :=
  Kept.of_below ((Kept.to_below h).grown hg h.size hrow)

/-- A copy: the same numbers in new memory. -/
theorem copy_any (A : Option Addr) (n c : Nat) (xs : List Int) (w : World) (hA : Nums w A n xs) (hn : n ≤ 1000000) :
    Calls Tryd.prog 15 #[.slice A n c] w fun e w' => Kept (fun _ => False) w w' ∧ ∃ B c', e = .returned (.slice B n c') ∧ Nums w' B n xs ∧ (∀ a, B = some a → w.heap.size ≤ a.block) := by
  obtain ⟨i0, hi, hz0, hz1, hz2⟩ := info_parts info_int
  have HA := Lib.hid hA
  clear hA
  go_enter Tryd.func15, Tryd.ntmps15
  go_wp2
  go_loopw [3, 4] (fun v i wr => ∃ k : Nat, k ≤ n ∧ i = .int .i64 k ∧ wr.ownsRow w.heap.size 3 1 v k ((xs.take k).map (Value.int .i64)) ∧ Kept (fun _ => False) w wr) (fun _ i _ => n - (intOf i).toNat)
  case atStart => exact ⟨0, Nat.zero_le _, rfl, World.ownsRow_nil _ _ _ _, Kept.refl _ _⟩
  case round =>
    obtain ⟨k, hk, rfl, hown, hkept⟩ := hrel
    have HK := Lib.hid hkept
    clear hkept
    have hsz := HK.out.size
    have HSZ := Lib.hid hsz
    clear hsz
    by_cases hkn : k < n
    · obtain ⟨a, x, rfl, hx, hc0⟩ := HA.out.cell hkn
      have hc := cell_kept HK.out hc0 id
      have HX := Lib.hid hx
      clear hx hc0
      have hlen : Hid ((xs.take k).length = k) := by show _ = _; have := HA.out.1; rw [List.length_take]; omega
      go_wp2_with (at_builtin; refine wpList_append_own _ rfl _ _ 35 rfl w.heap.size 3 i0 (.int .i64 0) 1 8 Tryd.underlying35 hi hz0 hz1 hz2 rfl (by decide) _ _ _ rfl (hown.alloc _) ⟨_, 0, none⟩ 1 1 [.int .i64 x] rfl rfl ?c1 ?c2 ?c3 ?c4 ?c5 ?_)
      case c1 =>
        intro j u hj
        match j, hj with
        | 0, hj => simp at hj; subst hj; simp [Addr.add]
      case c2 => intro u hu; simp at hu; subst hu; rfl
      case c3 => unfold maxLen; omega
      case c4 => omega
      case c5 => have := HSZ.out; simp; omega
      intro v' w1 hown' hgrow _
      have hK1 := Lib.hid (Kept.grew (HK.out.alloc (.cells #[.int .i64 x] 3)) hgrow (fun q hq => (hown.lt q hq).1))
      have hT : List.take k (List.map (Value.int .i64) xs) ++ [.int .i64 x] = (xs.take (k + 1)).map (Value.int .i64) := by
        rw [List.take_add_one, HX.out, ← List.map_take]
        simp
      rw [hT] at hown'
      have HO := Lib.hid hown'
      clear hown' hgrow hown hT hc
      go_wp2
      go_roundw
      case rel => exact ⟨k + 1, by omega, by go_num, HO.out, hK1.out⟩
      case measure => simp [intOf]; omega
    · obtain rfl : k = n := by omega
      go_wp2
      go_ret
      have hx : (xs.take k).length = k := by have := HA.out.1; rw [List.length_take]; omega
      have ht : xs.take k = xs := List.take_of_length_le (by have := HA.out.1; omega)
      obtain ⟨B, c', rfl, hN, _, hb⟩ := owned_nums hown hx
      rw [ht] at hN
      exact ⟨HK.out, B, c', rfl, hN, hb⟩
end Go.Proofs.YthhlchgnjdfpeaaDoor
