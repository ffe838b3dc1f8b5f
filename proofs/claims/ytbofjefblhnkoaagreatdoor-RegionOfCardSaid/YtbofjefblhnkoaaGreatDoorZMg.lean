/-
  ROWS OF RUNES: begin, end, the first rune that is no blank, rows below and above: of the program and of the reference.
  THE PROGRAM's Runes: a text's runes, where it may be and the offset is one of its.
  A RUNE IN THE ROW: Find and Turned, of the program and of the reference.
  A RUNE IN THE ROW: Find and Turned, of the program.
  THE LAW SeekStands: what f leads to is that rune; t stands one ahead of it; F leads back.
  A RUNE IN THE ROW: Find of whatever arguments; which keys seek.
-/
import Derived.Test.YtbofjefblhnkoaaGreatDoorZMb
import Derived.Test.YtbofjefblhnkoaaGreatDoorZM0
import Derived.Test.YtbofjefblhnkoaaGreatDoorZMc
import Derived.Deep.RegionHeld3
import Derived.Deep.CutRange
set_option linter.unusedVariables false
namespace Go.Proofs.YtbofjefblhnkoaaGreatDoor
open Go Go.RowKit

theorem rbegin_any (A : Option Addr) (n c : Nat) (t : List Int) (k : Nat) (w : World) (hA : Rn w A n t) (hk : k ≤ n) (hn : n ≤ 100000) :
    Calls Tryz.prog 36 #[.slice A n c, .int .i64 k] w fun e w' => e = .returned (.int .i64 (Rw.beg t k : Nat)) ∧ w' = w := by
  have HA := Lib.hid hA
  clear hA
  go_enter Tryz.func36, Tryz.ntmps36
  go_wp2
  go_loop [1] (fun v => ∃ j : Nat, j ≤ k ∧ v = .int .i64 j ∧ Rw.beg t j = Rw.beg t k) (fun v => (intOf v).toNat)
  case atStart => exact ⟨k, Nat.le_refl _, rfl, rfl⟩
  case round =>
    obtain ⟨j, hj, rfl, hb⟩ := hrel
    have HB := Lib.hid hb
    clear hb
    by_cases h0 : j = 0
    · subst h0
      go_wp2
      go_ret
      rw [← HB.out]
      exact ⟨rfl, rfl⟩
    · obtain ⟨i, rfl⟩ : ∃ i, j = i + 1 := ⟨j - 1, by omega⟩
      clear h0
      obtain ⟨ad, x, rfl, hx, hc⟩ := HA.out.cell (j := i) (by omega)
      have HX := Lib.hid hx
      clear hx
      by_cases h10 : x = 10
      · subst h10
        go_wp2
        go_ret
        rw [← HB.out, Rw.beg_stop HX.out]
        exact ⟨rfl, rfl⟩
      · have b3 : (x != 10) = true := by rw [bne_iff_ne]; exact h10
        have H10 := Lib.hid h10
        clear h10
        go_wp2
        go_round
        case rel =>
          refine ⟨i, by omega, by go_num, ?_⟩
          rw [← HB.out, Rw.beg_step]
          rw [HX.out]
          intro e
          injection e with e
          exact H10.out e
        case measure => simp [intOf]
theorem rend_any (A : Option Addr) (n c : Nat) (t : List Int) (k : Nat) (w : World) (hA : Rn w A n t) (hk : k ≤ n) (hn : n ≤ 100000) :
    Calls Tryz.prog 37 #[.slice A n c, .int .i64 k] w fun e w' => e = .returned (.int .i64 (Rw.en t k : Nat)) ∧ w' = w := by
  have HA := Lib.hid hA
  clear hA
  go_enter Tryz.func37, Tryz.ntmps37
  go_wp2
  go_loop [1] (fun v => ∃ j : Nat, j ≤ n ∧ v = .int .i64 j ∧ Rw.en t j = Rw.en t k) (fun v => n - (intOf v).toNat)
  case atStart => exact ⟨k, hk, rfl, rfl⟩
  case round =>
    obtain ⟨j, hj, rfl, hb⟩ := hrel
    have HB := Lib.hid hb
    clear hb
    by_cases h0 : j < n
    · obtain ⟨ad, x, rfl, hx, hc⟩ := HA.out.cell h0
      have HX := Lib.hid hx
      clear hx
      by_cases h10 : x = 10
      · subst h10
        go_wp2
        go_ret
        rw [← HB.out, Rw.en_stop HX.out]
        exact ⟨rfl, rfl⟩
      · have b3 : (x != 10) = true := by rw [bne_iff_ne]; exact h10
        have H10 := Lib.hid h10
        clear h10
        go_wp2
        go_round
        case rel => exact ⟨j + 1, by omega, by go_num, by rw [← HB.out, Rw.en_step HX.out H10.out]⟩
        case measure => simp [intOf]; omega
    · obtain rfl : j = n := by omega
      go_wp2
      go_ret
      rw [← HB.out, Rw.en_end (by rw [HA.out.1]; exact Nat.le_refl _)]
      exact ⟨rfl, rfl⟩
theorem row_any (A : Option Addr) (n c : Nat) (t : List Int) (k : Nat) (w : World) (hA : Rn w A n t) (hk : k ≤ n) (hn : n ≤ 100000) :
    Calls Tryz.prog 35 #[.slice A n c, .int .i64 k] w fun e w' => e = .returned (.tuple #[.int .i64 (Rw.beg t k : Nat), .int .i64 (Rw.en t k : Nat)]) ∧ w' = w := by
  have HA := Lib.hid hA
  clear hA
  go_enter Tryz.func35, Tryz.ntmps35
  go_wp2
  go_loop [4] (fun v => ∃ j : Nat, j ≤ k ∧ v = .int .i64 j ∧ Rw.beg t j = Rw.beg t k) (fun v => (intOf v).toNat)
  case atStart => exact ⟨k, Nat.le_refl _, rfl, rfl⟩
  case round =>
    obtain ⟨j, hj, rfl, hb⟩ := hrel
    have HB := Lib.hid hb
    clear hb
    by_cases h0 : j = 0
    · subst h0
      have HB2 : Hid (Rw.beg t k = 0) := by show _ = _; rw [← HB.out]; rfl
      clear HB
      go_wp2
      go_loop [5] (fun v => ∃ j : Nat, j ≤ n ∧ v = .int .i64 j ∧ Rw.en t j = Rw.en t k) (fun v => n - (intOf v).toNat)
      case atStart => exact ⟨k, hk, rfl, rfl⟩
      case round =>
        obtain ⟨j, hj, rfl, hb⟩ := hrel
        have HB := Lib.hid hb
        clear hb
        by_cases h0 : j < n
        · obtain ⟨ad, x, rfl, hx, hc⟩ := HA.out.cell h0
          have HX := Lib.hid hx
          clear hx
          by_cases h10 : x = 10
          · subst h10
            go_wp2
            refine bodyPost_ret (v := .tuple #[.int .i64 ((0 : Nat) : Int), .int .i64 (j : Nat)]) (by simp [results, Tryz.results35, go_sem]) rfl ⟨?_, rfl⟩
            rw [HB2.out, ← HB.out, Rw.en_stop HX.out]
          · have b3 : (x != 10) = true := by rw [bne_iff_ne]; exact h10
            have H10 := Lib.hid h10
            clear h10
            go_wp2
            go_round
            case rel => exact ⟨j + 1, by omega, by go_num, by rw [← HB.out, Rw.en_step HX.out H10.out]⟩
            case measure => simp [intOf]; omega
        · obtain rfl : j = n := by omega
          go_wp2
          refine bodyPost_ret (v := .tuple #[.int .i64 ((0 : Nat) : Int), .int .i64 (j : Nat)]) (by simp [results, Tryz.results35, go_sem]) rfl ⟨?_, rfl⟩
          rw [HB2.out, ← HB.out, Rw.en_end (by rw [HA.out.1]; exact Nat.le_refl _)]
    · obtain ⟨i, rfl⟩ : ∃ i, j = i + 1 := ⟨j - 1, by omega⟩
      clear h0
      obtain ⟨ad, x, rfl, hx, hc⟩ := HA.out.cell (j := i) (by omega)
      have HX := Lib.hid hx
      clear hx
      by_cases h10 : x = 10
      · subst h10
        have HB2 : Hid (Rw.beg t k = i + 1) := by show _ = _; rw [← HB.out, Rw.beg_stop HX.out]
        clear HB HX
        go_wp2
        clear hc
        go_loop [5] (fun v => ∃ j : Nat, j ≤ n ∧ v = .int .i64 j ∧ Rw.en t j = Rw.en t k) (fun v => n - (intOf v).toNat)
        case atStart => exact ⟨k, hk, rfl, rfl⟩
        case round =>
          obtain ⟨j, hj, rfl, hb⟩ := hrel
          have HB := Lib.hid hb
          clear hb
          by_cases h0 : j < n
          · obtain ⟨ad, x, he, hx, hc⟩ := HA.out.cell h0
            cases he
            have HX := Lib.hid hx
            clear hx
            by_cases h10 : x = 10
            · subst h10
              go_wp2
              refine bodyPost_ret (v := .tuple #[.int .i64 ((i + 1 : Nat) : Int), .int .i64 (j : Nat)]) (by simp [results, Tryz.results35, go_sem]) rfl ⟨?_, rfl⟩
              rw [HB2.out, ← HB.out, Rw.en_stop HX.out]
            · have b3 : (x != 10) = true := by rw [bne_iff_ne]; exact h10
              have H10 := Lib.hid h10
              clear h10
              go_wp2
              go_round
              case rel => exact ⟨j + 1, by omega, by go_num, by rw [← HB.out, Rw.en_step HX.out H10.out]⟩
              case measure => simp [intOf]; omega
          · obtain rfl : j = n := by omega
            go_wp2
            refine bodyPost_ret (v := .tuple #[.int .i64 ((i + 1 : Nat) : Int), .int .i64 (j : Nat)]) (by simp [results, Tryz.results35, go_sem]) rfl ⟨?_, rfl⟩
            rw [HB2.out, ← HB.out, Rw.en_end (by rw [HA.out.1]; exact Nat.le_refl _)]
      · have b3 : (x != 10) = true := by rw [bne_iff_ne]; exact h10
        have H10 := Lib.hid h10
        clear h10
        go_wp2
        go_round
        case rel =>
          refine ⟨i, by omega, by go_num, ?_⟩
          rw [← HB.out, Rw.beg_step]
          rw [HX.out]
          intro e
          injection e with e
          exact H10.out e
        case measure => simp [intOf]
end Go.Proofs.YtbofjefblhnkoaaGreatDoor
namespace Go.Proofs.YtbofjefblhnkoaaGreatDoor
open Go Go.RowKit

set_option maxRecDepth 100000 in
theorem runes_yes (s : ByteArray) (k : Nat) (w : World) (hT : Tabs w) (hm : mayB s = true) (hk : k ≤ (rs s).length) :
    Calls Tryz.prog 34 #[.string s, .int .i64 k] w fun e w' => Kept (fun _ => False) w w' ∧ ∃ b cap, e = .returned (.tuple #[.slice (some ⟨b, 0, none⟩) (rs s).length cap, .bool true]) ∧ w.heap.size ≤ b ∧ Rn w' (some ⟨b, 0, none⟩) (rs s).length (rs s) := by
  have hsz := mayB_size hm
  have cC := check_any s w (by omega) hT
  rw [hm] at cC
  have hl := rs_len s
  have cV := fun w1 => conv_rs s w1 (by omega)
  generalize rs s = t at *
  clear hT hm
  go_enter Tryz.func34, Tryz.ntmps34
  go_wp2_with (go_at_call 75; refine cC.mono ?_; rintro e w1 ⟨rfl, hk1⟩; obtain ⟨cap, w2, hcap, hcv, hk2, hlt, hR⟩ := cV w1; have HK1 := Lib.hid hk1; have HK2 := Lib.hid hk2; have HR := Lib.hid hR; clear cC cV hk1 hk2 hR)
  have hgs : w.heap.size ≤ w1.heap.size := HK1.out.size
  generalize w1.heap.size = g at *
  exact bodyPost_ret (v := .tuple #[.slice (some ⟨g, 0, none⟩) t.length cap, .bool true]) (by simp [results, Tryz.results34, go_sem]) rfl ⟨HK1.out.trans HK2.out, g, cap, rfl, hgs, HR.out⟩
set_option maxRecDepth 100000 in
theorem runes_no (s : ByteArray) (k : Int) (w : World) (hs : s.size ≤ 140737488351232) (hT : Tabs w) (hno : ¬ (mayB s = true ∧ 0 ≤ k ∧ k ≤ (rs s).length)) :
    Calls Tryz.prog 34 #[.string s, .int .i64 k] w fun e w' => Kept (fun _ => False) w w' ∧ e = .returned (.tuple #[.slice none 0 0, .bool false]) := by
  have cC := check_any s w (by omega) hT
  cases hm : mayB s with
  | false =>
    rw [hm] at cC
    clear hT hm hno
    go_enter Tryz.func34, Tryz.ntmps34
    go_wp2_with (go_at_call 75; refine cC.mono ?_; rintro e w1 ⟨rfl, hk1⟩)
    exact bodyPost_ret (v := .tuple #[.slice none 0 0, .bool false]) (by simp [results, Tryz.results34, go_sem]) rfl ⟨hk1, rfl⟩
  | true =>
    rw [hm] at cC
    have hsz := mayB_size hm
    have hl := rs_len s
    have cV := fun w1 => conv_rs s w1 (by omega)
    have hkk : k < 0 ∨ ((rs s).length : Int) < k := by
      by_cases h1 : 0 ≤ k
      · right
        by_cases h2 : k ≤ (rs s).length
        · exact absurd ⟨hm, h1, h2⟩ hno
        · omega
      · left; omega
    generalize rs s = t at *
    clear hT hm hno
    rcases hkk with h1 | h1
    · have b1 : decide (k < 0) = true := by simp; omega
      go_enter Tryz.func34, Tryz.ntmps34
      go_wp2_with (go_at_call 75; refine cC.mono ?_; rintro e w1 ⟨rfl, hk1⟩; obtain ⟨cap, w2, hcap, hcv, hk2, hlt, hR⟩ := cV w1; have HK1 := Lib.hid hk1; have HK2 := Lib.hid hk2; clear cC cV hk1 hk2 hR)
      exact bodyPost_ret (v := .tuple #[.slice none 0 0, .bool false]) (by simp [results, Tryz.results34, go_sem]) rfl ⟨HK1.out.trans HK2.out, rfl⟩
    · have b1 : decide (k < 0) = false := by simp; omega
      have b2 : decide ((t.length : Int) < k) = true := by simp; omega
      go_enter Tryz.func34, Tryz.ntmps34
      go_wp2_with (go_at_call 75; refine cC.mono ?_; rintro e w1 ⟨rfl, hk1⟩; obtain ⟨cap, w2, hcap, hcv, hk2, hlt, hR⟩ := cV w1; have HK1 := Lib.hid hk1; have HK2 := Lib.hid hk2; clear cC cV hk1 hk2 hR)
      exact bodyPost_ret (v := .tuple #[.slice none 0 0, .bool false]) (by simp [results, Tryz.results34, go_sem]) rfl ⟨HK1.out.trans HK2.out, rfl⟩
end Go.Proofs.YtbofjefblhnkoaaGreatDoor
namespace Go.Proofs.YtbofjefblhnkoaaGreatDoor
open Go Go.RowKit

/-- What is told of where a motion leads. -/
def ansI (o : Option Int) : Value := match o with
  | none => .tuple #[.int .i64 0, .int .i64 6]
  | some x => .tuple #[.int .i64 x, .int .i64 0]
theorem rf102_any (A : Option Addr) (n c : Nat) (t : List Int) (k cnt : Nat) (r : Int) (w : World) (hA : Rn w A n t) (hr : Runey t) (hk : k ≤ n) (hn : n ≤ 100000) (hc1 : 1 ≤ cnt) (hc2 : cnt ≤ 999) :
    Calls Tryz.prog 71 #[.slice A n c, .int .i64 k, .int .i64 102, .int .i64 r, .int .i64 cnt] w fun e w' => e = .returned (ansI (Rw.find t k 102 r cnt)) ∧ w' = w := by
  have hl := hA.1
  have cB := rbegin_any A n c t k w hA hk hn
  have cE := rend_any A n c t k w hA hk hn
  have hlo := Rw.beg_le t k
  have hge := Rw.en_ge t k
  have hle := Rw.en_le t k (by rw [hl]; exact hk)
  rw [hl] at hle
  obtain ⟨D, hD⟩ : ∃ D, Rw.fnd t (Rw.beg t k) (Rw.en t k) (1) r (t.length + 2) ((k : Int) + (1)) cnt = D := ⟨_, rfl⟩
  have hfind : Rw.find t k 102 r cnt = D.map (· + (0)) := by
    rw [← hD]
    rfl
  rw [hfind]
  rw [hl] at hD
  have HD := Lib.hid hD
  have HA := Lib.hid hA
  have HR := Lib.hid hr
  clear hD hfind hA hr hl
  generalize Rw.beg t k = lo at *
  generalize Rw.en t k = h at *
  go_enter Tryz.func71, Tryz.ntmps71
  go_wp2_with (go_at_call 36; refine cB.mono ?_; rintro e w' ⟨rfl, rfl⟩)
  refine cE.mono ?_
  rintro e w' ⟨rfl, rfl⟩
  clear cB cE
  go_wp2_with fail
  go_loop [15, 4] (fun v u => ∃ (F : Nat) (K : Int) (C : Nat), v = .int .i64 K ∧ u = .int .i64 C ∧ 1 ≤ C ∧ C ≤ 999 ∧ -1 ≤ K ∧ K ≤ n + 1 ∧ (h : Int) - K ≤ (F : Int) ∧ Rw.fnd t lo h (1) r F K C = D) (fun v _ => (n + 1 - (intOf v)).toNat)
  case atStart => exact ⟨_, _, _, rfl, rfl, hc1, hc2, by omega, by omega, by omega, HD.out⟩
  case round =>
    obtain ⟨F, K, C, rfl, rfl, hC1, hC2, hK1, hK2, hF, hd⟩ := hrel
    have HX := Lib.hid hd
    clear hd
    by_cases hin : (lo : Int) ≤ K ∧ K < (h : Int)
    · obtain ⟨kk, rfl⟩ := Int.eq_ofNat_of_zero_le (show 0 ≤ K by omega)
      obtain ⟨f, rfl⟩ : ∃ f, F = f + 1 := ⟨F - 1, by omega⟩
      have HIN := Lib.hid hin
      obtain ⟨ad, x, rfl, hx, hcl⟩ := HA.out.cell (j := kk) (by omega)
      obtain ⟨hx1, hx2⟩ := HR.out.at_ hx
      have HY : Hid (t[(kk : Int).toNat]? = some x) := by show _ = _; simpa using hx
      clear hx
      have d1 : decide ((lo : Int) ≤ (kk : Int)) = true := by simp; omega
      have d2 : decide ((kk : Int) < (h : Int)) = true := by simp; omega
      have d3 : decide (lo ≤ kk) = true := by simp; omega
      have d4 : decide (kk < h) = true := by simp; omega
      obtain ⟨g1, g2⟩ := hin
      by_cases hxr : x = r
      · subst hxr
        by_cases h1 : C = 1
        · subst h1
          have HH : Hid (D = some (kk : Int)) := by show _ = _; rw [← HX.out, Rw.fnd_hit HIN.out HY.out (by omega)]
          go_wp2
          refine bodyPost_ret (v := .tuple #[.int .i64 (kk : Int), .int .i64 0]) (by simp [results, Tryz.results71, go_sem]) rfl ⟨?_, rfl⟩
          rw [HH.out]
          rfl
        · obtain ⟨c', rfl⟩ : ∃ c', C = c' + 2 := ⟨C - 2, by omega⟩
          have HH : Hid (Rw.fnd t lo h (1) x f ((kk : Int) + (1)) (c' + 1) = D) := by show _ = _; rw [← HX.out, Rw.fnd_next HIN.out HY.out (by omega)]; rfl
          clear h1
          go_wp2
          go_round
          case rel => exact ⟨f, _, c' + 1, by go_num, by go_num, by omega, by omega, by omega, by omega, by omega, HH.out⟩
          case measure => simp [intOf]; omega
      · have n1 : (x != r) = true := by rw [bne_iff_ne]; exact hxr
        have n2 : (x == r) = false := by rw [beq_eq_false_iff_ne]; exact hxr
        have HH : Hid (Rw.fnd t lo h (1) r f ((kk : Int) + (1)) C = D) := by
          show _ = _
          rw [← HX.out, Rw.fnd_skip HIN.out]
          rw [HY.out]
          intro e
          injection e with e
          exact hxr e
        have HXR := Lib.hid hxr
        clear hxr
        go_wp2
        go_round
        case rel => exact ⟨f, _, C, by go_num, rfl, hC1, hC2, by omega, by omega, by omega, HH.out⟩
        case measure => simp [intOf]; omega
    · have HH : Hid (D = none) := by show _ = _; rw [← HX.out, Rw.fnd_out hin]
      by_cases g1 : (lo : Int) ≤ K
      · have d1 : decide ((lo : Int) ≤ K) = true := by simp; omega
        have d2 : decide (K < (h : Int)) = false := by simp; omega
        clear hin
        go_wp2
        refine bodyPost_ret (v := .tuple #[.int .i64 0, .int .i64 6]) (by simp [results, Tryz.results71, go_sem]) rfl ⟨?_, rfl⟩
        rw [HH.out]
        rfl
      · have d1 : decide ((lo : Int) ≤ K) = false := by simp; omega
        clear hin
        go_wp2
        refine bodyPost_ret (v := .tuple #[.int .i64 0, .int .i64 6]) (by simp [results, Tryz.results71, go_sem]) rfl ⟨?_, rfl⟩
        rw [HH.out]
        rfl
theorem rf70_any (A : Option Addr) (n c : Nat) (t : List Int) (k cnt : Nat) (r : Int) (w : World) (hA : Rn w A n t) (hr : Runey t) (hk : k ≤ n) (hn : n ≤ 100000) (hc1 : 1 ≤ cnt) (hc2 : cnt ≤ 999) :
    Calls Tryz.prog 71 #[.slice A n c, .int .i64 k, .int .i64 70, .int .i64 r, .int .i64 cnt] w fun e w' => e = .returned (ansI (Rw.find t k 70 r cnt)) ∧ w' = w := by
  have hl := hA.1
  have cB := rbegin_any A n c t k w hA hk hn
  have cE := rend_any A n c t k w hA hk hn
  have hlo := Rw.beg_le t k
  have hge := Rw.en_ge t k
  have hle := Rw.en_le t k (by rw [hl]; exact hk)
  rw [hl] at hle
  obtain ⟨D, hD⟩ : ∃ D, Rw.fnd t (Rw.beg t k) (Rw.en t k) (-1) r (t.length + 2) ((k : Int) + (-1)) cnt = D := ⟨_, rfl⟩
  have hfind : Rw.find t k 70 r cnt = D.map (· + (0)) := by
    rw [← hD]
    rfl
  rw [hfind]
  rw [hl] at hD
  have HD := Lib.hid hD
  have HA := Lib.hid hA
  have HR := Lib.hid hr
  clear hD hfind hA hr hl
  generalize Rw.beg t k = lo at *
  generalize Rw.en t k = h at *
  go_enter Tryz.func71, Tryz.ntmps71
  go_wp2_with (go_at_call 36; refine cB.mono ?_; rintro e w' ⟨rfl, rfl⟩)
  refine cE.mono ?_
  rintro e w' ⟨rfl, rfl⟩
  clear cB cE
  go_wp2_with fail
  go_loop [15, 4] (fun v u => ∃ (F : Nat) (K : Int) (C : Nat), v = .int .i64 K ∧ u = .int .i64 C ∧ 1 ≤ C ∧ C ≤ 999 ∧ -1 ≤ K ∧ K ≤ n + 1 ∧ K + 1 - (lo : Int) ≤ (F : Int) ∧ Rw.fnd t lo h (-1) r F K C = D) (fun v _ => ((intOf v) + 1).toNat)
  case atStart => exact ⟨_, _, _, rfl, rfl, hc1, hc2, by omega, by omega, by omega, HD.out⟩
  case round =>
    obtain ⟨F, K, C, rfl, rfl, hC1, hC2, hK1, hK2, hF, hd⟩ := hrel
    have HX := Lib.hid hd
    clear hd
    by_cases hin : (lo : Int) ≤ K ∧ K < (h : Int)
    · obtain ⟨kk, rfl⟩ := Int.eq_ofNat_of_zero_le (show 0 ≤ K by omega)
      obtain ⟨f, rfl⟩ : ∃ f, F = f + 1 := ⟨F - 1, by omega⟩
      have HIN := Lib.hid hin
      obtain ⟨ad, x, rfl, hx, hcl⟩ := HA.out.cell (j := kk) (by omega)
      obtain ⟨hx1, hx2⟩ := HR.out.at_ hx
      have HY : Hid (t[(kk : Int).toNat]? = some x) := by show _ = _; simpa using hx
      clear hx
      have d1 : decide ((lo : Int) ≤ (kk : Int)) = true := by simp; omega
      have d2 : decide ((kk : Int) < (h : Int)) = true := by simp; omega
      have d3 : decide (lo ≤ kk) = true := by simp; omega
      have d4 : decide (kk < h) = true := by simp; omega
      obtain ⟨g1, g2⟩ := hin
      by_cases hxr : x = r
      · subst hxr
        by_cases h1 : C = 1
        · subst h1
          have HH : Hid (D = some (kk : Int)) := by show _ = _; rw [← HX.out, Rw.fnd_hit HIN.out HY.out (by omega)]
          go_wp2
          refine bodyPost_ret (v := .tuple #[.int .i64 (kk : Int), .int .i64 0]) (by simp [results, Tryz.results71, go_sem]) rfl ⟨?_, rfl⟩
          rw [HH.out]
          rfl
        · obtain ⟨c', rfl⟩ : ∃ c', C = c' + 2 := ⟨C - 2, by omega⟩
          have HH : Hid (Rw.fnd t lo h (-1) x f ((kk : Int) + (-1)) (c' + 1) = D) := by show _ = _; rw [← HX.out, Rw.fnd_next HIN.out HY.out (by omega)]; rfl
          clear h1
          go_wp2
          go_round
          case rel => exact ⟨f, _, c' + 1, by go_num, by go_num, by omega, by omega, by omega, by omega, by omega, HH.out⟩
          case measure => simp [intOf]; omega
      · have n1 : (x != r) = true := by rw [bne_iff_ne]; exact hxr
        have n2 : (x == r) = false := by rw [beq_eq_false_iff_ne]; exact hxr
        have HH : Hid (Rw.fnd t lo h (-1) r f ((kk : Int) + (-1)) C = D) := by
          show _ = _
          rw [← HX.out, Rw.fnd_skip HIN.out]
          rw [HY.out]
          intro e
          injection e with e
          exact hxr e
        have HXR := Lib.hid hxr
        clear hxr
        go_wp2
        go_round
        case rel => exact ⟨f, _, C, by go_num, rfl, hC1, hC2, by omega, by omega, by omega, HH.out⟩
        case measure => simp [intOf]; omega
    · have HH : Hid (D = none) := by show _ = _; rw [← HX.out, Rw.fnd_out hin]
      by_cases g1 : (lo : Int) ≤ K
      · have d1 : decide ((lo : Int) ≤ K) = true := by simp; omega
        have d2 : decide (K < (h : Int)) = false := by simp; omega
        clear hin
        go_wp2
        refine bodyPost_ret (v := .tuple #[.int .i64 0, .int .i64 6]) (by simp [results, Tryz.results71, go_sem]) rfl ⟨?_, rfl⟩
        rw [HH.out]
        rfl
      · have d1 : decide ((lo : Int) ≤ K) = false := by simp; omega
        clear hin
        go_wp2
        refine bodyPost_ret (v := .tuple #[.int .i64 0, .int .i64 6]) (by simp [results, Tryz.results71, go_sem]) rfl ⟨?_, rfl⟩
        rw [HH.out]
        rfl
theorem rf116_any (A : Option Addr) (n c : Nat) (t : List Int) (k cnt : Nat) (r : Int) (w : World) (hA : Rn w A n t) (hr : Runey t) (hk : k ≤ n) (hn : n ≤ 100000) (hc1 : 1 ≤ cnt) (hc2 : cnt ≤ 999) :
    Calls Tryz.prog 71 #[.slice A n c, .int .i64 k, .int .i64 116, .int .i64 r, .int .i64 cnt] w fun e w' => e = .returned (ansI (Rw.find t k 116 r cnt)) ∧ w' = w := by
  have hl := hA.1
  have cB := rbegin_any A n c t k w hA hk hn
  have cE := rend_any A n c t k w hA hk hn
  have hlo := Rw.beg_le t k
  have hge := Rw.en_ge t k
  have hle := Rw.en_le t k (by rw [hl]; exact hk)
  rw [hl] at hle
  obtain ⟨D, hD⟩ : ∃ D, Rw.fnd t (Rw.beg t k) (Rw.en t k) (1) r (t.length + 2) ((k : Int) + (1)) cnt = D := ⟨_, rfl⟩
  have hfind : Rw.find t k 116 r cnt = D.map (· + (-1)) := by
    rw [← hD]
    rfl
  rw [hfind]
  rw [hl] at hD
  have HD := Lib.hid hD
  have HA := Lib.hid hA
  have HR := Lib.hid hr
  clear hD hfind hA hr hl
  generalize Rw.beg t k = lo at *
  generalize Rw.en t k = h at *
  go_enter Tryz.func71, Tryz.ntmps71
  go_wp2_with (go_at_call 36; refine cB.mono ?_; rintro e w' ⟨rfl, rfl⟩)
  refine cE.mono ?_
  rintro e w' ⟨rfl, rfl⟩
  clear cB cE
  go_wp2_with fail
  go_loop [15, 4] (fun v u => ∃ (F : Nat) (K : Int) (C : Nat), v = .int .i64 K ∧ u = .int .i64 C ∧ 1 ≤ C ∧ C ≤ 999 ∧ -1 ≤ K ∧ K ≤ n + 1 ∧ (h : Int) - K ≤ (F : Int) ∧ Rw.fnd t lo h (1) r F K C = D) (fun v _ => (n + 1 - (intOf v)).toNat)
  case atStart => exact ⟨_, _, _, rfl, rfl, hc1, hc2, by omega, by omega, by omega, HD.out⟩
  case round =>
    obtain ⟨F, K, C, rfl, rfl, hC1, hC2, hK1, hK2, hF, hd⟩ := hrel
    have HX := Lib.hid hd
    clear hd
    by_cases hin : (lo : Int) ≤ K ∧ K < (h : Int)
    · obtain ⟨kk, rfl⟩ := Int.eq_ofNat_of_zero_le (show 0 ≤ K by omega)
      obtain ⟨f, rfl⟩ : ∃ f, F = f + 1 := ⟨F - 1, by omega⟩
      have HIN := Lib.hid hin
      obtain ⟨ad, x, rfl, hx, hcl⟩ := HA.out.cell (j := kk) (by omega)
      obtain ⟨hx1, hx2⟩ := HR.out.at_ hx
      have HY : Hid (t[(kk : Int).toNat]? = some x) := by show _ = _; simpa using hx
      clear hx
      have d1 : decide ((lo : Int) ≤ (kk : Int)) = true := by simp; omega
      have d2 : decide ((kk : Int) < (h : Int)) = true := by simp; omega
      have d3 : decide (lo ≤ kk) = true := by simp; omega
      have d4 : decide (kk < h) = true := by simp; omega
      obtain ⟨g1, g2⟩ := hin
      by_cases hxr : x = r
      · subst hxr
        by_cases h1 : C = 1
        · subst h1
          have HH : Hid (D = some (kk : Int)) := by show _ = _; rw [← HX.out, Rw.fnd_hit HIN.out HY.out (by omega)]
          go_wp2
          refine bodyPost_ret (v := .tuple #[.int .i64 ((kk : Int) - 1), .int .i64 0]) (by simp [results, Tryz.results71, go_sem]) rfl ⟨?_, rfl⟩
          rw [HH.out]
          rfl
        · obtain ⟨c', rfl⟩ : ∃ c', C = c' + 2 := ⟨C - 2, by omega⟩
          have HH : Hid (Rw.fnd t lo h (1) x f ((kk : Int) + (1)) (c' + 1) = D) := by show _ = _; rw [← HX.out, Rw.fnd_next HIN.out HY.out (by omega)]; rfl
          clear h1
          go_wp2
          go_round
          case rel => exact ⟨f, _, c' + 1, by go_num, by go_num, by omega, by omega, by omega, by omega, by omega, HH.out⟩
          case measure => simp [intOf]; omega
      · have n1 : (x != r) = true := by rw [bne_iff_ne]; exact hxr
        have n2 : (x == r) = false := by rw [beq_eq_false_iff_ne]; exact hxr
        have HH : Hid (Rw.fnd t lo h (1) r f ((kk : Int) + (1)) C = D) := by
          show _ = _
          rw [← HX.out, Rw.fnd_skip HIN.out]
          rw [HY.out]
          intro e
          injection e with e
          exact hxr e
        have HXR := Lib.hid hxr
        clear hxr
        go_wp2
        go_round
        case rel => exact ⟨f, _, C, by go_num, rfl, hC1, hC2, by omega, by omega, by omega, HH.out⟩
        case measure => simp [intOf]; omega
    · have HH : Hid (D = none) := by show _ = _; rw [← HX.out, Rw.fnd_out hin]
      by_cases g1 : (lo : Int) ≤ K
      · have d1 : decide ((lo : Int) ≤ K) = true := by simp; omega
        have d2 : decide (K < (h : Int)) = false := by simp; omega
        clear hin
        go_wp2
        refine bodyPost_ret (v := .tuple #[.int .i64 0, .int .i64 6]) (by simp [results, Tryz.results71, go_sem]) rfl ⟨?_, rfl⟩
        rw [HH.out]
        rfl
      · have d1 : decide ((lo : Int) ≤ K) = false := by simp; omega
        clear hin
        go_wp2
        refine bodyPost_ret (v := .tuple #[.int .i64 0, .int .i64 6]) (by simp [results, Tryz.results71, go_sem]) rfl ⟨?_, rfl⟩
        rw [HH.out]
        rfl
theorem rf84_any (A : Option Addr) (n c : Nat) (t : List Int) (k cnt : Nat) (r : Int) (w : World) (hA : Rn w A n t) (hr : Runey t) (hk : k ≤ n) (hn : n ≤ 100000) (hc1 : 1 ≤ cnt) (hc2 : cnt ≤ 999) :
    Calls Tryz.prog 71 #[.slice A n c, .int .i64 k, .int .i64 84, .int .i64 r, .int .i64 cnt] w fun e w' => e = .returned (ansI (Rw.find t k 84 r cnt)) ∧ w' = w := by
  have hl := hA.1
  have cB := rbegin_any A n c t k w hA hk hn
  have cE := rend_any A n c t k w hA hk hn
  have hlo := Rw.beg_le t k
  have hge := Rw.en_ge t k
  have hle := Rw.en_le t k (by rw [hl]; exact hk)
  rw [hl] at hle
  obtain ⟨D, hD⟩ : ∃ D, Rw.fnd t (Rw.beg t k) (Rw.en t k) (-1) r (t.length + 2) ((k : Int) + (-1)) cnt = D := ⟨_, rfl⟩
  have hfind : Rw.find t k 84 r cnt = D.map (· + (1)) := by
    rw [← hD]
    rfl
  rw [hfind]
  rw [hl] at hD
  have HD := Lib.hid hD
  have HA := Lib.hid hA
  have HR := Lib.hid hr
  clear hD hfind hA hr hl
  generalize Rw.beg t k = lo at *
  generalize Rw.en t k = h at *
  go_enter Tryz.func71, Tryz.ntmps71
  go_wp2_with (go_at_call 36; refine cB.mono ?_; rintro e w' ⟨rfl, rfl⟩)
  refine cE.mono ?_
  rintro e w' ⟨rfl, rfl⟩
  clear cB cE
  go_wp2_with fail
  go_loop [15, 4] (fun v u => ∃ (F : Nat) (K : Int) (C : Nat), v = .int .i64 K ∧ u = .int .i64 C ∧ 1 ≤ C ∧ C ≤ 999 ∧ -1 ≤ K ∧ K ≤ n + 1 ∧ K + 1 - (lo : Int) ≤ (F : Int) ∧ Rw.fnd t lo h (-1) r F K C = D) (fun v _ => ((intOf v) + 1).toNat)
  case atStart => exact ⟨_, _, _, rfl, rfl, hc1, hc2, by omega, by omega, by omega, HD.out⟩
  case round =>
    obtain ⟨F, K, C, rfl, rfl, hC1, hC2, hK1, hK2, hF, hd⟩ := hrel
    have HX := Lib.hid hd
    clear hd
    by_cases hin : (lo : Int) ≤ K ∧ K < (h : Int)
    · obtain ⟨kk, rfl⟩ := Int.eq_ofNat_of_zero_le (show 0 ≤ K by omega)
      obtain ⟨f, rfl⟩ : ∃ f, F = f + 1 := ⟨F - 1, by omega⟩
      have HIN := Lib.hid hin
      obtain ⟨ad, x, rfl, hx, hcl⟩ := HA.out.cell (j := kk) (by omega)
      obtain ⟨hx1, hx2⟩ := HR.out.at_ hx
      have HY : Hid (t[(kk : Int).toNat]? = some x) := by show _ = _; simpa using hx
      clear hx
      have d1 : decide ((lo : Int) ≤ (kk : Int)) = true := by simp; omega
      have d2 : decide ((kk : Int) < (h : Int)) = true := by simp; omega
      have d3 : decide (lo ≤ kk) = true := by simp; omega
      have d4 : decide (kk < h) = true := by simp; omega
      obtain ⟨g1, g2⟩ := hin
      by_cases hxr : x = r
      · subst hxr
        by_cases h1 : C = 1
        · subst h1
          have HH : Hid (D = some (kk : Int)) := by show _ = _; rw [← HX.out, Rw.fnd_hit HIN.out HY.out (by omega)]
          go_wp2
          refine bodyPost_ret (v := .tuple #[.int .i64 ((kk : Int) + 1), .int .i64 0]) (by simp [results, Tryz.results71, go_sem]) rfl ⟨?_, rfl⟩
          rw [HH.out]
          rfl
        · obtain ⟨c', rfl⟩ : ∃ c', C = c' + 2 := ⟨C - 2, by omega⟩
          have HH : Hid (Rw.fnd t lo h (-1) x f ((kk : Int) + (-1)) (c' + 1) = D) := by show _ = _; rw [← HX.out, Rw.fnd_next HIN.out HY.out (by omega)]; rfl
          clear h1
          go_wp2
          go_round
          case rel => exact ⟨f, _, c' + 1, by go_num, by go_num, by omega, by omega, by omega, by omega, by omega, HH.out⟩
          case measure => simp [intOf]; omega
      · have n1 : (x != r) = true := by rw [bne_iff_ne]; exact hxr
        have n2 : (x == r) = false := by rw [beq_eq_false_iff_ne]; exact hxr
        have HH : Hid (Rw.fnd t lo h (-1) r f ((kk : Int) + (-1)) C = D) := by
          show _ = _
          rw [← HX.out, Rw.fnd_skip HIN.out]
          rw [HY.out]
          intro e
          injection e with e
          exact hxr e
        have HXR := Lib.hid hxr
        clear hxr
        go_wp2
        go_round
        case rel => exact ⟨f, _, C, by go_num, rfl, hC1, hC2, by omega, by omega, by omega, HH.out⟩
        case measure => simp [intOf]; omega
    · have HH : Hid (D = none) := by show _ = _; rw [← HX.out, Rw.fnd_out hin]
      by_cases g1 : (lo : Int) ≤ K
      · have d1 : decide ((lo : Int) ≤ K) = true := by simp; omega
        have d2 : decide (K < (h : Int)) = false := by simp; omega
        clear hin
        go_wp2
        refine bodyPost_ret (v := .tuple #[.int .i64 0, .int .i64 6]) (by simp [results, Tryz.results71, go_sem]) rfl ⟨?_, rfl⟩
        rw [HH.out]
        rfl
      · have d1 : decide ((lo : Int) ≤ K) = false := by simp; omega
        clear hin
        go_wp2
        refine bodyPost_ret (v := .tuple #[.int .i64 0, .int .i64 6]) (by simp [results, Tryz.results71, go_sem]) rfl ⟨?_, rfl⟩
        rw [HH.out]
        rfl
end Go.Proofs.YtbofjefblhnkoaaGreatDoor
namespace Go.Proofs.YtbofjefblhnkoaaGreatDoor
open Go Go.RowKit

theorem turned_no (key : Int) (w : World) (h : ¬ Rw.Seek key) : Calls Tryz.prog 41 #[.int .i64 key] w fun e w' => e = .returned (.tuple #[.int .i64 0, .int .i64 1]) ∧ w' = w := by
  have hne : ∀ a, Rw.Seek a → (key == a) = false := fun a ha => by
    rw [beq_eq_false_iff_ne]
    rintro rfl
    exact h ha
  have e1 := hne 102 (by decide)
  have e2 := hne 70 (by decide)
  have e3 := hne 116 (by decide)
  have e4 := hne 84 (by decide)
  clear h hne
  go_enter Tryz.func41, Tryz.ntmps41
  go_wp2
  exact bodyPost_ret (v := .tuple #[.int .i64 0, .int .i64 1]) (by simp [results, Tryz.results41, go_sem]) rfl ⟨rfl, rfl⟩
theorem turned102 (w : World) : Calls Tryz.prog 41 #[.int .i64 102] w fun e w' => e = .returned (.tuple #[.int .i64 70, .int .i64 0]) ∧ w' = w := by
  go_enter Tryz.func41, Tryz.ntmps41
  go_wp2
  exact bodyPost_ret (v := .tuple #[.int .i64 70, .int .i64 0]) (by simp [results, Tryz.results41, go_sem]) rfl ⟨rfl, rfl⟩
theorem rturned102 (w : World) : Calls Tryz.prog 70 #[.int .i64 102] w fun e w' => e = .returned (.int .i64 70) ∧ w' = w := by
  go_enter Tryz.func70, Tryz.ntmps70
  go_wp2
  go_ret
  exact ⟨rfl, rfl⟩
theorem turned70 (w : World) : Calls Tryz.prog 41 #[.int .i64 70] w fun e w' => e = .returned (.tuple #[.int .i64 102, .int .i64 0]) ∧ w' = w := by
  go_enter Tryz.func41, Tryz.ntmps41
  go_wp2
  exact bodyPost_ret (v := .tuple #[.int .i64 102, .int .i64 0]) (by simp [results, Tryz.results41, go_sem]) rfl ⟨rfl, rfl⟩
theorem rturned70 (w : World) : Calls Tryz.prog 70 #[.int .i64 70] w fun e w' => e = .returned (.int .i64 102) ∧ w' = w := by
  go_enter Tryz.func70, Tryz.ntmps70
  go_wp2
  go_ret
  exact ⟨rfl, rfl⟩
theorem turned116 (w : World) : Calls Tryz.prog 41 #[.int .i64 116] w fun e w' => e = .returned (.tuple #[.int .i64 84, .int .i64 0]) ∧ w' = w := by
  go_enter Tryz.func41, Tryz.ntmps41
  go_wp2
  exact bodyPost_ret (v := .tuple #[.int .i64 84, .int .i64 0]) (by simp [results, Tryz.results41, go_sem]) rfl ⟨rfl, rfl⟩
theorem rturned116 (w : World) : Calls Tryz.prog 70 #[.int .i64 116] w fun e w' => e = .returned (.int .i64 84) ∧ w' = w := by
  go_enter Tryz.func70, Tryz.ntmps70
  go_wp2
  go_ret
  exact ⟨rfl, rfl⟩
theorem turned84 (w : World) : Calls Tryz.prog 41 #[.int .i64 84] w fun e w' => e = .returned (.tuple #[.int .i64 116, .int .i64 0]) ∧ w' = w := by
  go_enter Tryz.func41, Tryz.ntmps41
  go_wp2
  exact bodyPost_ret (v := .tuple #[.int .i64 116, .int .i64 0]) (by simp [results, Tryz.results41, go_sem]) rfl ⟨rfl, rfl⟩
theorem rturned84 (w : World) : Calls Tryz.prog 70 #[.int .i64 84] w fun e w' => e = .returned (.int .i64 116) ∧ w' = w := by
  go_enter Tryz.func70, Tryz.ntmps70
  go_wp2
  go_ret
  exact ⟨rfl, rfl⟩
theorem pf102_any (s : ByteArray) (k cnt : Nat) (r : Int) (w : World) (hT : Tabs w) (hm : mayB s = true) (hk : k ≤ (rs s).length) (hc1 : 1 ≤ cnt) (hc2 : cnt ≤ 999) :
    Calls Tryz.prog 91 #[.string s, .int .i64 k, .int .i64 102, .int .i64 r, .int .i64 cnt] w fun e w' => Kept (fun _ => False) w w' ∧ e = .returned (ansI (Rw.find (rs s) k 102 r cnt)) := by
  have cU := runes_yes s k w hT hm hk
  have hl := rs_len s
  have hsz := mayB_size hm
  have hr := rs_runey (mayB_valid hm)
  generalize rs s = t at *
  clear hT hm
  generalize hn : t.length = n at *
  have hlo := Rw.beg_le t k
  have hge := Rw.en_ge t k
  have hle := Rw.en_le t k (by rw [hn]; exact hk)
  rw [hn] at hle
  obtain ⟨D, hD⟩ : ∃ D, Rw.fnd t (Rw.beg t k) (Rw.en t k) (1) r (t.length + 2) ((k : Int) + (1)) cnt = D := ⟨_, rfl⟩
  have hfind : Rw.find t k 102 r cnt = D.map (· + (0)) := by
    rw [← hD]
    rfl
  rw [hfind]
  rw [hn] at hD
  have HD := Lib.hid hD
  have HR := Lib.hid hr
  have b1 : decide ((cnt : Int) < 1) = false := by simp; omega
  have b2 : decide (999 < (cnt : Int)) = false := by simp; omega
  have b3 : decide (cnt < 1) = false := by simp; omega
  have b4 : decide (999 < cnt) = false := by simp; omega
  have b5 : decide (cnt = 0) = false := by simp; omega
  clear hD hfind hr
  go_enter Tryz.func91, Tryz.ntmps91
  go_wp2_with (first | (go_at_call 34; refine cU.mono ?_; rintro e w1 ⟨hk1, bb, cap, rfl, hbg, hR⟩) | (go_at_call 41; refine (turned102 _).mono ?_; rintro e w2 ⟨rfl, rfl⟩))
  have cB := row_any (some ⟨bb, 0, none⟩) n cap t k _ hR hk (by omega)
  refine cB.mono ?_
  rintro e w' ⟨rfl, rfl⟩
  have HKW := Lib.hid hk1
  have HA := Lib.hid hR
  clear cB cU hk1 hR
  generalize Rw.beg t k = lo at *
  generalize Rw.en t k = h at *
  go_wp2_with fail
  go_loop [20, 4] (fun v u => ∃ (F : Nat) (K : Int) (C : Nat), v = .int .i64 K ∧ u = .int .i64 C ∧ 1 ≤ C ∧ C ≤ 999 ∧ -1 ≤ K ∧ K ≤ n + 1 ∧ (h : Int) - K ≤ (F : Int) ∧ Rw.fnd t lo h (1) r F K C = D) (fun v _ => (n + 1 - (intOf v)).toNat)
  case atStart => exact ⟨_, _, _, rfl, rfl, hc1, hc2, by omega, by omega, by omega, HD.out⟩
  case round =>
    obtain ⟨F, K, C, rfl, rfl, hC1, hC2, hK1, hK2, hF, hd⟩ := hrel
    have HX := Lib.hid hd
    clear hd
    by_cases hin : (lo : Int) ≤ K ∧ K < (h : Int)
    · obtain ⟨kk, rfl⟩ := Int.eq_ofNat_of_zero_le (show 0 ≤ K by omega)
      obtain ⟨f, rfl⟩ : ∃ f, F = f + 1 := ⟨F - 1, by omega⟩
      have HIN := Lib.hid hin
      obtain ⟨ad, x, he, hx, hcl⟩ := HA.out.cell (j := kk) (by omega)
      injection he with he
      subst he
      rw [addr_add, Nat.zero_add] at hcl
      obtain ⟨hx1, hx2⟩ := HR.out.at_ hx
      have HY : Hid (t[(kk : Int).toNat]? = some x) := by show _ = _; simpa using hx
      clear hx
      have d1 : decide ((lo : Int) ≤ (kk : Int)) = true := by simp; omega
      have d2 : decide ((kk : Int) < (h : Int)) = true := by simp; omega
      have d3 : decide (lo ≤ kk) = true := by simp; omega
      have d4 : decide (kk < h) = true := by simp; omega
      obtain ⟨g1, g2⟩ := hin
      by_cases hxr : x = r
      · subst hxr
        by_cases h1 : C = 1
        · subst h1
          have HH : Hid (D = some (kk : Int)) := by show _ = _; rw [← HX.out, Rw.fnd_hit HIN.out HY.out (by omega)]
          go_wp2
          refine bodyPost_ret (v := .tuple #[.int .i64 (kk : Int), .int .i64 0]) (by simp [results, Tryz.results91, go_sem]) rfl ⟨HKW.out, ?_⟩
          rw [HH.out]
          rfl
        · obtain ⟨c', rfl⟩ : ∃ c', C = c' + 2 := ⟨C - 2, by omega⟩
          have HH : Hid (Rw.fnd t lo h (1) x f ((kk : Int) + (1)) (c' + 1) = D) := by show _ = _; rw [← HX.out, Rw.fnd_next HIN.out HY.out (by omega)]; rfl
          clear h1
          go_wp2
          go_round
          case rel => exact ⟨f, _, c' + 1, by go_num, by go_num, by omega, by omega, by omega, by omega, by omega, HH.out⟩
          case measure => simp [intOf]; omega
      · have n1 : (x != r) = true := by rw [bne_iff_ne]; exact hxr
        have n2 : (x == r) = false := by rw [beq_eq_false_iff_ne]; exact hxr
        have HH : Hid (Rw.fnd t lo h (1) r f ((kk : Int) + (1)) C = D) := by
          show _ = _
          rw [← HX.out, Rw.fnd_skip HIN.out]
          rw [HY.out]
          intro e
          injection e with e
          exact hxr e
        have HXR := Lib.hid hxr
        clear hxr
        go_wp2
        go_round
        case rel => exact ⟨f, _, C, by go_num, rfl, hC1, hC2, by omega, by omega, by omega, HH.out⟩
        case measure => simp [intOf]; omega
    · have HH : Hid (D = none) := by show _ = _; rw [← HX.out, Rw.fnd_out hin]
      by_cases g1 : (lo : Int) ≤ K
      · have d1 : decide ((lo : Int) ≤ K) = true := by simp; omega
        have d2 : decide (K < (h : Int)) = false := by simp; omega
        clear hin
        go_wp2
        refine bodyPost_ret (v := .tuple #[.int .i64 0, .int .i64 6]) (by simp [results, Tryz.results91, go_sem]) rfl ⟨HKW.out, ?_⟩
        rw [HH.out]
        rfl
      · have d1 : decide ((lo : Int) ≤ K) = false := by simp; omega
        clear hin
        go_wp2
        refine bodyPost_ret (v := .tuple #[.int .i64 0, .int .i64 6]) (by simp [results, Tryz.results91, go_sem]) rfl ⟨HKW.out, ?_⟩
        rw [HH.out]
        rfl
theorem pf70_any (s : ByteArray) (k cnt : Nat) (r : Int) (w : World) (hT : Tabs w) (hm : mayB s = true) (hk : k ≤ (rs s).length) (hc1 : 1 ≤ cnt) (hc2 : cnt ≤ 999) :
    Calls Tryz.prog 91 #[.string s, .int .i64 k, .int .i64 70, .int .i64 r, .int .i64 cnt] w fun e w' => Kept (fun _ => False) w w' ∧ e = .returned (ansI (Rw.find (rs s) k 70 r cnt)) := by
  have cU := runes_yes s k w hT hm hk
  have hl := rs_len s
  have hsz := mayB_size hm
  have hr := rs_runey (mayB_valid hm)
  generalize rs s = t at *
  clear hT hm
  generalize hn : t.length = n at *
  have hlo := Rw.beg_le t k
  have hge := Rw.en_ge t k
  have hle := Rw.en_le t k (by rw [hn]; exact hk)
  rw [hn] at hle
  obtain ⟨D, hD⟩ : ∃ D, Rw.fnd t (Rw.beg t k) (Rw.en t k) (-1) r (t.length + 2) ((k : Int) + (-1)) cnt = D := ⟨_, rfl⟩
  have hfind : Rw.find t k 70 r cnt = D.map (· + (0)) := by
    rw [← hD]
    rfl
  rw [hfind]
  rw [hn] at hD
  have HD := Lib.hid hD
  have HR := Lib.hid hr
  have b1 : decide ((cnt : Int) < 1) = false := by simp; omega
  have b2 : decide (999 < (cnt : Int)) = false := by simp; omega
  have b3 : decide (cnt < 1) = false := by simp; omega
  have b4 : decide (999 < cnt) = false := by simp; omega
  have b5 : decide (cnt = 0) = false := by simp; omega
  clear hD hfind hr
  go_enter Tryz.func91, Tryz.ntmps91
  go_wp2_with (first | (go_at_call 34; refine cU.mono ?_; rintro e w1 ⟨hk1, bb, cap, rfl, hbg, hR⟩) | (go_at_call 41; refine (turned70 _).mono ?_; rintro e w2 ⟨rfl, rfl⟩))
  have cB := row_any (some ⟨bb, 0, none⟩) n cap t k _ hR hk (by omega)
  refine cB.mono ?_
  rintro e w' ⟨rfl, rfl⟩
  have HKW := Lib.hid hk1
  have HA := Lib.hid hR
  clear cB cU hk1 hR
  generalize Rw.beg t k = lo at *
  generalize Rw.en t k = h at *
  go_wp2_with fail
  go_loop [20, 4] (fun v u => ∃ (F : Nat) (K : Int) (C : Nat), v = .int .i64 K ∧ u = .int .i64 C ∧ 1 ≤ C ∧ C ≤ 999 ∧ -1 ≤ K ∧ K ≤ n + 1 ∧ K + 1 - (lo : Int) ≤ (F : Int) ∧ Rw.fnd t lo h (-1) r F K C = D) (fun v _ => ((intOf v) + 1).toNat)
  case atStart => exact ⟨_, _, _, rfl, rfl, hc1, hc2, by omega, by omega, by omega, HD.out⟩
  case round =>
    obtain ⟨F, K, C, rfl, rfl, hC1, hC2, hK1, hK2, hF, hd⟩ := hrel
    have HX := Lib.hid hd
    clear hd
    by_cases hin : (lo : Int) ≤ K ∧ K < (h : Int)
    · obtain ⟨kk, rfl⟩ := Int.eq_ofNat_of_zero_le (show 0 ≤ K by omega)
      obtain ⟨f, rfl⟩ : ∃ f, F = f + 1 := ⟨F - 1, by omega⟩
      have HIN := Lib.hid hin
      obtain ⟨ad, x, he, hx, hcl⟩ := HA.out.cell (j := kk) (by omega)
      injection he with he
      subst he
      rw [addr_add, Nat.zero_add] at hcl
      obtain ⟨hx1, hx2⟩ := HR.out.at_ hx
      have HY : Hid (t[(kk : Int).toNat]? = some x) := by show _ = _; simpa using hx
      clear hx
      have d1 : decide ((lo : Int) ≤ (kk : Int)) = true := by simp; omega
      have d2 : decide ((kk : Int) < (h : Int)) = true := by simp; omega
      have d3 : decide (lo ≤ kk) = true := by simp; omega
      have d4 : decide (kk < h) = true := by simp; omega
      obtain ⟨g1, g2⟩ := hin
      by_cases hxr : x = r
      · subst hxr
        by_cases h1 : C = 1
        · subst h1
          have HH : Hid (D = some (kk : Int)) := by show _ = _; rw [← HX.out, Rw.fnd_hit HIN.out HY.out (by omega)]
          go_wp2
          refine bodyPost_ret (v := .tuple #[.int .i64 (kk : Int), .int .i64 0]) (by simp [results, Tryz.results91, go_sem]) rfl ⟨HKW.out, ?_⟩
          rw [HH.out]
          rfl
        · obtain ⟨c', rfl⟩ : ∃ c', C = c' + 2 := ⟨C - 2, by omega⟩
          have HH : Hid (Rw.fnd t lo h (-1) x f ((kk : Int) + (-1)) (c' + 1) = D) := by show _ = _; rw [← HX.out, Rw.fnd_next HIN.out HY.out (by omega)]; rfl
          clear h1
          go_wp2
          go_round
          case rel => exact ⟨f, _, c' + 1, by go_num, by go_num, by omega, by omega, by omega, by omega, by omega, HH.out⟩
          case measure => simp [intOf]; omega
      · have n1 : (x != r) = true := by rw [bne_iff_ne]; exact hxr
        have n2 : (x == r) = false := by rw [beq_eq_false_iff_ne]; exact hxr
        have HH : Hid (Rw.fnd t lo h (-1) r f ((kk : Int) + (-1)) C = D) := by
          show _ = _
          rw [← HX.out, Rw.fnd_skip HIN.out]
          rw [HY.out]
          intro e
          injection e with e
          exact hxr e
        have HXR := Lib.hid hxr
        clear hxr
        go_wp2
        go_round
        case rel => exact ⟨f, _, C, by go_num, rfl, hC1, hC2, by omega, by omega, by omega, HH.out⟩
        case measure => simp [intOf]; omega
    · have HH : Hid (D = none) := by show _ = _; rw [← HX.out, Rw.fnd_out hin]
      by_cases g1 : (lo : Int) ≤ K
      · have d1 : decide ((lo : Int) ≤ K) = true := by simp; omega
        have d2 : decide (K < (h : Int)) = false := by simp; omega
        clear hin
        go_wp2
        refine bodyPost_ret (v := .tuple #[.int .i64 0, .int .i64 6]) (by simp [results, Tryz.results91, go_sem]) rfl ⟨HKW.out, ?_⟩
        rw [HH.out]
        rfl
      · have d1 : decide ((lo : Int) ≤ K) = false := by simp; omega
        clear hin
        go_wp2
        refine bodyPost_ret (v := .tuple #[.int .i64 0, .int .i64 6]) (by simp [results, Tryz.results91, go_sem]) rfl ⟨HKW.out, ?_⟩
        rw [HH.out]
        rfl
theorem pf116_any (s : ByteArray) (k cnt : Nat) (r : Int) (w : World) (hT : Tabs w) (hm : mayB s = true) (hk : k ≤ (rs s).length) (hc1 : 1 ≤ cnt) (hc2 : cnt ≤ 999) :
    Calls Tryz.prog 91 #[.string s, .int .i64 k, .int .i64 116, .int .i64 r, .int .i64 cnt] w fun e w' => Kept (fun _ => False) w w' ∧ e = .returned (ansI (Rw.find (rs s) k 116 r cnt)) := by
  have cU := runes_yes s k w hT hm hk
  have hl := rs_len s
  have hsz := mayB_size hm
  have hr := rs_runey (mayB_valid hm)
  generalize rs s = t at *
  clear hT hm
  generalize hn : t.length = n at *
  have hlo := Rw.beg_le t k
  have hge := Rw.en_ge t k
  have hle := Rw.en_le t k (by rw [hn]; exact hk)
  rw [hn] at hle
  obtain ⟨D, hD⟩ : ∃ D, Rw.fnd t (Rw.beg t k) (Rw.en t k) (1) r (t.length + 2) ((k : Int) + (1)) cnt = D := ⟨_, rfl⟩
  have hfind : Rw.find t k 116 r cnt = D.map (· + (-1)) := by
    rw [← hD]
    rfl
  rw [hfind]
  rw [hn] at hD
  have HD := Lib.hid hD
  have HR := Lib.hid hr
  have b1 : decide ((cnt : Int) < 1) = false := by simp; omega
  have b2 : decide (999 < (cnt : Int)) = false := by simp; omega
  have b3 : decide (cnt < 1) = false := by simp; omega
  have b4 : decide (999 < cnt) = false := by simp; omega
  have b5 : decide (cnt = 0) = false := by simp; omega
  clear hD hfind hr
  go_enter Tryz.func91, Tryz.ntmps91
  go_wp2_with (first | (go_at_call 34; refine cU.mono ?_; rintro e w1 ⟨hk1, bb, cap, rfl, hbg, hR⟩) | (go_at_call 41; refine (turned116 _).mono ?_; rintro e w2 ⟨rfl, rfl⟩))
  have cB := row_any (some ⟨bb, 0, none⟩) n cap t k _ hR hk (by omega)
  refine cB.mono ?_
  rintro e w' ⟨rfl, rfl⟩
  have HKW := Lib.hid hk1
  have HA := Lib.hid hR
  clear cB cU hk1 hR
  generalize Rw.beg t k = lo at *
  generalize Rw.en t k = h at *
  go_wp2_with fail
  go_loop [20, 4] (fun v u => ∃ (F : Nat) (K : Int) (C : Nat), v = .int .i64 K ∧ u = .int .i64 C ∧ 1 ≤ C ∧ C ≤ 999 ∧ -1 ≤ K ∧ K ≤ n + 1 ∧ (h : Int) - K ≤ (F : Int) ∧ Rw.fnd t lo h (1) r F K C = D) (fun v _ => (n + 1 - (intOf v)).toNat)
  case atStart => exact ⟨_, _, _, rfl, rfl, hc1, hc2, by omega, by omega, by omega, HD.out⟩
  case round =>
    obtain ⟨F, K, C, rfl, rfl, hC1, hC2, hK1, hK2, hF, hd⟩ := hrel
    have HX := Lib.hid hd
    clear hd
    by_cases hin : (lo : Int) ≤ K ∧ K < (h : Int)
    · obtain ⟨kk, rfl⟩ := Int.eq_ofNat_of_zero_le (show 0 ≤ K by omega)
      obtain ⟨f, rfl⟩ : ∃ f, F = f + 1 := ⟨F - 1, by omega⟩
      have HIN := Lib.hid hin
      obtain ⟨ad, x, he, hx, hcl⟩ := HA.out.cell (j := kk) (by omega)
      injection he with he
      subst he
      rw [addr_add, Nat.zero_add] at hcl
      obtain ⟨hx1, hx2⟩ := HR.out.at_ hx
      have HY : Hid (t[(kk : Int).toNat]? = some x) := by show _ = _; simpa using hx
      clear hx
      have d1 : decide ((lo : Int) ≤ (kk : Int)) = true := by simp; omega
      have d2 : decide ((kk : Int) < (h : Int)) = true := by simp; omega
      have d3 : decide (lo ≤ kk) = true := by simp; omega
      have d4 : decide (kk < h) = true := by simp; omega
      obtain ⟨g1, g2⟩ := hin
      by_cases hxr : x = r
      · subst hxr
        by_cases h1 : C = 1
        · subst h1
          have HH : Hid (D = some (kk : Int)) := by show _ = _; rw [← HX.out, Rw.fnd_hit HIN.out HY.out (by omega)]
          go_wp2
          refine bodyPost_ret (v := .tuple #[.int .i64 ((kk : Int) + -1), .int .i64 0]) (by simp [results, Tryz.results91, go_sem]) rfl ⟨HKW.out, ?_⟩
          rw [HH.out]
          rfl
        · obtain ⟨c', rfl⟩ : ∃ c', C = c' + 2 := ⟨C - 2, by omega⟩
          have HH : Hid (Rw.fnd t lo h (1) x f ((kk : Int) + (1)) (c' + 1) = D) := by show _ = _; rw [← HX.out, Rw.fnd_next HIN.out HY.out (by omega)]; rfl
          clear h1
          go_wp2
          go_round
          case rel => exact ⟨f, _, c' + 1, by go_num, by go_num, by omega, by omega, by omega, by omega, by omega, HH.out⟩
          case measure => simp [intOf]; omega
      · have n1 : (x != r) = true := by rw [bne_iff_ne]; exact hxr
        have n2 : (x == r) = false := by rw [beq_eq_false_iff_ne]; exact hxr
        have HH : Hid (Rw.fnd t lo h (1) r f ((kk : Int) + (1)) C = D) := by
          show _ = _
          rw [← HX.out, Rw.fnd_skip HIN.out]
          rw [HY.out]
          intro e
          injection e with e
          exact hxr e
        have HXR := Lib.hid hxr
        clear hxr
        go_wp2
        go_round
        case rel => exact ⟨f, _, C, by go_num, rfl, hC1, hC2, by omega, by omega, by omega, HH.out⟩
        case measure => simp [intOf]; omega
    · have HH : Hid (D = none) := by show _ = _; rw [← HX.out, Rw.fnd_out hin]
      by_cases g1 : (lo : Int) ≤ K
      · have d1 : decide ((lo : Int) ≤ K) = true := by simp; omega
        have d2 : decide (K < (h : Int)) = false := by simp; omega
        clear hin
        go_wp2
        refine bodyPost_ret (v := .tuple #[.int .i64 0, .int .i64 6]) (by simp [results, Tryz.results91, go_sem]) rfl ⟨HKW.out, ?_⟩
        rw [HH.out]
        rfl
      · have d1 : decide ((lo : Int) ≤ K) = false := by simp; omega
        clear hin
        go_wp2
        refine bodyPost_ret (v := .tuple #[.int .i64 0, .int .i64 6]) (by simp [results, Tryz.results91, go_sem]) rfl ⟨HKW.out, ?_⟩
        rw [HH.out]
        rfl
theorem pf84_any (s : ByteArray) (k cnt : Nat) (r : Int) (w : World) (hT : Tabs w) (hm : mayB s = true) (hk : k ≤ (rs s).length) (hc1 : 1 ≤ cnt) (hc2 : cnt ≤ 999) :
    Calls Tryz.prog 91 #[.string s, .int .i64 k, .int .i64 84, .int .i64 r, .int .i64 cnt] w fun e w' => Kept (fun _ => False) w w' ∧ e = .returned (ansI (Rw.find (rs s) k 84 r cnt)) := by
  have cU := runes_yes s k w hT hm hk
  have hl := rs_len s
  have hsz := mayB_size hm
  have hr := rs_runey (mayB_valid hm)
  generalize rs s = t at *
  clear hT hm
  generalize hn : t.length = n at *
  have hlo := Rw.beg_le t k
  have hge := Rw.en_ge t k
  have hle := Rw.en_le t k (by rw [hn]; exact hk)
  rw [hn] at hle
  obtain ⟨D, hD⟩ : ∃ D, Rw.fnd t (Rw.beg t k) (Rw.en t k) (-1) r (t.length + 2) ((k : Int) + (-1)) cnt = D := ⟨_, rfl⟩
  have hfind : Rw.find t k 84 r cnt = D.map (· + (1)) := by
    rw [← hD]
    rfl
  rw [hfind]
  rw [hn] at hD
  have HD := Lib.hid hD
  have HR := Lib.hid hr
  have b1 : decide ((cnt : Int) < 1) = false := by simp; omega
  have b2 : decide (999 < (cnt : Int)) = false := by simp; omega
  have b3 : decide (cnt < 1) = false := by simp; omega
  have b4 : decide (999 < cnt) = false := by simp; omega
  have b5 : decide (cnt = 0) = false := by simp; omega
  clear hD hfind hr
  go_enter Tryz.func91, Tryz.ntmps91
  go_wp2_with (first | (go_at_call 34; refine cU.mono ?_; rintro e w1 ⟨hk1, bb, cap, rfl, hbg, hR⟩) | (go_at_call 41; refine (turned84 _).mono ?_; rintro e w2 ⟨rfl, rfl⟩))
  have cB := row_any (some ⟨bb, 0, none⟩) n cap t k _ hR hk (by omega)
  refine cB.mono ?_
  rintro e w' ⟨rfl, rfl⟩
  have HKW := Lib.hid hk1
  have HA := Lib.hid hR
  clear cB cU hk1 hR
  generalize Rw.beg t k = lo at *
  generalize Rw.en t k = h at *
  go_wp2_with fail
  go_loop [20, 4] (fun v u => ∃ (F : Nat) (K : Int) (C : Nat), v = .int .i64 K ∧ u = .int .i64 C ∧ 1 ≤ C ∧ C ≤ 999 ∧ -1 ≤ K ∧ K ≤ n + 1 ∧ K + 1 - (lo : Int) ≤ (F : Int) ∧ Rw.fnd t lo h (-1) r F K C = D) (fun v _ => ((intOf v) + 1).toNat)
  case atStart => exact ⟨_, _, _, rfl, rfl, hc1, hc2, by omega, by omega, by omega, HD.out⟩
  case round =>
    obtain ⟨F, K, C, rfl, rfl, hC1, hC2, hK1, hK2, hF, hd⟩ := hrel
    have HX := Lib.hid hd
    clear hd
    by_cases hin : (lo : Int) ≤ K ∧ K < (h : Int)
    · obtain ⟨kk, rfl⟩ := Int.eq_ofNat_of_zero_le (show 0 ≤ K by omega)
      obtain ⟨f, rfl⟩ : ∃ f, F = f + 1 := ⟨F - 1, by omega⟩
      have HIN := Lib.hid hin
      obtain ⟨ad, x, he, hx, hcl⟩ := HA.out.cell (j := kk) (by omega)
      injection he with he
      subst he
      rw [addr_add, Nat.zero_add] at hcl
      obtain ⟨hx1, hx2⟩ := HR.out.at_ hx
      have HY : Hid (t[(kk : Int).toNat]? = some x) := by show _ = _; simpa using hx
      clear hx
      have d1 : decide ((lo : Int) ≤ (kk : Int)) = true := by simp; omega
      have d2 : decide ((kk : Int) < (h : Int)) = true := by simp; omega
      have d3 : decide (lo ≤ kk) = true := by simp; omega
      have d4 : decide (kk < h) = true := by simp; omega
      obtain ⟨g1, g2⟩ := hin
      by_cases hxr : x = r
      · subst hxr
        by_cases h1 : C = 1
        · subst h1
          have HH : Hid (D = some (kk : Int)) := by show _ = _; rw [← HX.out, Rw.fnd_hit HIN.out HY.out (by omega)]
          go_wp2
          refine bodyPost_ret (v := .tuple #[.int .i64 ((kk : Int) + 1), .int .i64 0]) (by simp [results, Tryz.results91, go_sem]) rfl ⟨HKW.out, ?_⟩
          rw [HH.out]
          rfl
        · obtain ⟨c', rfl⟩ : ∃ c', C = c' + 2 := ⟨C - 2, by omega⟩
          have HH : Hid (Rw.fnd t lo h (-1) x f ((kk : Int) + (-1)) (c' + 1) = D) := by show _ = _; rw [← HX.out, Rw.fnd_next HIN.out HY.out (by omega)]; rfl
          clear h1
          go_wp2
          go_round
          case rel => exact ⟨f, _, c' + 1, by go_num, by go_num, by omega, by omega, by omega, by omega, by omega, HH.out⟩
          case measure => simp [intOf]; omega
      · have n1 : (x != r) = true := by rw [bne_iff_ne]; exact hxr
        have n2 : (x == r) = false := by rw [beq_eq_false_iff_ne]; exact hxr
        have HH : Hid (Rw.fnd t lo h (-1) r f ((kk : Int) + (-1)) C = D) := by
          show _ = _
          rw [← HX.out, Rw.fnd_skip HIN.out]
          rw [HY.out]
          intro e
          injection e with e
          exact hxr e
        have HXR := Lib.hid hxr
        clear hxr
        go_wp2
        go_round
        case rel => exact ⟨f, _, C, by go_num, rfl, hC1, hC2, by omega, by omega, by omega, HH.out⟩
        case measure => simp [intOf]; omega
    · have HH : Hid (D = none) := by show _ = _; rw [← HX.out, Rw.fnd_out hin]
      by_cases g1 : (lo : Int) ≤ K
      · have d1 : decide ((lo : Int) ≤ K) = true := by simp; omega
        have d2 : decide (K < (h : Int)) = false := by simp; omega
        clear hin
        go_wp2
        refine bodyPost_ret (v := .tuple #[.int .i64 0, .int .i64 6]) (by simp [results, Tryz.results91, go_sem]) rfl ⟨HKW.out, ?_⟩
        rw [HH.out]
        rfl
      · have d1 : decide ((lo : Int) ≤ K) = false := by simp; omega
        clear hin
        go_wp2
        refine bodyPost_ret (v := .tuple #[.int .i64 0, .int .i64 6]) (by simp [results, Tryz.results91, go_sem]) rfl ⟨HKW.out, ?_⟩
        rw [HH.out]
        rfl
end Go.Proofs.YtbofjefblhnkoaaGreatDoor
namespace Go.Proofs.YtbofjefblhnkoaaGreatDoor.Sk
open Go Go.RowKit

theorem texts_none (w : World) : Calls Tryz.prog 76 #[.slice none 0 0] w fun e w' => e = .returned (.int .i64 0) ∧ w' = w := by
  go_enter Tryz.func76, Tryz.ntmps76
  go_wp2
  go_loop [3, 4] (fun m i => m = .int .i64 0 ∧ i = .int .i64 0) (fun _ _ => 0)
  case atStart => exact ⟨rfl, rfl⟩
  case round =>
    obtain ⟨rfl, rfl⟩ := hrel
    go_wp2
    go_ret
    exact ⟨rfl, rfl⟩
theorem heavy_none (w : World) : Calls Tryz.prog 38 #[.agg #[.slice none 0 0, .int .i64 0, .int .i64 0, .int .i64 0, .int .i64 0]] w fun e w' => e = .returned (.bool false) ∧ Kept (fun _ => False) w w' := by
  have cT := texts_none (w.alloc (.cells #[.slice none 0 0, .int .i64 0, .int .i64 0, .int .i64 0, .int .i64 0] 26))
  go_enter Tryz.func38, Tryz.ntmps38
  go_wp2_with (go_at_call 76; refine cT.mono ?_; rintro e w' ⟨rfl, rfl⟩)
  go_ret
  exact ⟨rfl, (Kept.refl _ w).alloc _⟩
/-- The text that wakes. -/
def abcb : ByteArray := ⟨#[97, 98, 99, 98]⟩
theorem abcb_rs : rs abcb = [97, 98, 99, 98] := by decide
theorem abcb_may : mayB abcb = true := by decide
theorem abcb_to : ansI (Rw.find (rs abcb) 0 102 98 2) = .tuple #[.int .i64 3, .int .i64 0] := by
  rw [abcb_rs]
  rfl
/-- What a law's loops hold of every world. -/
structure Held (w : World) (pb : Nat) (p : AskV) : Prop where
  pb : PB w pb p
  ask : AskOk w p
  tabs : Tabs w
theorem Held.kept {w w' : World} {pb : Nat} {p : AskV} (h : Held w pb p) (hk : Kept (fun _ => False) w w') : Held w' pb p :=
  ⟨h.pb.kept hk id, h.ask.kept hk, h.tabs.kept hk id id⟩
theorem Held.str {w : World} {pb : Nat} {p : AskV} (h : Held w pb p) {ad : Addr} (hA : p.A = some ad) {i : Nat} {s : ByteArray} (hs : p.ss[i]? = some s) : w.cell? (ad.add i) = some (.string s) := by
  obtain ⟨ad', e, hc, _⟩ := h.ask.ss.2 i s hs
  rw [hA] at e
  injection e with e
  subst e
  exact hc
theorem Rn.at_ {w : World} {rb n : Nat} {t : List Int} (h : Rn w (some ⟨rb, 0, none⟩) n t) {j : Nat} {x : Int} (hx : t[j]? = some x) : w.cell? ⟨rb, j, none⟩ = some (.int .i32 x) := by
  obtain ⟨ad, e, hc⟩ := h.2 j x hx
  injection e with e
  subst e
  rwa [addr_add, Nat.zero_add] at hc

theorem sk_no {t : List Int} {k : Nat} (r : Int) (hk : k + 1 < t.length) (h : t[k]? = some 10 ∨ t[k + 1]? = some 10) : Rw.find t k 102 r 1 = none ∧ Rw.find t k 116 r 1 = none := by
  have he : Rw.en t k ≤ k + 1 := by
    rcases h with h | h
    · rw [Rw.en_stop h]; omega
    · by_cases h0 : t[k]? = some 10
      · rw [Rw.en_stop h0]; omega
      · have hc : t[k]? = some t[k] := List.getElem?_eq_getElem (by omega)
        rw [← Rw.en_step hc (fun e => h0 (by rw [hc, e])), Rw.en_stop h]
        exact Nat.le_refl _
  have h0 : Rw.fnd t (Rw.beg t k) (Rw.en t k) 1 r (t.length + 2) ((k : Int) + 1) 1 = none := Rw.fnd_out (by omega)
  constructor
  · show Option.map _ (Rw.fnd t (Rw.beg t k) (Rw.en t k) 1 r (t.length + 2) ((k : Int) + 1) 1) = none
    rw [h0]; rfl
  · show Option.map _ (Rw.fnd t (Rw.beg t k) (Rw.en t k) 1 r (t.length + 2) ((k : Int) + 1) 1) = none
    rw [h0]; rfl
theorem sk_yes {t : List Int} {k : Nat} {a b : Int} (ha : t[k]? = some a) (hb : t[k + 1]? = some b) (h1 : a ≠ 10) (h2 : b ≠ 10) :
    ansI (Rw.find t k 102 b 1) = .tuple #[.int .i64 ((k : Int) + 1), .int .i64 0] ∧ ansI (Rw.find t k 116 b 1) = .tuple #[.int .i64 k, .int .i64 0] ∧ ansI (Rw.find t (k + 1) 70 a 1) = .tuple #[.int .i64 k, .int .i64 0] := by
  have e1 : Rw.en t (k + 1) = Rw.en t k := Rw.en_step ha h1
  have e2 : Rw.en t (k + 2) = Rw.en t (k + 1) := Rw.en_step hb h2
  have e3 := Rw.en_ge t (k + 2)
  have b1 := Rw.beg_le t k
  have b2 : Rw.beg t (k + 1) = Rw.beg t k := Rw.beg_step (by rw [ha]; intro e; injection e with e; exact h1 e)
  have f1 : Rw.fnd t (Rw.beg t k) (Rw.en t k) 1 b (t.length + 1 + 1) ((k : Int) + 1) 1 = some ((k : Int) + 1) := Rw.fnd_hit (by omega) (by rw [show ((k : Int) + 1).toNat = k + 1 by omega]; exact hb) (by omega)
  have f2 : Rw.fnd t (Rw.beg t (k + 1)) (Rw.en t (k + 1)) (-1) a (t.length + 1 + 1) (((k + 1 : Nat) : Int) + (-1)) 1 = some (((k + 1 : Nat) : Int) + (-1)) := Rw.fnd_hit (by omega) (by rw [show (((k + 1 : Nat) : Int) + (-1)).toNat = k by omega]; exact ha) (by omega)
  refine ⟨?_, ?_, ?_⟩
  · show ansI (Option.map (· + 0) (Rw.fnd t (Rw.beg t k) (Rw.en t k) 1 b (t.length + 1 + 1) ((k : Int) + 1) 1)) = _
    rw [f1]
    show Value.tuple #[.int .i64 ((k : Int) + 1 + 0), .int .i64 0] = _
    rw [Int.add_zero]
  · show ansI (Option.map (· + (-1)) (Rw.fnd t (Rw.beg t k) (Rw.en t k) 1 b (t.length + 1 + 1) ((k : Int) + 1) 1)) = _
    rw [f1]
    show Value.tuple #[.int .i64 ((k : Int) + 1 + (-1)), .int .i64 0] = _
    rw [show (k : Int) + 1 + (-1) = k by omega]
  · show ansI (Option.map (· + 0) (Rw.fnd t (Rw.beg t (k + 1)) (Rw.en t (k + 1)) (-1) a (t.length + 1 + 1) (((k + 1 : Nat) : Int) + (-1)) 1)) = _
    rw [f2]
    show Value.tuple #[.int .i64 (((k + 1 : Nat) : Int) + (-1) + 0), .int .i64 0] = _
    rw [show ((k + 1 : Nat) : Int) + (-1) + 0 = k by omega]
end Go.Proofs.YtbofjefblhnkoaaGreatDoor.Sk
namespace Go.Proofs.YtbofjefblhnkoaaGreatDoor.Sk
open Go Go.RowKit

theorem pf_yes (s : ByteArray) (k cnt : Nat) (key r : Int) (w : World) (hT : Tabs w) (hm : mayB s = true) (hk : k ≤ (rs s).length) (hc1 : 1 ≤ cnt) (hc2 : cnt ≤ 999) (hkey : Rw.Seek key) :
    Calls Tryz.prog 91 #[.string s, .int .i64 k, .int .i64 key, .int .i64 r, .int .i64 cnt] w fun e w' => Kept (fun _ => False) w w' ∧ e = .returned (ansI (Rw.find (rs s) k key r cnt)) := by
  rcases hkey with rfl | rfl | rfl | rfl
  · exact pf102_any s k cnt r w hT hm hk hc1 hc2
  · exact pf70_any s k cnt r w hT hm hk hc1 hc2
  · exact pf116_any s k cnt r w hT hm hk hc1 hc2
  · exact pf84_any s k cnt r w hT hm hk hc1 hc2
theorem rf_yes (A : Option Addr) (n c : Nat) (t : List Int) (k cnt : Nat) (key r : Int) (w : World) (hA : Rn w A n t) (hr : Runey t) (hk : k ≤ n) (hn : n ≤ 100000) (hc1 : 1 ≤ cnt) (hc2 : cnt ≤ 999) (hkey : Rw.Seek key) :
    Calls Tryz.prog 71 #[.slice A n c, .int .i64 k, .int .i64 key, .int .i64 r, .int .i64 cnt] w fun e w' => e = .returned (ansI (Rw.find t k key r cnt)) ∧ w' = w := by
  rcases hkey with rfl | rfl | rfl | rfl
  · exact rf102_any A n c t k cnt r w hA hr hk hn hc1 hc2
  · exact rf70_any A n c t k cnt r w hA hr hk hn hc1 hc2
  · exact rf116_any A n c t k cnt r w hA hr hk hn hc1 hc2
  · exact rf84_any A n c t k cnt r w hA hr hk hn hc1 hc2
/-- Turned, of whatever key: an error, or the other key. -/
theorem turned_any (key : Int) (w : World) : Calls Tryz.prog 41 #[.int .i64 key] w fun e w' => (∃ x y : Int, e = .returned (.tuple #[.int .i64 x, .int .i64 y]) ∧ (¬ Rw.Seek key → x = 0 ∧ y = 1) ∧ (Rw.Seek key → y = 0)) ∧ w' = w := by
  by_cases h : Rw.Seek key
  · rcases id h with rfl | rfl | rfl | rfl
    · exact (turned102 w).mono fun e w' ⟨he, hw⟩ => ⟨⟨70, 0, he, fun hn => absurd h hn, fun _ => rfl⟩, hw⟩
    · exact (turned70 w).mono fun e w' ⟨he, hw⟩ => ⟨⟨102, 0, he, fun hn => absurd h hn, fun _ => rfl⟩, hw⟩
    · exact (turned116 w).mono fun e w' ⟨he, hw⟩ => ⟨⟨84, 0, he, fun hn => absurd h hn, fun _ => rfl⟩, hw⟩
    · exact (turned84 w).mono fun e w' ⟨he, hw⟩ => ⟨⟨116, 0, he, fun hn => absurd h hn, fun _ => rfl⟩, hw⟩
  · exact (turned_no key w h).mono fun e w' ⟨he, hw⟩ => ⟨⟨0, 1, he, fun _ => ⟨rfl, rfl⟩, fun hy => absurd hy h⟩, hw⟩
theorem find_no (s : ByteArray) (k key r m : Int) (w : World) (hs : s.size ≤ 140737488351232) (hT : Tabs w) (hno : ¬ ((mayB s = true ∧ 0 ≤ k ∧ k ≤ (rs s).length) ∧ Rw.Seek key ∧ 1 ≤ m ∧ m ≤ 999)) :
    Calls Tryz.prog 91 #[.string s, .int .i64 k, .int .i64 key, .int .i64 r, .int .i64 m] w fun e w' => Kept (fun _ => False) w w' ∧ e = .returned (.tuple #[.int .i64 0, .int .i64 1]) := by
  have cT := turned_any key
  by_cases hy : mayB s = true ∧ 0 ≤ k ∧ k ≤ (rs s).length
  · obtain ⟨hm, h0, h1⟩ := hy
    obtain ⟨kk, rfl⟩ := Int.eq_ofNat_of_zero_le h0
    have cU := runes_yes s kk w hT hm (by omega)
    have hmm : ¬ Rw.Seek key ∨ (Rw.Seek key ∧ m < 1) ∨ (Rw.Seek key ∧ 1 ≤ m ∧ 999 < m) := by
      by_cases h2 : Rw.Seek key
      · by_cases h3 : m < 1
        · exact .inr (.inl ⟨h2, h3⟩)
        · by_cases h4 : 999 < m
          · exact .inr (.inr ⟨h2, by omega, h4⟩)
          · exact absurd ⟨⟨hm, h0, h1⟩, h2, by omega, by omega⟩ hno
      · exact .inl h2
    clear hT hm hno h0 h1
    generalize rs s = t at *
    rcases hmm with h1 | ⟨h1, h2⟩ | ⟨h1, h2, h3⟩
    · go_enter Tryz.func91, Tryz.ntmps91
      go_wp2_with (first | (go_at_call 34; refine cU.mono ?_; rintro e w2 ⟨hk2, b, cap, rfl, hbg, hR⟩) | (go_at_call 41; refine (cT _).mono ?_; rintro e w3 ⟨⟨x, y, rfl, g1, g2⟩, rfl⟩; obtain ⟨rfl, rfl⟩ := g1 h1; clear g2))
      exact bodyPost_ret (v := .tuple #[.int .i64 0, .int .i64 1]) (by simp [results, Tryz.results91, go_sem]) rfl ⟨hk2, rfl⟩
    · have d1 : decide (m < 1) = true := by simp; omega
      have H1 := Lib.hid h1
      clear h1
      go_enter Tryz.func91, Tryz.ntmps91
      go_wp2_with (first | (go_at_call 34; refine cU.mono ?_; rintro e w2 ⟨hk2, b, cap, rfl, hbg, hR⟩) | (go_at_call 41; refine (cT _).mono ?_; rintro e w3 ⟨⟨x, y, rfl, g1, g2⟩, rfl⟩; obtain rfl := g2 H1.out; clear g1))
      exact bodyPost_ret (v := .tuple #[.int .i64 0, .int .i64 1]) (by simp [results, Tryz.results91, go_sem]) rfl ⟨hk2, rfl⟩
    · have d1 : decide (m < 1) = false := by simp; omega
      have d2 : decide (999 < m) = true := by simp; omega
      have H1 := Lib.hid h1
      clear h1
      go_enter Tryz.func91, Tryz.ntmps91
      go_wp2_with (first | (go_at_call 34; refine cU.mono ?_; rintro e w2 ⟨hk2, b, cap, rfl, hbg, hR⟩) | (go_at_call 41; refine (cT _).mono ?_; rintro e w3 ⟨⟨x, y, rfl, g1, g2⟩, rfl⟩; obtain rfl := g2 H1.out; clear g1))
      exact bodyPost_ret (v := .tuple #[.int .i64 0, .int .i64 1]) (by simp [results, Tryz.results91, go_sem]) rfl ⟨hk2, rfl⟩
  · have cU := runes_no s k w hs hT hy
    clear hT hno hy
    go_enter Tryz.func91, Tryz.ntmps91
    go_wp2_with (first | (go_at_call 34; refine cU.mono ?_; rintro e w2 ⟨hk2, rfl⟩) | (go_at_call 41; refine (cT _).mono ?_; rintro e w3 ⟨⟨x, y, rfl, g1, g2⟩, rfl⟩; clear g1 g2))
    exact bodyPost_ret (v := .tuple #[.int .i64 0, .int .i64 1]) (by simp [results, Tryz.results91, go_sem]) rfl ⟨hk2, rfl⟩
/-- Any rune of a conversion fits an int32. -/
theorem rs_i32 {s : ByteArray} {r : Int} (h : r ∈ rs s) : -2147483648 ≤ r ∧ r ≤ 2147483647 := by
  have hlt : ∀ (n : Nat) (l : List UInt8), r ∈ Utf.runesN n l → 0 ≤ r ∧ r ≤ 1114111 := by
    intro n
    induction n with
    | zero => intro l h; cases h
    | succ n ih =>
      intro l h
      unfold Utf.runesN at h
      split at h
      · cases h
      · rename_i hne
        rcases List.mem_cons.1 h with h | h
        · by_cases hok : (Lib.decodeL l).1 = 65533 ∧ (Lib.decodeL l).2 = 1
          · rw [h, hok.1]; decide
          · have hv := Utf.int_valid (Utf.enc_decodeL l hne hok).1
            omega
        · exact ih _ h
  have := hlt _ _ h
  omega
/-- Whether these arguments may be. -/
def Good (s : ByteArray) (k key : Int) : Prop := mayB s = true ∧ (0 ≤ k ∧ k ≤ (rs s).length) ∧ Rw.Seek key
def Told (s : ByteArray) (k key r : Int) (m : Nat) (X E : Int) : Prop :=
  (Good s k key → ansI (Rw.find (rs s) k.toNat key r m) = .tuple #[.int .i64 X, .int .i64 E]) ∧ (¬ Good s k key → X = 0 ∧ E = 1)
theorem ansI_form (o : Option Int) : ∃ X E : Int, ansI o = .tuple #[.int .i64 X, .int .i64 E] := by
  cases o with
  | none => exact ⟨0, 6, rfl⟩
  | some x => exact ⟨x, 0, rfl⟩
theorem find_all (s : ByteArray) (k key r : Int) (m : Nat) (w : World) (hs : s.size ≤ 140737488351232) (hT : Tabs w) (h1 : 1 ≤ m) (h2 : m ≤ 999) :
    Calls Tryz.prog 91 #[.string s, .int .i64 k, .int .i64 key, .int .i64 r, .int .i64 m] w fun e w' => (∃ X E : Int, e = .returned (.tuple #[.int .i64 X, .int .i64 E]) ∧ Told s k key r m X E) ∧ Kept (fun _ => False) w w' := by
  by_cases hg : Good s k key
  · obtain ⟨g1, ⟨g2, g3⟩, g4⟩ := id hg
    obtain ⟨kk, rfl⟩ := Int.eq_ofNat_of_zero_le g2
    refine (pf_yes s kk m key r w hT g1 (by omega) h1 h2 g4).mono ?_
    rintro e w' ⟨hk, rfl⟩
    obtain ⟨X, E, he⟩ := ansI_form (Rw.find (rs s) kk key r m)
    exact ⟨⟨X, E, by rw [he], fun _ => he, fun h => absurd hg h⟩, hk⟩
  · refine (find_no s k key r m w hs hT (fun h => hg ⟨h.1.1, h.1.2, h.2.1⟩)).mono ?_
    rintro e w' ⟨hk, rfl⟩
    exact ⟨⟨0, 1, rfl, fun h => absurd h hg, fun _ => ⟨rfl, rfl⟩⟩, hk⟩
theorem rfind_told {s : ByteArray} {A : Option Addr} {n c : Nat} {t : List Int} {kk m : Nat} {key r X E : Int} (w : World) (hrs : rs s = t) (hA : Rn w A n t) (hn : n ≤ 6000) (hg : Good s kk key) (h1 : 1 ≤ m) (h2 : m ≤ 999) (htold : Told s kk key r m X E) :
    Calls Tryz.prog 71 #[.slice A n c, .int .i64 kk, .int .i64 key, .int .i64 r, .int .i64 m] w fun e w' => e = .returned (.tuple #[.int .i64 X, .int .i64 E]) ∧ w' = w := by
  obtain ⟨g1, ⟨g2, g3⟩, g4⟩ := id hg
  have ht := htold.1 hg
  have hl := hA.1
  rw [hrs] at ht g3
  have c := rf_yes A n c t kk m key r w hA (by rw [← hrs]; exact rs_runey (mayB_valid g1)) (by omega) (by omega) h1 h2 g4
  have ht' : ansI (Rw.find t kk key r m) = .tuple #[.int .i64 X, .int .i64 E] := ht
  rwa [ht'] at c
/-- Is it a key of these? -/
theorem seek_any (key : Int) (w : World) : Calls Tryz.prog 27 #[.int .i64 key] w fun e w' => e = .returned (.bool (decide (Rw.Seek key))) ∧ Kept (fun _ => False) w w' := by
  have hN := nums_new w [102, 70, 116, 84] 3
  have cI := zin_any (some ⟨w.heap.size, 0, none⟩) 4 4 _ key _ hN (by decide)
  have HL : Hid (key ∈ ([102, 70, 116, 84] : List Int) ↔ Rw.Seek key) := by
    show _ ↔ _
    unfold Rw.Seek
    simp
  clear hN
  go_enter Tryz.func27, Tryz.ntmps27
  go_wp2_with (go_at_call 59; refine cI.mono ?_; rintro e w' ⟨⟨r, rfl, h1, h2, h3⟩, rfl⟩; have H3 := Lib.hid h3; clear h3)
  have hb : decide (0 ≤ r) = decide (Rw.Seek key) := decide_eq_decide.2 (H3.out.trans HL.out)
  have HB := Lib.hid hb
  clear hb H3
  go_ret
  rw [← HB.out]
  exact ⟨rfl, (Kept.refl _ w).alloc _⟩
theorem seek_t {key : Int} (h : Rw.Seek key) (w : World) : Calls Tryz.prog 27 #[.int .i64 key] w fun e w' => e = .returned (.bool true) ∧ Kept (fun _ => False) w w' := by
  have c := seek_any key w
  rwa [decide_eq_true h] at c
theorem seek_f {key : Int} (h : ¬ Rw.Seek key) (w : World) : Calls Tryz.prog 27 #[.int .i64 key] w fun e w' => e = .returned (.bool false) ∧ Kept (fun _ => False) w w' := by
  have c := seek_any key w
  rwa [decide_eq_false h] at c
end Go.Proofs.YtbofjefblhnkoaaGreatDoor.Sk
