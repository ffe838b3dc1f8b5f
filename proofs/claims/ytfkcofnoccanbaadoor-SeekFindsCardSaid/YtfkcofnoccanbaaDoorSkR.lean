/-
  A RUNE IN THE ROW: Find and Turned, of the program and of the reference.
-/
import Derived.Test.YtfkcofnoccanbaaDoorSpk
import Derived.Test.YtfkcofnoccanbaaDoorSkP
import Derived.Test.YtfkcofnoccanbaaDoorRunesK
set_option linter.unusedVariables false
namespace Go.Proofs.YtfkcofnoccanbaaDoor
open Go Go.RowKit

/-- What is told of where a motion leads. -/
def ansI (o : Option Int) : Value := match o with
  | none => .tuple #[.int .i64 0, .int .i64 6]
  | some x => .tuple #[.int .i64 x, .int .i64 0]
theorem rf102_any (A : Option Addr) (n c : Nat) (t : List Int) (k cnt : Nat) (r : Int) (w : World) (hA : Rn w A n t) (hr : Runey t) (hk : k ≤ n) (hn : n ≤ 100000) (hc1 : 1 ≤ cnt) (hc2 : cnt ≤ 999) :
    Calls Tryd.prog 13 #[.slice A n c, .int .i64 k, .int .i64 102, .int .i64 r, .int .i64 cnt] w fun e w' => e = .returned (ansI (Rw.find t k 102 r cnt)) ∧ w' = w := by
  have hl := hA.1
  have cB := rbegin_any A n c t k w hA hk hn
  have cE := rend_any A n c t k w hA hk hn
  have hlo := Rw.beg_le t k
  have hge := Rw.en_ge t k
  have hle := Rw.en_le t k (by rw [hl]; exact hk)
  rw [hl] at hle
  obtain ⟨D, hD⟩ : ∃ D, Rw.fnd t (Rw.beg t k) (Rw.en t k) (1) r (t.length + 2) ((k : Int) + (1)) cnt = D := ⟨_, rfl⟩
  have hfind : Rw.find t k 102 r cnt = D.map (· + (0)) := by
    rw [← hD]
    rfl
  rw [hfind]
  rw [hl] at hD
  have HD := Lib.hid hD
  have HA := Lib.hid hA
  have HR := Lib.hid hr
  clear hD hfind hA hr hl
  generalize Rw.beg t k = lo at *
  generalize Rw.en t k = h at *
  go_enter Tryd.func13, Tryd.ntmps13
  go_wp2_with (go_at_call 29; refine cB.mono ?_; rintro e w' ⟨rfl, rfl⟩)
  refine cE.mono ?_
  rintro e w' ⟨rfl, rfl⟩
  clear cB cE
  go_wp2_with fail
  go_loop [15, 4] (fun v u => ∃ (F : Nat) (K : Int) (C : Nat), v = .int .i64 K ∧ u = .int .i64 C ∧ 1 ≤ C ∧ C ≤ 999 ∧ -1 ≤ K ∧ K ≤ n + 1 ∧ (h : Int) - K ≤ (F : Int) ∧ Rw.fnd t lo h (1) r F K C = D) (fun v _ => (n + 1 - (intOf v)).toNat)
  case atStart => exact ⟨_, _, _, rfl, rfl, hc1, hc2, by omega, by omega, by omega, HD.out⟩
  case round =>
    obtain ⟨F, K, C, rfl, rfl, hC1, hC2, hK1, hK2, hF, hd⟩ := hrel
    have HX := Lib.hid hd
    clear hd
    by_cases hin : (lo : Int) ≤ K ∧ K < (h : Int)
    · obtain ⟨kk, rfl⟩ := Int.eq_ofNat_of_zero_le (show 0 ≤ K by omega)
      obtain ⟨f, rfl⟩ : ∃ f, F = f + 1 := ⟨F - 1, by omega⟩
      have HIN := Lib.hid hin
      obtain ⟨ad, x, rfl, hx, hcl⟩ := HA.out.cell (j := kk) (by omega)
      obtain ⟨hx1, hx2⟩ := HR.out.at_ hx
      have HY : Hid (t[(kk : Int).toNat]? = some x) := by show _ = _; simpa using hx
      clear hx
      have d1 : decide ((lo : Int) ≤ (kk : Int)) = true := by simp; omega
      have d2 : decide ((kk : Int) < (h : Int)) = true := by simp; omega
      have d3 : decide (lo ≤ kk) = true := by simp; omega
      have d4 : decide (kk < h) = true := by simp; omega
      obtain ⟨g1, g2⟩ := hin
      by_cases hxr : x = r
      · subst hxr
        by_cases h1 : C = 1
        · subst h1
          have HH : Hid (D = some (kk : Int)) := by show _ = _; rw [← HX.out, Rw.fnd_hit HIN.out HY.out (by omega)]
          go_wp2
          refine bodyPost_ret (v := .tuple #[.int .i64 (kk : Int), .int .i64 0]) (by simp [results, Tryd.results13, go_sem]) rfl ⟨?_, rfl⟩
          rw [HH.out]
          rfl
        · obtain ⟨c', rfl⟩ : ∃ c', C = c' + 2 := ⟨C - 2, by omega⟩
          have HH : Hid (Rw.fnd t lo h (1) x f ((kk : Int) + (1)) (c' + 1) = D) := by show _ = _; rw [← HX.out, Rw.fnd_next HIN.out HY.out (by omega)]; rfl
          clear h1
          go_wp2
          go_round
          case rel => exact ⟨f, _, c' + 1, by go_num, by go_num, by omega, by omega, by omega, by omega, by omega, HH.out⟩
          case measure => simp [intOf]; omega
      · have n1 : (x != r) = true := by rw [bne_iff_ne]; exact hxr
        have n2 : (x == r) = false := by rw [beq_eq_false_iff_ne]; exact hxr
        have HH : Hid (Rw.fnd t lo h (1) r f ((kk : Int) + (1)) C = D) := by
          show _ = _
          rw [← HX.out, Rw.fnd_skip HIN.out]
          rw [HY.out]
          intro e
          injection e with e
          exact hxr e
        have HXR := Lib.hid hxr
        clear hxr
        go_wp2
        go_round
        case rel => exact ⟨f, _, C, by go_num, rfl, hC1, hC2, by omega, by omega, by omega, HH.out⟩
        case measure => simp [intOf]; omega
    · have HH : Hid (D = none) := by show _ = _; rw [← HX.out, Rw.fnd_out hin]
      by_cases g1 : (lo : Int) ≤ K
      · have d1 : decide ((lo : Int) ≤ K) = true := by simp; omega
        have d2 : decide (K < (h : Int)) = false := by simp; omega
        clear hin
        go_wp2
        refine bodyPost_ret (v := .tuple #[.int .i64 0, .int .i64 6]) (by simp [results, Tryd.results13, go_sem]) rfl ⟨?_, rfl⟩
        rw [HH.out]
        rfl
      · have d1 : decide ((lo : Int) ≤ K) = false := by simp; omega
        clear hin
        go_wp2
        refine bodyPost_ret (v := .tuple #[.int .i64 0, .int .i64 6]) (by simp [results, Tryd.results13, go_sem]) rfl ⟨?_, rfl⟩
        rw [HH.out]
        rfl
theorem rf70_any (A : Option Addr) (n c : Nat) (t : List Int) (k cnt : Nat) (r : Int) (w : World) (hA : Rn w A n t) (hr : Runey t) (hk : k ≤ n) (hn : n ≤ 100000) (hc1 : 1 ≤ cnt) (hc2 : cnt ≤ 999) :
    Calls Tryd.prog 13 #[.slice A n c, .int .i64 k, .int .i64 70, .int .i64 r, .int .i64 cnt] w fun e w' => e = .returned (ansI (Rw.find t k 70 r cnt)) ∧ w' = w := by
  have hl := hA.1
  have cB := rbegin_any A n c t k w hA hk hn
  have cE := rend_any A n c t k w hA hk hn
  have hlo := Rw.beg_le t k
  have hge := Rw.en_ge t k
  have hle := Rw.en_le t k (by rw [hl]; exact hk)
  rw [hl] at hle
  obtain ⟨D, hD⟩ : ∃ D, Rw.fnd t (Rw.beg t k) (Rw.en t k) (-1) r (t.length + 2) ((k : Int) + (-1)) cnt = D := ⟨_, rfl⟩
  have hfind : Rw.find t k 70 r cnt = D.map (· + (0)) := by
    rw [← hD]
    rfl
  rw [hfind]
  rw [hl] at hD
  have HD := Lib.hid hD
  have HA := Lib.hid hA
  have HR := Lib.hid hr
  clear hD hfind hA hr hl
  generalize Rw.beg t k = lo at *
  generalize Rw.en t k = h at *
  go_enter Tryd.func13, Tryd.ntmps13
  go_wp2_with (go_at_call 29; refine cB.mono ?_; rintro e w' ⟨rfl, rfl⟩)
  refine cE.mono ?_
  rintro e w' ⟨rfl, rfl⟩
  clear cB cE
  go_wp2_with fail
  go_loop [15, 4] (fun v u => ∃ (F : Nat) (K : Int) (C : Nat), v = .int .i64 K ∧ u = .int .i64 C ∧ 1 ≤ C ∧ C ≤ 999 ∧ -1 ≤ K ∧ K ≤ n + 1 ∧ K + 1 - (lo : Int) ≤ (F : Int) ∧ Rw.fnd t lo h (-1) r F K C = D) (fun v _ => ((intOf v) + 1).toNat)
  case atStart => exact ⟨_, _, _, rfl, rfl, hc1, hc2, by omega, by omega, by omega, HD.out⟩
  case round =>
    obtain ⟨F, K, C, rfl, rfl, hC1, hC2, hK1, hK2, hF, hd⟩ := hrel
    have HX := Lib.hid hd
    clear hd
    by_cases hin : (lo : Int) ≤ K ∧ K < (h : Int)
    · obtain ⟨kk, rfl⟩ := Int.eq_ofNat_of_zero_le (show 0 ≤ K by omega)
      obtain ⟨f, rfl⟩ : ∃ f, F = f + 1 := ⟨F - 1, by omega⟩
      have HIN := Lib.hid hin
      obtain ⟨ad, x, rfl, hx, hcl⟩ := HA.out.cell (j := kk) (by omega)
      obtain ⟨hx1, hx2⟩ := HR.out.at_ hx
      have HY : Hid (t[(kk : Int).toNat]? = some x) := by show _ = _; simpa using hx
      clear hx
      have d1 : decide ((lo : Int) ≤ (kk : Int)) = true := by simp; omega
      have d2 : decide ((kk : Int) < (h : Int)) = true := by simp; omega
      have d3 : decide (lo ≤ kk) = true := by simp; omega
      have d4 : decide (kk < h) = true := by simp; omega
      obtain ⟨g1, g2⟩ := hin
      by_cases hxr : x = r
      · subst hxr
        by_cases h1 : C = 1
        · subst h1
          have HH : Hid (D = some (kk : Int)) := by show _ = _; rw [← HX.out, Rw.fnd_hit HIN.out HY.out (by omega)]
          go_wp2
          refine bodyPost_ret (v := .tuple #[.int .i64 (kk : Int), .int .i64 0]) (by simp [results, Tryd.results13, go_sem]) rfl ⟨?_, rfl⟩
          rw [HH.out]
          rfl
        · obtain ⟨c', rfl⟩ : ∃ c', C = c' + 2 := ⟨C - 2, by omega⟩
          have HH : Hid (Rw.fnd t lo h (-1) x f ((kk : Int) + (-1)) (c' + 1) = D) := by show _ = _; rw [← HX.out, Rw.fnd_next HIN.out HY.out (by omega)]; rfl
          clear h1
          go_wp2
          go_round
          case rel => exact ⟨f, _, c' + 1, by go_num, by go_num, by omega, by omega, by omega, by omega, by omega, HH.out⟩
          case measure => simp [intOf]; omega
      · have n1 : (x != r) = true := by rw [bne_iff_ne]; exact hxr
        have n2 : (x == r) = false := by rw [beq_eq_false_iff_ne]; exact hxr
        have HH : Hid (Rw.fnd t lo h (-1) r f ((kk : Int) + (-1)) C = D) := by
          show _ = _
          rw [← HX.out, Rw.fnd_skip HIN.out]
          rw [HY.out]
          intro e
          injection e with e
          exact hxr e
        have HXR := Lib.hid hxr
        clear hxr
        go_wp2
        go_round
        case rel => exact ⟨f, _, C, by go_num, rfl, hC1, hC2, by omega, by omega, by omega, HH.out⟩
        case measure => simp [intOf]; omega
    · have HH : Hid (D = none) := by show _ = _; rw [← HX.out, Rw.fnd_out hin]
      by_cases g1 : (lo : Int) ≤ K
      · have d1 : decide ((lo : Int) ≤ K) = true := by simp; omega
        have d2 : decide (K < (h : Int)) = false := by simp; omega
        clear hin
        go_wp2
        refine bodyPost_ret (v := .tuple #[.int .i64 0, .int .i64 6]) (by simp [results, Tryd.results13, go_sem]) rfl ⟨?_, rfl⟩
        rw [HH.out]
        rfl
      · have d1 : decide ((lo : Int) ≤ K) = false := by simp; omega
        clear hin
        go_wp2
        refine bodyPost_ret (v := .tuple #[.int .i64 0, .int .i64 6]) (by simp [results, Tryd.results13, go_sem]) rfl ⟨?_, rfl⟩
        rw [HH.out]
        rfl
theorem rf116_any (A : Option Addr) (n c : Nat) (t : List Int) (k cnt : Nat) (r : Int) (w : World) (hA : Rn w A n t) (hr : Runey t) (hk : k ≤ n) (hn : n ≤ 100000) (hc1 : 1 ≤ cnt) (hc2 : cnt ≤ 999) :
    Calls Tryd.prog 13 #[.slice A n c, .int .i64 k, .int .i64 116, .int .i64 r, .int .i64 cnt] w fun e w' => e = .returned (ansI (Rw.find t k 116 r cnt)) ∧ w' = w := by
  have hl := hA.1
  have cB := rbegin_any A n c t k w hA hk hn
  have cE := rend_any A n c t k w hA hk hn
  have hlo := Rw.beg_le t k
  have hge := Rw.en_ge t k
  have hle := Rw.en_le t k (by rw [hl]; exact hk)
  rw [hl] at hle
  obtain ⟨D, hD⟩ : ∃ D, Rw.fnd t (Rw.beg t k) (Rw.en t k) (1) r (t.length + 2) ((k : Int) + (1)) cnt = D := ⟨_, rfl⟩
  have hfind : Rw.find t k 116 r cnt = D.map (· + (-1)) := by
    rw [← hD]
    rfl
  rw [hfind]
  rw [hl] at hD
  have HD := Lib.hid hD
  have HA := Lib.hid hA
  have HR := Lib.hid hr
  clear hD hfind hA hr hl
  generalize Rw.beg t k = lo at *
  generalize Rw.en t k = h at *
  go_enter Tryd.func13, Tryd.ntmps13
  go_wp2_with (go_at_call 29; refine cB.mono ?_; rintro e w' ⟨rfl, rfl⟩)
  refine cE.mono ?_
  rintro e w' ⟨rfl, rfl⟩
  clear cB cE
  go_wp2_with fail
  go_loop [15, 4] (fun v u => ∃ (F : Nat) (K : Int) (C : Nat), v = .int .i64 K ∧ u = .int .i64 C ∧ 1 ≤ C ∧ C ≤ 999 ∧ -1 ≤ K ∧ K ≤ n + 1 ∧ (h : Int) - K ≤ (F : Int) ∧ Rw.fnd t lo h (1) r F K C = D) (fun v _ => (n + 1 - (intOf v)).toNat)
  case atStart => exact ⟨_, _, _, rfl, rfl, hc1, hc2, by omega, by omega, by omega, HD.out⟩
  case round =>
    obtain ⟨F, K, C, rfl, rfl, hC1, hC2, hK1, hK2, hF, hd⟩ := hrel
    have HX := Lib.hid hd
    clear hd
    by_cases hin : (lo : Int) ≤ K ∧ K < (h : Int)
    · obtain ⟨kk, rfl⟩ := Int.eq_ofNat_of_zero_le (show 0 ≤ K by omega)
      obtain ⟨f, rfl⟩ : ∃ f, F = f + 1 := ⟨F - 1, by omega⟩
      have HIN := Lib.hid hin
      obtain ⟨ad, x, rfl, hx, hcl⟩ := HA.out.cell (j := kk) (by omega)
      obtain ⟨hx1, hx2⟩ := HR.out.at_ hx
      have HY : Hid (t[(kk : Int).toNat]? = some x) := by show _ = _; simpa using hx
      clear hx
      have d1 : decide ((lo : Int) ≤ (kk : Int)) = true := by simp; omega
      have d2 : decide ((kk : Int) < (h : Int)) = true := by simp; omega
      have d3 : decide (lo ≤ kk) = true := by simp; omega
      have d4 : decide (kk < h) = true := by simp; omega
      obtain ⟨g1, g2⟩ := hin
      by_cases hxr : x = r
      · subst hxr
        by_cases h1 : C = 1
        · subst h1
          have HH : Hid (D = some (kk : Int)) := by show _ = _; rw [← HX.out, Rw.fnd_hit HIN.out HY.out (by omega)]
          go_wp2
          refine bodyPost_ret (v := .tuple #[.int .i64 ((kk : Int) - 1), .int .i64 0]) (by simp [results, Tryd.results13, go_sem]) rfl ⟨?_, rfl⟩
          rw [HH.out]
          rfl
        · obtain ⟨c', rfl⟩ : ∃ c', C = c' + 2 := ⟨C - 2, by omega⟩
          have HH : Hid (Rw.fnd t lo h (1) x f ((kk : Int) + (1)) (c' + 1) = D) := by show _ = _; rw [← HX.out, Rw.fnd_next HIN.out HY.out (by omega)]; rfl
          clear h1
          go_wp2
          go_round
          case rel => exact ⟨f, _, c' + 1, by go_num, by go_num, by omega, by omega, by omega, by omega, by omega, HH.out⟩
          case measure => simp [intOf]; omega
      · have n1 : (x != r) = true := by rw [bne_iff_ne]; exact hxr
        have n2 : (x == r) = false := by rw [beq_eq_false_iff_ne]; exact hxr
        have HH : Hid (Rw.fnd t lo h (1) r f ((kk : Int) + (1)) C = D) := by
          show _ = _
          rw [← HX.out, Rw.fnd_skip HIN.out]
          rw [HY.out]
          intro e
          injection e with e
          exact hxr e
        have HXR := Lib.hid hxr
        clear hxr
        go_wp2
        go_round
        case rel => exact ⟨f, _, C, by go_num, rfl, hC1, hC2, by omega, by omega, by omega, HH.out⟩
        case measure => simp [intOf]; omega
    · have HH : Hid (D = none) := by show _ = _; rw [← HX.out, Rw.fnd_out hin]
      by_cases g1 : (lo : Int) ≤ K
      · have d1 : decide ((lo : Int) ≤ K) = true := by simp; omega
        have d2 : decide (K < (h : Int)) = false := by simp; omega
        clear hin
        go_wp2
        refine bodyPost_ret (v := .tuple #[.int .i64 0, .int .i64 6]) (by simp [results, Tryd.results13, go_sem]) rfl ⟨?_, rfl⟩
        rw [HH.out]
        rfl
      · have d1 : decide ((lo : Int) ≤ K) = false := by simp; omega
        clear hin
        go_wp2
        refine bodyPost_ret (v := .tuple #[.int .i64 0, .int .i64 6]) (by simp [results, Tryd.results13, go_sem]) rfl ⟨?_, rfl⟩
        rw [HH.out]
        rfl
theorem rf84_any (A : Option Addr) (n c : Nat) (t : List Int) (k cnt : Nat) (r : Int) (w : World) (hA : Rn w A n t) (hr : Runey t) (hk : k ≤ n) (hn : n ≤ 100000) (hc1 : 1 ≤ cnt) (hc2 : cnt ≤ 999) :
    Calls Tryd.prog 13 #[.slice A n c, .int .i64 k, .int .i64 84, .int .i64 r, .int .i64 cnt] w fun e w' => e = .returned (ansI (Rw.find t k 84 r cnt)) ∧ w' = w := by
  have hl := hA.1
  have cB := rbegin_any A n c t k w hA hk hn
  have cE := rend_any A n c t k w hA hk hn
  have hlo := Rw.beg_le t k
  have hge := Rw.en_ge t k
  have hle := Rw.en_le t k (by rw [hl]; exact hk)
  rw [hl] at hle
  obtain ⟨D, hD⟩ : ∃ D, Rw.fnd t (Rw.beg t k) (Rw.en t k) (-1) r (t.length + 2) ((k : Int) + (-1)) cnt = D := ⟨_, rfl⟩
  have hfind : Rw.find t k 84 r cnt = D.map (· + (1)) := by
    rw [← hD]
    rfl
  rw [hfind]
  rw [hl] at hD
  have HD := Lib.hid hD
  have HA := Lib.hid hA
  have HR := Lib.hid hr
  clear hD hfind hA hr hl
  generalize Rw.beg t k = lo at *
  generalize Rw.en t k = h at *
  go_enter Tryd.func13, Tryd.ntmps13
  go_wp2_with (go_at_call 29; refine cB.mono ?_; rintro e w' ⟨rfl, rfl⟩)
  refine cE.mono ?_
  rintro e w' ⟨rfl, rfl⟩
  clear cB cE
  go_wp2_with fail
  go_loop [15, 4] (fun v u => ∃ (F : Nat) (K : Int) (C : Nat), v = .int .i64 K ∧ u = .int .i64 C ∧ 1 ≤ C ∧ C ≤ 999 ∧ -1 ≤ K ∧ K ≤ n + 1 ∧ K + 1 - (lo : Int) ≤ (F : Int) ∧ Rw.fnd t lo h (-1) r F K C = D) (fun v _ => ((intOf v) + 1).toNat)
  case atStart => exact ⟨_, _, _, rfl, rfl, hc1, hc2, by omega, by omega, by omega, HD.out⟩
  case round =>
    obtain ⟨F, K, C, rfl, rfl, hC1, hC2, hK1, hK2, hF, hd⟩ := hrel
    have HX := Lib.hid hd
    clear hd
    by_cases hin : (lo : Int) ≤ K ∧ K < (h : Int)
    · obtain ⟨kk, rfl⟩ := Int.eq_ofNat_of_zero_le (show 0 ≤ K by omega)
      obtain ⟨f, rfl⟩ : ∃ f, F = f + 1 := ⟨F - 1, by omega⟩
      have HIN := Lib.hid hin
      obtain ⟨ad, x, rfl, hx, hcl⟩ := HA.out.cell (j := kk) (by omega)
      obtain ⟨hx1, hx2⟩ := HR.out.at_ hx
      have HY : Hid (t[(kk : Int).toNat]? = some x) := by show _ = _; simpa using hx
      clear hx
      have d1 : decide ((lo : Int) ≤ (kk : Int)) = true := by simp; omega
      have d2 : decide ((kk : Int) < (h : Int)) = true := by simp; omega
      have d3 : decide (lo ≤ kk) = true := by simp; omega
      have d4 : decide (kk < h) = true := by simp; omega
      obtain ⟨g1, g2⟩ := hin
      by_cases hxr : x = r
      · subst hxr
        by_cases h1 : C = 1
        · subst h1
          have HH : Hid (D = some (kk : Int)) := by show _ = _; rw [← HX.out, Rw.fnd_hit HIN.out HY.out (by omega)]
          go_wp2
          refine bodyPost_ret (v := .tuple #[.int .i64 ((kk : Int) + 1), .int .i64 0]) (by simp [results, Tryd.results13, go_sem]) rfl ⟨?_, rfl⟩
          rw [HH.out]
          rfl
        · obtain ⟨c', rfl⟩ : ∃ c', C = c' + 2 := ⟨C - 2, by omega⟩
          have HH : Hid (Rw.fnd t lo h (-1) x f ((kk : Int) + (-1)) (c' + 1) = D) := by show _ = _; rw [← HX.out, Rw.fnd_next HIN.out HY.out (by omega)]; rfl
          clear h1
          go_wp2
          go_round
          case rel => exact ⟨f, _, c' + 1, by go_num, by go_num, by omega, by omega, by omega, by omega, by omega, HH.out⟩
          case measure => simp [intOf]; omega
      · have n1 : (x != r) = true := by rw [bne_iff_ne]; exact hxr
        have n2 : (x == r) = false := by rw [beq_eq_false_iff_ne]; exact hxr
        have HH : Hid (Rw.fnd t lo h (-1) r f ((kk : Int) + (-1)) C = D) := by
          show _ = _
          rw [← HX.out, Rw.fnd_skip HIN.out]
          rw [HY.out]
          intro e
          injection e with e
          exact hxr e
        have HXR := Lib.hid hxr
        clear hxr
        go_wp2
        go_round
        case rel => exact ⟨f, _, C, by go_num, rfl, hC1, hC2, by omega, by omega, by omega, HH.out⟩
        case measure => simp [intOf]; omega
    · have HH : Hid (D = none) := by show _ = _; rw [← HX.out, Rw.fnd_out hin]
      by_cases g1 : (lo : Int) ≤ K
      · have d1 : decide ((lo : Int) ≤ K) = true := by simp; omega
        have d2 : decide (K < (h : Int)) = false := by simp; omega
        clear hin
        go_wp2
        refine bodyPost_ret (v := .tuple #[.int .i64 0, .int .i64 6]) (by simp [results, Tryd.results13, go_sem]) rfl ⟨?_, rfl⟩
        rw [HH.out]
        rfl
      · have d1 : decide ((lo : Int) ≤ K) = false := by simp; omega
        clear hin
        go_wp2
        refine bodyPost_ret (v := .tuple #[.int .i64 0, .int .i64 6]) (by simp [results, Tryd.results13, go_sem]) rfl ⟨?_, rfl⟩
        rw [HH.out]
        rfl
end Go.Proofs.YtfkcofnoccanbaaDoor
