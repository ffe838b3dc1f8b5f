/-
  A RUNE IN THE ROW: Find and Turned, of the program.
-/
import Derived.Test.YtfkcofnoccanbaaDoorSkR
set_option linter.unusedVariables false
namespace Go.Proofs.YtfkcofnoccanbaaDoor
open Go Go.RowKit

theorem turned_no (key : Int) (w : World) (h : ¬ Rw.Seek key) : Calls Tryd.prog 15 #[.int .i64 key] w fun e w' => e = .returned (.tuple #[.int .i64 0, .int .i64 1]) ∧ w' = w := by
  have hne : ∀ a, Rw.Seek a → (key == a) = false := fun a ha => by
    rw [beq_eq_false_iff_ne]
    rintro rfl
    exact h ha
  have e1 := hne 102 (by decide)
  have e2 := hne 70 (by decide)
  have e3 := hne 116 (by decide)
  have e4 := hne 84 (by decide)
  clear h hne
  go_enter Tryd.func15, Tryd.ntmps15
  go_wp2
  exact bodyPost_ret (v := .tuple #[.int .i64 0, .int .i64 1]) (by simp [results, Tryd.results15, go_sem]) rfl ⟨rfl, rfl⟩
theorem turned102 (w : World) : Calls Tryd.prog 15 #[.int .i64 102] w fun e w' => e = .returned (.tuple #[.int .i64 70, .int .i64 0]) ∧ w' = w := by
  go_enter Tryd.func15, Tryd.ntmps15
  go_wp2
  exact bodyPost_ret (v := .tuple #[.int .i64 70, .int .i64 0]) (by simp [results, Tryd.results15, go_sem]) rfl ⟨rfl, rfl⟩
theorem rturned102 (w : World) : Calls Tryd.prog 16 #[.int .i64 102] w fun e w' => e = .returned (.int .i64 70) ∧ w' = w := by
  go_enter Tryd.func16, Tryd.ntmps16
  go_wp2
  go_ret
  exact ⟨rfl, rfl⟩
theorem turned70 (w : World) : Calls Tryd.prog 15 #[.int .i64 70] w fun e w' => e = .returned (.tuple #[.int .i64 102, .int .i64 0]) ∧ w' = w := by
  go_enter Tryd.func15, Tryd.ntmps15
  go_wp2
  exact bodyPost_ret (v := .tuple #[.int .i64 102, .int .i64 0]) (by simp [results, Tryd.results15, go_sem]) rfl ⟨rfl, rfl⟩
theorem rturned70 (w : World) : Calls Tryd.prog 16 #[.int .i64 70] w fun e w' => e = .returned (.int .i64 102) ∧ w' = w := by
  go_enter Tryd.func16, Tryd.ntmps16
  go_wp2
  go_ret
  exact ⟨rfl, rfl⟩
theorem turned116 (w : World) : Calls Tryd.prog 15 #[.int .i64 116] w fun e w' => e = .returned (.tuple #[.int .i64 84, .int .i64 0]) ∧ w' = w := by
  go_enter Tryd.func15, Tryd.ntmps15
  go_wp2
  exact bodyPost_ret (v := .tuple #[.int .i64 84, .int .i64 0]) (by simp [results, Tryd.results15, go_sem]) rfl ⟨rfl, rfl⟩
theorem rturned116 (w : World) : Calls Tryd.prog 16 #[.int .i64 116] w fun e w' => e = .returned (.int .i64 84) ∧ w' = w := by
  go_enter Tryd.func16, Tryd.ntmps16
  go_wp2
  go_ret
  exact ⟨rfl, rfl⟩
theorem turned84 (w : World) : Calls Tryd.prog 15 #[.int .i64 84] w fun e w' => e = .returned (.tuple #[.int .i64 116, .int .i64 0]) ∧ w' = w := by
  go_enter Tryd.func15, Tryd.ntmps15
  go_wp2
  exact bodyPost_ret (v := .tuple #[.int .i64 116, .int .i64 0]) (by simp [results, Tryd.results15, go_sem]) rfl ⟨rfl, rfl⟩
theorem rturned84 (w : World) : Calls Tryd.prog 16 #[.int .i64 84] w fun e w' => e = .returned (.int .i64 116) ∧ w' = w := by
  go_enter Tryd.func16, Tryd.ntmps16
  go_wp2
  go_ret
  exact ⟨rfl, rfl⟩
theorem pf102_any (s : ByteArray) (k cnt : Nat) (r : Int) (w : World) (hT : Tabs w) (hm : mayB s = true) (hk : k ≤ (rs s).length) (hc1 : 1 ≤ cnt) (hc2 : cnt ≤ 999) :
    Calls Tryd.prog 9 #[.string s, .int .i64 k, .int .i64 102, .int .i64 r, .int .i64 cnt] w fun e w' => Kept (fun _ => False) w w' ∧ e = .returned (ansI (Rw.find (rs s) k 102 r cnt)) := by
  have cU := runes_yes s k w hT hm hk
  have hl := rs_len s
  have hsz := mayB_size hm
  have hr := rs_runey (mayB_valid hm)
  generalize rs s = t at *
  clear hT hm
  generalize hn : t.length = n at *
  have hlo := Rw.beg_le t k
  have hge := Rw.en_ge t k
  have hle := Rw.en_le t k (by rw [hn]; exact hk)
  rw [hn] at hle
  obtain ⟨D, hD⟩ : ∃ D, Rw.fnd t (Rw.beg t k) (Rw.en t k) (1) r (t.length + 2) ((k : Int) + (1)) cnt = D := ⟨_, rfl⟩
  have hfind : Rw.find t k 102 r cnt = D.map (· + (0)) := by
    rw [← hD]
    rfl
  rw [hfind]
  rw [hn] at hD
  have HD := Lib.hid hD
  have HR := Lib.hid hr
  have b1 : decide ((cnt : Int) < 1) = false := by simp; omega
  have b2 : decide (999 < (cnt : Int)) = false := by simp; omega
  have b3 : decide (cnt < 1) = false := by simp; omega
  have b4 : decide (999 < cnt) = false := by simp; omega
  have b5 : decide (cnt = 0) = false := by simp; omega
  clear hD hfind hr
  go_enter Tryd.func9, Tryd.ntmps9
  go_wp2_with (first | (go_at_call 25; refine cU.mono ?_; rintro e w1 ⟨hk1, bb, cap, rfl, hbg, hR⟩) | (go_at_call 15; refine (turned102 _).mono ?_; rintro e w2 ⟨rfl, rfl⟩))
  have cB := row_any (some ⟨bb, 0, none⟩) n cap t k _ hR hk (by omega)
  refine cB.mono ?_
  rintro e w' ⟨rfl, rfl⟩
  have HKW := Lib.hid hk1
  have HA := Lib.hid hR
  clear cB cU hk1 hR
  generalize Rw.beg t k = lo at *
  generalize Rw.en t k = h at *
  go_wp2_with fail
  go_loop [20, 4] (fun v u => ∃ (F : Nat) (K : Int) (C : Nat), v = .int .i64 K ∧ u = .int .i64 C ∧ 1 ≤ C ∧ C ≤ 999 ∧ -1 ≤ K ∧ K ≤ n + 1 ∧ (h : Int) - K ≤ (F : Int) ∧ Rw.fnd t lo h (1) r F K C = D) (fun v _ => (n + 1 - (intOf v)).toNat)
  case atStart => exact ⟨_, _, _, rfl, rfl, hc1, hc2, by omega, by omega, by omega, HD.out⟩
  case round =>
    obtain ⟨F, K, C, rfl, rfl, hC1, hC2, hK1, hK2, hF, hd⟩ := hrel
    have HX := Lib.hid hd
    clear hd
    by_cases hin : (lo : Int) ≤ K ∧ K < (h : Int)
    · obtain ⟨kk, rfl⟩ := Int.eq_ofNat_of_zero_le (show 0 ≤ K by omega)
      obtain ⟨f, rfl⟩ : ∃ f, F = f + 1 := ⟨F - 1, by omega⟩
      have HIN := Lib.hid hin
      obtain ⟨ad, x, he, hx, hcl⟩ := HA.out.cell (j := kk) (by omega)
      injection he with he
      subst he
      rw [addr_add, Nat.zero_add] at hcl
      obtain ⟨hx1, hx2⟩ := HR.out.at_ hx
      have HY : Hid (t[(kk : Int).toNat]? = some x) := by show _ = _; simpa using hx
      clear hx
      have d1 : decide ((lo : Int) ≤ (kk : Int)) = true := by simp; omega
      have d2 : decide ((kk : Int) < (h : Int)) = true := by simp; omega
      have d3 : decide (lo ≤ kk) = true := by simp; omega
      have d4 : decide (kk < h) = true := by simp; omega
      obtain ⟨g1, g2⟩ := hin
      by_cases hxr : x = r
      · subst hxr
        by_cases h1 : C = 1
        · subst h1
          have HH : Hid (D = some (kk : Int)) := by show _ = _; rw [← HX.out, Rw.fnd_hit HIN.out HY.out (by omega)]
          go_wp2
          refine bodyPost_ret (v := .tuple #[.int .i64 (kk : Int), .int .i64 0]) (by simp [results, Tryd.results9, go_sem]) rfl ⟨HKW.out, ?_⟩
          rw [HH.out]
          rfl
        · obtain ⟨c', rfl⟩ : ∃ c', C = c' + 2 := ⟨C - 2, by omega⟩
          have HH : Hid (Rw.fnd t lo h (1) x f ((kk : Int) + (1)) (c' + 1) = D) := by show _ = _; rw [← HX.out, Rw.fnd_next HIN.out HY.out (by omega)]; rfl
          clear h1
          go_wp2
          go_round
          case rel => exact ⟨f, _, c' + 1, by go_num, by go_num, by omega, by omega, by omega, by omega, by omega, HH.out⟩
          case measure => simp [intOf]; omega
      · have n1 : (x != r) = true := by rw [bne_iff_ne]; exact hxr
        have n2 : (x == r) = false := by rw [beq_eq_false_iff_ne]; exact hxr
        have HH : Hid (Rw.fnd t lo h (1) r f ((kk : Int) + (1)) C = D) := by
          show _ = _
          rw [← HX.out, Rw.fnd_skip HIN.out]
          rw [HY.out]
          intro e
          injection e with e
          exact hxr e
        have HXR := Lib.hid hxr
        clear hxr
        go_wp2
        go_round
        case rel => exact ⟨f, _, C, by go_num, rfl, hC1, hC2, by omega, by omega, by omega, HH.out⟩
        case measure => simp [intOf]; omega
    · have HH : Hid (D = none) := by show _ = _; rw [← HX.out, Rw.fnd_out hin]
      by_cases g1 : (lo : Int) ≤ K
      · have d1 : decide ((lo : Int) ≤ K) = true := by simp; omega
        have d2 : decide (K < (h : Int)) = false := by simp; omega
        clear hin
        go_wp2
        refine bodyPost_ret (v := .tuple #[.int .i64 0, .int .i64 6]) (by simp [results, Tryd.results9, go_sem]) rfl ⟨HKW.out, ?_⟩
        rw [HH.out]
        rfl
      · have d1 : decide ((lo : Int) ≤ K) = false := by simp; omega
        clear hin
        go_wp2
        refine bodyPost_ret (v := .tuple #[.int .i64 0, .int .i64 6]) (by simp [results, Tryd.results9, go_sem]) rfl ⟨HKW.out, ?_⟩
        rw [HH.out]
        rfl
theorem pf70_any (s : ByteArray) (k cnt : Nat) (r : Int) (w : World) (hT : Tabs w) (hm : mayB s = true) (hk : k ≤ (rs s).length) (hc1 : 1 ≤ cnt) (hc2 : cnt ≤ 999) :
    Calls Tryd.prog 9 #[.string s, .int .i64 k, .int .i64 70, .int .i64 r, .int .i64 cnt] w fun e w' => Kept (fun _ => False) w w' ∧ e = .returned (ansI (Rw.find (rs s) k 70 r cnt)) := by
  have cU := runes_yes s k w hT hm hk
  have hl := rs_len s
  have hsz := mayB_size hm
  have hr := rs_runey (mayB_valid hm)
  generalize rs s = t at *
  clear hT hm
  generalize hn : t.length = n at *
  have hlo := Rw.beg_le t k
  have hge := Rw.en_ge t k
  have hle := Rw.en_le t k (by rw [hn]; exact hk)
  rw [hn] at hle
  obtain ⟨D, hD⟩ : ∃ D, Rw.fnd t (Rw.beg t k) (Rw.en t k) (-1) r (t.length + 2) ((k : Int) + (-1)) cnt = D := ⟨_, rfl⟩
  have hfind : Rw.find t k 70 r cnt = D.map (· + (0)) := by
    rw [← hD]
    rfl
  rw [hfind]
  rw [hn] at hD
  have HD := Lib.hid hD
  have HR := Lib.hid hr
  have b1 : decide ((cnt : Int) < 1) = false := by simp; omega
  have b2 : decide (999 < (cnt : Int)) = false := by simp; omega
  have b3 : decide (cnt < 1) = false := by simp; omega
  have b4 : decide (999 < cnt) = false := by simp; omega
  have b5 : decide (cnt = 0) = false := by simp; omega
  clear hD hfind hr
  go_enter Tryd.func9, Tryd.ntmps9
  go_wp2_with (first | (go_at_call 25; refine cU.mono ?_; rintro e w1 ⟨hk1, bb, cap, rfl, hbg, hR⟩) | (go_at_call 15; refine (turned70 _).mono ?_; rintro e w2 ⟨rfl, rfl⟩))
  have cB := row_any (some ⟨bb, 0, none⟩) n cap t k _ hR hk (by omega)
  refine cB.mono ?_
  rintro e w' ⟨rfl, rfl⟩
  have HKW := Lib.hid hk1
  have HA := Lib.hid hR
  clear cB cU hk1 hR
  generalize Rw.beg t k = lo at *
  generalize Rw.en t k = h at *
  go_wp2_with fail
  go_loop [20, 4] (fun v u => ∃ (F : Nat) (K : Int) (C : Nat), v = .int .i64 K ∧ u = .int .i64 C ∧ 1 ≤ C ∧ C ≤ 999 ∧ -1 ≤ K ∧ K ≤ n + 1 ∧ K + 1 - (lo : Int) ≤ (F : Int) ∧ Rw.fnd t lo h (-1) r F K C = D) (fun v _ => ((intOf v) + 1).toNat)
  case atStart => exact ⟨_, _, _, rfl, rfl, hc1, hc2, by omega, by omega, by omega, HD.out⟩
  case round =>
    obtain ⟨F, K, C, rfl, rfl, hC1, hC2, hK1, hK2, hF, hd⟩ := hrel
    have HX := Lib.hid hd
    clear hd
    by_cases hin : (lo : Int) ≤ K ∧ K < (h : Int)
    · obtain ⟨kk, rfl⟩ := Int.eq_ofNat_of_zero_le (show 0 ≤ K by omega)
      obtain ⟨f, rfl⟩ : ∃ f, F = f + 1 := ⟨F - 1, by omega⟩
      have HIN := Lib.hid hin
      obtain ⟨ad, x, he, hx, hcl⟩ := HA.out.cell (j := kk) (by omega)
      injection he with he
      subst he
      rw [addr_add, Nat.zero_add] at hcl
      obtain ⟨hx1, hx2⟩ := HR.out.at_ hx
      have HY : Hid (t[(kk : Int).toNat]? = some x) := by show _ = _; simpa using hx
      clear hx
      have d1 : decide ((lo : Int) ≤ (kk : Int)) = true := by simp; omega
      have d2 : decide ((kk : Int) < (h : Int)) = true := by simp; omega
      have d3 : decide (lo ≤ kk) = true := by simp; omega
      have d4 : decide (kk < h) = true := by simp; omega
      obtain ⟨g1, g2⟩ := hin
      by_cases hxr : x = r
      · subst hxr
        by_cases h1 : C = 1
        · subst h1
          have HH : Hid (D = some (kk : Int)) := by show _ = _; rw [← HX.out, Rw.fnd_hit HIN.out HY.out (by omega)]
          go_wp2
          refine bodyPost_ret (v := .tuple #[.int .i64 (kk : Int), .int .i64 0]) (by simp [results, Tryd.results9, go_sem]) rfl ⟨HKW.out, ?_⟩
          rw [HH.out]
          rfl
        · obtain ⟨c', rfl⟩ : ∃ c', C = c' + 2 := ⟨C - 2, by omega⟩
          have HH : Hid (Rw.fnd t lo h (-1) x f ((kk : Int) + (-1)) (c' + 1) = D) := by show _ = _; rw [← HX.out, Rw.fnd_next HIN.out HY.out (by omega)]; rfl
          clear h1
          go_wp2
          go_round
          case rel => exact ⟨f, _, c' + 1, by go_num, by go_num, by omega, by omega, by omega, by omega, by omega, HH.out⟩
          case measure => simp [intOf]; omega
      · have n1 : (x != r) = true := by rw [bne_iff_ne]; exact hxr
        have n2 : (x == r) = false := by rw [beq_eq_false_iff_ne]; exact hxr
        have HH : Hid (Rw.fnd t lo h (-1) r f ((kk : Int) + (-1)) C = D) := by
          show _ = _
          rw [← HX.out, Rw.fnd_skip HIN.out]
          rw [HY.out]
          intro e
          injection e with e
          exact hxr e
        have HXR := Lib.hid hxr
        clear hxr
        go_wp2
        go_round
        case rel => exact ⟨f, _, C, by go_num, rfl, hC1, hC2, by omega, by omega, by omega, HH.out⟩
        case measure => simp [intOf]; omega
    · have HH : Hid (D = none) := by show _ = _; rw [← HX.out, Rw.fnd_out hin]
      by_cases g1 : (lo : Int) ≤ K
      · have d1 : decide ((lo : Int) ≤ K) = true := by simp; omega
        have d2 : decide (K < (h : Int)) = false := by simp; omega
        clear hin
        go_wp2
        refine bodyPost_ret (v := .tuple #[.int .i64 0, .int .i64 6]) (by simp [results, Tryd.results9, go_sem]) rfl ⟨HKW.out, ?_⟩
        rw [HH.out]
        rfl
      · have d1 : decide ((lo : Int) ≤ K) = false := by simp; omega
        clear hin
        go_wp2
        refine bodyPost_ret (v := .tuple #[.int .i64 0, .int .i64 6]) (by simp [results, Tryd.results9, go_sem]) rfl ⟨HKW.out, ?_⟩
        rw [HH.out]
        rfl
theorem pf116_any (s : ByteArray) (k cnt : Nat) (r : Int) (w : World) (hT : Tabs w) (hm : mayB s = true) (hk : k ≤ (rs s).length) (hc1 : 1 ≤ cnt) (hc2 : cnt ≤ 999) :
    Calls Tryd.prog 9 #[.string s, .int .i64 k, .int .i64 116, .int .i64 r, .int .i64 cnt] w fun e w' => Kept (fun _ => False) w w' ∧ e = .returned (ansI (Rw.find (rs s) k 116 r cnt)) := by
  have cU := runes_yes s k w hT hm hk
  have hl := rs_len s
  have hsz := mayB_size hm
  have hr := rs_runey (mayB_valid hm)
  generalize rs s = t at *
  clear hT hm
  generalize hn : t.length = n at *
  have hlo := Rw.beg_le t k
  have hge := Rw.en_ge t k
  have hle := Rw.en_le t k (by rw [hn]; exact hk)
  rw [hn] at hle
  obtain ⟨D, hD⟩ : ∃ D, Rw.fnd t (Rw.beg t k) (Rw.en t k) (1) r (t.length + 2) ((k : Int) + (1)) cnt = D := ⟨_, rfl⟩
  have hfind : Rw.find t k 116 r cnt = D.map (· + (-1)) := by
    rw [← hD]
    rfl
  rw [hfind]
  rw [hn] at hD
  have HD := Lib.hid hD
  have HR := Lib.hid hr
  have b1 : decide ((cnt : Int) < 1) = false := by simp; omega
  have b2 : decide (999 < (cnt : Int)) = false := by simp; omega
  have b3 : decide (cnt < 1) = false := by simp; omega
  have b4 : decide (999 < cnt) = false := by simp; omega
  have b5 : decide (cnt = 0) = false := by simp; omega
  clear hD hfind hr
  go_enter Tryd.func9, Tryd.ntmps9
  go_wp2_with (first | (go_at_call 25; refine cU.mono ?_; rintro e w1 ⟨hk1, bb, cap, rfl, hbg, hR⟩) | (go_at_call 15; refine (turned116 _).mono ?_; rintro e w2 ⟨rfl, rfl⟩))
  have cB := row_any (some ⟨bb, 0, none⟩) n cap t k _ hR hk (by omega)
  refine cB.mono ?_
  rintro e w' ⟨rfl, rfl⟩
  have HKW := Lib.hid hk1
  have HA := Lib.hid hR
  clear cB cU hk1 hR
  generalize Rw.beg t k = lo at *
  generalize Rw.en t k = h at *
  go_wp2_with fail
  go_loop [20, 4] (fun v u => ∃ (F : Nat) (K : Int) (C : Nat), v = .int .i64 K ∧ u = .int .i64 C ∧ 1 ≤ C ∧ C ≤ 999 ∧ -1 ≤ K ∧ K ≤ n + 1 ∧ (h : Int) - K ≤ (F : Int) ∧ Rw.fnd t lo h (1) r F K C = D) (fun v _ => (n + 1 - (intOf v)).toNat)
  case atStart => exact ⟨_, _, _, rfl, rfl, hc1, hc2, by omega, by omega, by omega, HD.out⟩
  case round =>
    obtain ⟨F, K, C, rfl, rfl, hC1, hC2, hK1, hK2, hF, hd⟩ := hrel
    have HX := Lib.hid hd
    clear hd
    by_cases hin : (lo : Int) ≤ K ∧ K < (h : Int)
    · obtain ⟨kk, rfl⟩ := Int.eq_ofNat_of_zero_le (show 0 ≤ K by omega)
      obtain ⟨f, rfl⟩ : ∃ f, F = f + 1 := ⟨F - 1, by omega⟩
      have HIN := Lib.hid hin
      obtain ⟨ad, x, he, hx, hcl⟩ := HA.out.cell (j := kk) (by omega)
      injection he with he
      subst he
      rw [addr_add, Nat.zero_add] at hcl
      obtain ⟨hx1, hx2⟩ := HR.out.at_ hx
      have HY : Hid (t[(kk : Int).toNat]? = some x) := by show _ = _; simpa using hx
      clear hx
      have d1 : decide ((lo : Int) ≤ (kk : Int)) = true := by simp; omega
      have d2 : decide ((kk : Int) < (h : Int)) = true := by simp; omega
      have d3 : decide (lo ≤ kk) = true := by simp; omega
      have d4 : decide (kk < h) = true := by simp; omega
      obtain ⟨g1, g2⟩ := hin
      by_cases hxr : x = r
      · subst hxr
        by_cases h1 : C = 1
        · subst h1
          have HH : Hid (D = some (kk : Int)) := by show _ = _; rw [← HX.out, Rw.fnd_hit HIN.out HY.out (by omega)]
          go_wp2
          refine bodyPost_ret (v := .tuple #[.int .i64 ((kk : Int) + -1), .int .i64 0]) (by simp [results, Tryd.results9, go_sem]) rfl ⟨HKW.out, ?_⟩
          rw [HH.out]
          rfl
        · obtain ⟨c', rfl⟩ : ∃ c', C = c' + 2 := ⟨C - 2, by omega⟩
          have HH : Hid (Rw.fnd t lo h (1) x f ((kk : Int) + (1)) (c' + 1) = D) := by show _ = _; rw [← HX.out, Rw.fnd_next HIN.out HY.out (by omega)]; rfl
          clear h1
          go_wp2
          go_round
          case rel => exact ⟨f, _, c' + 1, by go_num, by go_num, by omega, by omega, by omega, by omega, by omega, HH.out⟩
          case measure => simp [intOf]; omega
      · have n1 : (x != r) = true := by rw [bne_iff_ne]; exact hxr
        have n2 : (x == r) = false := by rw [beq_eq_false_iff_ne]; exact hxr
        have HH : Hid (Rw.fnd t lo h (1) r f ((kk : Int) + (1)) C = D) := by
          show _ = _
          rw [← HX.out, Rw.fnd_skip HIN.out]
          rw [HY.out]
          intro e
          injection e with e
          exact hxr e
        have HXR := Lib.hid hxr
        clear hxr
        go_wp2
        go_round
        case rel => exact ⟨f, _, C, by go_num, rfl, hC1, hC2, by omega, by omega, by omega, HH.out⟩
        case measure => simp [intOf]; omega
    · have HH : Hid (D = none) := by show _ = _; rw [← HX.out, Rw.fnd_out hin]
      by_cases g1 : (lo : Int) ≤ K
      · have d1 : decide ((lo : Int) ≤ K) = true := by simp; omega
        have d2 : decide (K < (h : Int)) = false := by simp; omega
        clear hin
        go_wp2
        refine bodyPost_ret (v := .tuple #[.int .i64 0, .int .i64 6]) (by simp [results, Tryd.results9, go_sem]) rfl ⟨HKW.out, ?_⟩
        rw [HH.out]
        rfl
      · have d1 : decide ((lo : Int) ≤ K) = false := by simp; omega
        clear hin
        go_wp2
        refine bodyPost_ret (v := .tuple #[.int .i64 0, .int .i64 6]) (by simp [results, Tryd.results9, go_sem]) rfl ⟨HKW.out, ?_⟩
        rw [HH.out]
        rfl
theorem pf84_any (s : ByteArray) (k cnt : Nat) (r : Int) (w : World) (hT : Tabs w) (hm : mayB s = true) (hk : k ≤ (rs s).length) (hc1 : 1 ≤ cnt) (hc2 : cnt ≤ 999) :
    Calls Tryd.prog 9 #[.string s, .int .i64 k, .int .i64 84, .int .i64 r, .int .i64 cnt] w fun e w' => Kept (fun _ => False) w w' ∧ e = .returned (ansI (Rw.find (rs s) k 84 r cnt)) := by
  have cU := runes_yes s k w hT hm hk
  have hl := rs_len s
  have hsz := mayB_size hm
  have hr := rs_runey (mayB_valid hm)
  generalize rs s = t at *
  clear hT hm
  generalize hn : t.length = n at *
  have hlo := Rw.beg_le t k
  have hge := Rw.en_ge t k
  have hle := Rw.en_le t k (by rw [hn]; exact hk)
  rw [hn] at hle
  obtain ⟨D, hD⟩ : ∃ D, Rw.fnd t (Rw.beg t k) (Rw.en t k) (-1) r (t.length + 2) ((k : Int) + (-1)) cnt = D := ⟨_, rfl⟩
  have hfind : Rw.find t k 84 r cnt = D.map (· + (1)) := by
    rw [← hD]
    rfl
  rw [hfind]
  rw [hn] at hD
  have HD := Lib.hid hD
  have HR := Lib.hid hr
  have b1 : decide ((cnt : Int) < 1) = false := by simp; omega
  have b2 : decide (999 < (cnt : Int)) = false := by simp; omega
  have b3 : decide (cnt < 1) = false := by simp; omega
  have b4 : decide (999 < cnt) = false := by simp; omega
  have b5 : decide (cnt = 0) = false := by simp; omega
  clear hD hfind hr
  go_enter Tryd.func9, Tryd.ntmps9
  go_wp2_with (first | (go_at_call 25; refine cU.mono ?_; rintro e w1 ⟨hk1, bb, cap, rfl, hbg, hR⟩) | (go_at_call 15; refine (turned84 _).mono ?_; rintro e w2 ⟨rfl, rfl⟩))
  have cB := row_any (some ⟨bb, 0, none⟩) n cap t k _ hR hk (by omega)
  refine cB.mono ?_
  rintro e w' ⟨rfl, rfl⟩
  have HKW := Lib.hid hk1
  have HA := Lib.hid hR
  clear cB cU hk1 hR
  generalize Rw.beg t k = lo at *
  generalize Rw.en t k = h at *
  go_wp2_with fail
  go_loop [20, 4] (fun v u => ∃ (F : Nat) (K : Int) (C : Nat), v = .int .i64 K ∧ u = .int .i64 C ∧ 1 ≤ C ∧ C ≤ 999 ∧ -1 ≤ K ∧ K ≤ n + 1 ∧ K + 1 - (lo : Int) ≤ (F : Int) ∧ Rw.fnd t lo h (-1) r F K C = D) (fun v _ => ((intOf v) + 1).toNat)
  case atStart => exact ⟨_, _, _, rfl, rfl, hc1, hc2, by omega, by omega, by omega, HD.out⟩
  case round =>
    obtain ⟨F, K, C, rfl, rfl, hC1, hC2, hK1, hK2, hF, hd⟩ := hrel
    have HX := Lib.hid hd
    clear hd
    by_cases hin : (lo : Int) ≤ K ∧ K < (h : Int)
    · obtain ⟨kk, rfl⟩ := Int.eq_ofNat_of_zero_le (show 0 ≤ K by omega)
      obtain ⟨f, rfl⟩ : ∃ f, F = f + 1 := ⟨F - 1, by omega⟩
      have HIN := Lib.hid hin
      obtain ⟨ad, x, he, hx, hcl⟩ := HA.out.cell (j := kk) (by omega)
      injection he with he
      subst he
      rw [addr_add, Nat.zero_add] at hcl
      obtain ⟨hx1, hx2⟩ := HR.out.at_ hx
      have HY : Hid (t[(kk : Int).toNat]? = some x) := by show _ = _; simpa using hx
      clear hx
      have d1 : decide ((lo : Int) ≤ (kk : Int)) = true := by simp; omega
      have d2 : decide ((kk : Int) < (h : Int)) = true := by simp; omega
      have d3 : decide (lo ≤ kk) = true := by simp; omega
      have d4 : decide (kk < h) = true := by simp; omega
      obtain ⟨g1, g2⟩ := hin
      by_cases hxr : x = r
      · subst hxr
        by_cases h1 : C = 1
        · subst h1
          have HH : Hid (D = some (kk : Int)) := by show _ = _; rw [← HX.out, Rw.fnd_hit HIN.out HY.out (by omega)]
          go_wp2
          refine bodyPost_ret (v := .tuple #[.int .i64 ((kk : Int) + 1), .int .i64 0]) (by simp [results, Tryd.results9, go_sem]) rfl ⟨HKW.out, ?_⟩
          rw [HH.out]
          rfl
        · obtain ⟨c', rfl⟩ : ∃ c', C = c' + 2 := ⟨C - 2, by omega⟩
          have HH : Hid (Rw.fnd t lo h (-1) x f ((kk : Int) + (-1)) (c' + 1) = D) := by show _ = _; rw [← HX.out, Rw.fnd_next HIN.out HY.out (by omega)]; rfl
          clear h1
          go_wp2
          go_round
          case rel => exact ⟨f, _, c' + 1, by go_num, by go_num, by omega, by omega, by omega, by omega, by omega, HH.out⟩
          case measure => simp [intOf]; omega
      · have n1 : (x != r) = true := by rw [bne_iff_ne]; exact hxr
        have n2 : (x == r) = false := by rw [beq_eq_false_iff_ne]; exact hxr
        have HH : Hid (Rw.fnd t lo h (-1) r f ((kk : Int) + (-1)) C = D) := by
          show _ = _
          rw [← HX.out, Rw.fnd_skip HIN.out]
          rw [HY.out]
          intro e
          injection e with e
          exact hxr e
        have HXR := Lib.hid hxr
        clear hxr
        go_wp2
        go_round
        case rel => exact ⟨f, _, C, by go_num, rfl, hC1, hC2, by omega, by omega, by omega, HH.out⟩
        case measure => simp [intOf]; omega
    · have HH : Hid (D = none) := by show _ = _; rw [← HX.out, Rw.fnd_out hin]
      by_cases g1 : (lo : Int) ≤ K
      · have d1 : decide ((lo : Int) ≤ K) = true := by simp; omega
        have d2 : decide (K < (h : Int)) = false := by simp; omega
        clear hin
        go_wp2
        refine bodyPost_ret (v := .tuple #[.int .i64 0, .int .i64 6]) (by simp [results, Tryd.results9, go_sem]) rfl ⟨HKW.out, ?_⟩
        rw [HH.out]
        rfl
      · have d1 : decide ((lo : Int) ≤ K) = false := by simp; omega
        clear hin
        go_wp2
        refine bodyPost_ret (v := .tuple #[.int .i64 0, .int .i64 6]) (by simp [results, Tryd.results9, go_sem]) rfl ⟨HKW.out, ?_⟩
        rw [HH.out]
        rfl
end Go.Proofs.YtfkcofnoccanbaaDoor
