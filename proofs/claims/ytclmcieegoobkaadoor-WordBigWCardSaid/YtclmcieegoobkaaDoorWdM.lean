/-
  MOTIONS BY WORDS, of the program: where each leads.
-/
import Derived.Test.YtclmcieegoobkaaDoorWdA
import Derived.Test.YtclmcieegoobkaaDoorRunesK
set_option linter.unusedVariables false
namespace Go.Proofs.YtclmcieegoobkaaDoor
open Go Go.RowKit

/-- The answer: an offset, or the error. -/
def ansW : Option Int → Value
  | some x => .tuple #[.int .i64 x, .int .i64 0]
  | none => .tuple #[.int .i64 0, .int .i64 6]
theorem Rw.w119 (t : List Int) (k c : Nat) : Rw.wgo t k 119 c = Rw.its (Rw.nx (Rw.stp t false false) (Rw.lst t)) c k := rfl
theorem Rw.w87 (t : List Int) (k c : Nat) : Rw.wgo t k 87 c = Rw.its (Rw.nx (Rw.stp t true false) (Rw.lst t)) c k := rfl
theorem Rw.w101 (t : List Int) (k c : Nat) : Rw.wgo t k 101 c = Rw.its (Rw.nx (Rw.stp t false true) (Rw.lst t)) c k := rfl
theorem Rw.w69 (t : List Int) (k c : Nat) : Rw.wgo t k 69 c = Rw.its (Rw.nx (Rw.stp t true true) (Rw.lst t)) c k := rfl
theorem Rw.w98 (t : List Int) (k c : Nat) : Rw.wgo t k 98 c = Rw.its (Rw.pv (Rw.stp t false false)) c k := rfl
theorem Rw.w66 (t : List Int) (k c : Nat) : Rw.wgo t k 66 c = Rw.its (Rw.pv (Rw.stp t true false)) c k := rfl
set_option maxRecDepth 100000 in
set_option maxHeartbeats 1000000 in
theorem wm119_any (s : ByteArray) (k c : Nat) (w : World) (hT : Tabs w) (hm : mayB s = true) (hk : k ≤ (rs s).length) (hc : c ≤ 998) :
    Calls Tryd.prog 33 #[.string s, .int .i64 k, .int .i64 119, .int .i64 ((c : Int) + 1)] w fun e w' => Kept (fun _ => False) w w' ∧ e = .returned (ansW (Rw.wmv (rs s) k 119 (c + 1))) := by
  have cU := runes_yes s k w hT hm hk
  have hl := rs_len s
  have hsz := mayB_size hm
  have hr := rs_runey (mayB_valid hm)
  have hw := Rw.w119 (rs s) k (c + 1)
  unfold Rw.wmv
  rw [hw]
  obtain ⟨D, hD⟩ : ∃ D : Option Int, (if Rw.its (Rw.nx (Rw.stp (rs s) false false) (Rw.lst (rs s))) (c + 1) k = k then none else some ((Rw.its (Rw.nx (Rw.stp (rs s) false false) (Rw.lst (rs s))) (c + 1) k : Nat) : Int)) = D := ⟨_, rfl⟩
  rw [hD]
  have HD := Lib.hid hD
  clear hD
  generalize rs s = t at *
  obtain ⟨m, hmc⟩ := Rw.cel_pos t t.length
  have HMC := Lib.hid hmc
  have HR := Lib.hid hr
  clear hT hm hmc hr hw
  have b1 : decide ((c : Int) + 1 < 1) = false := by simp; omega
  have b2 : decide (999 < (c : Int) + 1) = false := by simp; omega
  go_enter Tryd.func33, Tryd.ntmps33
  go_wp2_with (first | (go_at_call 51; refine cU.mono ?_; rintro e w1 ⟨hk1, bb, cap, rfl, hbg, hR⟩; have HK1 := Lib.hid hk1; have HN := Lib.hid hR; clear cU hk1 hR hbg))
  refine (cells_any (some ⟨bb, 0, none⟩) t.length cap t false w1 HN.out HR.out (by omega)).mono ?_
  rintro e w2 ⟨hk2, g, cap2, rfl, hg, hC⟩
  have HK2 := Lib.hid (HK1.out.trans hk2)
  have HC := Lib.hid hC
  rw [HMC.out]
  clear hk2 hC hg HK1
  go_wp2_with fail
  refine (ahead_b g cap2 m k c t false w2 HMC.out HC.out (by omega) hk hc).mono ?_
  generalize Rw.its (Rw.nx (Rw.stp t false false) (Rw.lst t)) (c + 1) k = x at HD ⊢
  rintro e w3 ⟨rfl, hk3⟩
  have HK3 := Lib.hid (HK2.out.trans hk3)
  clear hk3
  by_cases hx : x = k
  · subst hx
    have HD2 : Hid (D = none) := by show _ = _; rw [← HD.out, if_pos rfl]
    go_wp2
    refine bodyPost_ret (v := .tuple #[.int .i64 0, .int .i64 6]) (by simp [results, Tryd.results33, go_sem]) rfl ⟨HK3.out, by rw [HD2.out]; rfl⟩
  · have HD2 : Hid (D = some (x : Int)) := by show _ = _; rw [← HD.out, if_neg hx]
    have e1 : ((x : Int) == (k : Int)) = false := by rw [beq_eq_false_iff_ne]; omega
    have e2 : (x == k) = false := by rw [beq_eq_false_iff_ne]; exact hx
    clear hx
    go_wp2
    refine bodyPost_ret (v := .tuple #[.int .i64 (x : Nat), .int .i64 0]) (by simp [results, Tryd.results33, go_sem]) rfl ⟨HK3.out, by rw [HD2.out]; rfl⟩
set_option maxRecDepth 100000 in
set_option maxHeartbeats 1000000 in
theorem wm87_any (s : ByteArray) (k c : Nat) (w : World) (hT : Tabs w) (hm : mayB s = true) (hk : k ≤ (rs s).length) (hc : c ≤ 998) :
    Calls Tryd.prog 33 #[.string s, .int .i64 k, .int .i64 87, .int .i64 ((c : Int) + 1)] w fun e w' => Kept (fun _ => False) w w' ∧ e = .returned (ansW (Rw.wmv (rs s) k 87 (c + 1))) := by
  have cU := runes_yes s k w hT hm hk
  have hl := rs_len s
  have hsz := mayB_size hm
  have hr := rs_runey (mayB_valid hm)
  have hw := Rw.w87 (rs s) k (c + 1)
  unfold Rw.wmv
  rw [hw]
  obtain ⟨D, hD⟩ : ∃ D : Option Int, (if Rw.its (Rw.nx (Rw.stp (rs s) true false) (Rw.lst (rs s))) (c + 1) k = k then none else some ((Rw.its (Rw.nx (Rw.stp (rs s) true false) (Rw.lst (rs s))) (c + 1) k : Nat) : Int)) = D := ⟨_, rfl⟩
  rw [hD]
  have HD := Lib.hid hD
  clear hD
  generalize rs s = t at *
  obtain ⟨m, hmc⟩ := Rw.cel_pos t t.length
  have HMC := Lib.hid hmc
  have HR := Lib.hid hr
  clear hT hm hmc hr hw
  have b1 : decide ((c : Int) + 1 < 1) = false := by simp; omega
  have b2 : decide (999 < (c : Int) + 1) = false := by simp; omega
  go_enter Tryd.func33, Tryd.ntmps33
  go_wp2_with (first | (go_at_call 51; refine cU.mono ?_; rintro e w1 ⟨hk1, bb, cap, rfl, hbg, hR⟩; have HK1 := Lib.hid hk1; have HN := Lib.hid hR; clear cU hk1 hR hbg))
  refine (cells_any (some ⟨bb, 0, none⟩) t.length cap t true w1 HN.out HR.out (by omega)).mono ?_
  rintro e w2 ⟨hk2, g, cap2, rfl, hg, hC⟩
  have HK2 := Lib.hid (HK1.out.trans hk2)
  have HC := Lib.hid hC
  rw [HMC.out]
  clear hk2 hC hg HK1
  go_wp2_with fail
  refine (ahead_b g cap2 m k c t true w2 HMC.out HC.out (by omega) hk hc).mono ?_
  generalize Rw.its (Rw.nx (Rw.stp t true false) (Rw.lst t)) (c + 1) k = x at HD ⊢
  rintro e w3 ⟨rfl, hk3⟩
  have HK3 := Lib.hid (HK2.out.trans hk3)
  clear hk3
  by_cases hx : x = k
  · subst hx
    have HD2 : Hid (D = none) := by show _ = _; rw [← HD.out, if_pos rfl]
    go_wp2
    refine bodyPost_ret (v := .tuple #[.int .i64 0, .int .i64 6]) (by simp [results, Tryd.results33, go_sem]) rfl ⟨HK3.out, by rw [HD2.out]; rfl⟩
  · have HD2 : Hid (D = some (x : Int)) := by show _ = _; rw [← HD.out, if_neg hx]
    have e1 : ((x : Int) == (k : Int)) = false := by rw [beq_eq_false_iff_ne]; omega
    have e2 : (x == k) = false := by rw [beq_eq_false_iff_ne]; exact hx
    clear hx
    go_wp2
    refine bodyPost_ret (v := .tuple #[.int .i64 (x : Nat), .int .i64 0]) (by simp [results, Tryd.results33, go_sem]) rfl ⟨HK3.out, by rw [HD2.out]; rfl⟩
set_option maxRecDepth 100000 in
set_option maxHeartbeats 1000000 in
theorem wm101_any (s : ByteArray) (k c : Nat) (w : World) (hT : Tabs w) (hm : mayB s = true) (hk : k ≤ (rs s).length) (hc : c ≤ 998) :
    Calls Tryd.prog 33 #[.string s, .int .i64 k, .int .i64 101, .int .i64 ((c : Int) + 1)] w fun e w' => Kept (fun _ => False) w w' ∧ e = .returned (ansW (Rw.wmv (rs s) k 101 (c + 1))) := by
  have cU := runes_yes s k w hT hm hk
  have hl := rs_len s
  have hsz := mayB_size hm
  have hr := rs_runey (mayB_valid hm)
  have hw := Rw.w101 (rs s) k (c + 1)
  unfold Rw.wmv
  rw [hw]
  obtain ⟨D, hD⟩ : ∃ D : Option Int, (if Rw.its (Rw.nx (Rw.stp (rs s) false true) (Rw.lst (rs s))) (c + 1) k = k then none else some ((Rw.its (Rw.nx (Rw.stp (rs s) false true) (Rw.lst (rs s))) (c + 1) k : Nat) : Int)) = D := ⟨_, rfl⟩
  rw [hD]
  have HD := Lib.hid hD
  clear hD
  generalize rs s = t at *
  obtain ⟨m, hmc⟩ := Rw.cel_pos t t.length
  have HMC := Lib.hid hmc
  have HR := Lib.hid hr
  clear hT hm hmc hr hw
  have b1 : decide ((c : Int) + 1 < 1) = false := by simp; omega
  have b2 : decide (999 < (c : Int) + 1) = false := by simp; omega
  go_enter Tryd.func33, Tryd.ntmps33
  go_wp2_with (first | (go_at_call 51; refine cU.mono ?_; rintro e w1 ⟨hk1, bb, cap, rfl, hbg, hR⟩; have HK1 := Lib.hid hk1; have HN := Lib.hid hR; clear cU hk1 hR hbg))
  refine (cells_any (some ⟨bb, 0, none⟩) t.length cap t false w1 HN.out HR.out (by omega)).mono ?_
  rintro e w2 ⟨hk2, g, cap2, rfl, hg, hC⟩
  have HK2 := Lib.hid (HK1.out.trans hk2)
  have HC := Lib.hid hC
  rw [HMC.out]
  clear hk2 hC hg HK1
  go_wp2_with fail
  refine (ahead_e g cap2 m k c t false w2 HMC.out HC.out (by omega) hk hc).mono ?_
  generalize Rw.its (Rw.nx (Rw.stp t false true) (Rw.lst t)) (c + 1) k = x at HD ⊢
  rintro e w3 ⟨rfl, hk3⟩
  have HK3 := Lib.hid (HK2.out.trans hk3)
  clear hk3
  by_cases hx : x = k
  · subst hx
    have HD2 : Hid (D = none) := by show _ = _; rw [← HD.out, if_pos rfl]
    go_wp2
    refine bodyPost_ret (v := .tuple #[.int .i64 0, .int .i64 6]) (by simp [results, Tryd.results33, go_sem]) rfl ⟨HK3.out, by rw [HD2.out]; rfl⟩
  · have HD2 : Hid (D = some (x : Int)) := by show _ = _; rw [← HD.out, if_neg hx]
    have e1 : ((x : Int) == (k : Int)) = false := by rw [beq_eq_false_iff_ne]; omega
    have e2 : (x == k) = false := by rw [beq_eq_false_iff_ne]; exact hx
    clear hx
    go_wp2
    refine bodyPost_ret (v := .tuple #[.int .i64 (x : Nat), .int .i64 0]) (by simp [results, Tryd.results33, go_sem]) rfl ⟨HK3.out, by rw [HD2.out]; rfl⟩
set_option maxRecDepth 100000 in
set_option maxHeartbeats 1000000 in
theorem wm69_any (s : ByteArray) (k c : Nat) (w : World) (hT : Tabs w) (hm : mayB s = true) (hk : k ≤ (rs s).length) (hc : c ≤ 998) :
    Calls Tryd.prog 33 #[.string s, .int .i64 k, .int .i64 69, .int .i64 ((c : Int) + 1)] w fun e w' => Kept (fun _ => False) w w' ∧ e = .returned (ansW (Rw.wmv (rs s) k 69 (c + 1))) := by
  have cU := runes_yes s k w hT hm hk
  have hl := rs_len s
  have hsz := mayB_size hm
  have hr := rs_runey (mayB_valid hm)
  have hw := Rw.w69 (rs s) k (c + 1)
  unfold Rw.wmv
  rw [hw]
  obtain ⟨D, hD⟩ : ∃ D : Option Int, (if Rw.its (Rw.nx (Rw.stp (rs s) true true) (Rw.lst (rs s))) (c + 1) k = k then none else some ((Rw.its (Rw.nx (Rw.stp (rs s) true true) (Rw.lst (rs s))) (c + 1) k : Nat) : Int)) = D := ⟨_, rfl⟩
  rw [hD]
  have HD := Lib.hid hD
  clear hD
  generalize rs s = t at *
  obtain ⟨m, hmc⟩ := Rw.cel_pos t t.length
  have HMC := Lib.hid hmc
  have HR := Lib.hid hr
  clear hT hm hmc hr hw
  have b1 : decide ((c : Int) + 1 < 1) = false := by simp; omega
  have b2 : decide (999 < (c : Int) + 1) = false := by simp; omega
  go_enter Tryd.func33, Tryd.ntmps33
  go_wp2_with (first | (go_at_call 51; refine cU.mono ?_; rintro e w1 ⟨hk1, bb, cap, rfl, hbg, hR⟩; have HK1 := Lib.hid hk1; have HN := Lib.hid hR; clear cU hk1 hR hbg))
  refine (cells_any (some ⟨bb, 0, none⟩) t.length cap t true w1 HN.out HR.out (by omega)).mono ?_
  rintro e w2 ⟨hk2, g, cap2, rfl, hg, hC⟩
  have HK2 := Lib.hid (HK1.out.trans hk2)
  have HC := Lib.hid hC
  rw [HMC.out]
  clear hk2 hC hg HK1
  go_wp2_with fail
  refine (ahead_e g cap2 m k c t true w2 HMC.out HC.out (by omega) hk hc).mono ?_
  generalize Rw.its (Rw.nx (Rw.stp t true true) (Rw.lst t)) (c + 1) k = x at HD ⊢
  rintro e w3 ⟨rfl, hk3⟩
  have HK3 := Lib.hid (HK2.out.trans hk3)
  clear hk3
  by_cases hx : x = k
  · subst hx
    have HD2 : Hid (D = none) := by show _ = _; rw [← HD.out, if_pos rfl]
    go_wp2
    refine bodyPost_ret (v := .tuple #[.int .i64 0, .int .i64 6]) (by simp [results, Tryd.results33, go_sem]) rfl ⟨HK3.out, by rw [HD2.out]; rfl⟩
  · have HD2 : Hid (D = some (x : Int)) := by show _ = _; rw [← HD.out, if_neg hx]
    have e1 : ((x : Int) == (k : Int)) = false := by rw [beq_eq_false_iff_ne]; omega
    have e2 : (x == k) = false := by rw [beq_eq_false_iff_ne]; exact hx
    clear hx
    go_wp2
    refine bodyPost_ret (v := .tuple #[.int .i64 (x : Nat), .int .i64 0]) (by simp [results, Tryd.results33, go_sem]) rfl ⟨HK3.out, by rw [HD2.out]; rfl⟩
set_option maxRecDepth 100000 in
set_option maxHeartbeats 1000000 in
theorem wm98_any (s : ByteArray) (k c : Nat) (w : World) (hT : Tabs w) (hm : mayB s = true) (hk : k ≤ (rs s).length) (hc : c ≤ 998) :
    Calls Tryd.prog 33 #[.string s, .int .i64 k, .int .i64 98, .int .i64 ((c : Int) + 1)] w fun e w' => Kept (fun _ => False) w w' ∧ e = .returned (ansW (Rw.wmv (rs s) k 98 (c + 1))) := by
  have cU := runes_yes s k w hT hm hk
  have hl := rs_len s
  have hsz := mayB_size hm
  have hr := rs_runey (mayB_valid hm)
  have hw := Rw.w98 (rs s) k (c + 1)
  unfold Rw.wmv
  rw [hw]
  obtain ⟨D, hD⟩ : ∃ D : Option Int, (if Rw.its (Rw.pv (Rw.stp (rs s) false false)) (c + 1) k = k then none else some ((Rw.its (Rw.pv (Rw.stp (rs s) false false)) (c + 1) k : Nat) : Int)) = D := ⟨_, rfl⟩
  rw [hD]
  have HD := Lib.hid hD
  clear hD
  generalize rs s = t at *
  obtain ⟨m, hmc⟩ := Rw.cel_pos t t.length
  have HMC := Lib.hid hmc
  have HR := Lib.hid hr
  clear hT hm hmc hr hw
  have b1 : decide ((c : Int) + 1 < 1) = false := by simp; omega
  have b2 : decide (999 < (c : Int) + 1) = false := by simp; omega
  go_enter Tryd.func33, Tryd.ntmps33
  go_wp2_with (first | (go_at_call 51; refine cU.mono ?_; rintro e w1 ⟨hk1, bb, cap, rfl, hbg, hR⟩; have HK1 := Lib.hid hk1; have HN := Lib.hid hR; clear cU hk1 hR hbg))
  refine (cells_any (some ⟨bb, 0, none⟩) t.length cap t false w1 HN.out HR.out (by omega)).mono ?_
  rintro e w2 ⟨hk2, g, cap2, rfl, hg, hC⟩
  have HK2 := Lib.hid (HK1.out.trans hk2)
  have HC := Lib.hid hC
  rw [HMC.out]
  clear hk2 hC hg HK1
  go_wp2_with fail
  refine (back_any g cap2 m k c t false w2 HMC.out HC.out (by omega) hk hc).mono ?_
  generalize Rw.its (Rw.pv (Rw.stp t false false)) (c + 1) k = x at HD ⊢
  rintro e w3 ⟨rfl, hk3⟩
  have HK3 := Lib.hid (HK2.out.trans hk3)
  clear hk3
  by_cases hx : x = k
  · subst hx
    have HD2 : Hid (D = none) := by show _ = _; rw [← HD.out, if_pos rfl]
    go_wp2
    refine bodyPost_ret (v := .tuple #[.int .i64 0, .int .i64 6]) (by simp [results, Tryd.results33, go_sem]) rfl ⟨HK3.out, by rw [HD2.out]; rfl⟩
  · have HD2 : Hid (D = some (x : Int)) := by show _ = _; rw [← HD.out, if_neg hx]
    have e1 : ((x : Int) == (k : Int)) = false := by rw [beq_eq_false_iff_ne]; omega
    have e2 : (x == k) = false := by rw [beq_eq_false_iff_ne]; exact hx
    clear hx
    go_wp2
    refine bodyPost_ret (v := .tuple #[.int .i64 (x : Nat), .int .i64 0]) (by simp [results, Tryd.results33, go_sem]) rfl ⟨HK3.out, by rw [HD2.out]; rfl⟩
set_option maxRecDepth 100000 in
set_option maxHeartbeats 1000000 in
theorem wm66_any (s : ByteArray) (k c : Nat) (w : World) (hT : Tabs w) (hm : mayB s = true) (hk : k ≤ (rs s).length) (hc : c ≤ 998) :
    Calls Tryd.prog 33 #[.string s, .int .i64 k, .int .i64 66, .int .i64 ((c : Int) + 1)] w fun e w' => Kept (fun _ => False) w w' ∧ e = .returned (ansW (Rw.wmv (rs s) k 66 (c + 1))) := by
  have cU := runes_yes s k w hT hm hk
  have hl := rs_len s
  have hsz := mayB_size hm
  have hr := rs_runey (mayB_valid hm)
  have hw := Rw.w66 (rs s) k (c + 1)
  unfold Rw.wmv
  rw [hw]
  obtain ⟨D, hD⟩ : ∃ D : Option Int, (if Rw.its (Rw.pv (Rw.stp (rs s) true false)) (c + 1) k = k then none else some ((Rw.its (Rw.pv (Rw.stp (rs s) true false)) (c + 1) k : Nat) : Int)) = D := ⟨_, rfl⟩
  rw [hD]
  have HD := Lib.hid hD
  clear hD
  generalize rs s = t at *
  obtain ⟨m, hmc⟩ := Rw.cel_pos t t.length
  have HMC := Lib.hid hmc
  have HR := Lib.hid hr
  clear hT hm hmc hr hw
  have b1 : decide ((c : Int) + 1 < 1) = false := by simp; omega
  have b2 : decide (999 < (c : Int) + 1) = false := by simp; omega
  go_enter Tryd.func33, Tryd.ntmps33
  go_wp2_with (first | (go_at_call 51; refine cU.mono ?_; rintro e w1 ⟨hk1, bb, cap, rfl, hbg, hR⟩; have HK1 := Lib.hid hk1; have HN := Lib.hid hR; clear cU hk1 hR hbg))
  refine (cells_any (some ⟨bb, 0, none⟩) t.length cap t true w1 HN.out HR.out (by omega)).mono ?_
  rintro e w2 ⟨hk2, g, cap2, rfl, hg, hC⟩
  have HK2 := Lib.hid (HK1.out.trans hk2)
  have HC := Lib.hid hC
  rw [HMC.out]
  clear hk2 hC hg HK1
  go_wp2_with fail
  refine (back_any g cap2 m k c t true w2 HMC.out HC.out (by omega) hk hc).mono ?_
  generalize Rw.its (Rw.pv (Rw.stp t true false)) (c + 1) k = x at HD ⊢
  rintro e w3 ⟨rfl, hk3⟩
  have HK3 := Lib.hid (HK2.out.trans hk3)
  clear hk3
  by_cases hx : x = k
  · subst hx
    have HD2 : Hid (D = none) := by show _ = _; rw [← HD.out, if_pos rfl]
    go_wp2
    refine bodyPost_ret (v := .tuple #[.int .i64 0, .int .i64 6]) (by simp [results, Tryd.results33, go_sem]) rfl ⟨HK3.out, by rw [HD2.out]; rfl⟩
  · have HD2 : Hid (D = some (x : Int)) := by show _ = _; rw [← HD.out, if_neg hx]
    have e1 : ((x : Int) == (k : Int)) = false := by rw [beq_eq_false_iff_ne]; omega
    have e2 : (x == k) = false := by rw [beq_eq_false_iff_ne]; exact hx
    clear hx
    go_wp2
    refine bodyPost_ret (v := .tuple #[.int .i64 (x : Nat), .int .i64 0]) (by simp [results, Tryd.results33, go_sem]) rfl ⟨HK3.out, by rw [HD2.out]; rfl⟩
end Go.Proofs.YtclmcieegoobkaaDoor
