/-
  REGISTERS, the reference's: copies, the same, names, which may be, which is told.
-/
import Derived.Test.YtackgnkajffhiaaDoorReC
set_option linter.unusedVariables false
namespace Go.Proofs.YtackgnkajffhiaaDoor
open Go Go.RowKit

theorem Ow.snoc {w : World} {B : Nat} {v : Value} {L : List RegS} {r : RegS} (h : w.ownsRow B 41 3 v (L.length + 1) (flatR L ++ r.vs)) (hs : ∀ q ∈ L, q.s.size ≤ 140737488351232) (hr : r.s.size ≤ 140737488351232) : Ow w B v (L ++ [r]) := by
  refine ⟨?_, fun q hq => ?_⟩
  · rw [List.length_append, List.length_singleton, flatR_app, flatR_one]
    exact h
  · rcases List.mem_append.1 hq with hq | hq
    · exact hs q hq
    · obtain rfl : q = r := by simpa using hq
      exact hr
theorem Sl.open' {w : World} {v : Value} {M : List RegS} (h : Sl w v M) : ∃ A c, v = .slice A M.length c ∧ Rg w A M.length M := by
  obtain ⟨A, n, c, rfl, h1, h2⟩ := h
  have := h1.len
  subst this
  exact ⟨A, c, rfl, h1⟩
set_option maxRecDepth 100000 in
set_option maxHeartbeats 4000000 in
theorem copyregs_any (v : Value) (M : List RegS) (w : World) (h : Sl w v M) (hn : M.length ≤ 100000) :
    Calls Tryd.prog 6 #[v] w fun e w' => (∃ v', e = .returned v' ∧ Ow w' w.heap.size v' M) ∧ Kept (fun _ => False) w w' := by
  obtain ⟨i0, hi, hz0, hz1, hz2⟩ := info_parts info_reg
  obtain ⟨A, c, rfl, hA⟩ := h.open'
  obtain ⟨n, hN⟩ : ∃ n, M.length = n := ⟨_, rfl⟩
  rw [hN] at hn hA ⊢
  have HA := Lib.hid hA
  have HN := Lib.hid hN
  obtain ⟨B, hB⟩ : ∃ B, w.heap.size = B := ⟨_, rfl⟩
  have HB := Lib.hid hB
  rw [hB]
  clear h hA hN hB
  go_enter Tryd.func6, Tryd.ntmps6
  go_wp2_with fail
  go_loopw [3, 4] (fun v i wr => ∃ k : Nat, k ≤ n ∧ i = .int .i64 k ∧ Ow wr B v (M.take k) ∧ Kept (fun _ => False) w wr) (fun _ i _ => n - (intOf i).toNat)
  case atStart => exact ⟨0, Nat.zero_le _, rfl, ow_nil _ _, Kept.refl _ _⟩
  case round =>
    obtain ⟨k, hk, rfl, hown, hkept⟩ := hrel
    have HK := Lib.hid hkept
    have hsz := hkept.size
    clear hkept
    by_cases hlt : k < n
    · obtain ⟨ad, r, rfl, hr, h3, hrs⟩ := (HA.out.kept HK.out (fun _ _ => id)).at_ hlt
      have b1 : decide (k < n) = true := decide_eq_true hlt
      have b2 : decide ((k : Int) < (n : Int)) = true := decide_eq_true (by omega)
      have t1 : (0 : Int) ≤ (k : Int) := by omega
      have t2 : (k : Int) < (n : Int) := by omega
      have c0 := h3.c0
      have c1 := h3.c1
      have c2 := h3.c2
      have HE : Hid (M.take (k + 1) = M.take k ++ [r]) := by show _ = _; rw [List.take_add_one, hr]; rfl
      have hLL : (M.take k).length ≤ n := by rw [List.length_take]; omega
      have hBw : B ≤ wr.heap.size := by have := HB.out; omega
      clear hr h3
      generalize M.take k = L at *
      go_wp2_with (at_builtin; refine wpList_append_own_at _ rfl (.tmp 11) (.tmp 16) 22 rfl B 41 i0 (.agg #[.int .i64 0, .string ⟨#[]⟩, .bool false]) 3 32 Tryd.underlying22 hi hz0 hz1 hz2 rfl (by decide) _ _ _ rfl (World.ownsRow.alloc hown.own _) ⟨_, 0, none⟩ 1 1 (RegS.vs r) rfl rfl three_cells three_one (by unfold maxLen; omega) (by omega) (by simp <;> omega) ?_; intro v5 w5 hown5 hgrow5 _ hat5; have HO5 := Lib.hid (Ow.snoc hown5 hown.sz (by omega)); have HK5 := Lib.hid (Kept.grew (HK.out.alloc _) hgrow5 (fun q hq => by have := (hown.lt q hq).1; have := HB.out; omega)); clear hown5 hgrow5 hat5)
      go_roundw
      case rel => exact ⟨k + 1, by omega, by go_num, by rw [HE.out]; exact HO5.out, HK5.out⟩
      case measure => simp [intOf] <;> omega
    · obtain rfl : k = n := by omega
      have b1 : decide (k < k) = false := decide_eq_false (by omega)
      have b2 : decide ((k : Int) < (k : Int)) = false := decide_eq_false (by omega)
      have hall : M.take k = M := List.take_of_length_le (by rw [HN.out]; exact Nat.le_refl _)
      rw [hall] at hown
      clear hall
      go_wp2_with fail
      go_ret
      exact ⟨⟨_, rfl, hown⟩, HK.out⟩
set_option maxRecDepth 100000 in
set_option maxHeartbeats 1000000 in
theorem eqregs_yes (v v' : Value) (M : List RegS) (w : World) (h : Sl w v M) (h' : Sl w v' M) (hn : M.length ≤ 100000) :
    Calls Tryd.prog 23 #[v, v'] w fun e w' => e = .returned (.bool true) ∧ Kept (fun _ => False) w w' := by
  obtain ⟨A, c, rfl, hA⟩ := h.open'
  obtain ⟨B, c', rfl, hB⟩ := h'.open'
  obtain ⟨n, hN⟩ : ∃ n, M.length = n := ⟨_, rfl⟩
  rw [hN] at hn hA hB ⊢
  have HA := Lib.hid hA
  have HB := Lib.hid hB
  clear hA hB h h' hN
  go_enter Tryd.func23, Tryd.ntmps23
  go_wp2_with fail
  go_loopw [5] (fun v wr => ∃ k m : Nat, k ≤ n ∧ v = .int .i64 k ∧ wr = w.drewN m) (fun v _ => n - (intOf v).toNat)
  case atStart => exact ⟨0, 0, Nat.zero_le _, rfl, rfl⟩
  case round =>
    obtain ⟨k, m, hk, rfl, rfl⟩ := hrel
    have hkm : Kept (fun _ => False) w (w.drewN m) := (Kept.refl _ w).drewN m
    by_cases hlt : k < n
    · obtain ⟨ad, r, rfl, hr, h3, _⟩ := HA.out.at_ hlt
      obtain ⟨bd, r', rfl, hr', g3, _⟩ := HB.out.at_ hlt
      rw [hr] at hr'
      injection hr' with hr'
      subst hr'
      have f0 := h3.c0
      have f1 := h3.c1
      have f2 := h3.c2
      have g0 := g3.c0
      have g1 := g3.c1
      have g2 := g3.c2
      have b1 : decide (k < n) = true := decide_eq_true hlt
      have b2 : decide ((k : Int) < (n : Int)) = true := decide_eq_true (by omega)
      have t1 : (0 : Int) ≤ (k : Int) := by omega
      have t2 : (k : Int) < (n : Int) := by omega
      have f0' := (h3.kept hkm id).c0
      have f1' := (h3.kept hkm id).c1
      have f2' := (h3.kept hkm id).c2
      have g0' := (g3.kept hkm id).c0
      have g1' := (g3.kept hkm id).c1
      have g2' := (g3.kept hkm id).c2
      clear hr h3 g3 hkm
      go_wp2_with fail
      go_quiet (fail)
      go_wp2_with fail
      go_roundw
      case rel => exact ⟨k + 1, _, by omega, by go_num, rfl⟩
      case measure => simp [intOf] <;> omega
    · obtain rfl : k = n := by omega
      have b1 : decide (k < k) = false := decide_eq_false (by omega)
      have b2 : decide ((k : Int) < (k : Int)) = false := decide_eq_false (by omega)
      go_wp2_with fail
      go_ret
      exact ⟨rfl, (Kept.refl _ w).drewN m⟩
theorem btw_any (n a b : Int) (w : World) : Calls Tryd.prog 36 #[.int .i64 n, .int .i64 a, .int .i64 b] w fun e w' => e = .returned (.bool (decide (a ≤ n ∧ n ≤ b))) ∧ w' = w := by
  by_cases h1 : a ≤ n
  · have b1 : decide (a ≤ n) = true := decide_eq_true h1
    by_cases h2 : n ≤ b
    · have b2 : decide (n ≤ b) = true := decide_eq_true h2
      rw [decide_eq_true (show a ≤ n ∧ n ≤ b from ⟨h1, h2⟩)]
      clear h1 h2
      go_enter Tryd.func36, Tryd.ntmps36
      go_wp2
      go_ret
      exact ⟨rfl, rfl⟩
    · have b2 : decide (n ≤ b) = false := decide_eq_false h2
      rw [decide_eq_false (show ¬ (a ≤ n ∧ n ≤ b) from fun h => h2 h.2)]
      clear h1 h2
      go_enter Tryd.func36, Tryd.ntmps36
      go_wp2
      go_ret
      exact ⟨rfl, rfl⟩
  · have b1 : decide (a ≤ n) = false := decide_eq_false h1
    rw [decide_eq_false (show ¬ (a ≤ n ∧ n ≤ b) from fun h => h1 h.1)]
    clear h1
    go_enter Tryd.func36, Tryd.ntmps36
    go_wp2
    go_ret
    exact ⟨rfl, rfl⟩
theorem rname_any (n : Int) (w : World) : Calls Tryd.prog 18 #[.int .i64 n] w fun e w' => e = .returned (.bool (decide (Rs.Nm n))) ∧ w' = w := by
  have cD := fun W => btw_any n 48 57 W
  have cS := fun W => btw_any n 97 122 W
  by_cases h1 : n = 34
  · subst h1
    rw [decide_eq_true (show Rs.Nm 34 by decide)]
    clear cD cS
    go_enter Tryd.func18, Tryd.ntmps18
    go_wp2
    go_ret
    exact ⟨rfl, rfl⟩
  · have b1 : (n == 34) = false := beq_eq_false_iff_ne.2 h1
    by_cases h2 : n = 45
    · subst h2
      rw [decide_eq_true (show Rs.Nm 45 by decide)]
      clear cD cS
      go_enter Tryd.func18, Tryd.ntmps18
      go_wp2
      go_ret
      exact ⟨rfl, rfl⟩
    · have b2 : (n == 45) = false := beq_eq_false_iff_ne.2 h2
      by_cases h3 : 48 ≤ n ∧ n ≤ 57
      · rw [decide_eq_true (show Rs.Nm n from .inr (.inr (.inl h3)))]
        rw [decide_eq_true h3] at cD
        clear h1 h2 h3 cS
        go_enter Tryd.func18, Tryd.ntmps18
        go_wp2_with (go_at_call 36; refine (cD _).mono ?_; rintro e w' ⟨rfl, hw⟩; have hw2 := hw.symm; subst hw2)
        go_ret
        exact ⟨rfl, rfl⟩
      · have hE : decide (Rs.Nm n) = decide (97 ≤ n ∧ n ≤ 122) := by
          by_cases h4 : 97 ≤ n ∧ n ≤ 122
          · rw [decide_eq_true h4, decide_eq_true (show Rs.Nm n from .inr (.inr (.inr h4)))]
          · rw [decide_eq_false h4, decide_eq_false (show ¬ Rs.Nm n by unfold Rs.Nm; omega)]
        rw [hE]
        rw [decide_eq_false h3] at cD
        obtain ⟨E, hEE⟩ : ∃ E, decide (97 ≤ n ∧ n ≤ 122) = E := ⟨_, rfl⟩
        simp only [hEE] at cS ⊢
        clear h1 h2 h3 hE hEE
        go_enter Tryd.func18, Tryd.ntmps18
        go_wp2_with (go_at_call 36; first | (refine (cD _).mono ?_; clear cD; rintro e w' ⟨rfl, hw⟩; have hw2 := hw.symm; subst hw2) | (refine (cS _).mono ?_; clear cS; rintro e w' ⟨rfl, hw⟩; have hw2 := hw.symm; subst hw2))
        go_ret
        exact ⟨rfl, rfl⟩
theorem rtold_any (n : Int) (w : World) : Calls Tryd.prog 21 #[.int .i64 n] w fun e w' => e = .returned (.bool (decide (Rs.Td n))) ∧ w' = w := by
  have cD := fun W => rname_any n W
  have cS := fun W => btw_any n 65 90 W
  by_cases h1 : n = 0
  · subst h1
    rw [decide_eq_true (show Rs.Td 0 by decide)]
    clear cD cS
    go_enter Tryd.func21, Tryd.ntmps21
    go_wp2
    go_ret
    exact ⟨rfl, rfl⟩
  · have b1 : (n == 0) = false := beq_eq_false_iff_ne.2 h1
    by_cases h2 : n = 95
    · subst h2
      rw [decide_eq_true (show Rs.Td 95 by decide)]
      clear cD cS
      go_enter Tryd.func21, Tryd.ntmps21
      go_wp2
      go_ret
      exact ⟨rfl, rfl⟩
    · have b2 : (n == 95) = false := beq_eq_false_iff_ne.2 h2
      by_cases h3 : Rs.Nm n
      · rw [decide_eq_true (show Rs.Td n from .inr (.inr (.inr h3)))]
        rw [decide_eq_true h3] at cD
        clear h1 h2 h3 cS
        go_enter Tryd.func21, Tryd.ntmps21
        go_wp2_with (go_at_call 18; refine (cD _).mono ?_; rintro e w' ⟨rfl, hw⟩; have hw2 := hw.symm; subst hw2)
        go_ret
        exact ⟨rfl, rfl⟩
      · have hE : decide (Rs.Td n) = decide (65 ≤ n ∧ n ≤ 90) := by
          by_cases h4 : 65 ≤ n ∧ n ≤ 90
          · rw [decide_eq_true h4, decide_eq_true (show Rs.Td n from .inr (.inr (.inl h4)))]
          · rw [decide_eq_false h4, decide_eq_false (show ¬ Rs.Td n from fun h => h.elim h1 (fun h => h.elim h2 (fun h => h.elim h4 h3)))]
        rw [hE]
        rw [decide_eq_false h3] at cD
        obtain ⟨E, hEE⟩ : ∃ E, decide (65 ≤ n ∧ n ≤ 90) = E := ⟨_, rfl⟩
        simp only [hEE] at cS ⊢
        clear h1 h2 h3 hE hEE
        go_enter Tryd.func21, Tryd.ntmps21
        go_wp2_with (first
          | (go_at_call 18; refine (cD _).mono ?_; rintro e w' ⟨rfl, hw⟩; have hw2 := hw.symm; subst hw2)
          | (go_at_call 36; refine (cS _).mono ?_; rintro e w' ⟨rfl, hw⟩; have hw2 := hw.symm; subst hw2))
        go_ret
        exact ⟨rfl, rfl⟩
set_option maxRecDepth 100000 in
set_option maxHeartbeats 4000000 in
theorem reg_any (v : Value) (M : List RegS) (z : Int) (w : World) (h : Sl w v M) (hn : M.length ≤ 100000) :
    Calls Tryd.prog 37 #[v, .int .i64 z] w fun e w' => e = .returned (fndV (Rs.get M z)) ∧ Kept (fun _ => False) w w' := by
  obtain ⟨A, c, rfl, hA⟩ := h.open'
  obtain ⟨n, hN⟩ : ∃ n, M.length = n := ⟨_, rfl⟩
  rw [hN] at hn hA ⊢
  have hk0 : Kept (fun _ => False) w (w.alloc (regO zReg)) := (Kept.refl _ w).alloc _
  have hz : (w.alloc (regO zReg)).heap[w.heap.size]? = some (regO zReg) := heap_alloc_new w _
  have HA := Lib.hid (hA.kept hk0 (fun _ _ => id))
  have HK0 := Lib.hid hk0
  have HZ := Lib.hid hz
  have HLN : Hid (M.length = n) := hN
  obtain ⟨F, hF⟩ : ∃ F, fndV (Rs.get M z) = F := ⟨_, rfl⟩
  rw [hF]
  have HF := Lib.hid hF
  clear hA hk0 hz hF h hN
  go_enter Tryd.func37, Tryd.ntmps37
  go_upto_region 1 with fail
  simp only [regO] at HA HK0 HZ
  generalize w.alloc (.cells #[.int .i64 0, .string ⟨#[]⟩, .bool false] 41) = w1 at *
  generalize hrb : w.heap.size = rb at *
  have HRB := Lib.hid hrb
  clear hrb
  go_wp2_with fail
  go_loopw [6] (fun v wr => ∃ k : Nat, k ≤ n ∧ v = .int .i64 k ∧ (∀ (j : Nat) (q : RegS), j < k → M[j]? = some q → q.n ≠ z) ∧ Kept (fun _ => False) w1 wr) (fun v _ => n - (intOf v).toNat)
  case atStart => exact ⟨0, Nat.zero_le _, rfl, fun j q hj => by omega, Kept.refl _ _⟩
  case round =>
    obtain ⟨k, hk, rfl, hat, hkept⟩ := hrel
    have HAT := Lib.hid hat
    have HK := Lib.hid hkept
    clear hat hkept
    have hz2 := HK.out.cellsAt HZ.out id
    have HZ2 := Lib.hid hz2
    obtain ⟨⟨d0, d1, d2⟩, f0, f1, f2⟩ := rzs (r := zReg) hz2
    clear hz2
    by_cases hlt : k < n
    · obtain ⟨ad, r, rfl, hr, h3, hsz⟩ := (HA.out.kept HK.out (fun _ _ => id)).at_ hlt
      have b1 : decide (k < n) = true := decide_eq_true hlt
      have b2 : decide ((k : Int) < (n : Int)) = true := decide_eq_true (by omega)
      have t1 : (0 : Int) ≤ (k : Int) := by omega
      have t2 : (k : Int) < (n : Int) := by omega
      have c0 := h3.c0
      have c1 := h3.c1
      have c2 := h3.c2
      have HR := Lib.hid hr
      clear h3 hr hsz
      by_cases hx : r.n = z
      · have b3 : (r.n == z) = true := by simp [hx]
        have HE : Hid (F = .tuple #[regV r, .bool true]) := by
          show _ = _
          rw [← HF.out, ← hx, Rs.get_hit HR.out (fun j q hj hq => by rw [hx]; exact HAT.out j q hj hq)]
          rfl
        clear hx
        go_wp2_with fail
        refine bodyPost_ret (res_reg2 rfl _ _ rb r (0, 0) rfl (three HZ2.out _ _ _)) rfl ⟨?_, (HK0.out.trans HK.out).fresh (Kept.three (Kept.refl (fun q => q = rb) wr) rfl _ _ _) (fun q hq e => by have e : q = rb := e; have := HRB.out; omega)⟩
        rw [HE.out]
        rfl
      · have b3 : (r.n == z) = false := beq_eq_false_iff_ne.2 hx
        have HN : Hid (∀ (j : Nat) (q : RegS), j < k + 1 → M[j]? = some q → q.n ≠ z) := by
          show ∀ (j : Nat) (q : RegS), j < k + 1 → M[j]? = some q → q.n ≠ z
          intro j q hj hq
          by_cases hjk : j < k
          · exact HAT.out j q hjk hq
          · obtain rfl : j = k := by omega
            rw [HR.out] at hq
            injection hq with hq
            exact hq ▸ hx
        clear hx
        go_wp2_with fail
        go_roundw
        case rel => exact ⟨k + 1, by omega, by go_num, HN.out, HK.out⟩
        case measure => simp [intOf] <;> omega
    · obtain rfl : k = n := by omega
      have b1 : decide (k < k) = false := decide_eq_false (by omega)
      have b2 : decide ((k : Int) < (k : Int)) = false := decide_eq_false (by omega)
      have HE : Hid (F = .tuple #[regV zReg, .bool false]) := by
        show _ = _
        rw [← HF.out, Rs.get_none (fun j q hq => HAT.out j q (by
          by_cases hj : j < k
          · exact hj
          · rw [List.getElem?_eq_none (by have := HLN.out; omega)] at hq; cases hq) hq)]
        rfl
      go_wp2_with fail
      refine bodyPost_ret (res_reg2 rfl _ _ rb zReg (0, 0) rfl (three HZ2.out _ _ _)) rfl ⟨?_, (HK0.out.trans HK.out).fresh (Kept.three (Kept.refl (fun q => q = rb) wr) rfl _ _ _) (fun q hq e => by have e : q = rb := e; have := HRB.out; omega)⟩
      rw [HE.out]
      rfl
set_option maxRecDepth 100000 in
set_option maxHeartbeats 4000000 in
theorem ask_any (v : Value) (M : List RegS) (z : Int) (w : World) (h : Sl w v M) (hn : M.length ≤ 100000) :
    Calls Tryd.prog 22 #[v, .int .i64 z] w fun e w' => e = .returned (fndV (Rs.get M (nmOf z))) ∧ Kept (fun _ => False) w w' := by
  have hk0 : Kept (fun _ => False) w (w.alloc (regO zReg)) := (Kept.refl _ w).alloc _
  have hz0 : (w.alloc (regO zReg)).heap[w.heap.size]? = some (regO zReg) := heap_alloc_new w _
  have cF := fun (x : Int) W (hk : Kept (fun _ => False) (w.alloc (regO zReg)) W) => reg_any v M x W ((h.kept hk0).kept hk) hn
  have cG := fun W => btw_any (if z = 0 then 34 else z) 65 90 W
  have HK0 := Lib.hid hk0
  have HZ := Lib.hid hz0
  have HRF : Hid (Kept (fun _ => False) (w.alloc (regO zReg)) (w.alloc (regO zReg))) := Kept.refl _ _
  obtain ⟨F, hF⟩ : ∃ F, Rs.get M (nmOf z) = F := ⟨_, rfl⟩
  rw [hF]
  have HF := Lib.hid hF
  clear h hk0 hz0 hF
  have hzz : z = 0 ∨ (z ≠ 0 ∧ Rs.Gt z) ∨ (z ≠ 0 ∧ ¬ Rs.Gt z) := by
    by_cases h : z = 0
    · exact .inl h
    · by_cases h2 : Rs.Gt z
      · exact .inr (.inl ⟨h, h2⟩)
      · exact .inr (.inr ⟨h, h2⟩)
  go_enter Tryd.func22, Tryd.ntmps22
  go_upto_region 1 with fail
  simp only [regO] at cF HK0 HZ HRF
  generalize w.alloc (.cells #[.int .i64 0, .string ⟨#[]⟩, .bool false] 41) = w1 at *
  generalize hrb : w.heap.size = rb at *
  have HRB := Lib.hid hrb
  clear hrb
  have HZA : Hid (∀ w3, Kept (fun _ => False) w1 w3 → (w3.cell? ⟨rb, 0, none⟩ = some (.int .i64 0) ∧ w3.cell? ⟨rb, 1, none⟩ = some (.string ⟨#[]⟩) ∧ w3.cell? ⟨rb, 2, none⟩ = some (.bool false)) ∧ w3.frozen? ⟨rb, 0, none⟩ = false ∧ w3.frozen? ⟨rb, 1, none⟩ = false ∧ w3.frozen? ⟨rb, 2, none⟩ = false) := fun w3 hk => rzs (r := zReg) (hk.cellsAt HZ.out id)
  have cR : ∀ x, nmOf z = x → ∀ W, Kept (fun _ => False) w1 W → Calls Tryd.prog 37 #[v, .int .i64 x] W fun e w' => e = .returned (fndV F) ∧ Kept (fun _ => False) W w' := fun x hx W hk => by
    have := cF x W hk
    rw [← hx, HF.out] at this
    rw [← hx]
    exact this
  have HCR := Lib.hid cR
  clear cF cR
  rcases hzz with h0 | ⟨h0, hg0⟩ | ⟨h0, hg0⟩
  · subst h0
    rw [if_pos rfl, decide_eq_false (show ¬ ((65 : Int) ≤ 34 ∧ (34 : Int) ≤ 90) by decide)] at cG
    have cQ := HCR.out 34 rfl
    cases F with
    | none =>
      unfold fndV at cQ
      simp only at cQ
      clear HCR
      go_wp2_with (first
        | (go_at_call 36; refine (cG _).mono ?_; rintro e w' ⟨rfl, hw⟩; have hw2 := hw.symm; subst hw2)
        | (go_at_call 37; refine (cQ _ HRF.out).mono ?_; rintro e w3 ⟨rfl, hk3⟩; have HK3 := Lib.hid hk3; obtain ⟨⟨d0, d1, d2⟩, f0, f1, f2⟩ := HZA.out w3 hk3; clear hk3))
      exact bodyPost_ret (res_reg2 rfl _ _ rb zReg (0, 0) rfl (three (HK3.out.cellsAt HZ.out id) _ _ _)) rfl ⟨rfl, (HK0.out.trans HK3.out).fresh (Kept.three (Kept.refl (fun q => q = rb) w3) rfl _ _ _) (fun q hq e => by have e : q = rb := e; have := HRB.out; omega)⟩
    | some r =>
      obtain ⟨rn, rs', rb'⟩ := r
      unfold fndV at cQ
      simp only at cQ
      clear HCR
      go_wp2_with (first
        | (go_at_call 36; refine (cG _).mono ?_; rintro e w' ⟨rfl, hw⟩; have hw2 := hw.symm; subst hw2)
        | (go_at_call 37; refine (cQ _ HRF.out).mono ?_; rintro e w3 ⟨rfl, hk3⟩; have HK3 := Lib.hid hk3; obtain ⟨⟨d0, d1, d2⟩, f0, f1, f2⟩ := HZA.out w3 hk3; clear hk3))
      exact bodyPost_ret (res_reg2 rfl _ _ rb ⟨rn, rs', rb'⟩ (0, 0) rfl (three (HK3.out.cellsAt HZ.out id) _ _ _)) rfl ⟨rfl, (HK0.out.trans HK3.out).fresh (Kept.three (Kept.refl (fun q => q = rb) w3) rfl _ _ _) (fun q hq e => by have e : q = rb := e; have := HRB.out; omega)⟩
  · have b0 : (z == 0) = false := beq_eq_false_iff_ne.2 h0
    have hg1 := hg0.1
    have hg2 := hg0.2
    rw [if_neg h0, decide_eq_true (show 65 ≤ z ∧ z ≤ 90 from hg0)] at cG
    have e1 : IntKind.i64.wrap (z + 97) = z + 97 := IntWalk.i64_in _ ⟨by omega, by omega⟩
    have e2 : IntKind.i64.wrap (z + 97 - 65) = z + 32 := by rw [IntWalk.i64_in _ ⟨by omega, by omega⟩]; omega
    have hnm : nmOf z = z + 32 := by unfold nmOf; rw [if_neg h0, if_pos hg0]
    have HNM := Lib.hid hnm
    clear hnm hg0 h0 hg1 hg2
    have cQ := HCR.out (z + 32) HNM.out
    cases F with
    | none =>
      unfold fndV at cQ
      simp only at cQ
      clear HCR
      go_wp2_with (first
        | (go_at_call 36; refine (cG _).mono ?_; rintro e w' ⟨rfl, hw⟩; have hw2 := hw.symm; subst hw2)
        | (go_at_call 37; refine (cQ _ HRF.out).mono ?_; rintro e w3 ⟨rfl, hk3⟩; have HK3 := Lib.hid hk3; obtain ⟨⟨d0, d1, d2⟩, f0, f1, f2⟩ := HZA.out w3 hk3; clear hk3))
      exact bodyPost_ret (res_reg2 rfl _ _ rb zReg (0, 0) rfl (three (HK3.out.cellsAt HZ.out id) _ _ _)) rfl ⟨rfl, (HK0.out.trans HK3.out).fresh (Kept.three (Kept.refl (fun q => q = rb) w3) rfl _ _ _) (fun q hq e => by have e : q = rb := e; have := HRB.out; omega)⟩
    | some r =>
      obtain ⟨rn, rs', rb'⟩ := r
      unfold fndV at cQ
      simp only at cQ
      clear HCR
      go_wp2_with (first
        | (go_at_call 36; refine (cG _).mono ?_; rintro e w' ⟨rfl, hw⟩; have hw2 := hw.symm; subst hw2)
        | (go_at_call 37; refine (cQ _ HRF.out).mono ?_; rintro e w3 ⟨rfl, hk3⟩; have HK3 := Lib.hid hk3; obtain ⟨⟨d0, d1, d2⟩, f0, f1, f2⟩ := HZA.out w3 hk3; clear hk3))
      exact bodyPost_ret (res_reg2 rfl _ _ rb ⟨rn, rs', rb'⟩ (0, 0) rfl (three (HK3.out.cellsAt HZ.out id) _ _ _)) rfl ⟨rfl, (HK0.out.trans HK3.out).fresh (Kept.three (Kept.refl (fun q => q = rb) w3) rfl _ _ _) (fun q hq e => by have e : q = rb := e; have := HRB.out; omega)⟩
  · have b0 : (z == 0) = false := beq_eq_false_iff_ne.2 h0
    rw [if_neg h0, decide_eq_false (show ¬ (65 ≤ z ∧ z ≤ 90) from hg0)] at cG
    have hnm : nmOf z = z := by unfold nmOf; rw [if_neg h0, if_neg hg0]
    have HNM := Lib.hid hnm
    clear hnm hg0 h0
    have cQ := HCR.out z HNM.out
    cases F with
    | none =>
      unfold fndV at cQ
      simp only at cQ
      clear HCR
      go_wp2_with (first
        | (go_at_call 36; refine (cG _).mono ?_; rintro e w' ⟨rfl, hw⟩; have hw2 := hw.symm; subst hw2)
        | (go_at_call 37; refine (cQ _ HRF.out).mono ?_; rintro e w3 ⟨rfl, hk3⟩; have HK3 := Lib.hid hk3; obtain ⟨⟨d0, d1, d2⟩, f0, f1, f2⟩ := HZA.out w3 hk3; clear hk3))
      exact bodyPost_ret (res_reg2 rfl _ _ rb zReg (0, 0) rfl (three (HK3.out.cellsAt HZ.out id) _ _ _)) rfl ⟨rfl, (HK0.out.trans HK3.out).fresh (Kept.three (Kept.refl (fun q => q = rb) w3) rfl _ _ _) (fun q hq e => by have e : q = rb := e; have := HRB.out; omega)⟩
    | some r =>
      obtain ⟨rn, rs', rb'⟩ := r
      unfold fndV at cQ
      simp only at cQ
      clear HCR
      go_wp2_with (first
        | (go_at_call 36; refine (cG _).mono ?_; rintro e w' ⟨rfl, hw⟩; have hw2 := hw.symm; subst hw2)
        | (go_at_call 37; refine (cQ _ HRF.out).mono ?_; rintro e w3 ⟨rfl, hk3⟩; have HK3 := Lib.hid hk3; obtain ⟨⟨d0, d1, d2⟩, f0, f1, f2⟩ := HZA.out w3 hk3; clear hk3))
      exact bodyPost_ret (res_reg2 rfl _ _ rb ⟨rn, rs', rb'⟩ (0, 0) rfl (three (HK3.out.cellsAt HZ.out id) _ _ _)) rfl ⟨rfl, (HK0.out.trans HK3.out).fresh (Kept.three (Kept.refl (fun q => q = rb) w3) rfl _ _ _) (fun q hq e => by have e : q = rb := e; have := HRB.out; omega)⟩
end Go.Proofs.YtackgnkajffhiaaDoor
