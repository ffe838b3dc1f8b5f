/-
  THE MOTIONS BY ROWS, of the reference: G and gg; and all of them.
-/
import Derived.Test.YtnjknebhogdgfaaDoorLr
set_option linter.unusedVariables false
namespace Go.Proofs.YtnjknebhogdgfaaDoor
open Go Go.RowKit
section
variable {A : Option Addr} {n c : Nat} {t : List Int} {k m : Nat} {w : World}
theorem rwalk_any (key : Int) (want : Nat) (hkey : key = 71 ∨ key = 16777319) (hA : Rn w A n t) (hr : Runey t) (hk : k ≤ n) (hn : n ≤ 100000) (hm : m ≤ 999)
    (hw : (m = 0 ∧ key = 71 ∧ want = n) ∨ (m = 0 ∧ key = 16777319 ∧ want = 0) ∨ (m ≠ 0 ∧ want = m - 1)) :
    Calls Tryd.prog 34 #[.slice A n c, .int .i64 k, .int .i64 key, .int .i64 m] w fun e w' => e = .returned (ans (some (Rw.fst t (Rw.wd t 0 want))) 2) ∧ Kept (fun _ => False) w w' := by
  have hA1 : Rn (w.alloc zeroT) A n t := hA.kept ((Kept.refl (fun _ => False) w).alloc _) (fun _ _ => id)
  have hl := hA.1
  have cB := rbegin_any A n c t k (w.alloc zeroT) hA1 hk hn
  have cE := rend_any A n c t k (w.alloc zeroT) hA1 hk hn
  have hb := Rw.beg_le t k
  have he1 := Rw.en_ge t k
  have he2 := Rw.en_le t k (by rw [hA.1]; exact hk)
  rw [hl] at he2
  have hq : max 1 (m : Int) = ((max m 1 : Nat) : Int) := by omega
  have hq' : max (m : Int) 1 = ((max m 1 : Nat) : Int) := by omega
  generalize max m 1 = q at *
  have cR := fun (x : Nat) (hx : x ≤ n) => rdown_any A n c t x 1 (w.alloc zeroT) hA1 hx hn (by decide)
  have cF := fun (x : Nat) (hx : x ≤ n) => rfirst_any A n c t x (w.alloc zeroT) hA1 hr hx hn
  have hwl : want ≤ 100000 := by omega
  have HL := Lib.hid hl
  have HY := Lib.hid (fun (x : Nat) (hx : x ≤ n) => Rw.dn_one t x (by rw [hl]; exact hx))
  have HB := Lib.hid (fun (x : Nat) (hx : x ≤ n) (he : Rw.en t x ≠ n) => Rw.beg_stop (Rw.en_at t x (by have := Rw.en_le t x (by rw [hl]; exact hx); omega)))
  have HF := Lib.hid (fun (x : Nat) (hx : x ≤ n) => Nat.le_trans (Rw.fst_le t x (by rw [hl]; exact hx)) (by have := Rw.en_le t x (by rw [hl]; exact hx); rwa [hl] at this))
  have HEL := Lib.hid (fun (x : Nat) (hx : x ≤ n) => by have := Rw.en_le t x (by rw [hl]; exact hx); rwa [hl] at this)
  clear hA hr hA1 hl
  generalize Rw.beg t k = b at *
  generalize Rw.en t k = h at *
  have fin : ∀ (w0 : World), True := fun _ => trivial
  clear fin
  generalize hD : Rw.fst t (Rw.wd t 0 want) = D
  have HD := Lib.hid hD
  clear hD
  have hw3 : (m = 0 ∧ key = 71 ∧ want = n) ∨ (m = 0 ∧ key = 16777319 ∧ want = 0) ∨ (m ≠ 0 ∧ key = 71 ∧ want = m - 1) ∨ (m ≠ 0 ∧ key = 16777319 ∧ want = m - 1) := by
    rcases hw with h | h | ⟨h1, h2⟩
    · exact .inl h
    · exact .inr (.inl h)
    · rcases hkey with hk | hk
      · exact .inr (.inr (.inl ⟨h1, hk, h2⟩))
      · exact .inr (.inr (.inr ⟨h1, hk, h2⟩))
  clear hw hkey
  rcases hw3 with ⟨rfl, rfl, hwn⟩ | ⟨rfl, rfl, hwn⟩ | ⟨hm0, rfl, hwm⟩ | ⟨hm0, rfl, hwm⟩
  case' inr.inr.inl | inr.inr.inr =>
    have b1 : ((m : Int) == 0) = false := by rw [beq_eq_false_iff_ne]; omega
    have b2 : (m == 0) = false := by rw [beq_eq_false_iff_ne]; omega
    have b3 : (m : Int) - 1 = (want : Int) := by omega
    have hwn : want = want := rfl
    clear hwm hm0
  all_goals
    have HW := Lib.hid hwn
    clear hwn
    go_enter Tryd.func34, Tryd.ntmps34
    go_wp2_with (go_at_call 40; refine cB.mono ?_; rintro e w' ⟨rfl, rfl⟩)
    refine cE.mono ?_
    rintro e w' ⟨rfl, rfl⟩
    clear cB cE
    go_wp2_with fail
    go_loop [13, 17] (fun v u => ∃ x y : Nat, x ≤ n ∧ y ≤ want ∧ v = .int .i64 x ∧ u = .int .i64 y ∧ Rw.fst t (Rw.wd t x y) = D) (fun _ u => (intOf u).toNat)
    case atStart => exact ⟨0, want, Nat.zero_le _, Nat.le_refl _, rfl, by first | rfl | (rw [HW.out]; rfl) | rw [HW.out], HD.out⟩
    case round =>
      obtain ⟨x, y, hx, hy, rfl, rfl, hd⟩ := hrel
      have HX := Lib.hid hd
      clear hd
      by_cases h0 : y = 0
      · subst h0
        have HE : Hid (D = Rw.fst t x) := HX.out.symm
        have cF' := cF x hx
        have hfl := HF.out x hx
        clear cF cR HX
        generalize Rw.fst t x = f at *
        go_wp2_with (go_at_call 25; refine cF'.mono ?_; rintro e w' ⟨rfl, rfl⟩)
        refine bodyPost_ret (res_tgt rfl _ w f 2 rfl) rfl ⟨?_, (Kept.refl _ w).alloc _⟩
        rw [HE.out]
        rfl
      · obtain ⟨z, rfl⟩ : ∃ z, y = z + 1 := ⟨y - 1, by omega⟩
        have bz : decide (0 < ((z + 1 : Nat) : Int)) = true := by simp
        clear h0
        have cR' := cR x hx
        rw [HY.out x hx, HL.out] at cR'
        have hwd : Hid (Rw.wd t x (z + 1) = if Rw.en t x = n then x else Rw.wd t (Rw.en t x + 1) z) := by
          show (match Rw.dn t x 1 with | none => x | some y => Rw.wd t y z) = _
          rw [HY.out x hx, HL.out]
          by_cases he : Rw.en t x = n
          · rw [if_pos he, if_pos he]
          · rw [if_neg he, if_neg he]
        have hel := HEL.out x hx
        by_cases he : Rw.en t x = n
        · rw [if_pos he] at cR'
          unfold rowOf at cR'
          simp only at cR'
          have HE : Hid (D = Rw.fst t x) := by show _ = _; rw [← HX.out, hwd.out, if_pos he]
          have cF' := cF x hx
          have hfl := HF.out x hx
          clear cF cR HX hwd he hel
          generalize Rw.fst t x = f at *
          go_wp2_with (go_at_call 48; refine cR'.mono ?_; rintro e w' ⟨rfl, rfl⟩)
          refine cF'.mono ?_
          rintro e w' ⟨rfl, rfl⟩
          go_wp2_with fail
          refine bodyPost_ret (res_tgt rfl _ w f 2 rfl) rfl ⟨?_, (Kept.refl _ w).alloc _⟩
          rw [HE.out]
          rfl
        · rw [if_neg he] at cR'
          unfold rowOf at cR'
          simp only at cR'
          have HE : Hid (Rw.fst t (Rw.wd t (Rw.en t x + 1) z) = D) := by show _ = _; rw [← HX.out, hwd.out, if_neg he]
          have hlt : Rw.en t x < n := by omega
          clear cF cR HX hwd he hel
          generalize Rw.en t x = ex at *
          go_wp2_with (go_at_call 48; refine cR'.mono ?_; rintro e w' ⟨rfl, rfl⟩)
          go_round
          case rel => exact ⟨ex + 1, z, by omega, by omega, by go_num, by go_num, HE.out⟩
          case measure => simp [intOf]
theorem r71_any (hA : Rn w A n t) (hr : Runey t) (hk : k ≤ n) (hn : n ≤ 100000) (hm : m ≤ 999) :
    Calls Tryd.prog 34 #[.slice A n c, .int .i64 k, .int .i64 71, .int .i64 m] w fun e w' => e = .returned (ans (Rw.to t k 71 m) 2) ∧ Kept (fun _ => False) w w' := by
  have hl := hA.1
  by_cases h0 : m = 0
  · have h := rwalk_any (c := c) (k := k) (w := w) 71 n (.inl rfl) hA hr hk hn hm (.inl ⟨h0, rfl, rfl⟩)
    have e := Rw.wd_far t 0 (Nat.zero_le _) rfl
    rw [hl] at e
    rw [e] at h
    have hto : Rw.to t k 71 m = some (Rw.fst t (Rw.beg t n)) := by
      unfold Rw.to
      simp [h0, hl, Rw.fst, Rw.beg_beg]
    rw [hto]
    exact h
  · have h := rwalk_any (c := c) (k := k) (w := w) 71 (m - 1) (.inl rfl) hA hr hk hn hm (.inr (.inr ⟨h0, rfl⟩))
    have hto : Rw.to t k 71 m = some (Rw.fst t (Rw.wd t 0 (m - 1))) := by
      unfold Rw.to Rw.nth
      simp [h0]
    rw [hto]
    exact h
theorem r16777319_any (hA : Rn w A n t) (hr : Runey t) (hk : k ≤ n) (hn : n ≤ 100000) (hm : m ≤ 999) :
    Calls Tryd.prog 34 #[.slice A n c, .int .i64 k, .int .i64 16777319, .int .i64 m] w fun e w' => e = .returned (ans (Rw.to t k 16777319 m) 2) ∧ Kept (fun _ => False) w w' := by
  by_cases h0 : m = 0
  · have h := rwalk_any (c := c) (k := k) (w := w) 16777319 0 (.inr rfl) hA hr hk hn hm (.inr (.inl ⟨h0, rfl, rfl⟩))
    have hto : Rw.to t k 16777319 m = some (Rw.fst t (Rw.wd t 0 0)) := by
      unfold Rw.to
      simp [h0, Rw.wd]
    rw [hto]
    exact h
  · have h := rwalk_any (c := c) (k := k) (w := w) 16777319 (m - 1) (.inr rfl) hA hr hk hn hm (.inr (.inr ⟨h0, rfl⟩))
    have hto : Rw.to t k 16777319 m = some (Rw.fst t (Rw.wd t 0 (m - 1))) := by
      unfold Rw.to Rw.nth
      simp [h0]
    rw [hto]
    exact h
/-- Of whatever key of these. -/
theorem rmove_yes (key : Int) (hA : Rn w A n t) (hr : Runey t) (hk : k ≤ n) (hn : n ≤ 100000) (hm : m ≤ 999) (hl : Rw.Line key) :
    Calls Tryd.prog 34 #[.slice A n c, .int .i64 k, .int .i64 key, .int .i64 m] w fun e w' => e = .returned (ans (Rw.to t k key m) (Rw.kd key)) ∧ Kept (fun _ => False) w w' := by
  rcases hl with rfl | rfl | rfl | rfl | rfl | rfl | rfl | rfl | rfl | rfl | rfl | rfl
  · exact r104_any hA hr hk hn hm
  · exact r108_any hA hr hk hn hm
  · exact r48_any hA hr hk hn hm
  · exact r94_any hA hr hk hn hm
  · exact r36_any hA hr hk hn hm
  · exact r106_any hA hr hk hn hm
  · exact r107_any hA hr hk hn hm
  · exact r43_any hA hr hk hn hm
  · exact r45_any hA hr hk hn hm
  · exact r95_any hA hr hk hn hm
  · exact r71_any hA hr hk hn hm
  · exact r16777319_any hA hr hk hn hm
end
end Go.Proofs.YtnjknebhogdgfaaDoor
