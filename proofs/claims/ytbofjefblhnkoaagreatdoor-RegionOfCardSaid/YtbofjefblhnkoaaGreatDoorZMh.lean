/-
  ROWS OF RUNES: the first rune that is no blank; rows below and above.
  ROWS OF RUNES: rows below and above, of the program and of the reference.
  THE MOTIONS BY ROWS, of the program: within a row, and to a row some rows away.
  THE MOTIONS BY ROWS, of the program: to a row some rows away.
  THE MOTIONS BY ROWS, of the program: Move, of whatever text, offset, key and count.
-/
import Derived.Test.YtbofjefblhnkoaaGreatDoorZMg
import Derived.Laws.ResultCell
import Derived.Laws.Rows
set_option linter.unusedVariables false
namespace Go.Proofs.YtbofjefblhnkoaaGreatDoor
open Go Go.RowKit

theorem blank_any (r : Int) (h : 0 ≤ r ∧ r ≤ 1114111) (w : World) : Calls Tryz.prog 117 #[.int .i32 r] w fun e w' => e = .returned (.bool (Rw.cls r == 0)) ∧ w' = w := by
  obtain ⟨h1, h2⟩ := h
  have cC := class_any r h1 h2 w
  generalize Rw.cls r = C at cC ⊢
  go_enter Tryz.func117, Tryz.ntmps117
  go_wp2_with (go_at_call 127; refine cC.mono ?_; rintro e w' ⟨rfl, rfl⟩)
  go_ret
  exact ⟨rfl, rfl⟩
theorem rfirst_any (A : Option Addr) (n c : Nat) (t : List Int) (k : Nat) (w : World) (hA : Rn w A n t) (hr : Runey t) (hk : k ≤ n) (hn : n ≤ 100000) :
    Calls Tryz.prog 67 #[.slice A n c, .int .i64 k] w fun e w' => e = .returned (.int .i64 (Rw.fst t k : Nat)) ∧ w' = w := by
  have cB := rbegin_any A n c t k w hA hk hn
  have hb := Rw.beg_le t k
  have HA := Lib.hid hA
  have HR := Lib.hid hr
  have HF : Hid (Rw.fst t k = Rw.skp t (Rw.beg t k)) := rfl
  clear hA hr
  generalize Rw.beg t k = b at cB hb HF
  generalize Rw.fst t k = F at HF ⊢
  go_enter Tryz.func67, Tryz.ntmps67
  go_wp2_with (go_at_call 36; refine cB.mono ?_; rintro e w' ⟨rfl, rfl⟩)
  go_loop [1] (fun v => ∃ j : Nat, j ≤ n ∧ v = .int .i64 j ∧ Rw.skp t j = F) (fun v => n - (intOf v).toNat)
  case atStart => exact ⟨b, by omega, rfl, HF.out.symm⟩
  case round =>
    obtain ⟨j, hj, rfl, hb⟩ := hrel
    have HB := Lib.hid hb
    clear hb
    by_cases h0 : j < n
    · obtain ⟨ad, x, rfl, hx, hc⟩ := HA.out.cell h0
      have hxr := HR.out.at_ hx
      have HX := Lib.hid hx
      clear hx
      by_cases h10 : x = 10
      · subst h10
        go_wp2
        go_ret
        rw [← HB.out, Rw.skp_stop HX.out (.inl rfl)]
        exact ⟨rfl, rfl⟩
      · have b3 : (x != 10) = true := by rw [bne_iff_ne]; exact h10
        have H10 := Lib.hid h10
        clear h10
        have cC := rclass_any x hxr.1 w'
        obtain ⟨hx1, hx2⟩ := hxr
        by_cases hz : Rw.cls x = 0
        · rw [hz] at cC
          have HZ := Lib.hid hz
          clear hz
          go_wp2_with (go_at_call 106; refine cC.mono ?_; rintro e w' ⟨rfl, rfl⟩)
          go_round
          case rel => exact ⟨j + 1, by omega, by go_num, by rw [← HB.out, Rw.skp_step HX.out H10.out HZ.out]⟩
          case measure => simp [intOf]; omega
        · have b4 : (Rw.cls x == 0) = false := by rw [beq_eq_false_iff_ne]; exact hz
          have HZ := Lib.hid hz
          clear hz
          go_wp2_with (go_at_call 106; refine cC.mono ?_; rintro e w' ⟨rfl, rfl⟩)
          go_ret
          rw [← HB.out, Rw.skp_stop HX.out (.inr HZ.out)]
          exact ⟨rfl, rfl⟩
    · obtain rfl : j = n := by omega
      go_wp2
      go_ret
      rw [← HB.out, Rw.skp_end (by rw [HA.out.1]; exact Nat.le_refl _)]
      exact ⟨rfl, rfl⟩
theorem first_any (A : Option Addr) (n c : Nat) (t : List Int) (k : Nat) (w : World) (hA : Rn w A n t) (hr : Runey t) (hk : k ≤ n) (hn : n ≤ 100000) :
    Calls Tryz.prog 98 #[.slice A n c, .int .i64 k] w fun e w' => e = .returned (.int .i64 (Rw.fst t k : Nat)) ∧ w' = w := by
  have cB := row_any A n c t k w hA hk hn
  have hb := Rw.beg_le t k
  have he := Rw.en_le t k (by rw [hA.1]; exact hk)
  rw [hA.1] at he
  have hbe := Nat.le_trans (Rw.beg_le t k) (Rw.en_ge t k)
  have HE : Hid (Rw.en t (Rw.beg t k) = Rw.en t k) := Rw.en_beg t k (by rw [hA.1]; exact hk)
  have HA := Lib.hid hA
  have HR := Lib.hid hr
  have HF : Hid (Rw.fst t k = Rw.skp t (Rw.beg t k)) := rfl
  clear hA hr
  have HN : Hid (∀ j, Rw.beg t k ≤ j → j < Rw.en t k → t[j]? ≠ some 10) := fun j h1 h2 => by
    by_cases hj : j < k
    · exact Rw.beg_none t k j h1 hj
    · exact Rw.en_none t k j (by omega) h2
  have HS : Hid (Rw.en t k = n ∨ t[Rw.en t k]? = some 10) := by
    by_cases h : Rw.en t k = n
    · exact .inl h
    · exact .inr (Rw.en_at t k (by rw [HA.out.1]; omega))
  generalize Rw.beg t k = b at cB hb hbe HF HE HN
  generalize Rw.en t k = h at cB he hbe HE HN HS
  generalize Rw.fst t k = F at HF ⊢
  go_enter Tryz.func98, Tryz.ntmps98
  go_wp2_with (go_at_call 35; refine cB.mono ?_; rintro e w' ⟨rfl, rfl⟩)
  go_loop [5] (fun v => ∃ j : Nat, b ≤ j ∧ j ≤ h ∧ v = .int .i64 j ∧ Rw.skp t j = F) (fun v => n - (intOf v).toNat)
  case atStart => exact ⟨b, Nat.le_refl _, hbe, rfl, HF.out.symm⟩
  case round =>
    obtain ⟨j, hbj, hj, rfl, hb⟩ := hrel
    have HB := Lib.hid hb
    clear hb
    by_cases h0 : j < h
    · obtain ⟨ad, x, rfl, hx, hc⟩ := HA.out.cell (j := j) (by omega)
      have h10 : Hid (x ≠ 10) := fun e => HN.out j hbj h0 (by rw [hx, e])
      obtain ⟨hx1, hx2⟩ := HR.out.at_ hx
      have HX := Lib.hid hx
      clear hx
      have cC := blank_any x ⟨hx1, hx2⟩ w'
      by_cases hz : Rw.cls x = 0
      · have b4 : (Rw.cls x == 0) = true := by rw [hz]; rfl
        rw [b4] at cC
        have HZ := Lib.hid hz
        clear hz b4
        go_wp2_with (go_at_call 117; refine cC.mono ?_; rintro e w' ⟨rfl, rfl⟩)
        go_round
        case rel => exact ⟨j + 1, by omega, by omega, by go_num, by rw [← HB.out, Rw.skp_step HX.out h10.out HZ.out]⟩
        case measure => simp [intOf]; omega
      · have b4 : (Rw.cls x == 0) = false := by rw [beq_eq_false_iff_ne]; exact hz
        rw [b4] at cC
        have HZ := Lib.hid hz
        clear hz b4
        go_wp2_with (go_at_call 117; refine cC.mono ?_; rintro e w' ⟨rfl, rfl⟩)
        go_ret
        rw [← HB.out, Rw.skp_stop HX.out (.inr HZ.out)]
        exact ⟨rfl, rfl⟩
    · obtain rfl : j = h := by omega
      go_wp2
      go_ret
      rw [← HB.out]
      rcases HS.out with hs | hs
      · rw [Rw.skp_end (by rw [HA.out.1]; omega)]
        exact ⟨rfl, rfl⟩
      · rw [Rw.skp_stop hs (.inl rfl)]
        exact ⟨rfl, rfl⟩
end Go.Proofs.YtbofjefblhnkoaaGreatDoor
namespace Go.Proofs.YtbofjefblhnkoaaGreatDoor
open Go Go.RowKit

/-- What row tells of a maybe. -/
def rowOf (o : Option Nat) : Value := .int .i64 (match o with | none => -1 | some x => (x : Int))
/-- So many below. -/
theorem rdown_any (A : Option Addr) (n c : Nat) (t : List Int) (k m : Nat) (w : World) (hA : Rn w A n t) (hk : k ≤ n) (hn : n ≤ 100000) (hm : m ≤ 100000) :
    Calls Tryz.prog 68 #[.slice A n c, .int .i64 k, .int .i64 m] w fun e w' => e = .returned (rowOf (Rw.dn t k m)) ∧ w' = w := by
  have HA := Lib.hid hA
  have cE := fun (x : Nat) (hx : x ≤ n) => rend_any A n c t x w hA hx hn
  have cB := fun (x : Nat) (hx : x ≤ n) => rbegin_any A n c t x w hA hx hn
  have hl := hA.1
  have HL := Lib.hid hl
  clear hA hl
  generalize hD : Rw.dn t k m = D
  have HD := Lib.hid hD
  clear hD
  go_enter Tryz.func68, Tryz.ntmps68
  go_wp2
  go_loop [1, 2] (fun v u => ∃ x y : Nat, x ≤ n ∧ y ≤ m ∧ v = .int .i64 x ∧ u = .int .i64 y ∧ Rw.dn t x y = D) (fun _ u => (intOf u).toNat)
  case atStart => exact ⟨k, m, hk, Nat.le_refl _, rfl, rfl, HD.out⟩
  case round =>
    obtain ⟨x, y, hx, hy, rfl, rfl, hd⟩ := hrel
    have HX := Lib.hid hd
    clear hd
    by_cases h0 : y = 0
    · subst h0
      have cB' := cB x hx
      have HB : Hid (D = some (Rw.beg t x)) := HX.out.symm
      have hle := Rw.beg_le t x
      clear cE cB HX
      generalize Rw.beg t x = b at cB' HB hle
      go_wp2_with (go_at_call 36; refine cB'.mono ?_; rintro e w' ⟨rfl, rfl⟩)
      go_loop [1, 2] (fun v u => v = .int .i64 (b : Nat) ∧ u = .int .i64 ((0 : Nat) : Int)) (fun _ _ => 0)
      case atStart => exact ⟨rfl, rfl⟩
      case round =>
        obtain ⟨rfl, rfl⟩ := hrel
        go_wp2
        go_ret
        rw [HB.out]
        exact ⟨rfl, rfl⟩
    · obtain ⟨z, rfl⟩ : ∃ z, y = z + 1 := ⟨y - 1, by omega⟩
      clear h0
      have cE' := cE x hx
      have hle := Rw.en_le t x (by rw [HL.out]; exact hx)
      rw [HL.out] at hle
      have HE : Hid (D = if Rw.en t x = n then none else Rw.dn t (Rw.en t x + 1) z) := by
        show _ = _
        rw [← HX.out]
        show (if Rw.en t x = t.length then none else _) = _
        rw [HL.out]
      clear cE cB HX
      generalize Rw.en t x = e at cE' HE hle
      by_cases he : e = n
      · subst he
        have HE2 : Hid (D = none) := by show _ = _; rw [HE.out, if_pos rfl]
        clear HE
        go_wp2_with (go_at_call 37; refine cE'.mono ?_; rintro e w' ⟨rfl, rfl⟩)
        go_ret
        rw [HE2.out]
        exact ⟨rfl, rfl⟩
      · have b1 : ((e : Int) == (n : Int)) = false := by rw [beq_eq_false_iff_ne]; omega
        have b2 : (e == n) = false := by rw [beq_eq_false_iff_ne]; omega
        have HE2 : Hid (D = Rw.dn t (e + 1) z) := by show _ = _; rw [HE.out, if_neg he]
        clear HE
        have hlt : e < n := by omega
        clear he
        go_wp2_with (go_at_call 37; refine cE'.mono ?_; rintro e w' ⟨rfl, rfl⟩)
        go_round
        case rel => exact ⟨e + 1, z, by omega, by omega, by go_num, by go_num, HE2.out.symm⟩
        case measure => simp [intOf]
/-- So many above. -/
theorem rup_any (A : Option Addr) (n c : Nat) (t : List Int) (k m : Nat) (w : World) (hA : Rn w A n t) (hk : k ≤ n) (hn : n ≤ 100000) (hm : m ≤ 100000) (h1 : 1 ≤ m) :
    Calls Tryz.prog 68 #[.slice A n c, .int .i64 k, .int .i64 (-(m : Int))] w fun e w' => e = .returned (rowOf (Rw.up t k m)) ∧ w' = w := by
  have HA := Lib.hid hA
  have cB := fun (x : Nat) (hx : x ≤ n) => rbegin_any A n c t x w hA hx hn
  clear hA
  generalize hD : Rw.up t k m = D
  have HD := Lib.hid hD
  clear hD
  have cB' := cB k hk
  go_enter Tryz.func68, Tryz.ntmps68
  go_wp2
  go_loop [1, 2] (fun v u => v = .int .i64 (k : Nat) ∧ u = .int .i64 (-(m : Int))) (fun _ _ => 0)
  case atStart => exact ⟨rfl, rfl⟩
  case round =>
    obtain ⟨rfl, rfl⟩ := hrel
    go_wp2_with (go_at_call 36; refine cB'.mono ?_; rintro e w' ⟨rfl, rfl⟩)
    clear cB'
    go_loop [1, 2] (fun v u => ∃ x y : Nat, x ≤ n ∧ y ≤ m ∧ v = .int .i64 (Rw.beg t x : Nat) ∧ u = .int .i64 (-(y : Int)) ∧ Rw.up t x y = D) (fun _ u => (-(intOf u)).toNat)
    case atStart => exact ⟨k, m, hk, Nat.le_refl _, rfl, rfl, HD.out⟩
    case round =>
      obtain ⟨x, y, hx, hy, rfl, rfl, hd⟩ := hrel
      have HX := Lib.hid hd
      clear hd
      have hle := Rw.beg_le t x
      by_cases h0 : y = 0
      · subst h0
        have HB : Hid (D = some (Rw.beg t x)) := HX.out.symm
        clear cB HX
        generalize Rw.beg t x = b at HB hle ⊢
        go_wp2
        go_ret
        rw [HB.out]
        exact ⟨rfl, rfl⟩
      · obtain ⟨z, rfl⟩ : ∃ z, y = z + 1 := ⟨y - 1, by omega⟩
        clear h0
        have cB2 := cB (Rw.beg t x - 1) (by omega)
        have HE : Hid (D = if Rw.beg t x = 0 then none else Rw.up t (Rw.beg t x - 1) z) := HX.out.symm
        clear cB HX
        generalize Rw.beg t x = b at cB2 HE hle ⊢
        by_cases he : b = 0
        · subst he
          have HE2 : Hid (D = none) := by show _ = _; rw [HE.out, if_pos rfl]
          clear HE
          go_wp2
          go_ret
          rw [HE2.out]
          exact ⟨rfl, rfl⟩
        · obtain ⟨p, rfl⟩ : ∃ p, b = p + 1 := ⟨b - 1, by omega⟩
          have HE2 : Hid (D = Rw.up t p z) := by show _ = _; rw [HE.out, if_neg he]; rfl
          clear HE he
          rw [show p + 1 - 1 = p by omega] at cB2
          go_wp2_with (go_at_call 36; refine cB2.mono ?_; rintro e w' ⟨rfl, rfl⟩)
          go_round
          case rel => exact ⟨p, z, by omega, by omega, rfl, by go_num, HE2.out.symm⟩
          case measure => simp [intOf]; omega

/-- The program's beside: the row so many below. -/
theorem down_any (A : Option Addr) (n c : Nat) (t : List Int) (k m : Nat) (w : World) (hA : Rn w A n t) (hk : k ≤ n) (hn : n ≤ 100000) (hm : m ≤ 100000) :
    Calls Tryz.prog 118 #[.slice A n c, .int .i64 k, .int .i64 m] w fun e w' => e = .returned (.tuple #[.int .i64 ((Rw.dn t k m).getD 0 : Nat), .bool (Rw.dn t k m).isSome]) ∧ w' = w := by
  have HA := Lib.hid hA
  have cR := fun (x : Nat) (hx : x ≤ n) => row_any A n c t x w hA hx hn
  have hl := hA.1
  have HL := Lib.hid hl
  clear hA hl
  have cR0 := cR k hk
  generalize hD : Rw.dn t k m = D
  have HD := Lib.hid hD
  clear hD
  go_enter Tryz.func118, Tryz.ntmps118
  go_wp2_with (go_at_call 35; refine cR0.mono ?_; rintro e w' ⟨rfl, rfl⟩)
  clear cR0
  go_loop [2, 8, 9] (fun u v h => ∃ x y : Nat, x ≤ n ∧ y ≤ m ∧ v = .int .i64 (Rw.beg t x : Nat) ∧ h = .int .i64 (Rw.en t x : Nat) ∧ u = .int .i64 y ∧ Rw.dn t x y = D) (fun u _ _ => (intOf u).toNat)
  case atStart => exact ⟨k, m, hk, Nat.le_refl _, rfl, rfl, rfl, HD.out⟩
  case round =>
    obtain ⟨x, y, hx, hy, rfl, rfl, rfl, hd⟩ := hrel
    have HX := Lib.hid hd
    clear hd
    have hle := Rw.en_le t x (by rw [HL.out]; exact hx)
    rw [HL.out] at hle
    have hle2 := Rw.beg_le t x
    by_cases h0 : y = 0
    · subst h0
      have HB : Hid (D = some (Rw.beg t x)) := HX.out.symm
      clear cR HX
      generalize Rw.beg t x = b at HB hle2 ⊢
      generalize Rw.en t x = h at hle ⊢
      go_wp2
      go_loop [2, 8] (fun u v => v = .int .i64 (b : Nat) ∧ u = .int .i64 ((0 : Nat) : Int)) (fun _ _ => 0)
      case atStart => exact ⟨rfl, rfl⟩
      case round =>
        obtain ⟨rfl, rfl⟩ := hrel
        go_wp2
        refine bodyPost_ret (v := .tuple #[.int .i64 (b : Nat), .bool true]) (by simp [results, Tryz.results118, go_sem]) rfl ⟨?_, rfl⟩
        rw [HB.out]
        rfl
    · obtain ⟨z, rfl⟩ : ∃ z, y = z + 1 := ⟨y - 1, by omega⟩
      clear h0
      have HE : Hid (D = if Rw.en t x = n then none else Rw.dn t (Rw.en t x + 1) z) := by
        show _ = _
        rw [← HX.out]
        show (if Rw.en t x = t.length then none else _) = _
        rw [HL.out]
      clear HX
      generalize Rw.beg t x = b at hle2 ⊢
      generalize Rw.en t x = e at HE hle ⊢
      by_cases he : e = n
      · subst he
        have HE2 : Hid (D = none) := by show _ = _; rw [HE.out, if_pos rfl]
        clear HE cR
        go_wp2
        refine bodyPost_ret (v := .tuple #[.int .i64 ((0 : Nat) : Int), .bool false]) (by simp [results, Tryz.results118, go_sem]) rfl ⟨?_, rfl⟩
        rw [HE2.out]
        rfl
      · have b1 : ((e : Int) == (n : Int)) = false := by rw [beq_eq_false_iff_ne]; omega
        have b2 : (e == n) = false := by rw [beq_eq_false_iff_ne]; omega
        have HE2 : Hid (D = Rw.dn t (e + 1) z) := by show _ = _; rw [HE.out, if_neg he]
        clear HE
        have hlt : e < n := by omega
        have cE' := cR (e + 1) (by omega)
        clear he cR
        go_wp2_with (go_at_call 35; refine cE'.mono ?_; rintro e w' ⟨rfl, rfl⟩)
        go_round
        case rel => exact ⟨e + 1, z, by omega, by omega, rfl, rfl, by go_num, HE2.out.symm⟩
        case measure => simp [intOf]
/-- The program's beside: the row so many above. -/
theorem up_any (A : Option Addr) (n c : Nat) (t : List Int) (k m : Nat) (w : World) (hA : Rn w A n t) (hk : k ≤ n) (hn : n ≤ 100000) (hm : m ≤ 100000) (h1 : 1 ≤ m) :
    Calls Tryz.prog 118 #[.slice A n c, .int .i64 k, .int .i64 (-(m : Int))] w fun e w' => e = .returned (.tuple #[.int .i64 ((Rw.up t k m).getD 0 : Nat), .bool (Rw.up t k m).isSome]) ∧ w' = w := by
  have HA := Lib.hid hA
  have cR := fun (x : Nat) (hx : x ≤ n) => row_any A n c t x w hA hx hn
  clear hA
  have cR0 := cR k hk
  generalize hD : Rw.up t k m = D
  have HD := Lib.hid hD
  clear hD
  go_enter Tryz.func118, Tryz.ntmps118
  go_wp2_with (go_at_call 35; refine cR0.mono ?_; rintro e w' ⟨rfl, rfl⟩)
  clear cR0
  go_loop [2, 8, 9] (fun u v h => v = .int .i64 (Rw.beg t k : Nat) ∧ u = .int .i64 (-(m : Int))) (fun _ _ _ => 0)
  case atStart => exact ⟨rfl, rfl⟩
  case round =>
    obtain ⟨rfl, rfl⟩ := hrel
    go_wp2
    go_loop [2, 8] (fun u v => ∃ x y : Nat, x ≤ n ∧ y ≤ m ∧ v = .int .i64 (Rw.beg t x : Nat) ∧ u = .int .i64 (-(y : Int)) ∧ Rw.up t x y = D) (fun u _ => (-(intOf u)).toNat)
    case atStart => exact ⟨k, m, hk, Nat.le_refl _, rfl, rfl, HD.out⟩
    case round =>
      obtain ⟨x, y, hx, hy, rfl, rfl, hd⟩ := hrel
      have HX := Lib.hid hd
      clear hd
      have hle := Rw.beg_le t x
      by_cases h0 : y = 0
      · subst h0
        have HB : Hid (D = some (Rw.beg t x)) := HX.out.symm
        clear cR HX
        generalize Rw.beg t x = b at HB hle ⊢
        go_wp2
        refine bodyPost_ret (v := .tuple #[.int .i64 (b : Nat), .bool true]) (by simp [results, Tryz.results118, go_sem]) rfl ⟨?_, rfl⟩
        rw [HB.out]
        rfl
      · obtain ⟨z, rfl⟩ : ∃ z, y = z + 1 := ⟨y - 1, by omega⟩
        clear h0
        have cB2 := cR (Rw.beg t x - 1) (by omega)
        have HE : Hid (D = if Rw.beg t x = 0 then none else Rw.up t (Rw.beg t x - 1) z) := HX.out.symm
        clear cR HX
        generalize Rw.beg t x = b at cB2 HE hle ⊢
        by_cases he : b = 0
        · subst he
          have HE2 : Hid (D = none) := by show _ = _; rw [HE.out, if_pos rfl]
          clear HE
          go_wp2
          refine bodyPost_ret (v := .tuple #[.int .i64 ((0 : Nat) : Int), .bool false]) (by simp [results, Tryz.results118, go_sem]) rfl ⟨?_, rfl⟩
          rw [HE2.out]
          rfl
        · obtain ⟨p, rfl⟩ : ∃ p, b = p + 1 := ⟨b - 1, by omega⟩
          have HE2 : Hid (D = Rw.up t p z) := by show _ = _; rw [HE.out, if_neg he]; rfl
          clear HE he
          rw [show p + 1 - 1 = p by omega] at cB2
          go_wp2_with (go_at_call 35; refine cB2.mono ?_; rintro e w' ⟨rfl, rfl⟩)
          go_round
          case rel => exact ⟨p, z, by omega, by omega, rfl, by go_num, HE2.out.symm⟩
          case measure => simp [intOf]; omega
end Go.Proofs.YtbofjefblhnkoaaGreatDoor
namespace Go.Proofs.YtbofjefblhnkoaaGreatDoor
open Go Go.RowKit

/-- A target, as it lies in memory. -/
def tgt (x k : Int) : Value := .agg #[.int .i64 x, .int .i64 k]
/-- What is told of where a motion leads. -/
def ans (o : Option Nat) (kind : Int) : Value := match o with
  | none => .tuple #[tgt 0 0, .int .i64 6]
  | some x => .tuple #[tgt x kind, .int .i64 0]
abbrev zeroT : Obj := .cells #[.int .i64 0, .int .i64 0] 67
theorem load_tgt (w : World) (x k : Int) : (loadVar 67 ⟨w.heap.size, 0, none⟩).run Tryz.prog (w.alloc (.cells #[.int .i64 x, .int .i64 k] 67)) = .ok (tgt x k) (w.alloc (.cells #[.int .i64 x, .int .i64 k] 67)) :=
  run_loadVar_row _ _ _ _ _ _ _ (heap_alloc_new w _) Tryz.underlying67 rfl (by kernel_rfl)
theorem res_tgt {fn : Func} {p u : Tmp} (h : fn.results = #[.cell p 67, .tmp u]) (tmps : Array Value) (w : World) (x k : Int) (hp : tmps.getD p undef = .pointer (some ⟨w.heap.size, 0, none⟩)) :
    (results fn tmps).run Tryz.prog (w.alloc (.cells #[.int .i64 x, .int .i64 k] 67)) = .ok (.tuple #[tgt x k, tmps.getD u undef]) (w.alloc (.cells #[.int .i64 x, .int .i64 k] 67)) := by
  rw [results_cell_tmp h, hp]
  simp [asAddr, Result.andThen, load_tgt]
theorem res_tgt1 {fn : Func} {p : Tmp} (h : fn.results = #[.cell p 67]) (tmps : Array Value) (w : World) (x k : Int) (hp : tmps.getD p undef = .pointer (some ⟨w.heap.size, 0, none⟩)) :
    (results fn tmps).run Tryz.prog (w.alloc (.cells #[.int .i64 x, .int .i64 k] 67)) = .ok (tgt x k) (w.alloc (.cells #[.int .i64 x, .int .i64 k] 67)) :=
  results_cell_row h tmps _ w.heap.size _ _ _ _ hp (heap_alloc_new w _) Tryz.underlying67 rfl (by kernel_rfl)
section
variable {A : Option Addr} {n c : Nat} {t : List Int} {k m : Nat} {w : World}
theorem w104_any (hA : Rn w A n t) (hr : Runey t) (hk : k ≤ n) (hn : n ≤ 100000) (hm : m ≤ 1000) (hm1 : 1 ≤ m) :
    Calls Tryz.prog 99 #[.slice A n c, .int .i64 k, .int .i64 104, .int .i64 m] w fun e w' => e = .returned (ans (Rw.to t k 104 m) 0) ∧ Kept (fun _ => False) w w' := by
  have hA1 : Rn (w.alloc zeroT) A n t := hA.kept ((Kept.refl (fun _ => False) w).alloc _) (fun _ _ => id)
  have hl := hA.1
  have hb := Rw.beg_le t k
  have he1 := Rw.en_ge t k
  have he2 := Rw.en_le t k (by rw [hA.1]; exact hk)
  rw [hl] at he2
  have hmx : max m 1 = m := by omega
  have hR : Hid (Rw.to t k 104 m = if max (Rw.beg t k) (k - m) = k then none else some (max (Rw.beg t k) (k - m))) := by
    show _ = _
    unfold Rw.to
    simp [hmx]
  have cR := row_any A n c t k (w.alloc zeroT) hA1 hk hn
  clear hA hr hA1 hl hmx
  generalize Rw.beg t k = b at *
  generalize Rw.en t k = h at *
  by_cases hx : max ((k : Int) - m) b = k
  · have hE : Hid (Rw.to t k 104 m = none) := by show _ = _; rw [hR.out, if_pos (by omega)]
    clear hR
    go_enter Tryz.func99, Tryz.ntmps99
    go_wp2_with (go_at_call 35; refine cR.mono ?_; rintro e w' ⟨rfl, rfl⟩)
    refine bodyPost_ret (res_tgt rfl _ w 0 0 rfl) rfl ⟨?_, (Kept.refl _ w).alloc _⟩
    rw [hE.out]
    rfl
  · have hE : Hid (Rw.to t k 104 m = some (max b (k - m))) := by show _ = _; rw [hR.out, if_neg (by omega)]
    have hv : Hid (((max b (k - m) : Nat) : Int) = max ((k : Int) - m) b) := by show _ = _; omega
    clear hR
    go_enter Tryz.func99, Tryz.ntmps99
    go_wp2_with (go_at_call 35; refine cR.mono ?_; rintro e w' ⟨rfl, rfl⟩)
    refine bodyPost_ret (res_tgt rfl _ w (max ((k : Int) - m) b) 0 rfl) rfl ⟨?_, (Kept.refl _ w).alloc _⟩
    rw [hE.out, ← hv.out]
    rfl
theorem w108_any (hA : Rn w A n t) (hr : Runey t) (hk : k ≤ n) (hn : n ≤ 100000) (hm : m ≤ 1000) (hm1 : 1 ≤ m) :
    Calls Tryz.prog 99 #[.slice A n c, .int .i64 k, .int .i64 108, .int .i64 m] w fun e w' => e = .returned (ans (Rw.to t k 108 m) 0) ∧ Kept (fun _ => False) w w' := by
  have hA1 : Rn (w.alloc zeroT) A n t := hA.kept ((Kept.refl (fun _ => False) w).alloc _) (fun _ _ => id)
  have hl := hA.1
  have hb := Rw.beg_le t k
  have he1 := Rw.en_ge t k
  have he2 := Rw.en_le t k (by rw [hA.1]; exact hk)
  rw [hl] at he2
  have hmx : max m 1 = m := by omega
  have hR : Hid (Rw.to t k 108 m = if min (Rw.en t k) (k + m) = k then none else some (min (Rw.en t k) (k + m))) := by
    show _ = _
    unfold Rw.to
    simp [hmx]
  have cR := row_any A n c t k (w.alloc zeroT) hA1 hk hn
  clear hA hr hA1 hl hmx
  generalize Rw.beg t k = b at *
  generalize Rw.en t k = h at *
  by_cases hx : min ((k : Int) + m) h = k
  · have hE : Hid (Rw.to t k 108 m = none) := by show _ = _; rw [hR.out, if_pos (by omega)]
    clear hR
    go_enter Tryz.func99, Tryz.ntmps99
    go_wp2_with (go_at_call 35; refine cR.mono ?_; rintro e w' ⟨rfl, rfl⟩)
    refine bodyPost_ret (res_tgt rfl _ w 0 0 rfl) rfl ⟨?_, (Kept.refl _ w).alloc _⟩
    rw [hE.out]
    rfl
  · have hE : Hid (Rw.to t k 108 m = some (min h (k + m))) := by show _ = _; rw [hR.out, if_neg (by omega)]
    have hv : Hid (((min h (k + m) : Nat) : Int) = min ((k : Int) + m) h) := by show _ = _; omega
    clear hR
    go_enter Tryz.func99, Tryz.ntmps99
    go_wp2_with (go_at_call 35; refine cR.mono ?_; rintro e w' ⟨rfl, rfl⟩)
    refine bodyPost_ret (res_tgt rfl _ w (min ((k : Int) + m) h) 0 rfl) rfl ⟨?_, (Kept.refl _ w).alloc _⟩
    rw [hE.out, ← hv.out]
    rfl
theorem w48_any (hA : Rn w A n t) (hr : Runey t) (hk : k ≤ n) (hn : n ≤ 100000) (hm : m ≤ 1000) (hm1 : 1 ≤ m) :
    Calls Tryz.prog 99 #[.slice A n c, .int .i64 k, .int .i64 48, .int .i64 m] w fun e w' => e = .returned (ans (Rw.to t k 48 m) 0) ∧ Kept (fun _ => False) w w' := by
  have hA1 : Rn (w.alloc zeroT) A n t := hA.kept ((Kept.refl (fun _ => False) w).alloc _) (fun _ _ => id)
  have hl := hA.1
  have hb := Rw.beg_le t k
  have he1 := Rw.en_ge t k
  have he2 := Rw.en_le t k (by rw [hA.1]; exact hk)
  rw [hl] at he2
  have hmx : max m 1 = m := by omega
  have hE : Hid (Rw.to t k 48 m = some (Rw.beg t k)) := rfl
  have cR := row_any A n c t k (w.alloc zeroT) hA1 hk hn
  clear hA hr hA1 hl hmx
  generalize Rw.beg t k = b at *
  generalize Rw.en t k = h at *
  by_cases hbk : b = k
  case' pos => subst hbk
  case' neg => have hx : ¬ ((b : Int) = k) := by omega
  all_goals
    go_enter Tryz.func99, Tryz.ntmps99
    go_wp2_with (go_at_call 35; refine cR.mono ?_; rintro e w' ⟨rfl, rfl⟩)
    refine bodyPost_ret (res_tgt rfl _ w b 0 rfl) rfl ⟨?_, (Kept.refl _ w).alloc _⟩
    rw [hE.out]
    rfl
theorem w94_any (hA : Rn w A n t) (hr : Runey t) (hk : k ≤ n) (hn : n ≤ 100000) (hm : m ≤ 1000) (hm1 : 1 ≤ m) :
    Calls Tryz.prog 99 #[.slice A n c, .int .i64 k, .int .i64 94, .int .i64 m] w fun e w' => e = .returned (ans (Rw.to t k 94 m) 0) ∧ Kept (fun _ => False) w w' := by
  have hA1 : Rn (w.alloc zeroT) A n t := hA.kept ((Kept.refl (fun _ => False) w).alloc _) (fun _ _ => id)
  have hl := hA.1
  have hb := Rw.beg_le t k
  have he1 := Rw.en_ge t k
  have he2 := Rw.en_le t k (by rw [hA.1]; exact hk)
  rw [hl] at he2
  have hmx : max m 1 = m := by omega
  have hE : Hid (Rw.to t k 94 m = some (Rw.fst t k)) := rfl
  have cR := row_any A n c t k (w.alloc zeroT) hA1 hk hn
  have cF := first_any A n c t k (w.alloc zeroT) hA1 hr hk hn
  have hf := Rw.fst_le t k (by rw [hl]; exact hk)
  clear hA hr hA1 hl hmx
  generalize Rw.beg t k = b at *
  generalize Rw.en t k = h at *
  generalize Rw.fst t k = f at *
  by_cases hbk : f = k
  case' pos => subst hbk
  case' neg => have hx : ¬ ((f : Int) = k) := by omega
  all_goals
    go_enter Tryz.func99, Tryz.ntmps99
    go_wp2_with (first | (go_at_call 35; refine cR.mono ?_; rintro e w' ⟨rfl, rfl⟩) | (go_at_call 98; refine cF.mono ?_; rintro e w' ⟨rfl, rfl⟩))
    refine bodyPost_ret (res_tgt rfl _ w f 0 rfl) rfl ⟨?_, (Kept.refl _ w).alloc _⟩
    rw [hE.out]
    rfl
end
end Go.Proofs.YtbofjefblhnkoaaGreatDoor
namespace Go.Proofs.YtbofjefblhnkoaaGreatDoor
open Go Go.RowKit
section
variable {A : Option Addr} {n c : Nat} {t : List Int} {k m : Nat} {w : World}
theorem a36_any (hA : Rn w A n t) (hr : Runey t) (hk : k ≤ n) (hn : n ≤ 100000) (hm : m ≤ 1000) (hm1 : 1 ≤ m) :
    Calls Tryz.prog 100 #[.slice A n c, .int .i64 k, .int .i64 36, .int .i64 m] w fun e w' => e = .returned (ans (Rw.to t k 36 m) 1) ∧ Kept (fun _ => False) w w' := by
  have hA1 : Rn (w.alloc zeroT) A n t := hA.kept ((Kept.refl (fun _ => False) w).alloc _) (fun _ _ => id)
  have hl := hA.1
  have hb := Rw.beg_le t k
  have he1 := Rw.en_ge t k
  have he2 := Rw.en_le t k (by rw [hA.1]; exact hk)
  rw [hl] at he2
  have hmx : max m 1 = m := by omega
  obtain ⟨p, hp⟩ : ∃ p, m = p + 1 := ⟨m - 1, by omega⟩
  have hp1 : (m : Int) - 1 = p := by omega
  have hp2 : m - 1 = p := by omega
  have hR : Hid (Rw.to t k 36 m = (Rw.dn t k p).map (Rw.en t)) := by
    show _ = _
    unfold Rw.to
    simp [hmx, hp2]
  have cD := down_any A n c t k p (w.alloc zeroT) hA1 hk hn (by omega)
  cases hd : Rw.dn t k p with
  | none =>
    rw [hd] at cD
    have hE : Hid (Rw.to t k 36 m = none) := by show _ = _; rw [hR.out, hd]; rfl
    clear hA hr hA1 hl hmx hR hd hp hp2
    go_enter Tryz.func100, Tryz.ntmps100
    go_wp2_with (go_at_call 118; refine cD.mono ?_; rintro e w' ⟨rfl, rfl⟩)
    refine bodyPost_ret (res_tgt rfl _ w 0 0 rfl) rfl ⟨?_, (Kept.refl _ w).alloc _⟩
    rw [hE.out]
    rfl
  | some x =>
    rw [hd] at cD
    have hxl := (Rw.dn_some t _ k x (by rw [hl]; exact hk) hd).1
    rw [hl] at hxl
    have hx1 := Rw.en_le t x (by rw [hl]; exact hxl)
    rw [hl] at hx1
    have hf := Rw.fst_le t x (by rw [hl]; exact hxl)
    have cX := row_any A n c t x (w.alloc zeroT) hA1 hxl hn
    have cF := first_any A n c t x (w.alloc zeroT) hA1 hr hxl hn
    have cK := row_any A n c t k (w.alloc zeroT) hA1 hk hn
    have hE : Hid (Rw.to t k 36 m = some (Rw.en t x)) := by show _ = _; rw [hR.out, hd]; rfl
    clear hA hr hA1 hl hmx hR hd hp hp2
    generalize Rw.beg t k = b at *
    generalize Rw.en t k = h at *
    generalize Rw.beg t x = bx at *
    generalize Rw.en t x = ex at *
    generalize Rw.fst t x = fx at *
    go_enter Tryz.func100, Tryz.ntmps100
    go_wp2_with (first | (go_at_call 118; refine cD.mono ?_; rintro e w' ⟨rfl, rfl⟩) | (go_at_call 35; refine cX.mono ?_; rintro e w' ⟨rfl, rfl⟩) | (go_at_call 98; refine cF.mono ?_; rintro e w' ⟨rfl, rfl⟩))
    refine bodyPost_ret (res_tgt rfl _ w ex 1 rfl) rfl ⟨?_, (Kept.refl _ w).alloc _⟩
    rw [hE.out]
    rfl
theorem a95_any (hA : Rn w A n t) (hr : Runey t) (hk : k ≤ n) (hn : n ≤ 100000) (hm : m ≤ 1000) (hm1 : 1 ≤ m) :
    Calls Tryz.prog 100 #[.slice A n c, .int .i64 k, .int .i64 95, .int .i64 m] w fun e w' => e = .returned (ans (Rw.to t k 95 m) 2) ∧ Kept (fun _ => False) w w' := by
  have hA1 : Rn (w.alloc zeroT) A n t := hA.kept ((Kept.refl (fun _ => False) w).alloc _) (fun _ _ => id)
  have hl := hA.1
  have hb := Rw.beg_le t k
  have he1 := Rw.en_ge t k
  have he2 := Rw.en_le t k (by rw [hA.1]; exact hk)
  rw [hl] at he2
  have hmx : max m 1 = m := by omega
  obtain ⟨p, hp⟩ : ∃ p, m = p + 1 := ⟨m - 1, by omega⟩
  have hp1 : (m : Int) - 1 = p := by omega
  have hp2 : m - 1 = p := by omega
  have hR : Hid (Rw.to t k 95 m = (Rw.dn t k p).map (Rw.fst t)) := by
    show _ = _
    unfold Rw.to
    simp [hmx, hp2]
  have cD := down_any A n c t k p (w.alloc zeroT) hA1 hk hn (by omega)
  cases hd : Rw.dn t k p with
  | none =>
    rw [hd] at cD
    have hE : Hid (Rw.to t k 95 m = none) := by show _ = _; rw [hR.out, hd]; rfl
    clear hA hr hA1 hl hmx hR hd hp hp2
    go_enter Tryz.func100, Tryz.ntmps100
    go_wp2_with (go_at_call 118; refine cD.mono ?_; rintro e w' ⟨rfl, rfl⟩)
    refine bodyPost_ret (res_tgt rfl _ w 0 0 rfl) rfl ⟨?_, (Kept.refl _ w).alloc _⟩
    rw [hE.out]
    rfl
  | some x =>
    rw [hd] at cD
    have hxl := (Rw.dn_some t _ k x (by rw [hl]; exact hk) hd).1
    rw [hl] at hxl
    have hx1 := Rw.en_le t x (by rw [hl]; exact hxl)
    rw [hl] at hx1
    have hf := Rw.fst_le t x (by rw [hl]; exact hxl)
    have cX := row_any A n c t x (w.alloc zeroT) hA1 hxl hn
    have cF := first_any A n c t x (w.alloc zeroT) hA1 hr hxl hn
    have cK := row_any A n c t k (w.alloc zeroT) hA1 hk hn
    have hE : Hid (Rw.to t k 95 m = some (Rw.fst t x)) := by show _ = _; rw [hR.out, hd]; rfl
    clear hA hr hA1 hl hmx hR hd hp hp2
    generalize Rw.beg t k = b at *
    generalize Rw.en t k = h at *
    generalize Rw.beg t x = bx at *
    generalize Rw.en t x = ex at *
    generalize Rw.fst t x = fx at *
    go_enter Tryz.func100, Tryz.ntmps100
    go_wp2_with (first | (go_at_call 118; refine cD.mono ?_; rintro e w' ⟨rfl, rfl⟩) | (go_at_call 35; refine cX.mono ?_; rintro e w' ⟨rfl, rfl⟩) | (go_at_call 98; refine cF.mono ?_; rintro e w' ⟨rfl, rfl⟩))
    refine bodyPost_ret (res_tgt rfl _ w fx 2 rfl) rfl ⟨?_, (Kept.refl _ w).alloc _⟩
    rw [hE.out]
    rfl
theorem a106_any (hA : Rn w A n t) (hr : Runey t) (hk : k ≤ n) (hn : n ≤ 100000) (hm : m ≤ 1000) (hm1 : 1 ≤ m) :
    Calls Tryz.prog 100 #[.slice A n c, .int .i64 k, .int .i64 106, .int .i64 m] w fun e w' => e = .returned (ans (Rw.to t k 106 m) 2) ∧ Kept (fun _ => False) w w' := by
  have hA1 : Rn (w.alloc zeroT) A n t := hA.kept ((Kept.refl (fun _ => False) w).alloc _) (fun _ _ => id)
  have hl := hA.1
  have hb := Rw.beg_le t k
  have he1 := Rw.en_ge t k
  have he2 := Rw.en_le t k (by rw [hA.1]; exact hk)
  rw [hl] at he2
  have hmx : max m 1 = m := by omega
  have hR : Hid (Rw.to t k 106 m = (Rw.dn t k m).map (fun x => min (Rw.en t x) (x + (k - Rw.beg t k)))) := by
    show _ = _
    unfold Rw.to
    simp [hmx]
  have cD := down_any A n c t k m (w.alloc zeroT) hA1 hk hn (by omega)
  cases hd : Rw.dn t k m with
  | none =>
    rw [hd] at cD
    have hE : Hid (Rw.to t k 106 m = none) := by show _ = _; rw [hR.out, hd]; rfl
    clear hA hr hA1 hl hmx hR hd
    go_enter Tryz.func100, Tryz.ntmps100
    go_wp2_with (go_at_call 118; refine cD.mono ?_; rintro e w' ⟨rfl, rfl⟩)
    refine bodyPost_ret (res_tgt rfl _ w 0 0 rfl) rfl ⟨?_, (Kept.refl _ w).alloc _⟩
    rw [hE.out]
    rfl
  | some x =>
    rw [hd] at cD
    have hxl := (Rw.dn_some t _ k x (by rw [hl]; exact hk) hd).1
    rw [hl] at hxl
    have hx1 := Rw.en_le t x (by rw [hl]; exact hxl)
    rw [hl] at hx1
    have hf := Rw.fst_le t x (by rw [hl]; exact hxl)
    have cX := row_any A n c t x (w.alloc zeroT) hA1 hxl hn
    have cF := first_any A n c t x (w.alloc zeroT) hA1 hr hxl hn
    have cK := row_any A n c t k (w.alloc zeroT) hA1 hk hn
    have hE : Hid (Rw.to t k 106 m = some (min (Rw.en t x) (x + (k - Rw.beg t k)))) := by show _ = _; rw [hR.out, hd]; rfl
    have hv : Hid (((min (Rw.en t x) (x + (k - Rw.beg t k)) : Nat) : Int) = min ((x : Int) + k - (Rw.beg t k : Nat)) (Rw.en t x : Nat)) := by show _ = _; omega
    clear hA hr hA1 hl hmx hR hd
    generalize Rw.beg t k = b at *
    generalize Rw.en t k = h at *
    generalize Rw.beg t x = bx at *
    generalize Rw.en t x = ex at *
    generalize Rw.fst t x = fx at *
    go_enter Tryz.func100, Tryz.ntmps100
    go_wp2_with (go_at_call 118; refine cD.mono ?_; rintro e w' ⟨rfl, rfl⟩)
    refine cX.mono ?_
    rintro e w' ⟨rfl, rfl⟩
    go_wp2_with fail
    refine cK.mono ?_
    rintro e w' ⟨rfl, rfl⟩
    go_wp2_with fail
    refine bodyPost_ret (res_tgt rfl _ w (min ((x : Int) + k - b) ex) 2 rfl) rfl ⟨?_, (Kept.refl _ w).alloc _⟩
    rw [hE.out, ← hv.out]
    rfl
theorem a107_any (hA : Rn w A n t) (hr : Runey t) (hk : k ≤ n) (hn : n ≤ 100000) (hm : m ≤ 1000) (hm1 : 1 ≤ m) :
    Calls Tryz.prog 100 #[.slice A n c, .int .i64 k, .int .i64 107, .int .i64 m] w fun e w' => e = .returned (ans (Rw.to t k 107 m) 2) ∧ Kept (fun _ => False) w w' := by
  have hA1 : Rn (w.alloc zeroT) A n t := hA.kept ((Kept.refl (fun _ => False) w).alloc _) (fun _ _ => id)
  have hl := hA.1
  have hb := Rw.beg_le t k
  have he1 := Rw.en_ge t k
  have he2 := Rw.en_le t k (by rw [hA.1]; exact hk)
  rw [hl] at he2
  have hmx : max m 1 = m := by omega
  have hR : Hid (Rw.to t k 107 m = (Rw.up t k m).map (fun x => min (Rw.en t x) (x + (k - Rw.beg t k)))) := by
    show _ = _
    unfold Rw.to
    simp [hmx]
  have cD := up_any A n c t k m (w.alloc zeroT) hA1 hk hn (by omega) hm1
  cases hd : Rw.up t k m with
  | none =>
    rw [hd] at cD
    have hE : Hid (Rw.to t k 107 m = none) := by show _ = _; rw [hR.out, hd]; rfl
    clear hA hr hA1 hl hmx hR hd
    go_enter Tryz.func100, Tryz.ntmps100
    go_wp2_with (go_at_call 118; refine cD.mono ?_; rintro e w' ⟨rfl, rfl⟩)
    refine bodyPost_ret (res_tgt rfl _ w 0 0 rfl) rfl ⟨?_, (Kept.refl _ w).alloc _⟩
    rw [hE.out]
    rfl
  | some x =>
    rw [hd] at cD
    have hxl := Nat.le_trans (Rw.up_some t _ k x hd).1 hk
    have hx1 := Rw.en_le t x (by rw [hl]; exact hxl)
    rw [hl] at hx1
    have hf := Rw.fst_le t x (by rw [hl]; exact hxl)
    have cX := row_any A n c t x (w.alloc zeroT) hA1 hxl hn
    have cF := first_any A n c t x (w.alloc zeroT) hA1 hr hxl hn
    have cK := row_any A n c t k (w.alloc zeroT) hA1 hk hn
    have hE : Hid (Rw.to t k 107 m = some (min (Rw.en t x) (x + (k - Rw.beg t k)))) := by show _ = _; rw [hR.out, hd]; rfl
    have hv : Hid (((min (Rw.en t x) (x + (k - Rw.beg t k)) : Nat) : Int) = min ((x : Int) + k - (Rw.beg t k : Nat)) (Rw.en t x : Nat)) := by show _ = _; omega
    clear hA hr hA1 hl hmx hR hd
    generalize Rw.beg t k = b at *
    generalize Rw.en t k = h at *
    generalize Rw.beg t x = bx at *
    generalize Rw.en t x = ex at *
    generalize Rw.fst t x = fx at *
    go_enter Tryz.func100, Tryz.ntmps100
    go_wp2_with (go_at_call 118; refine cD.mono ?_; rintro e w' ⟨rfl, rfl⟩)
    refine cX.mono ?_
    rintro e w' ⟨rfl, rfl⟩
    go_wp2_with fail
    refine cK.mono ?_
    rintro e w' ⟨rfl, rfl⟩
    go_wp2_with fail
    refine bodyPost_ret (res_tgt rfl _ w (min ((x : Int) + k - b) ex) 2 rfl) rfl ⟨?_, (Kept.refl _ w).alloc _⟩
    rw [hE.out, ← hv.out]
    rfl
theorem a43_any (hA : Rn w A n t) (hr : Runey t) (hk : k ≤ n) (hn : n ≤ 100000) (hm : m ≤ 1000) (hm1 : 1 ≤ m) :
    Calls Tryz.prog 100 #[.slice A n c, .int .i64 k, .int .i64 43, .int .i64 m] w fun e w' => e = .returned (ans (Rw.to t k 43 m) 2) ∧ Kept (fun _ => False) w w' := by
  have hA1 : Rn (w.alloc zeroT) A n t := hA.kept ((Kept.refl (fun _ => False) w).alloc _) (fun _ _ => id)
  have hl := hA.1
  have hb := Rw.beg_le t k
  have he1 := Rw.en_ge t k
  have he2 := Rw.en_le t k (by rw [hA.1]; exact hk)
  rw [hl] at he2
  have hmx : max m 1 = m := by omega
  have hR : Hid (Rw.to t k 43 m = (Rw.dn t k m).map (Rw.fst t)) := by
    show _ = _
    unfold Rw.to
    simp [hmx]
  have cD := down_any A n c t k m (w.alloc zeroT) hA1 hk hn (by omega)
  cases hd : Rw.dn t k m with
  | none =>
    rw [hd] at cD
    have hE : Hid (Rw.to t k 43 m = none) := by show _ = _; rw [hR.out, hd]; rfl
    clear hA hr hA1 hl hmx hR hd
    go_enter Tryz.func100, Tryz.ntmps100
    go_wp2_with (go_at_call 118; refine cD.mono ?_; rintro e w' ⟨rfl, rfl⟩)
    refine bodyPost_ret (res_tgt rfl _ w 0 0 rfl) rfl ⟨?_, (Kept.refl _ w).alloc _⟩
    rw [hE.out]
    rfl
  | some x =>
    rw [hd] at cD
    have hxl := (Rw.dn_some t _ k x (by rw [hl]; exact hk) hd).1
    rw [hl] at hxl
    have hx1 := Rw.en_le t x (by rw [hl]; exact hxl)
    rw [hl] at hx1
    have hf := Rw.fst_le t x (by rw [hl]; exact hxl)
    have cX := row_any A n c t x (w.alloc zeroT) hA1 hxl hn
    have cF := first_any A n c t x (w.alloc zeroT) hA1 hr hxl hn
    have cK := row_any A n c t k (w.alloc zeroT) hA1 hk hn
    have hE : Hid (Rw.to t k 43 m = some (Rw.fst t x)) := by show _ = _; rw [hR.out, hd]; rfl
    clear hA hr hA1 hl hmx hR hd
    generalize Rw.beg t k = b at *
    generalize Rw.en t k = h at *
    generalize Rw.beg t x = bx at *
    generalize Rw.en t x = ex at *
    generalize Rw.fst t x = fx at *
    go_enter Tryz.func100, Tryz.ntmps100
    go_wp2_with (first | (go_at_call 118; refine cD.mono ?_; rintro e w' ⟨rfl, rfl⟩) | (go_at_call 35; refine cX.mono ?_; rintro e w' ⟨rfl, rfl⟩) | (go_at_call 98; refine cF.mono ?_; rintro e w' ⟨rfl, rfl⟩))
    refine bodyPost_ret (res_tgt rfl _ w fx 2 rfl) rfl ⟨?_, (Kept.refl _ w).alloc _⟩
    rw [hE.out]
    rfl
theorem a45_any (hA : Rn w A n t) (hr : Runey t) (hk : k ≤ n) (hn : n ≤ 100000) (hm : m ≤ 1000) (hm1 : 1 ≤ m) :
    Calls Tryz.prog 100 #[.slice A n c, .int .i64 k, .int .i64 45, .int .i64 m] w fun e w' => e = .returned (ans (Rw.to t k 45 m) 2) ∧ Kept (fun _ => False) w w' := by
  have hA1 : Rn (w.alloc zeroT) A n t := hA.kept ((Kept.refl (fun _ => False) w).alloc _) (fun _ _ => id)
  have hl := hA.1
  have hb := Rw.beg_le t k
  have he1 := Rw.en_ge t k
  have he2 := Rw.en_le t k (by rw [hA.1]; exact hk)
  rw [hl] at he2
  have hmx : max m 1 = m := by omega
  have hR : Hid (Rw.to t k 45 m = (Rw.up t k m).map (Rw.fst t)) := by
    show _ = _
    unfold Rw.to
    simp [hmx]
  have cD := up_any A n c t k m (w.alloc zeroT) hA1 hk hn (by omega) hm1
  cases hd : Rw.up t k m with
  | none =>
    rw [hd] at cD
    have hE : Hid (Rw.to t k 45 m = none) := by show _ = _; rw [hR.out, hd]; rfl
    clear hA hr hA1 hl hmx hR hd
    go_enter Tryz.func100, Tryz.ntmps100
    go_wp2_with (go_at_call 118; refine cD.mono ?_; rintro e w' ⟨rfl, rfl⟩)
    refine bodyPost_ret (res_tgt rfl _ w 0 0 rfl) rfl ⟨?_, (Kept.refl _ w).alloc _⟩
    rw [hE.out]
    rfl
  | some x =>
    rw [hd] at cD
    have hxl := Nat.le_trans (Rw.up_some t _ k x hd).1 hk
    have hx1 := Rw.en_le t x (by rw [hl]; exact hxl)
    rw [hl] at hx1
    have hf := Rw.fst_le t x (by rw [hl]; exact hxl)
    have cX := row_any A n c t x (w.alloc zeroT) hA1 hxl hn
    have cF := first_any A n c t x (w.alloc zeroT) hA1 hr hxl hn
    have cK := row_any A n c t k (w.alloc zeroT) hA1 hk hn
    have hE : Hid (Rw.to t k 45 m = some (Rw.fst t x)) := by show _ = _; rw [hR.out, hd]; rfl
    clear hA hr hA1 hl hmx hR hd
    generalize Rw.beg t k = b at *
    generalize Rw.en t k = h at *
    generalize Rw.beg t x = bx at *
    generalize Rw.en t x = ex at *
    generalize Rw.fst t x = fx at *
    go_enter Tryz.func100, Tryz.ntmps100
    go_wp2_with (first | (go_at_call 118; refine cD.mono ?_; rintro e w' ⟨rfl, rfl⟩) | (go_at_call 35; refine cX.mono ?_; rintro e w' ⟨rfl, rfl⟩) | (go_at_call 98; refine cF.mono ?_; rintro e w' ⟨rfl, rfl⟩))
    refine bodyPost_ret (res_tgt rfl _ w fx 2 rfl) rfl ⟨?_, (Kept.refl _ w).alloc _⟩
    rw [hE.out]
    rfl
theorem numbered_any (hA : Rn w A n t) (hr : Runey t) (hk : k ≤ n) (hn : n ≤ 100000) (hm : m ≤ 1000) :
    Calls Tryz.prog 101 #[.slice A n c, .int .i64 k, .int .i64 m] w fun e w' => e = .returned (tgt (if m = 0 then Rw.fst t k else Rw.nth t m : Nat) 2) ∧ Kept (fun _ => False) w w' := by
  have hA1 : Rn (w.alloc zeroT) A n t := hA.kept ((Kept.refl (fun _ => False) w).alloc _) (fun _ _ => id)
  have hl := hA.1
  by_cases h0 : m = 0
  · subst h0
    have cF := first_any A n c t k (w.alloc zeroT) hA1 hr hk hn
    have hf := Rw.fst_le t k (by rw [hl]; exact hk)
    have he := Rw.en_le t k (by rw [hl]; exact hk)
    rw [if_pos rfl]
    rw [hl] at he
    clear hA hr hA1 hl
    generalize Rw.fst t k = f at *
    go_enter Tryz.func101, Tryz.ntmps101
    go_wp2_with (go_at_call 98; refine cF.mono ?_; rintro e w' ⟨rfl, rfl⟩)
    exact bodyPost_ret (res_tgt1 rfl _ w f 2 rfl) rfl ⟨rfl, (Kept.refl _ w).alloc _⟩
  · rw [if_neg h0]
    obtain ⟨p, hp⟩ : ∃ p, m = p + 1 := ⟨m - 1, by omega⟩
    have hp1 : (m : Int) - 1 = p := by omega
    have hp2 : m - 1 = p := by omega
    have hm1 : 1 ≤ m := by omega
    have hG := Rw.nth_go t m
    rw [hp2] at hG
    have cD := down_any A n c t 0 p (w.alloc zeroT) hA1 (Nat.zero_le _) hn (by omega)
    cases hd : Rw.dn t 0 p with
    | none =>
      rw [hd] at cD hG
      simp only at hG
      have cF := first_any A n c t n (w.alloc zeroT) hA1 hr (Nat.le_refl _) hn
      have hf := Rw.fst_le t n (by rw [hl]; exact Nat.le_refl _)
      have he := Rw.en_le t n (by rw [hl]; exact Nat.le_refl _)
      rw [hl] at he hG
      have hG' : Hid (Rw.nth t m = Rw.fst t n) := hG
      clear hA hr hA1 hl hG hd hp hp2 h0
      generalize Rw.fst t n = f at *
      go_enter Tryz.func101, Tryz.ntmps101
      go_wp2_with (first | (go_at_call 118; refine cD.mono ?_; rintro e w' ⟨rfl, rfl⟩) | (go_at_call 98; refine cF.mono ?_; rintro e w' ⟨rfl, rfl⟩))
      refine bodyPost_ret (res_tgt1 rfl _ w f 2 rfl) rfl ⟨?_, (Kept.refl _ w).alloc _⟩
      rw [hG'.out]
    | some x =>
      rw [hd] at cD hG
      simp only at hG
      have hxl := (Rw.dn_some t _ 0 x (Nat.zero_le _) hd).1
      rw [hl] at hxl
      have cF := first_any A n c t x (w.alloc zeroT) hA1 hr hxl hn
      have hf := Rw.fst_le t x (by rw [hl]; exact hxl)
      have he := Rw.en_le t x (by rw [hl]; exact hxl)
      rw [hl] at he
      have hG' : Hid (Rw.nth t m = Rw.fst t x) := hG
      clear hA hr hA1 hl hG hd hp hp2 h0
      generalize Rw.fst t x = f at *
      go_enter Tryz.func101, Tryz.ntmps101
      go_wp2_with (first | (go_at_call 118; refine cD.mono ?_; rintro e w' ⟨rfl, rfl⟩) | (go_at_call 98; refine cF.mono ?_; rintro e w' ⟨rfl, rfl⟩))
      refine bodyPost_ret (res_tgt1 rfl _ w f 2 rfl) rfl ⟨?_, (Kept.refl _ w).alloc _⟩
      rw [hG'.out]
end
end Go.Proofs.YtbofjefblhnkoaaGreatDoor
namespace Go.Proofs.YtbofjefblhnkoaaGreatDoor
open Go Go.RowKit

theorem heap_two {w : World} {g : Nat} {a b x k : Value} (h : w.heap[g]? = some (.cells #[a, b] 67 (0, 0))) : ((w.setCell ⟨g, 0, none⟩ x).setCell ⟨g, 1, none⟩ k).heap[g]? = some (.cells #[x, k] 67 (0, 0)) := by
  rw [heap_set (heap_set h x) k]
  rfl
theorem res_two {fn : Func} {p u : Tmp} (h : fn.results = #[.cell p 67, .tmp u]) (tmps : Array Value) {w : World} {g : Nat} {a b : Value} (x k : Int) (hb : w.heap[g]? = some (.cells #[a, b] 67 (0, 0))) (hp : tmps.getD p undef = .pointer (some ⟨g, 0, none⟩)) :
    (results fn tmps).run Tryz.prog ((w.setCell ⟨g, 0, none⟩ (.int .i64 x)).setCell ⟨g, 1, none⟩ (.int .i64 k)) = .ok (.tuple #[tgt x k, tmps.getD u undef]) ((w.setCell ⟨g, 0, none⟩ (.int .i64 x)).setCell ⟨g, 1, none⟩ (.int .i64 k)) := by
  have hl : (loadVar 67 ⟨g, 0, none⟩).run Tryz.prog ((w.setCell ⟨g, 0, none⟩ (.int .i64 x)).setCell ⟨g, 1, none⟩ (.int .i64 k)) = .ok (tgt x k) ((w.setCell ⟨g, 0, none⟩ (.int .i64 x)).setCell ⟨g, 1, none⟩ (.int .i64 k)) :=
    run_loadVar_row _ _ _ _ _ _ _ (heap_two hb) Tryz.underlying67 rfl (by kernel_rfl)
  rw [results_cell_tmp h, hp]
  simp [asAddr, Result.andThen, hl]
theorem Kept.two {w w2 : World} (h : Kept (fun _ => False) (w.alloc zeroT) w2) (x k : Value) : Kept (fun _ => False) w ((w2.setCell ⟨w.heap.size, 0, none⟩ x).setCell ⟨w.heap.size, 1, none⟩ k) :=
  ((Kept.refl (fun _ => False) w).alloc zeroT).fresh ((h.mono (T := fun g => g = w.heap.size) (fun _ _ h => h.elim)).setCell rfl x |>.setCell rfl k) (fun k hk e => by omega)
theorem m104_any (s : ByteArray) (k m : Nat) (w : World) (hT : Tabs w) (hm : mayB s = true) (hk : k ≤ (rs s).length) (hc : m ≤ 999) :
    Calls Tryz.prog 57 #[.string s, .int .i64 k, .int .i64 104, .int .i64 m] w fun e w' => e = .returned (ans (Rw.to (rs s) k 104 m) 0) ∧ Kept (fun _ => False) w w' := by
  have hT1 : Tabs (w.alloc zeroT) := hT.kept ((Kept.refl (fun _ => False) w).alloc _) id id
  have cU := runes_yes s k (w.alloc zeroT) hT1 hm hk
  have hl := rs_len s
  have hsz := mayB_size hm
  have hry := rs_runey (mayB_valid hm)
  have hto : Rw.to (rs s) k 104 m = Rw.to (rs s) k 104 (max m 1) := by unfold Rw.to; simp [show max (max m 1) 1 = max m 1 by omega]
  rw [hto]
  clear hto
  have b1 : decide ((m : Int) < 0) = false := by simp
  have b2 : decide (999 < (m : Int)) = false := by simp; omega
  have hq : max (m : Int) 1 = ((max m 1 : Nat) : Int) := by omega
  have hq1 : 1 ≤ max m 1 ∧ max m 1 ≤ 1000 := by omega
  generalize max m 1 = q at *
  obtain ⟨hq1, hq2⟩ := hq1
  have hb : Hid ((w.alloc zeroT).heap[w.heap.size]? = some zeroT) := heap_alloc_new w _
  have hbs : w.heap.size < (w.alloc zeroT).heap.size := by simp
  generalize rs s = t at *
  clear hT hm hT1
  go_enter Tryz.func57, Tryz.ntmps57
  go_wp2_with (go_at_call 34; refine cU.mono ?_; rintro e w1 ⟨hk1, b, cap, rfl, hbg, hR⟩)
  clear cU
  have cW := w104_any (m := q) (c := cap) hR hry hk (by omega) hq2 hq1
  refine cW.mono ?_
  rintro e w2 ⟨rfl, hk2⟩
  clear cW
  have h2 : w2.heap[w.heap.size]? = some zeroT := ((hk2.block _ (Nat.lt_of_lt_of_le hbs hk1.size) id).trans (hk1.block _ hbs id)).trans hb.out
  have c0 : w2.cell? ⟨w.heap.size, 0, none⟩ = some (.int .i64 0) := by rw [cell_of_row _ _ _ _ _ _ h2]; rfl
  have c1 : w2.cell? ⟨w.heap.size, 1, none⟩ = some (.int .i64 0) := by rw [cell_of_row _ _ _ _ _ _ h2]; rfl
  have f0 : w2.frozen? ⟨w.heap.size, 0, none⟩ = false := frozen_of h2
  have f1 : w2.frozen? ⟨w.heap.size, 1, none⟩ = false := frozen_of h2
  have H2 := Lib.hid h2
  have HK := Lib.hid (hk1.trans hk2)
  clear hk1 hk2 h2 hR hb
  cases hto : Rw.to t k 104 q with
  | none =>
    have HO := Lib.hid hto
    clear hto
    unfold ans tgt
    simp only
    go_wp2
    refine bodyPost_ret (res_two rfl _ 0 0 H2.out rfl) rfl ⟨?_, HK.out.two _ _⟩
    rw [HO.out]
    rfl
  | some x =>
    have HO := Lib.hid hto
    clear hto
    unfold ans tgt
    simp only
    go_wp2
    refine bodyPost_ret (res_two rfl _ x 0 H2.out rfl) rfl ⟨?_, HK.out.two _ _⟩
    rw [HO.out]
    rfl
theorem m108_any (s : ByteArray) (k m : Nat) (w : World) (hT : Tabs w) (hm : mayB s = true) (hk : k ≤ (rs s).length) (hc : m ≤ 999) :
    Calls Tryz.prog 57 #[.string s, .int .i64 k, .int .i64 108, .int .i64 m] w fun e w' => e = .returned (ans (Rw.to (rs s) k 108 m) 0) ∧ Kept (fun _ => False) w w' := by
  have hT1 : Tabs (w.alloc zeroT) := hT.kept ((Kept.refl (fun _ => False) w).alloc _) id id
  have cU := runes_yes s k (w.alloc zeroT) hT1 hm hk
  have hl := rs_len s
  have hsz := mayB_size hm
  have hry := rs_runey (mayB_valid hm)
  have hto : Rw.to (rs s) k 108 m = Rw.to (rs s) k 108 (max m 1) := by unfold Rw.to; simp [show max (max m 1) 1 = max m 1 by omega]
  rw [hto]
  clear hto
  have b1 : decide ((m : Int) < 0) = false := by simp
  have b2 : decide (999 < (m : Int)) = false := by simp; omega
  have hq : max (m : Int) 1 = ((max m 1 : Nat) : Int) := by omega
  have hq1 : 1 ≤ max m 1 ∧ max m 1 ≤ 1000 := by omega
  generalize max m 1 = q at *
  obtain ⟨hq1, hq2⟩ := hq1
  have hb : Hid ((w.alloc zeroT).heap[w.heap.size]? = some zeroT) := heap_alloc_new w _
  have hbs : w.heap.size < (w.alloc zeroT).heap.size := by simp
  generalize rs s = t at *
  clear hT hm hT1
  go_enter Tryz.func57, Tryz.ntmps57
  go_wp2_with (go_at_call 34; refine cU.mono ?_; rintro e w1 ⟨hk1, b, cap, rfl, hbg, hR⟩)
  clear cU
  have cW := w108_any (m := q) (c := cap) hR hry hk (by omega) hq2 hq1
  refine cW.mono ?_
  rintro e w2 ⟨rfl, hk2⟩
  clear cW
  have h2 : w2.heap[w.heap.size]? = some zeroT := ((hk2.block _ (Nat.lt_of_lt_of_le hbs hk1.size) id).trans (hk1.block _ hbs id)).trans hb.out
  have c0 : w2.cell? ⟨w.heap.size, 0, none⟩ = some (.int .i64 0) := by rw [cell_of_row _ _ _ _ _ _ h2]; rfl
  have c1 : w2.cell? ⟨w.heap.size, 1, none⟩ = some (.int .i64 0) := by rw [cell_of_row _ _ _ _ _ _ h2]; rfl
  have f0 : w2.frozen? ⟨w.heap.size, 0, none⟩ = false := frozen_of h2
  have f1 : w2.frozen? ⟨w.heap.size, 1, none⟩ = false := frozen_of h2
  have H2 := Lib.hid h2
  have HK := Lib.hid (hk1.trans hk2)
  clear hk1 hk2 h2 hR hb
  cases hto : Rw.to t k 108 q with
  | none =>
    have HO := Lib.hid hto
    clear hto
    unfold ans tgt
    simp only
    go_wp2
    refine bodyPost_ret (res_two rfl _ 0 0 H2.out rfl) rfl ⟨?_, HK.out.two _ _⟩
    rw [HO.out]
    rfl
  | some x =>
    have HO := Lib.hid hto
    clear hto
    unfold ans tgt
    simp only
    go_wp2
    refine bodyPost_ret (res_two rfl _ x 0 H2.out rfl) rfl ⟨?_, HK.out.two _ _⟩
    rw [HO.out]
    rfl
theorem m48_any (s : ByteArray) (k m : Nat) (w : World) (hT : Tabs w) (hm : mayB s = true) (hk : k ≤ (rs s).length) (hc : m ≤ 999) :
    Calls Tryz.prog 57 #[.string s, .int .i64 k, .int .i64 48, .int .i64 m] w fun e w' => e = .returned (ans (Rw.to (rs s) k 48 m) 0) ∧ Kept (fun _ => False) w w' := by
  have hT1 : Tabs (w.alloc zeroT) := hT.kept ((Kept.refl (fun _ => False) w).alloc _) id id
  have cU := runes_yes s k (w.alloc zeroT) hT1 hm hk
  have hl := rs_len s
  have hsz := mayB_size hm
  have hry := rs_runey (mayB_valid hm)
  have hto : Rw.to (rs s) k 48 m = Rw.to (rs s) k 48 (max m 1) := rfl
  rw [hto]
  clear hto
  have b1 : decide ((m : Int) < 0) = false := by simp
  have b2 : decide (999 < (m : Int)) = false := by simp; omega
  have hq : max (m : Int) 1 = ((max m 1 : Nat) : Int) := by omega
  have hq1 : 1 ≤ max m 1 ∧ max m 1 ≤ 1000 := by omega
  generalize max m 1 = q at *
  obtain ⟨hq1, hq2⟩ := hq1
  have hb : Hid ((w.alloc zeroT).heap[w.heap.size]? = some zeroT) := heap_alloc_new w _
  have hbs : w.heap.size < (w.alloc zeroT).heap.size := by simp
  generalize rs s = t at *
  clear hT hm hT1
  go_enter Tryz.func57, Tryz.ntmps57
  go_wp2_with (go_at_call 34; refine cU.mono ?_; rintro e w1 ⟨hk1, b, cap, rfl, hbg, hR⟩)
  clear cU
  have cW := w48_any (m := q) (c := cap) hR hry hk (by omega) hq2 hq1
  refine cW.mono ?_
  rintro e w2 ⟨rfl, hk2⟩
  clear cW
  have h2 : w2.heap[w.heap.size]? = some zeroT := ((hk2.block _ (Nat.lt_of_lt_of_le hbs hk1.size) id).trans (hk1.block _ hbs id)).trans hb.out
  have c0 : w2.cell? ⟨w.heap.size, 0, none⟩ = some (.int .i64 0) := by rw [cell_of_row _ _ _ _ _ _ h2]; rfl
  have c1 : w2.cell? ⟨w.heap.size, 1, none⟩ = some (.int .i64 0) := by rw [cell_of_row _ _ _ _ _ _ h2]; rfl
  have f0 : w2.frozen? ⟨w.heap.size, 0, none⟩ = false := frozen_of h2
  have f1 : w2.frozen? ⟨w.heap.size, 1, none⟩ = false := frozen_of h2
  have H2 := Lib.hid h2
  have HK := Lib.hid (hk1.trans hk2)
  clear hk1 hk2 h2 hR hb
  cases hto : Rw.to t k 48 q with
  | none =>
    have HO := Lib.hid hto
    clear hto
    unfold ans tgt
    simp only
    go_wp2
    refine bodyPost_ret (res_two rfl _ 0 0 H2.out rfl) rfl ⟨?_, HK.out.two _ _⟩
    rw [HO.out]
    rfl
  | some x =>
    have HO := Lib.hid hto
    clear hto
    unfold ans tgt
    simp only
    go_wp2
    refine bodyPost_ret (res_two rfl _ x 0 H2.out rfl) rfl ⟨?_, HK.out.two _ _⟩
    rw [HO.out]
    rfl
theorem m94_any (s : ByteArray) (k m : Nat) (w : World) (hT : Tabs w) (hm : mayB s = true) (hk : k ≤ (rs s).length) (hc : m ≤ 999) :
    Calls Tryz.prog 57 #[.string s, .int .i64 k, .int .i64 94, .int .i64 m] w fun e w' => e = .returned (ans (Rw.to (rs s) k 94 m) 0) ∧ Kept (fun _ => False) w w' := by
  have hT1 : Tabs (w.alloc zeroT) := hT.kept ((Kept.refl (fun _ => False) w).alloc _) id id
  have cU := runes_yes s k (w.alloc zeroT) hT1 hm hk
  have hl := rs_len s
  have hsz := mayB_size hm
  have hry := rs_runey (mayB_valid hm)
  have hto : Rw.to (rs s) k 94 m = Rw.to (rs s) k 94 (max m 1) := rfl
  rw [hto]
  clear hto
  have b1 : decide ((m : Int) < 0) = false := by simp
  have b2 : decide (999 < (m : Int)) = false := by simp; omega
  have hq : max (m : Int) 1 = ((max m 1 : Nat) : Int) := by omega
  have hq1 : 1 ≤ max m 1 ∧ max m 1 ≤ 1000 := by omega
  generalize max m 1 = q at *
  obtain ⟨hq1, hq2⟩ := hq1
  have hb : Hid ((w.alloc zeroT).heap[w.heap.size]? = some zeroT) := heap_alloc_new w _
  have hbs : w.heap.size < (w.alloc zeroT).heap.size := by simp
  generalize rs s = t at *
  clear hT hm hT1
  go_enter Tryz.func57, Tryz.ntmps57
  go_wp2_with (go_at_call 34; refine cU.mono ?_; rintro e w1 ⟨hk1, b, cap, rfl, hbg, hR⟩)
  clear cU
  have cW := w94_any (m := q) (c := cap) hR hry hk (by omega) hq2 hq1
  refine cW.mono ?_
  rintro e w2 ⟨rfl, hk2⟩
  clear cW
  have h2 : w2.heap[w.heap.size]? = some zeroT := ((hk2.block _ (Nat.lt_of_lt_of_le hbs hk1.size) id).trans (hk1.block _ hbs id)).trans hb.out
  have c0 : w2.cell? ⟨w.heap.size, 0, none⟩ = some (.int .i64 0) := by rw [cell_of_row _ _ _ _ _ _ h2]; rfl
  have c1 : w2.cell? ⟨w.heap.size, 1, none⟩ = some (.int .i64 0) := by rw [cell_of_row _ _ _ _ _ _ h2]; rfl
  have f0 : w2.frozen? ⟨w.heap.size, 0, none⟩ = false := frozen_of h2
  have f1 : w2.frozen? ⟨w.heap.size, 1, none⟩ = false := frozen_of h2
  have H2 := Lib.hid h2
  have HK := Lib.hid (hk1.trans hk2)
  clear hk1 hk2 h2 hR hb
  cases hto : Rw.to t k 94 q with
  | none =>
    have HO := Lib.hid hto
    clear hto
    unfold ans tgt
    simp only
    go_wp2
    refine bodyPost_ret (res_two rfl _ 0 0 H2.out rfl) rfl ⟨?_, HK.out.two _ _⟩
    rw [HO.out]
    rfl
  | some x =>
    have HO := Lib.hid hto
    clear hto
    unfold ans tgt
    simp only
    go_wp2
    refine bodyPost_ret (res_two rfl _ x 0 H2.out rfl) rfl ⟨?_, HK.out.two _ _⟩
    rw [HO.out]
    rfl
theorem m36_any (s : ByteArray) (k m : Nat) (w : World) (hT : Tabs w) (hm : mayB s = true) (hk : k ≤ (rs s).length) (hc : m ≤ 999) :
    Calls Tryz.prog 57 #[.string s, .int .i64 k, .int .i64 36, .int .i64 m] w fun e w' => e = .returned (ans (Rw.to (rs s) k 36 m) 1) ∧ Kept (fun _ => False) w w' := by
  have hT1 : Tabs (w.alloc zeroT) := hT.kept ((Kept.refl (fun _ => False) w).alloc _) id id
  have cU := runes_yes s k (w.alloc zeroT) hT1 hm hk
  have hl := rs_len s
  have hsz := mayB_size hm
  have hry := rs_runey (mayB_valid hm)
  have hto : Rw.to (rs s) k 36 m = Rw.to (rs s) k 36 (max m 1) := by unfold Rw.to; simp [show max (max m 1) 1 = max m 1 by omega]
  rw [hto]
  clear hto
  have b1 : decide ((m : Int) < 0) = false := by simp
  have b2 : decide (999 < (m : Int)) = false := by simp; omega
  have hq : max (m : Int) 1 = ((max m 1 : Nat) : Int) := by omega
  have hq1 : 1 ≤ max m 1 ∧ max m 1 ≤ 1000 := by omega
  generalize max m 1 = q at *
  obtain ⟨hq1, hq2⟩ := hq1
  have hb : Hid ((w.alloc zeroT).heap[w.heap.size]? = some zeroT) := heap_alloc_new w _
  have hbs : w.heap.size < (w.alloc zeroT).heap.size := by simp
  generalize rs s = t at *
  clear hT hm hT1
  go_enter Tryz.func57, Tryz.ntmps57
  go_wp2_with (go_at_call 34; refine cU.mono ?_; rintro e w1 ⟨hk1, b, cap, rfl, hbg, hR⟩)
  clear cU
  have cW := a36_any (m := q) (c := cap) hR hry hk (by omega) hq2 hq1
  refine cW.mono ?_
  rintro e w2 ⟨rfl, hk2⟩
  clear cW
  have h2 : w2.heap[w.heap.size]? = some zeroT := ((hk2.block _ (Nat.lt_of_lt_of_le hbs hk1.size) id).trans (hk1.block _ hbs id)).trans hb.out
  have c0 : w2.cell? ⟨w.heap.size, 0, none⟩ = some (.int .i64 0) := by rw [cell_of_row _ _ _ _ _ _ h2]; rfl
  have c1 : w2.cell? ⟨w.heap.size, 1, none⟩ = some (.int .i64 0) := by rw [cell_of_row _ _ _ _ _ _ h2]; rfl
  have f0 : w2.frozen? ⟨w.heap.size, 0, none⟩ = false := frozen_of h2
  have f1 : w2.frozen? ⟨w.heap.size, 1, none⟩ = false := frozen_of h2
  have H2 := Lib.hid h2
  have HK := Lib.hid (hk1.trans hk2)
  clear hk1 hk2 h2 hR hb
  cases hto : Rw.to t k 36 q with
  | none =>
    have HO := Lib.hid hto
    clear hto
    unfold ans tgt
    simp only
    go_wp2
    refine bodyPost_ret (res_two rfl _ 0 0 H2.out rfl) rfl ⟨?_, HK.out.two _ _⟩
    rw [HO.out]
    rfl
  | some x =>
    have HO := Lib.hid hto
    clear hto
    unfold ans tgt
    simp only
    go_wp2
    refine bodyPost_ret (res_two rfl _ x 1 H2.out rfl) rfl ⟨?_, HK.out.two _ _⟩
    rw [HO.out]
    rfl
theorem m106_any (s : ByteArray) (k m : Nat) (w : World) (hT : Tabs w) (hm : mayB s = true) (hk : k ≤ (rs s).length) (hc : m ≤ 999) :
    Calls Tryz.prog 57 #[.string s, .int .i64 k, .int .i64 106, .int .i64 m] w fun e w' => e = .returned (ans (Rw.to (rs s) k 106 m) 2) ∧ Kept (fun _ => False) w w' := by
  have hT1 : Tabs (w.alloc zeroT) := hT.kept ((Kept.refl (fun _ => False) w).alloc _) id id
  have cU := runes_yes s k (w.alloc zeroT) hT1 hm hk
  have hl := rs_len s
  have hsz := mayB_size hm
  have hry := rs_runey (mayB_valid hm)
  have hto : Rw.to (rs s) k 106 m = Rw.to (rs s) k 106 (max m 1) := by unfold Rw.to; simp [show max (max m 1) 1 = max m 1 by omega]
  rw [hto]
  clear hto
  have b1 : decide ((m : Int) < 0) = false := by simp
  have b2 : decide (999 < (m : Int)) = false := by simp; omega
  have hq : max (m : Int) 1 = ((max m 1 : Nat) : Int) := by omega
  have hq1 : 1 ≤ max m 1 ∧ max m 1 ≤ 1000 := by omega
  generalize max m 1 = q at *
  obtain ⟨hq1, hq2⟩ := hq1
  have hb : Hid ((w.alloc zeroT).heap[w.heap.size]? = some zeroT) := heap_alloc_new w _
  have hbs : w.heap.size < (w.alloc zeroT).heap.size := by simp
  generalize rs s = t at *
  clear hT hm hT1
  go_enter Tryz.func57, Tryz.ntmps57
  go_wp2_with (go_at_call 34; refine cU.mono ?_; rintro e w1 ⟨hk1, b, cap, rfl, hbg, hR⟩)
  clear cU
  have cW := a106_any (m := q) (c := cap) hR hry hk (by omega) hq2 hq1
  refine cW.mono ?_
  rintro e w2 ⟨rfl, hk2⟩
  clear cW
  have h2 : w2.heap[w.heap.size]? = some zeroT := ((hk2.block _ (Nat.lt_of_lt_of_le hbs hk1.size) id).trans (hk1.block _ hbs id)).trans hb.out
  have c0 : w2.cell? ⟨w.heap.size, 0, none⟩ = some (.int .i64 0) := by rw [cell_of_row _ _ _ _ _ _ h2]; rfl
  have c1 : w2.cell? ⟨w.heap.size, 1, none⟩ = some (.int .i64 0) := by rw [cell_of_row _ _ _ _ _ _ h2]; rfl
  have f0 : w2.frozen? ⟨w.heap.size, 0, none⟩ = false := frozen_of h2
  have f1 : w2.frozen? ⟨w.heap.size, 1, none⟩ = false := frozen_of h2
  have H2 := Lib.hid h2
  have HK := Lib.hid (hk1.trans hk2)
  clear hk1 hk2 h2 hR hb
  cases hto : Rw.to t k 106 q with
  | none =>
    have HO := Lib.hid hto
    clear hto
    unfold ans tgt
    simp only
    go_wp2
    refine bodyPost_ret (res_two rfl _ 0 0 H2.out rfl) rfl ⟨?_, HK.out.two _ _⟩
    rw [HO.out]
    rfl
  | some x =>
    have HO := Lib.hid hto
    clear hto
    unfold ans tgt
    simp only
    go_wp2
    refine bodyPost_ret (res_two rfl _ x 2 H2.out rfl) rfl ⟨?_, HK.out.two _ _⟩
    rw [HO.out]
    rfl
theorem m107_any (s : ByteArray) (k m : Nat) (w : World) (hT : Tabs w) (hm : mayB s = true) (hk : k ≤ (rs s).length) (hc : m ≤ 999) :
    Calls Tryz.prog 57 #[.string s, .int .i64 k, .int .i64 107, .int .i64 m] w fun e w' => e = .returned (ans (Rw.to (rs s) k 107 m) 2) ∧ Kept (fun _ => False) w w' := by
  have hT1 : Tabs (w.alloc zeroT) := hT.kept ((Kept.refl (fun _ => False) w).alloc _) id id
  have cU := runes_yes s k (w.alloc zeroT) hT1 hm hk
  have hl := rs_len s
  have hsz := mayB_size hm
  have hry := rs_runey (mayB_valid hm)
  have hto : Rw.to (rs s) k 107 m = Rw.to (rs s) k 107 (max m 1) := by unfold Rw.to; simp [show max (max m 1) 1 = max m 1 by omega]
  rw [hto]
  clear hto
  have b1 : decide ((m : Int) < 0) = false := by simp
  have b2 : decide (999 < (m : Int)) = false := by simp; omega
  have hq : max (m : Int) 1 = ((max m 1 : Nat) : Int) := by omega
  have hq1 : 1 ≤ max m 1 ∧ max m 1 ≤ 1000 := by omega
  generalize max m 1 = q at *
  obtain ⟨hq1, hq2⟩ := hq1
  have hb : Hid ((w.alloc zeroT).heap[w.heap.size]? = some zeroT) := heap_alloc_new w _
  have hbs : w.heap.size < (w.alloc zeroT).heap.size := by simp
  generalize rs s = t at *
  clear hT hm hT1
  go_enter Tryz.func57, Tryz.ntmps57
  go_wp2_with (go_at_call 34; refine cU.mono ?_; rintro e w1 ⟨hk1, b, cap, rfl, hbg, hR⟩)
  clear cU
  have cW := a107_any (m := q) (c := cap) hR hry hk (by omega) hq2 hq1
  refine cW.mono ?_
  rintro e w2 ⟨rfl, hk2⟩
  clear cW
  have h2 : w2.heap[w.heap.size]? = some zeroT := ((hk2.block _ (Nat.lt_of_lt_of_le hbs hk1.size) id).trans (hk1.block _ hbs id)).trans hb.out
  have c0 : w2.cell? ⟨w.heap.size, 0, none⟩ = some (.int .i64 0) := by rw [cell_of_row _ _ _ _ _ _ h2]; rfl
  have c1 : w2.cell? ⟨w.heap.size, 1, none⟩ = some (.int .i64 0) := by rw [cell_of_row _ _ _ _ _ _ h2]; rfl
  have f0 : w2.frozen? ⟨w.heap.size, 0, none⟩ = false := frozen_of h2
  have f1 : w2.frozen? ⟨w.heap.size, 1, none⟩ = false := frozen_of h2
  have H2 := Lib.hid h2
  have HK := Lib.hid (hk1.trans hk2)
  clear hk1 hk2 h2 hR hb
  cases hto : Rw.to t k 107 q with
  | none =>
    have HO := Lib.hid hto
    clear hto
    unfold ans tgt
    simp only
    go_wp2
    refine bodyPost_ret (res_two rfl _ 0 0 H2.out rfl) rfl ⟨?_, HK.out.two _ _⟩
    rw [HO.out]
    rfl
  | some x =>
    have HO := Lib.hid hto
    clear hto
    unfold ans tgt
    simp only
    go_wp2
    refine bodyPost_ret (res_two rfl _ x 2 H2.out rfl) rfl ⟨?_, HK.out.two _ _⟩
    rw [HO.out]
    rfl
theorem m43_any (s : ByteArray) (k m : Nat) (w : World) (hT : Tabs w) (hm : mayB s = true) (hk : k ≤ (rs s).length) (hc : m ≤ 999) :
    Calls Tryz.prog 57 #[.string s, .int .i64 k, .int .i64 43, .int .i64 m] w fun e w' => e = .returned (ans (Rw.to (rs s) k 43 m) 2) ∧ Kept (fun _ => False) w w' := by
  have hT1 : Tabs (w.alloc zeroT) := hT.kept ((Kept.refl (fun _ => False) w).alloc _) id id
  have cU := runes_yes s k (w.alloc zeroT) hT1 hm hk
  have hl := rs_len s
  have hsz := mayB_size hm
  have hry := rs_runey (mayB_valid hm)
  have hto : Rw.to (rs s) k 43 m = Rw.to (rs s) k 43 (max m 1) := by unfold Rw.to; simp [show max (max m 1) 1 = max m 1 by omega]
  rw [hto]
  clear hto
  have b1 : decide ((m : Int) < 0) = false := by simp
  have b2 : decide (999 < (m : Int)) = false := by simp; omega
  have hq : max (m : Int) 1 = ((max m 1 : Nat) : Int) := by omega
  have hq1 : 1 ≤ max m 1 ∧ max m 1 ≤ 1000 := by omega
  generalize max m 1 = q at *
  obtain ⟨hq1, hq2⟩ := hq1
  have hb : Hid ((w.alloc zeroT).heap[w.heap.size]? = some zeroT) := heap_alloc_new w _
  have hbs : w.heap.size < (w.alloc zeroT).heap.size := by simp
  generalize rs s = t at *
  clear hT hm hT1
  go_enter Tryz.func57, Tryz.ntmps57
  go_wp2_with (go_at_call 34; refine cU.mono ?_; rintro e w1 ⟨hk1, b, cap, rfl, hbg, hR⟩)
  clear cU
  have cW := a43_any (m := q) (c := cap) hR hry hk (by omega) hq2 hq1
  refine cW.mono ?_
  rintro e w2 ⟨rfl, hk2⟩
  clear cW
  have h2 : w2.heap[w.heap.size]? = some zeroT := ((hk2.block _ (Nat.lt_of_lt_of_le hbs hk1.size) id).trans (hk1.block _ hbs id)).trans hb.out
  have c0 : w2.cell? ⟨w.heap.size, 0, none⟩ = some (.int .i64 0) := by rw [cell_of_row _ _ _ _ _ _ h2]; rfl
  have c1 : w2.cell? ⟨w.heap.size, 1, none⟩ = some (.int .i64 0) := by rw [cell_of_row _ _ _ _ _ _ h2]; rfl
  have f0 : w2.frozen? ⟨w.heap.size, 0, none⟩ = false := frozen_of h2
  have f1 : w2.frozen? ⟨w.heap.size, 1, none⟩ = false := frozen_of h2
  have H2 := Lib.hid h2
  have HK := Lib.hid (hk1.trans hk2)
  clear hk1 hk2 h2 hR hb
  cases hto : Rw.to t k 43 q with
  | none =>
    have HO := Lib.hid hto
    clear hto
    unfold ans tgt
    simp only
    go_wp2
    refine bodyPost_ret (res_two rfl _ 0 0 H2.out rfl) rfl ⟨?_, HK.out.two _ _⟩
    rw [HO.out]
    rfl
  | some x =>
    have HO := Lib.hid hto
    clear hto
    unfold ans tgt
    simp only
    go_wp2
    refine bodyPost_ret (res_two rfl _ x 2 H2.out rfl) rfl ⟨?_, HK.out.two _ _⟩
    rw [HO.out]
    rfl
theorem m45_any (s : ByteArray) (k m : Nat) (w : World) (hT : Tabs w) (hm : mayB s = true) (hk : k ≤ (rs s).length) (hc : m ≤ 999) :
    Calls Tryz.prog 57 #[.string s, .int .i64 k, .int .i64 45, .int .i64 m] w fun e w' => e = .returned (ans (Rw.to (rs s) k 45 m) 2) ∧ Kept (fun _ => False) w w' := by
  have hT1 : Tabs (w.alloc zeroT) := hT.kept ((Kept.refl (fun _ => False) w).alloc _) id id
  have cU := runes_yes s k (w.alloc zeroT) hT1 hm hk
  have hl := rs_len s
  have hsz := mayB_size hm
  have hry := rs_runey (mayB_valid hm)
  have hto : Rw.to (rs s) k 45 m = Rw.to (rs s) k 45 (max m 1) := by unfold Rw.to; simp [show max (max m 1) 1 = max m 1 by omega]
  rw [hto]
  clear hto
  have b1 : decide ((m : Int) < 0) = false := by simp
  have b2 : decide (999 < (m : Int)) = false := by simp; omega
  have hq : max (m : Int) 1 = ((max m 1 : Nat) : Int) := by omega
  have hq1 : 1 ≤ max m 1 ∧ max m 1 ≤ 1000 := by omega
  generalize max m 1 = q at *
  obtain ⟨hq1, hq2⟩ := hq1
  have hb : Hid ((w.alloc zeroT).heap[w.heap.size]? = some zeroT) := heap_alloc_new w _
  have hbs : w.heap.size < (w.alloc zeroT).heap.size := by simp
  generalize rs s = t at *
  clear hT hm hT1
  go_enter Tryz.func57, Tryz.ntmps57
  go_wp2_with (go_at_call 34; refine cU.mono ?_; rintro e w1 ⟨hk1, b, cap, rfl, hbg, hR⟩)
  clear cU
  have cW := a45_any (m := q) (c := cap) hR hry hk (by omega) hq2 hq1
  refine cW.mono ?_
  rintro e w2 ⟨rfl, hk2⟩
  clear cW
  have h2 : w2.heap[w.heap.size]? = some zeroT := ((hk2.block _ (Nat.lt_of_lt_of_le hbs hk1.size) id).trans (hk1.block _ hbs id)).trans hb.out
  have c0 : w2.cell? ⟨w.heap.size, 0, none⟩ = some (.int .i64 0) := by rw [cell_of_row _ _ _ _ _ _ h2]; rfl
  have c1 : w2.cell? ⟨w.heap.size, 1, none⟩ = some (.int .i64 0) := by rw [cell_of_row _ _ _ _ _ _ h2]; rfl
  have f0 : w2.frozen? ⟨w.heap.size, 0, none⟩ = false := frozen_of h2
  have f1 : w2.frozen? ⟨w.heap.size, 1, none⟩ = false := frozen_of h2
  have H2 := Lib.hid h2
  have HK := Lib.hid (hk1.trans hk2)
  clear hk1 hk2 h2 hR hb
  cases hto : Rw.to t k 45 q with
  | none =>
    have HO := Lib.hid hto
    clear hto
    unfold ans tgt
    simp only
    go_wp2
    refine bodyPost_ret (res_two rfl _ 0 0 H2.out rfl) rfl ⟨?_, HK.out.two _ _⟩
    rw [HO.out]
    rfl
  | some x =>
    have HO := Lib.hid hto
    clear hto
    unfold ans tgt
    simp only
    go_wp2
    refine bodyPost_ret (res_two rfl _ x 2 H2.out rfl) rfl ⟨?_, HK.out.two _ _⟩
    rw [HO.out]
    rfl
theorem m95_any (s : ByteArray) (k m : Nat) (w : World) (hT : Tabs w) (hm : mayB s = true) (hk : k ≤ (rs s).length) (hc : m ≤ 999) :
    Calls Tryz.prog 57 #[.string s, .int .i64 k, .int .i64 95, .int .i64 m] w fun e w' => e = .returned (ans (Rw.to (rs s) k 95 m) 2) ∧ Kept (fun _ => False) w w' := by
  have hT1 : Tabs (w.alloc zeroT) := hT.kept ((Kept.refl (fun _ => False) w).alloc _) id id
  have cU := runes_yes s k (w.alloc zeroT) hT1 hm hk
  have hl := rs_len s
  have hsz := mayB_size hm
  have hry := rs_runey (mayB_valid hm)
  have hto : Rw.to (rs s) k 95 m = Rw.to (rs s) k 95 (max m 1) := by unfold Rw.to; simp [show max (max m 1) 1 = max m 1 by omega]
  rw [hto]
  clear hto
  have b1 : decide ((m : Int) < 0) = false := by simp
  have b2 : decide (999 < (m : Int)) = false := by simp; omega
  have hq : max (m : Int) 1 = ((max m 1 : Nat) : Int) := by omega
  have hq1 : 1 ≤ max m 1 ∧ max m 1 ≤ 1000 := by omega
  generalize max m 1 = q at *
  obtain ⟨hq1, hq2⟩ := hq1
  have hb : Hid ((w.alloc zeroT).heap[w.heap.size]? = some zeroT) := heap_alloc_new w _
  have hbs : w.heap.size < (w.alloc zeroT).heap.size := by simp
  generalize rs s = t at *
  clear hT hm hT1
  go_enter Tryz.func57, Tryz.ntmps57
  go_wp2_with (go_at_call 34; refine cU.mono ?_; rintro e w1 ⟨hk1, b, cap, rfl, hbg, hR⟩)
  clear cU
  have cW := a95_any (m := q) (c := cap) hR hry hk (by omega) hq2 hq1
  refine cW.mono ?_
  rintro e w2 ⟨rfl, hk2⟩
  clear cW
  have h2 : w2.heap[w.heap.size]? = some zeroT := ((hk2.block _ (Nat.lt_of_lt_of_le hbs hk1.size) id).trans (hk1.block _ hbs id)).trans hb.out
  have c0 : w2.cell? ⟨w.heap.size, 0, none⟩ = some (.int .i64 0) := by rw [cell_of_row _ _ _ _ _ _ h2]; rfl
  have c1 : w2.cell? ⟨w.heap.size, 1, none⟩ = some (.int .i64 0) := by rw [cell_of_row _ _ _ _ _ _ h2]; rfl
  have f0 : w2.frozen? ⟨w.heap.size, 0, none⟩ = false := frozen_of h2
  have f1 : w2.frozen? ⟨w.heap.size, 1, none⟩ = false := frozen_of h2
  have H2 := Lib.hid h2
  have HK := Lib.hid (hk1.trans hk2)
  clear hk1 hk2 h2 hR hb
  cases hto : Rw.to t k 95 q with
  | none =>
    have HO := Lib.hid hto
    clear hto
    unfold ans tgt
    simp only
    go_wp2
    refine bodyPost_ret (res_two rfl _ 0 0 H2.out rfl) rfl ⟨?_, HK.out.two _ _⟩
    rw [HO.out]
    rfl
  | some x =>
    have HO := Lib.hid hto
    clear hto
    unfold ans tgt
    simp only
    go_wp2
    refine bodyPost_ret (res_two rfl _ x 2 H2.out rfl) rfl ⟨?_, HK.out.two _ _⟩
    rw [HO.out]
    rfl
theorem m71_any (s : ByteArray) (k m : Nat) (w : World) (hT : Tabs w) (hm : mayB s = true) (hk : k ≤ (rs s).length) (hc : m ≤ 999) :
    Calls Tryz.prog 57 #[.string s, .int .i64 k, .int .i64 71, .int .i64 m] w fun e w' => e = .returned (ans (Rw.to (rs s) k 71 m) 2) ∧ Kept (fun _ => False) w w' := by
  have hT1 : Tabs (w.alloc zeroT) := hT.kept ((Kept.refl (fun _ => False) w).alloc _) id id
  have cU := runes_yes s k (w.alloc zeroT) hT1 hm hk
  have hl := rs_len s
  have hsz := mayB_size hm
  have hry := rs_runey (mayB_valid hm)
  have b1 : decide ((m : Int) < 0) = false := by simp
  have b2 : decide (999 < (m : Int)) = false := by simp; omega
  have hq : max (m : Int) 1 = ((max m 1 : Nat) : Int) := by omega
  have hq1 : 1 ≤ max m 1 ∧ max m 1 ≤ 1000 := by omega
  generalize max m 1 = q at *
  obtain ⟨hq1, hq2⟩ := hq1
  have hb : Hid ((w.alloc zeroT).heap[w.heap.size]? = some zeroT) := heap_alloc_new w _
  have hbs : w.heap.size < (w.alloc zeroT).heap.size := by simp
  generalize rs s = t at *
  clear hT hm hT1
  go_enter Tryz.func57, Tryz.ntmps57
  go_wp2_with (go_at_call 34; refine cU.mono ?_; rintro e w1 ⟨hk1, b, cap, rfl, hbg, hR⟩)
  clear cU
  have cW := numbered_any (k := t.length) (m := m) (c := cap) hR hry (by omega) (by omega) (by omega)
  refine cW.mono ?_
  rintro e w2 ⟨rfl, hk2⟩
  clear cW
  have h2 : w2.heap[w.heap.size]? = some zeroT := ((hk2.block _ (Nat.lt_of_lt_of_le hbs hk1.size) id).trans (hk1.block _ hbs id)).trans hb.out
  have c0 : w2.cell? ⟨w.heap.size, 0, none⟩ = some (.int .i64 0) := by rw [cell_of_row _ _ _ _ _ _ h2]; rfl
  have c1 : w2.cell? ⟨w.heap.size, 1, none⟩ = some (.int .i64 0) := by rw [cell_of_row _ _ _ _ _ _ h2]; rfl
  have f0 : w2.frozen? ⟨w.heap.size, 0, none⟩ = false := frozen_of h2
  have f1 : w2.frozen? ⟨w.heap.size, 1, none⟩ = false := frozen_of h2
  have H2 := Lib.hid h2
  have HK := Lib.hid (hk1.trans hk2)
  clear hk1 hk2 h2 hR hb
  have hto : Hid (Rw.to t k 71 m = some (if m = 0 then Rw.fst t t.length else Rw.nth t m)) := by show _ = _; unfold Rw.to; simp
  generalize (if m = 0 then Rw.fst t t.length else Rw.nth t m) = x at *
  unfold tgt
  go_wp2
  refine bodyPost_ret (res_two rfl _ x 2 H2.out rfl) rfl ⟨?_, HK.out.two _ _⟩
  rw [hto.out]
  rfl
theorem m16777319_any (s : ByteArray) (k m : Nat) (w : World) (hT : Tabs w) (hm : mayB s = true) (hk : k ≤ (rs s).length) (hc : m ≤ 999) :
    Calls Tryz.prog 57 #[.string s, .int .i64 k, .int .i64 16777319, .int .i64 m] w fun e w' => e = .returned (ans (Rw.to (rs s) k 16777319 m) 2) ∧ Kept (fun _ => False) w w' := by
  have hT1 : Tabs (w.alloc zeroT) := hT.kept ((Kept.refl (fun _ => False) w).alloc _) id id
  have cU := runes_yes s k (w.alloc zeroT) hT1 hm hk
  have hl := rs_len s
  have hsz := mayB_size hm
  have hry := rs_runey (mayB_valid hm)
  have b1 : decide ((m : Int) < 0) = false := by simp
  have b2 : decide (999 < (m : Int)) = false := by simp; omega
  have hq : max (m : Int) 1 = ((max m 1 : Nat) : Int) := by omega
  have hq1 : 1 ≤ max m 1 ∧ max m 1 ≤ 1000 := by omega
  generalize max m 1 = q at *
  obtain ⟨hq1, hq2⟩ := hq1
  have hb : Hid ((w.alloc zeroT).heap[w.heap.size]? = some zeroT) := heap_alloc_new w _
  have hbs : w.heap.size < (w.alloc zeroT).heap.size := by simp
  generalize rs s = t at *
  clear hT hm hT1
  go_enter Tryz.func57, Tryz.ntmps57
  go_wp2_with (go_at_call 34; refine cU.mono ?_; rintro e w1 ⟨hk1, b, cap, rfl, hbg, hR⟩)
  clear cU
  have cW := numbered_any (k := 0) (m := m) (c := cap) hR hry (by omega) (by omega) (by omega)
  refine cW.mono ?_
  rintro e w2 ⟨rfl, hk2⟩
  clear cW
  have h2 : w2.heap[w.heap.size]? = some zeroT := ((hk2.block _ (Nat.lt_of_lt_of_le hbs hk1.size) id).trans (hk1.block _ hbs id)).trans hb.out
  have c0 : w2.cell? ⟨w.heap.size, 0, none⟩ = some (.int .i64 0) := by rw [cell_of_row _ _ _ _ _ _ h2]; rfl
  have c1 : w2.cell? ⟨w.heap.size, 1, none⟩ = some (.int .i64 0) := by rw [cell_of_row _ _ _ _ _ _ h2]; rfl
  have f0 : w2.frozen? ⟨w.heap.size, 0, none⟩ = false := frozen_of h2
  have f1 : w2.frozen? ⟨w.heap.size, 1, none⟩ = false := frozen_of h2
  have H2 := Lib.hid h2
  have HK := Lib.hid (hk1.trans hk2)
  clear hk1 hk2 h2 hR hb
  have hto : Hid (Rw.to t k 16777319 m = some (if m = 0 then Rw.fst t 0 else Rw.nth t m)) := by show _ = _; unfold Rw.to; simp
  generalize (if m = 0 then Rw.fst t 0 else Rw.nth t m) = x at *
  unfold tgt
  go_wp2
  refine bodyPost_ret (res_two rfl _ x 2 H2.out rfl) rfl ⟨?_, HK.out.two _ _⟩
  rw [hto.out]
  rfl
theorem move_no (s : ByteArray) (k key m : Int) (w : World) (hs : s.size ≤ 140737488351232) (hT : Tabs w) (hno : ¬ ((mayB s = true ∧ 0 ≤ k ∧ k ≤ (rs s).length) ∧ 0 ≤ m ∧ m ≤ 999)) :
    Calls Tryz.prog 57 #[.string s, .int .i64 k, .int .i64 key, .int .i64 m] w fun e w' => e = .returned (.tuple #[tgt 0 0, .int .i64 1]) ∧ Kept (fun _ => False) w w' := by
  have hT1 : Tabs (w.alloc zeroT) := hT.kept ((Kept.refl (fun _ => False) w).alloc _) id id
  have hb : Hid ((w.alloc zeroT).heap[w.heap.size]? = some zeroT) := heap_alloc_new w _
  have hbs : w.heap.size < (w.alloc zeroT).heap.size := by simp
  by_cases hy : mayB s = true ∧ 0 ≤ k ∧ k ≤ (rs s).length
  · obtain ⟨hm, h0, h1⟩ := hy
    obtain ⟨kk, rfl⟩ := Int.eq_ofNat_of_zero_le h0
    have cU := runes_yes s kk (w.alloc zeroT) hT1 hm (by omega)
    have hmm : m < 0 ∨ 999 < m := by
      by_cases h2 : 0 ≤ m
      · right
        by_cases h3 : m ≤ 999
        · exact absurd ⟨⟨hm, h0, h1⟩, h2, h3⟩ hno
        · omega
      · left; omega
    clear hT hm hT1 hno h0 h1
    generalize rs s = t at *
    rcases hmm with h1 | h1
    case' inl => have b1 : decide (m < 0) = true := by simp; omega
    case' inr =>
      have b1 : decide (m < 0) = false := by simp; omega
      have b2 : decide (999 < m) = true := by simp; omega
    all_goals
      go_enter Tryz.func57, Tryz.ntmps57
      go_wp2_with (go_at_call 34; refine cU.mono ?_; rintro e w2 ⟨hk2, b, cap, rfl, hbg, hR⟩; have h2 : w2.heap[w.heap.size]? = some zeroT := (hk2.block _ hbs id).trans hb.out; have c0 : w2.cell? ⟨w.heap.size, 0, none⟩ = some (.int .i64 0) := (by rw [cell_of_row _ _ _ _ _ _ h2]; rfl); have c1 : w2.cell? ⟨w.heap.size, 1, none⟩ = some (.int .i64 0) := (by rw [cell_of_row _ _ _ _ _ _ h2]; rfl); have f0 : w2.frozen? ⟨w.heap.size, 0, none⟩ = false := frozen_of h2; have f1 : w2.frozen? ⟨w.heap.size, 1, none⟩ = false := frozen_of h2; have H2 := Lib.hid h2; have HK := Lib.hid hk2; clear hk2 h2 hR)
      exact bodyPost_ret (res_two rfl _ 0 0 H2.out rfl) rfl ⟨rfl, HK.out.two _ _⟩
  · have cU := runes_no s k (w.alloc zeroT) hs hT1 hy
    clear hT hT1 hno hy
    go_enter Tryz.func57, Tryz.ntmps57
    go_wp2_with (go_at_call 34; refine cU.mono ?_; rintro e w2 ⟨hk2, rfl⟩; have h2 : w2.heap[w.heap.size]? = some zeroT := (hk2.block _ hbs id).trans hb.out; have c0 : w2.cell? ⟨w.heap.size, 0, none⟩ = some (.int .i64 0) := (by rw [cell_of_row _ _ _ _ _ _ h2]; rfl); have c1 : w2.cell? ⟨w.heap.size, 1, none⟩ = some (.int .i64 0) := (by rw [cell_of_row _ _ _ _ _ _ h2]; rfl); have f0 : w2.frozen? ⟨w.heap.size, 0, none⟩ = false := frozen_of h2; have f1 : w2.frozen? ⟨w.heap.size, 1, none⟩ = false := frozen_of h2; have H2 := Lib.hid h2; have HK := Lib.hid hk2; clear hk2 h2)
    exact bodyPost_ret (res_two rfl _ 0 0 H2.out rfl) rfl ⟨rfl, HK.out.two _ _⟩
theorem move_key (s : ByteArray) (k m : Nat) (key : Int) (w : World) (hT : Tabs w) (hm : mayB s = true) (hk : k ≤ (rs s).length) (hc : m ≤ 999) (hno : ¬ Rw.Line key) :
    Calls Tryz.prog 57 #[.string s, .int .i64 k, .int .i64 key, .int .i64 m] w fun e w' => e = .returned (.tuple #[tgt 0 0, .int .i64 1]) ∧ Kept (fun _ => False) w w' := by
  have hT1 : Tabs (w.alloc zeroT) := hT.kept ((Kept.refl (fun _ => False) w).alloc _) id id
  have hb : Hid ((w.alloc zeroT).heap[w.heap.size]? = some zeroT) := heap_alloc_new w _
  have hbs : w.heap.size < (w.alloc zeroT).heap.size := by simp
  have cU := runes_yes s k (w.alloc zeroT) hT1 hm hk
  have hsz := mayB_size hm
  have hl := rs_len s
  have b1 : decide ((m : Int) < 0) = false := by simp
  have b2 : decide (999 < (m : Int)) = false := by simp; omega
  have hq : max (m : Int) 1 = ((max m 1 : Nat) : Int) := by omega
  have hq1 : 1 ≤ max m 1 ∧ max m 1 ≤ 1000 := by omega
  generalize max m 1 = q at *
  have hne : ∀ a, Rw.Line a → (key == a) = false := fun a ha => by
    rw [beq_eq_false_iff_ne]
    rintro rfl
    exact hno ha
  have e0 := hne 104 (by decide)
  have e1 := hne 108 (by decide)
  have e2 := hne 48 (by decide)
  have e3 := hne 94 (by decide)
  have e4 := hne 36 (by decide)
  have e5 := hne 106 (by decide)
  have e6 := hne 107 (by decide)
  have e7 := hne 43 (by decide)
  have e8 := hne 45 (by decide)
  have e9 := hne 95 (by decide)
  have e10 := hne 71 (by decide)
  have e11 := hne 16777319 (by decide)
  clear hT hm hT1 hno hne
  generalize rs s = t at *
  go_enter Tryz.func57, Tryz.ntmps57
  go_wp2_with (go_at_call 34; refine cU.mono ?_; rintro e w2 ⟨hk2, b, cap, rfl, hbg, hR⟩; have h2 : w2.heap[w.heap.size]? = some zeroT := (hk2.block _ hbs id).trans hb.out; have c0 : w2.cell? ⟨w.heap.size, 0, none⟩ = some (.int .i64 0) := (by rw [cell_of_row _ _ _ _ _ _ h2]; rfl); have c1 : w2.cell? ⟨w.heap.size, 1, none⟩ = some (.int .i64 0) := (by rw [cell_of_row _ _ _ _ _ _ h2]; rfl); have f0 : w2.frozen? ⟨w.heap.size, 0, none⟩ = false := frozen_of h2; have f1 : w2.frozen? ⟨w.heap.size, 1, none⟩ = false := frozen_of h2; have H2 := Lib.hid h2; have HK := Lib.hid hk2; clear hk2 h2 hR)
  exact bodyPost_ret (res_two rfl _ 0 0 H2.out rfl) rfl ⟨rfl, HK.out.two _ _⟩
/-- Of whatever key of these. -/
theorem move_yes (s : ByteArray) (k m : Nat) (key : Int) (w : World) (hT : Tabs w) (hm : mayB s = true) (hk : k ≤ (rs s).length) (hc : m ≤ 999) (hl : Rw.Line key) :
    Calls Tryz.prog 57 #[.string s, .int .i64 k, .int .i64 key, .int .i64 m] w fun e w' => e = .returned (ans (Rw.to (rs s) k key m) (Rw.kd key)) ∧ Kept (fun _ => False) w w' := by
  rcases hl with rfl | rfl | rfl | rfl | rfl | rfl | rfl | rfl | rfl | rfl | rfl | rfl
  · exact m104_any s k m w hT hm hk hc
  · exact m108_any s k m w hT hm hk hc
  · exact m48_any s k m w hT hm hk hc
  · exact m94_any s k m w hT hm hk hc
  · exact m36_any s k m w hT hm hk hc
  · exact m106_any s k m w hT hm hk hc
  · exact m107_any s k m w hT hm hk hc
  · exact m43_any s k m w hT hm hk hc
  · exact m45_any s k m w hT hm hk hc
  · exact m95_any s k m w hT hm hk hc
  · exact m71_any s k m w hT hm hk hc
  · exact m16777319_any s k m w hT hm hk hc
end Go.Proofs.YtbofjefblhnkoaaGreatDoor
