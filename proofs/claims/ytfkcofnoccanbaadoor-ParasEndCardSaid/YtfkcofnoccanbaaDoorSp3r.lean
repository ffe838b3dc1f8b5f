/-
  ROWS OF RUNES: rows below and above, of the reference.
-/
import Derived.Test.YtfkcofnoccanbaaDoorSpk
set_option linter.unusedVariables false
namespace Go.Proofs.YtfkcofnoccanbaaDoor
open Go Go.RowKit

/-- What row tells of a maybe. -/
def rowOf (o : Option Nat) : Value := .int .i64 (match o with | none => -1 | some x => (x : Int))
/-- So many below. -/
theorem rdown_any (A : Option Addr) (n c : Nat) (t : List Int) (k m : Nat) (w : World) (hA : Rn w A n t) (hk : k ≤ n) (hn : n ≤ 100000) (hm : m ≤ 100000) :
    Calls Tryd.prog 34 #[.slice A n c, .int .i64 k, .int .i64 m] w fun e w' => e = .returned (rowOf (Rw.dn t k m)) ∧ w' = w := by
  have HA := Lib.hid hA
  have cE := fun (x : Nat) (hx : x ≤ n) => rend_any A n c t x w hA hx hn
  have cB := fun (x : Nat) (hx : x ≤ n) => rbegin_any A n c t x w hA hx hn
  have hl := hA.1
  have HL := Lib.hid hl
  clear hA hl
  generalize hD : Rw.dn t k m = D
  have HD := Lib.hid hD
  clear hD
  go_enter Tryd.func34, Tryd.ntmps34
  go_wp2
  go_loop [1, 2] (fun v u => ∃ x y : Nat, x ≤ n ∧ y ≤ m ∧ v = .int .i64 x ∧ u = .int .i64 y ∧ Rw.dn t x y = D) (fun _ u => (intOf u).toNat)
  case atStart => exact ⟨k, m, hk, Nat.le_refl _, rfl, rfl, HD.out⟩
  case round =>
    obtain ⟨x, y, hx, hy, rfl, rfl, hd⟩ := hrel
    have HX := Lib.hid hd
    clear hd
    by_cases h0 : y = 0
    · subst h0
      have cB' := cB x hx
      have HB : Hid (D = some (Rw.beg t x)) := HX.out.symm
      have hle := Rw.beg_le t x
      clear cE cB HX
      generalize Rw.beg t x = b at cB' HB hle
      go_wp2_with (go_at_call 29; refine cB'.mono ?_; rintro e w' ⟨rfl, rfl⟩)
      go_loop [1, 2] (fun v u => v = .int .i64 (b : Nat) ∧ u = .int .i64 ((0 : Nat) : Int)) (fun _ _ => 0)
      case atStart => exact ⟨rfl, rfl⟩
      case round =>
        obtain ⟨rfl, rfl⟩ := hrel
        go_wp2
        go_ret
        rw [HB.out]
        exact ⟨rfl, rfl⟩
    · obtain ⟨z, rfl⟩ : ∃ z, y = z + 1 := ⟨y - 1, by omega⟩
      clear h0
      have cE' := cE x hx
      have hle := Rw.en_le t x (by rw [HL.out]; exact hx)
      rw [HL.out] at hle
      have HE : Hid (D = if Rw.en t x = n then none else Rw.dn t (Rw.en t x + 1) z) := by
        show _ = _
        rw [← HX.out]
        show (if Rw.en t x = t.length then none else _) = _
        rw [HL.out]
      clear cE cB HX
      generalize Rw.en t x = e at cE' HE hle
      by_cases he : e = n
      · subst he
        have HE2 : Hid (D = none) := by show _ = _; rw [HE.out, if_pos rfl]
        clear HE
        go_wp2_with (go_at_call 30; refine cE'.mono ?_; rintro e w' ⟨rfl, rfl⟩)
        go_ret
        rw [HE2.out]
        exact ⟨rfl, rfl⟩
      · have b1 : ((e : Int) == (n : Int)) = false := by rw [beq_eq_false_iff_ne]; omega
        have b2 : (e == n) = false := by rw [beq_eq_false_iff_ne]; omega
        have HE2 : Hid (D = Rw.dn t (e + 1) z) := by show _ = _; rw [HE.out, if_neg he]
        clear HE
        have hlt : e < n := by omega
        clear he
        go_wp2_with (go_at_call 30; refine cE'.mono ?_; rintro e w' ⟨rfl, rfl⟩)
        go_round
        case rel => exact ⟨e + 1, z, by omega, by omega, by go_num, by go_num, HE2.out.symm⟩
        case measure => simp [intOf]
/-- So many above. -/
theorem rup_any (A : Option Addr) (n c : Nat) (t : List Int) (k m : Nat) (w : World) (hA : Rn w A n t) (hk : k ≤ n) (hn : n ≤ 100000) (hm : m ≤ 100000) (h1 : 1 ≤ m) :
    Calls Tryd.prog 34 #[.slice A n c, .int .i64 k, .int .i64 (-(m : Int))] w fun e w' => e = .returned (rowOf (Rw.up t k m)) ∧ w' = w := by
  have HA := Lib.hid hA
  have cB := fun (x : Nat) (hx : x ≤ n) => rbegin_any A n c t x w hA hx hn
  clear hA
  generalize hD : Rw.up t k m = D
  have HD := Lib.hid hD
  clear hD
  have cB' := cB k hk
  go_enter Tryd.func34, Tryd.ntmps34
  go_wp2
  go_loop [1, 2] (fun v u => v = .int .i64 (k : Nat) ∧ u = .int .i64 (-(m : Int))) (fun _ _ => 0)
  case atStart => exact ⟨rfl, rfl⟩
  case round =>
    obtain ⟨rfl, rfl⟩ := hrel
    go_wp2_with (go_at_call 29; refine cB'.mono ?_; rintro e w' ⟨rfl, rfl⟩)
    clear cB'
    go_loop [1, 2] (fun v u => ∃ x y : Nat, x ≤ n ∧ y ≤ m ∧ v = .int .i64 (Rw.beg t x : Nat) ∧ u = .int .i64 (-(y : Int)) ∧ Rw.up t x y = D) (fun _ u => (-(intOf u)).toNat)
    case atStart => exact ⟨k, m, hk, Nat.le_refl _, rfl, rfl, HD.out⟩
    case round =>
      obtain ⟨x, y, hx, hy, rfl, rfl, hd⟩ := hrel
      have HX := Lib.hid hd
      clear hd
      have hle := Rw.beg_le t x
      by_cases h0 : y = 0
      · subst h0
        have HB : Hid (D = some (Rw.beg t x)) := HX.out.symm
        clear cB HX
        generalize Rw.beg t x = b at HB hle ⊢
        go_wp2
        go_ret
        rw [HB.out]
        exact ⟨rfl, rfl⟩
      · obtain ⟨z, rfl⟩ : ∃ z, y = z + 1 := ⟨y - 1, by omega⟩
        clear h0
        have cB2 := cB (Rw.beg t x - 1) (by omega)
        have HE : Hid (D = if Rw.beg t x = 0 then none else Rw.up t (Rw.beg t x - 1) z) := HX.out.symm
        clear cB HX
        generalize Rw.beg t x = b at cB2 HE hle ⊢
        by_cases he : b = 0
        · subst he
          have HE2 : Hid (D = none) := by show _ = _; rw [HE.out, if_pos rfl]
          clear HE
          go_wp2
          go_ret
          rw [HE2.out]
          exact ⟨rfl, rfl⟩
        · obtain ⟨p, rfl⟩ : ∃ p, b = p + 1 := ⟨b - 1, by omega⟩
          have HE2 : Hid (D = Rw.up t p z) := by show _ = _; rw [HE.out, if_neg he]; rfl
          clear HE he
          rw [show p + 1 - 1 = p by omega] at cB2
          go_wp2_with (go_at_call 29; refine cB2.mono ?_; rintro e w' ⟨rfl, rfl⟩)
          go_round
          case rel => exact ⟨p, z, by omega, by omega, rfl, by go_num, HE2.out.symm⟩
          case measure => simp [intOf]; omega

end Go.Proofs.YtfkcofnoccanbaaDoor
