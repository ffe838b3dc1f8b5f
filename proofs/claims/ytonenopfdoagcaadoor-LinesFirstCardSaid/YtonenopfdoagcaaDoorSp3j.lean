/-
  ROWS OF RUNES: rows below and above, of the program and of the reference.
-/
import Derived.Test.YtonenopfdoagcaaDoorSp
set_option linter.unusedVariables false
namespace Go.Proofs.YtonenopfdoagcaaDoor
open Go Go.RowKit

/-- What row tells of a maybe. -/
def rowOf (o : Option Nat) : Value := .int .i64 (match o with | none => -1 | some x => (x : Int))
/-- The program's beside: the row so many below. -/
theorem down_any (A : Option Addr) (n c : Nat) (t : List Int) (k m : Nat) (w : World) (hA : Rn w A n t) (hk : k ≤ n) (hn : n ≤ 100000) (hm : m ≤ 100000) :
    Calls Tryd.prog 60 #[.slice A n c, .int .i64 k, .int .i64 m] w fun e w' => e = .returned (.tuple #[.int .i64 ((Rw.dn t k m).getD 0 : Nat), .bool (Rw.dn t k m).isSome]) ∧ w' = w := by
  have HA := Lib.hid hA
  have cR := fun (x : Nat) (hx : x ≤ n) => row_any A n c t x w hA hx hn
  have hl := hA.1
  have HL := Lib.hid hl
  clear hA hl
  have cR0 := cR k hk
  generalize hD : Rw.dn t k m = D
  have HD := Lib.hid hD
  clear hD
  go_enter Tryd.func60, Tryd.ntmps60
  go_wp2_with (go_at_call 49; refine cR0.mono ?_; rintro e w' ⟨rfl, rfl⟩)
  clear cR0
  go_loop [2, 8, 9] (fun u v h => ∃ x y : Nat, x ≤ n ∧ y ≤ m ∧ v = .int .i64 (Rw.beg t x : Nat) ∧ h = .int .i64 (Rw.en t x : Nat) ∧ u = .int .i64 y ∧ Rw.dn t x y = D) (fun u _ _ => (intOf u).toNat)
  case atStart => exact ⟨k, m, hk, Nat.le_refl _, rfl, rfl, rfl, HD.out⟩
  case round =>
    obtain ⟨x, y, hx, hy, rfl, rfl, rfl, hd⟩ := hrel
    have HX := Lib.hid hd
    clear hd
    have hle := Rw.en_le t x (by rw [HL.out]; exact hx)
    rw [HL.out] at hle
    have hle2 := Rw.beg_le t x
    by_cases h0 : y = 0
    · subst h0
      have HB : Hid (D = some (Rw.beg t x)) := HX.out.symm
      clear cR HX
      generalize Rw.beg t x = b at HB hle2 ⊢
      generalize Rw.en t x = h at hle ⊢
      go_wp2
      go_loop [2, 8] (fun u v => v = .int .i64 (b : Nat) ∧ u = .int .i64 ((0 : Nat) : Int)) (fun _ _ => 0)
      case atStart => exact ⟨rfl, rfl⟩
      case round =>
        obtain ⟨rfl, rfl⟩ := hrel
        go_wp2
        refine bodyPost_ret (v := .tuple #[.int .i64 (b : Nat), .bool true]) (by simp [results, Tryd.results60, go_sem]) rfl ⟨?_, rfl⟩
        rw [HB.out]
        rfl
    · obtain ⟨z, rfl⟩ : ∃ z, y = z + 1 := ⟨y - 1, by omega⟩
      clear h0
      have HE : Hid (D = if Rw.en t x = n then none else Rw.dn t (Rw.en t x + 1) z) := by
        show _ = _
        rw [← HX.out]
        show (if Rw.en t x = t.length then none else _) = _
        rw [HL.out]
      clear HX
      generalize Rw.beg t x = b at hle2 ⊢
      generalize Rw.en t x = e at HE hle ⊢
      by_cases he : e = n
      · subst he
        have HE2 : Hid (D = none) := by show _ = _; rw [HE.out, if_pos rfl]
        clear HE cR
        go_wp2
        refine bodyPost_ret (v := .tuple #[.int .i64 ((0 : Nat) : Int), .bool false]) (by simp [results, Tryd.results60, go_sem]) rfl ⟨?_, rfl⟩
        rw [HE2.out]
        rfl
      · have b1 : ((e : Int) == (n : Int)) = false := by rw [beq_eq_false_iff_ne]; omega
        have b2 : (e == n) = false := by rw [beq_eq_false_iff_ne]; omega
        have HE2 : Hid (D = Rw.dn t (e + 1) z) := by show _ = _; rw [HE.out, if_neg he]
        clear HE
        have hlt : e < n := by omega
        have cE' := cR (e + 1) (by omega)
        clear he cR
        go_wp2_with (go_at_call 49; refine cE'.mono ?_; rintro e w' ⟨rfl, rfl⟩)
        go_round
        case rel => exact ⟨e + 1, z, by omega, by omega, rfl, rfl, by go_num, HE2.out.symm⟩
        case measure => simp [intOf]
/-- The program's beside: the row so many above. -/
theorem up_any (A : Option Addr) (n c : Nat) (t : List Int) (k m : Nat) (w : World) (hA : Rn w A n t) (hk : k ≤ n) (hn : n ≤ 100000) (hm : m ≤ 100000) (h1 : 1 ≤ m) :
    Calls Tryd.prog 60 #[.slice A n c, .int .i64 k, .int .i64 (-(m : Int))] w fun e w' => e = .returned (.tuple #[.int .i64 ((Rw.up t k m).getD 0 : Nat), .bool (Rw.up t k m).isSome]) ∧ w' = w := by
  have HA := Lib.hid hA
  have cR := fun (x : Nat) (hx : x ≤ n) => row_any A n c t x w hA hx hn
  clear hA
  have cR0 := cR k hk
  generalize hD : Rw.up t k m = D
  have HD := Lib.hid hD
  clear hD
  go_enter Tryd.func60, Tryd.ntmps60
  go_wp2_with (go_at_call 49; refine cR0.mono ?_; rintro e w' ⟨rfl, rfl⟩)
  clear cR0
  go_loop [2, 8, 9] (fun u v h => v = .int .i64 (Rw.beg t k : Nat) ∧ u = .int .i64 (-(m : Int))) (fun _ _ _ => 0)
  case atStart => exact ⟨rfl, rfl⟩
  case round =>
    obtain ⟨rfl, rfl⟩ := hrel
    go_wp2
    go_loop [2, 8] (fun u v => ∃ x y : Nat, x ≤ n ∧ y ≤ m ∧ v = .int .i64 (Rw.beg t x : Nat) ∧ u = .int .i64 (-(y : Int)) ∧ Rw.up t x y = D) (fun u _ => (-(intOf u)).toNat)
    case atStart => exact ⟨k, m, hk, Nat.le_refl _, rfl, rfl, HD.out⟩
    case round =>
      obtain ⟨x, y, hx, hy, rfl, rfl, hd⟩ := hrel
      have HX := Lib.hid hd
      clear hd
      have hle := Rw.beg_le t x
      by_cases h0 : y = 0
      · subst h0
        have HB : Hid (D = some (Rw.beg t x)) := HX.out.symm
        clear cR HX
        generalize Rw.beg t x = b at HB hle ⊢
        go_wp2
        refine bodyPost_ret (v := .tuple #[.int .i64 (b : Nat), .bool true]) (by simp [results, Tryd.results60, go_sem]) rfl ⟨?_, rfl⟩
        rw [HB.out]
        rfl
      · obtain ⟨z, rfl⟩ : ∃ z, y = z + 1 := ⟨y - 1, by omega⟩
        clear h0
        have cB2 := cR (Rw.beg t x - 1) (by omega)
        have HE : Hid (D = if Rw.beg t x = 0 then none else Rw.up t (Rw.beg t x - 1) z) := HX.out.symm
        clear cR HX
        generalize Rw.beg t x = b at cB2 HE hle ⊢
        by_cases he : b = 0
        · subst he
          have HE2 : Hid (D = none) := by show _ = _; rw [HE.out, if_pos rfl]
          clear HE
          go_wp2
          refine bodyPost_ret (v := .tuple #[.int .i64 ((0 : Nat) : Int), .bool false]) (by simp [results, Tryd.results60, go_sem]) rfl ⟨?_, rfl⟩
          rw [HE2.out]
          rfl
        · obtain ⟨p, rfl⟩ : ∃ p, b = p + 1 := ⟨b - 1, by omega⟩
          have HE2 : Hid (D = Rw.up t p z) := by show _ = _; rw [HE.out, if_neg he]; rfl
          clear HE he
          rw [show p + 1 - 1 = p by omega] at cB2
          go_wp2_with (go_at_call 49; refine cB2.mono ?_; rintro e w' ⟨rfl, rfl⟩)
          go_round
          case rel => exact ⟨p, z, by omega, by omega, rfl, by go_num, HE2.out.symm⟩
          case measure => simp [intOf]; omega
end Go.Proofs.YtonenopfdoagcaaDoor
