/-
  CAUSAL ORDER: the same operations: EqOps; what is written over.
-/
import Derived.Test.YthkohjijppbliaaDoorCbB
import Derived.ArgAppend
set_option linter.unusedVariables false
namespace Go.Proofs.YthkohjijppbliaaDoor
open Go Go.RowKit

theorem map_o_at {al bl : List OpS} (h : al.map (·.o) = bl.map (·.o)) {k : Nat} {a b : OpS} (ha : al[k]? = some a) (hb : bl[k]? = some b) : a.o = b.o := by
  have e := congrArg (fun l => l[k]?) h
  simp only [List.getElem?_map, ha, hb, Option.map_some, Option.some.injEq] at e
  exact e
set_option maxRecDepth 100000 in
set_option maxHeartbeats 4000000 in
theorem eqops_yes (A B : Option Addr) (n c c' : Nat) (al bl : List OpS) (w : World) (hA : OpsM w A n al) (hB : OpsM w B n bl) (ho : al.map (·.o) = bl.map (·.o)) (hn : n ≤ 140737488351232) :
    Calls Tryd.prog 10 #[.slice A n c, .slice B n c'] w fun e w' => e = .returned (.bool true) ∧ Kept (fun _ => False) w w' := by
  have HA := Lib.hid hA
  have HB := Lib.hid hB
  have HO := Lib.hid ho
  clear hA hB ho
  have b0 : ((n : Int) != (n : Int)) = false := by simp
  go_enter Tryd.func10, Tryd.ntmps10
  go_wp2_with fail
  go_loopw [5] (fun i wr => ∃ k : Nat, k ≤ n ∧ i = .int .i64 k ∧ Kept (fun _ => False) w wr) (fun i _ => n - (intOf i).toNat)
  case atStart => exact ⟨0, Nat.zero_le _, rfl, Kept.refl _ _⟩
  case round =>
    obtain ⟨k, hk, rfl, hkept⟩ := hrel
    have HK := Lib.hid hkept
    clear hkept
    by_cases hlt : k < n
    · obtain ⟨ad, b, rfl, hb, h9, hok⟩ := (HA.out.kept HK.out (fun _ _ => id) (fun _ _ _ _ => id)).at_ hlt
      obtain ⟨ad', b', rfl, hb', h9', hok'⟩ := (HB.out.kept HK.out (fun _ _ => id) (fun _ _ _ _ => id)).at_ hlt
      have hoo := map_o_at HO.out hb hb'
      have cE := fun W (hk : Kept (fun _ => False) wr W) => eqop_yes b b' W (hok.kept hk (fun _ _ => id)) (hok'.kept hk (fun _ _ => id)) hoo
      obtain ⟨c0, c1, c2, c3, c4, c5, c6, c7, c8⟩ := h9
      obtain ⟨d0, d1, d2, d3, d4, d5, d6, d7, d8⟩ := h9'
      obtain ⟨⟨kd, t, si, t0, s0, rn, st, nn, seen⟩, A', m, mc⟩ := b
      obtain ⟨⟨kd', t', si', t0', s0', rn', st', nn', seen'⟩, B', m', mc'⟩ := b'
      simp only at c0 c1 c2 c3 c4 c5 c6 c7 c8 d0 d1 d2 d3 d4 d5 d6 d7 d8
      have b1 : decide (k < n) = true := decide_eq_true hlt
      have b2 : decide ((k : Int) < (n : Int)) = true := decide_eq_true (by omega)
      have t1 : (0 : Int) ≤ (k : Int) := by omega
      have t2 : (k : Int) < (n : Int) := by omega
      have ek : IntKind.i64.wrap ((k : Int) + 1) = (k : Int) + 1 := IntWalk.i64_in _ ⟨by omega, by omega⟩
      have HD : Hid (Kept (fun _ => False) wr wr.drew) := (Kept.refl _ _).drew
      clear hb hb' hok hok' hoo
      unfold opV at cE
      simp only at cE
      go_upto_region 6 with fail
      have cE2 := cE _ HD.out
      clear cE
      go_region_with (go_at_call 35; refine cE2.mono ?_; rintro e w5 ⟨rfl, hk5⟩; have HK5 := Lib.hid ((HK.out.trans HD.out).trans hk5); clear hk5)
      all_goals
        go_wp2_with fail
        go_roundw
        case rel => exact ⟨k + 1, by omega, by go_num, HK5.out⟩
        case measure => simp [intOf] <;> omega
    · obtain rfl : k = n := by omega
      have b1 : decide (k < k) = false := decide_eq_false (by omega)
      have b2 : decide ((k : Int) < (k : Int)) = false := decide_eq_false (by omega)
      go_wp2_with fail
      go_ret
      exact ⟨rfl, HK.out⟩
end Go.Proofs.YthkohjijppbliaaDoor
