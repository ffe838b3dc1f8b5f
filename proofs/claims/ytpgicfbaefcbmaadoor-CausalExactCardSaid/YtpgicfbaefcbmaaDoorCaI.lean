/-
  CAUSAL ORDER: the reference's Ready.
-/
import Derived.Test.YtpgicfbaefcbmaaDoorCaH
set_option linter.unusedVariables false
namespace Go.Proofs.YtpgicfbaefcbmaaDoor
open Go Go.RowKit

set_option maxRecDepth 100000 in
set_option maxHeartbeats 4000000 in
theorem rready_any (V : Option Addr) (vc : Nat) (vs : List Int) (b : OpS) (x : Int) (w : World) (hv : Nums w V 4 vs) (hvo : ∀ (j : Nat) (y : Int), vs[j]? = some y → inV y) (hb : OpOk w b) (hn : b.n = 4) (hvl : vs.length = 4) (hs : 1 ≤ b.o.st ∧ b.o.st ≤ 4) (hx : vs[(b.o.st - 1).toNat]? = some x) :
    Calls Tryd.prog 25 #[.slice V 4 vc, opV b] w fun e w' => (∃ E, e = .returned (.bool E) ∧ (E = true ↔ Cd.rdy vs b.o x)) ∧ Kept (fun _ => False) w w' := by
  have hK0 : Kept (fun _ => False) w (w.alloc (opO b)) := (Kept.refl _ w).alloc _
  have HK0 := Lib.hid hK0
  have HO : Hid (Op9 (w.alloc (opO b)) ⟨w.heap.size, 0, none⟩ b) := op9_new
  have HV := Lib.hid (hv.kept hK0 (fun _ _ => id))
  have HS := Lib.hid (hb.seen.kept hK0 (fun _ _ => id))
  have hxx := hvo _ _ hx
  have HVO := Lib.hid hvo
  clear hv hK0 hb hvo
  unfold opV
  go_enter Tryd.func25, Tryd.ntmps25
  obtain ⟨⟨kd, t, si, t0, s0, rn, st, nn, seen⟩, A, n, c⟩ := b
  simp only [opO] at *
  obtain ⟨m, rfl⟩ : ∃ m : Nat, st = (m : Int) + 1 := ⟨(st - 1).toNat, by omega⟩
  have hm : m < 4 := by omega
  rw [show ((m : Int) + 1 - 1).toNat = m by omega] at hx
  clear hs

  subst hn
  go_upto_region 1 with fail
  generalize w.alloc (.cells #[.int .i64 kd, .int .i64 t, .int .i64 si, .int .i64 t0, .int .i64 s0, .int .i64 rn, .int .i64 ((m : Int) + 1), .int .i64 nn, .slice A 4 c] 32) = w1 at *
  generalize w.heap.size = pb at *
  obtain ⟨c0, c1, c2, c3, c4, c5, c6, c7, c8⟩ := HO.out.cs
  simp only at c0 c1 c2 c3 c4 c5 c6 c7 c8
  obtain ⟨ad, y, rfl, hy, d0⟩ := HV.out.one hm
  rw [hy] at hx
  injection hx with hx
  subst hx
  have ew : IntKind.i64.wrap ((m : Int) + 1 - 1) = (m : Int) := by rw [IntWalk.i64_in _ ⟨by omega, by omega⟩]; omega
  have ey : IntKind.i64.wrap (y + 1) = y + 1 := IntWalk.i64_in _ ⟨by have := hxx.1; omega, by have := hxx.2; omega⟩
  have t1 : (0 : Int) ≤ (m : Int) := by omega
  have t2 : (m : Int) < (4 : Int) := by omega
  have HSF : Hid (∀ W : World, Kept (fun _ => False) w1 W → (W.cell? ⟨pb, 6, none⟩ = some (.int .i64 ((m : Int) + 1)) ∧ W.cell? ⟨pb, 7, none⟩ = some (.int .i64 nn) ∧ W.cell? ⟨pb, 8, none⟩ = some (.slice A 4 c) ∧ W.cell? (ad.add m) = some (.int .i64 y))) := fun W h => ⟨cell_kept h c6 id, cell_kept h c7 id, cell_kept h c8 id, cell_kept h d0 id⟩
  have HLV : Hid (vs.length = 4) := hvl
  clear hy hxx c0 c1 c2 c3 c4 c5 c6 c7 c8 d0 hvl
  go_wp2_with fail
  go_loopw [5] (fun v wr => ∃ k : Nat, k ≤ 4 ∧ v = .int .i64 k ∧ (∀ (j : Nat) (a b : Int), j < k → seen[j]? = some a → vs[j]? = some b → a ≤ b) ∧ Kept (fun _ => False) w1 wr) (fun v _ => 4 - (intOf v).toNat)
  case atStart => exact ⟨0, Nat.zero_le _, rfl, (fun j a b hj => absurd hj (Nat.not_lt_zero _)), Kept.refl _ _⟩
  case round =>
    obtain ⟨k, hk, rfl, hat, hkept⟩ := hrel
    have HK := Lib.hid hkept
    have HAT := Lib.hid hat
    clear hkept hat
    obtain ⟨q6, q7, q8, qd⟩ := HSF.out _ HK.out
    by_cases hlt : k < 4
    · obtain ⟨ad2, z, rfl, hz, f0⟩ := (HS.out.kept HK.out (fun _ _ => id)).one hlt
      obtain ⟨ad3, u, he3, hu, g0⟩ := (HV.out.kept HK.out (fun _ _ => id)).one hlt
      injection he3 with he3
      subst he3
      have b2 : decide ((k : Int) < (4 : Int)) = true := decide_eq_true (by omega)
      have t3 : (0 : Int) ≤ (k : Int) := by omega
      have t5 : (k : Int) < (4 : Int) := by omega
      have HZ := Lib.hid hz
      have HU := Lib.hid hu
      clear hz hu
      by_cases hg : u < z
      · have b4 : decide (u < z) = true := decide_eq_true hg
        have HF : Hid (¬ ∀ (j : Nat) (a b : Int), seen[j]? = some a → vs[j]? = some b → a ≤ b) := fun h => by have := h k z u HZ.out HU.out; omega
        clear hg
        go_wp2_with fail
        go_quiet (fail)
        go_wp2_with fail
        go_ret
        exact ⟨⟨false, rfl, (fun h => by cases h), fun h => absurd h.2 HF.out⟩, HK0.out.trans (HK.out.drewN _)⟩
      · have b4 : decide (u < z) = false := decide_eq_false hg
        have HN : Hid (∀ (j : Nat) (a b : Int), j < k + 1 → seen[j]? = some a → vs[j]? = some b → a ≤ b) := fun j a b hj ha hb => by
          by_cases e : j = k
          · subst e
            rw [HZ.out] at ha
            rw [HU.out] at hb
            injection ha with ha
            injection hb with hb
            omega
          · exact HAT.out j a b (by omega) ha hb
        clear hg
        go_wp2_with fail
        go_quiet (fail)
        go_wp2_with fail
        go_roundw
        case rel => exact ⟨k + 1, by omega, by go_num, HN.out, HK.out.drewN _⟩
        case measure => simp [intOf] <;> omega
    · obtain rfl : k = 4 := by omega
      have b2 : decide ((4 : Int) < (4 : Int)) = false := by decide
      have HALL : Hid (∀ (j : Nat) (a b : Int), seen[j]? = some a → vs[j]? = some b → a ≤ b) := fun j a b ha hb => HAT.out j a b (by
        have : j < vs.length := (List.getElem?_eq_some_iff.1 hb).1
        rw [HLV.out] at this
        exact this) ha hb
      by_cases h : nn = y + 1
      · have b3 : (nn == y + 1) = true := by rw [h]; simp
        have HEQ := Lib.hid h
        clear h
        go_wp2_with fail
        go_quiet (fail)
        go_wp2_with fail
        go_ret
        exact ⟨⟨true, rfl, fun _ => ⟨HEQ.out, HALL.out⟩, fun _ => rfl⟩, HK0.out.trans (HK.out.drewN _)⟩
      · have b3 : (nn == y + 1) = false := by simp [h]
        have HNE := Lib.hid h
        clear h
        go_wp2_with fail
        go_quiet (fail)
        go_wp2_with fail
        go_ret
        exact ⟨⟨false, rfl, (fun h => by cases h), fun h => absurd h.1 HNE.out⟩, HK0.out.trans (HK.out.drewN _)⟩
end Go.Proofs.YtpgicfbaefcbmaaDoor
