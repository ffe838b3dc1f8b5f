/-
  CAUSAL ORDER: whether an operation is old, or ready.
-/
import Derived.Test.YtpgicfbaefcbmaaDoorCaA
set_option linter.unusedVariables false
namespace Go.Proofs.YtpgicfbaefcbmaaDoor
open Go Go.RowKit

/-- May an operation be done next? -/
def Cd.rdy (vs : List Int) (o : Cd.OpP) (x : Int) : Prop := o.nn = x + 1 ∧ ∀ (j : Nat) (a b : Int), o.seen[j]? = some a → vs[j]? = some b → a ≤ b
set_option maxRecDepth 100000 in
set_option maxHeartbeats 4000000 in
theorem cold_any (V : Option Addr) (vc : Nat) (vs : List Int) (b : OpS) (x : Int) (w : World) (hv : Nums w V 4 vs) (hs : 1 ≤ b.o.st ∧ b.o.st ≤ 4) (hx : vs[(b.o.st - 1).toNat]? = some x) :
    Calls Tryd.prog 49 #[.slice V 4 vc, opV b] w fun e w' => e = .returned (.bool (decide (b.o.nn ≤ x))) ∧ Kept (fun _ => False) w w' := by
  have hK0 : Kept (fun _ => False) w (w.alloc (opO b)) := (Kept.refl _ w).alloc _
  have HK0 := Lib.hid hK0
  have HO : Hid (Op9 (w.alloc (opO b)) ⟨w.heap.size, 0, none⟩ b) := op9_new
  have HV := Lib.hid (hv.kept hK0 (fun _ _ => id))
  clear hv hK0
  unfold opV
  go_enter Tryd.func49, Tryd.ntmps49
  obtain ⟨⟨kd, t, si, t0, s0, rn, st, nn, seen⟩, A, n, c⟩ := b
  simp only [opO] at *
  obtain ⟨m, rfl⟩ : ∃ m : Nat, st = (m : Int) + 1 := ⟨(st - 1).toNat, by omega⟩
  have hm : m < 4 := by omega
  rw [show ((m : Int) + 1 - 1).toNat = m by omega] at hx
  clear hs
  go_upto_region 1 with fail
  generalize w.alloc (.cells #[.int .i64 kd, .int .i64 t, .int .i64 si, .int .i64 t0, .int .i64 s0, .int .i64 rn, .int .i64 ((m : Int) + 1), .int .i64 nn, .slice A n c] 32) = w1 at *
  generalize w.heap.size = pb at *
  obtain ⟨c0, c1, c2, c3, c4, c5, c6, c7, c8⟩ := HO.out.cs
  simp only at c0 c1 c2 c3 c4 c5 c6 c7 c8
  obtain ⟨ad, y, rfl, hy, d0⟩ := HV.out.one hm
  rw [hy] at hx
  injection hx with hx
  subst hx
  have ew : IntKind.i64.wrap ((m : Int) + 1 - 1) = (m : Int) := by rw [IntWalk.i64_in _ ⟨by omega, by omega⟩]; omega
  have t1 : (0 : Int) ≤ (m : Int) := by omega
  have t2 : (m : Int) < (4 : Int) := by omega
  clear hy
  by_cases h : nn ≤ y
  · have b3 : decide (nn ≤ y) = true := decide_eq_true h
    clear h
    go_quiet (fail)
    go_wp2_with fail
    go_ret
    exact ⟨by rw [b3]; rfl, HK0.out.drewN _⟩
  · have b3 : decide (nn ≤ y) = false := decide_eq_false h
    clear h
    go_quiet (fail)
    go_wp2_with fail
    go_ret
    exact ⟨by rw [b3]; rfl, HK0.out.drewN _⟩
set_option maxRecDepth 100000 in
set_option maxHeartbeats 4000000 in
theorem cready_any (V : Option Addr) (vc : Nat) (vs : List Int) (b : OpS) (x : Int) (w : World) (hv : Nums w V 4 vs) (hvo : ∀ (j : Nat) (y : Int), vs[j]? = some y → inV y) (hb : OpOk w b) (hn : b.n ≤ 4) (hs : 1 ≤ b.o.st ∧ b.o.st ≤ 4) (hx : vs[(b.o.st - 1).toNat]? = some x) :
    Calls Tryd.prog 50 #[.slice V 4 vc, opV b] w fun e w' => (∃ E, e = .returned (.bool E) ∧ (E = true ↔ Cd.rdy vs b.o x)) ∧ Kept (fun _ => False) w w' := by
  have hK0 : Kept (fun _ => False) w (w.alloc (opO b)) := (Kept.refl _ w).alloc _
  have HK0 := Lib.hid hK0
  have HO : Hid (Op9 (w.alloc (opO b)) ⟨w.heap.size, 0, none⟩ b) := op9_new
  have HV := Lib.hid (hv.kept hK0 (fun _ _ => id))
  have HS := Lib.hid (hb.seen.kept hK0 (fun _ _ => id))
  have hxx := hvo _ _ hx
  have HVO := Lib.hid hvo
  clear hv hK0 hb hvo
  unfold opV
  go_enter Tryd.func50, Tryd.ntmps50
  obtain ⟨⟨kd, t, si, t0, s0, rn, st, nn, seen⟩, A, n, c⟩ := b
  simp only [opO] at *
  obtain ⟨m, rfl⟩ : ∃ m : Nat, st = (m : Int) + 1 := ⟨(st - 1).toNat, by omega⟩
  have hm : m < 4 := by omega
  rw [show ((m : Int) + 1 - 1).toNat = m by omega] at hx
  clear hs
  go_upto_region 1 with fail
  generalize w.alloc (.cells #[.int .i64 kd, .int .i64 t, .int .i64 si, .int .i64 t0, .int .i64 s0, .int .i64 rn, .int .i64 ((m : Int) + 1), .int .i64 nn, .slice A n c] 32) = w1 at *
  generalize w.heap.size = pb at *
  obtain ⟨c0, c1, c2, c3, c4, c5, c6, c7, c8⟩ := HO.out.cs
  simp only at c0 c1 c2 c3 c4 c5 c6 c7 c8
  obtain ⟨ad, y, rfl, hy, d0⟩ := HV.out.one hm
  rw [hy] at hx
  injection hx with hx
  subst hx
  have ew : IntKind.i64.wrap ((m : Int) + 1 - 1) = (m : Int) := by rw [IntWalk.i64_in _ ⟨by omega, by omega⟩]; omega
  have ey : IntKind.i64.wrap (y + 1) = y + 1 := IntWalk.i64_in _ ⟨by have := hxx.1; omega, by have := hxx.2; omega⟩
  have t1 : (0 : Int) ≤ (m : Int) := by omega
  have t2 : (m : Int) < (4 : Int) := by omega
  clear hy hxx
  by_cases h : nn = y + 1
  · have b3 : (nn != y + 1) = false := by rw [h]; simp
    have HEQ := Lib.hid h
    clear h
    go_quiet (fail)
    have HKQ : Hid (Kept (fun _ => False) w1 (w1.drewN nq)) := (Kept.refl (fun _ => False) w1).drewN _
    have q8 := cell_kept HKQ.out c8 id
    generalize w1.drewN nq = w2 at *
    clear c0 c1 c2 c3 c4 c5 c6 c7 c8 d0 b3
    go_wp2_with fail
    go_loopw [20] (fun v wr => ∃ k : Nat, k ≤ n ∧ v = .int .i64 k ∧ (∀ (j : Nat) (a b : Int), j < k → seen[j]? = some a → vs[j]? = some b → a ≤ b) ∧ Kept (fun _ => False) w2 wr) (fun v _ => n - (intOf v).toNat)
    case atStart => exact ⟨0, Nat.zero_le _, rfl, (fun j a b hj => absurd hj (Nat.not_lt_zero _)), Kept.refl _ _⟩
    case round =>
      obtain ⟨k, hk, rfl, hat, hkept⟩ := hrel
      have HK := Lib.hid (HKQ.out.trans hkept)
      have HKr := Lib.hid hkept
      have HAT := Lib.hid hat
      clear hkept hat
      by_cases hlt : k < n
      · obtain ⟨ad2, z, rfl, hz, f0⟩ := (HS.out.kept HK.out (fun _ _ => id)).one hlt
        obtain ⟨ad3, u, he3, hu, g0⟩ := (HV.out.kept HK.out (fun _ _ => id)).one (show k < 4 by omega)
        injection he3 with he3
        subst he3
        have b1 : decide (k < n) = true := decide_eq_true hlt
        have b2 : decide ((k : Int) < (n : Int)) = true := decide_eq_true (by omega)
        have t3 : (0 : Int) ≤ (k : Int) := by omega
        have t4 : (k : Int) < (n : Int) := by omega
        have t5 : (k : Int) < (4 : Int) := by omega
        have HZ := Lib.hid hz
        have HU := Lib.hid hu
        clear hz hu
        by_cases hg : u < z
        · have b4 : decide (u < z) = true := decide_eq_true hg
          have HF : Hid (¬ ∀ (j : Nat) (a b : Int), seen[j]? = some a → vs[j]? = some b → a ≤ b) := fun h => by have := h k z u HZ.out HU.out; omega
          clear hg
          go_wp2_with fail
          go_ret
          exact ⟨⟨false, rfl, (fun h => by cases h), fun h => absurd h.2 HF.out⟩, HK0.out.trans HK.out⟩
        · have b4 : decide (u < z) = false := decide_eq_false hg
          have HN : Hid (∀ (j : Nat) (a b : Int), j < k + 1 → seen[j]? = some a → vs[j]? = some b → a ≤ b) := fun j a b hj ha hb => by
            by_cases e : j = k
            · subst e
              rw [HZ.out] at ha
              rw [HU.out] at hb
              injection ha with ha
              injection hb with hb
              omega
            · exact HAT.out j a b (by omega) ha hb
          clear hg
          go_wp2_with fail
          go_roundw
          case rel => exact ⟨k + 1, by omega, by go_num, HN.out, HKr.out⟩
          case measure => simp [intOf] <;> omega
      · obtain rfl : k = n := by omega
        have b1 : decide (k < k) = false := decide_eq_false (by omega)
        have b2 : decide ((k : Int) < (k : Int)) = false := decide_eq_false (by omega)
        have HLN : Hid (seen.length = k) := HS.out.1
        go_wp2_with fail
        go_ret
        exact ⟨⟨true, rfl, fun _ => ⟨HEQ.out, fun j a b ha hb => HAT.out j a b (by
          have : j < seen.length := (List.getElem?_eq_some_iff.1 ha).1
          rw [HLN.out] at this
          exact this) ha hb⟩, fun _ => rfl⟩, HK0.out.trans HK.out⟩
  · have b3 : (nn != y + 1) = true := by simp [h]
    have HNE := Lib.hid h
    clear h
    go_quiet (fail)
    go_wp2_with fail
    go_ret
    exact ⟨⟨false, rfl, (fun h => by cases h), fun h => absurd h.1 HNE.out⟩, HK0.out.drewN _⟩
end Go.Proofs.YtpgicfbaefcbmaaDoor
