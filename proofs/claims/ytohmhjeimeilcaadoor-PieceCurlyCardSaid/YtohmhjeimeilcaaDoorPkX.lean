/-
  WHERE A RUNE IS IN A SHORT TEXT OF ASCII BYTES, by the library's own text.
-/
import Derived.Test.YtohmhjeimeilcaaDoorRunesK
import Derived.Test.YtohmhjeimeilcaaDoorPkP
import Derived.Laws.Runes
import Derived.Laws.RangeString
import Derived.Deep.LoopGhost
import Derived.WalkMore
set_option linter.unusedVariables false
namespace Go.Proofs.YtohmhjeimeilcaaDoor
open Go Go.RowKit

theorem wrap64_in' {l : Nat} (h : l ≤ 100) : wrap64 (((l + 1 : Nat) : Int) - 1) = (l : Int) := by
  rw [show ((l + 1 : Nat) : Int) - 1 = (l : Int) by omega]
  exact IntWalk.wrap64_in _ ⟨by omega, by omega⟩
theorem lays137 : Go.Proofs.Lays.n137 Tryd.prog Tryd.lays152_ren := { Tryd.lays152 with }
theorem idxb_any (s : ByteArray) (b : UInt8) (w : World) : Calls Tryd.prog 62 #[.string s, .int .u8 b.toNat] w fun e w' => e = .returned (.int .i64 (Lib.indexByte s.data.toList b)) ∧ w' = w := by
  have h := Any.strings_IndexByte lays137 s (b.toNat : Int) w
  rw [show ((b.toNat : Int)).toNat.toUInt8 = b by simp] at h
  exact h
theorem vrune_any (c : Int) (h : Utf8.valid c = true) (w : World) : Calls Tryd.prog 63 #[.int .i32 c] w fun e w' => e = .returned (.bool true) ∧ w' = w := by
  have hv := Utf.int_valid h
  clear h
  rcases hv with ⟨h1, h2⟩ | ⟨h1, h2⟩
  · have b1 : decide (0 ≤ c) = true := decide_eq_true h1
    have b2 : decide (c < 55296) = true := decide_eq_true h2
    go_enter Tryd.func63, Tryd.ntmps63
    go_wp2
    go_ret
    exact ⟨rfl, rfl⟩
  · have b1 : decide (0 ≤ c) = true := decide_eq_true (by omega)
    have b2 : decide (c < 55296) = false := decide_eq_false (by omega)
    have b3 : decide (57343 < c) = true := decide_eq_true (by omega)
    have b4 : decide (c ≤ 1114111) = true := decide_eq_true (by omega)
    go_enter Tryd.func63, Tryd.ntmps63
    go_wp2
    go_ret
    exact ⟨rfl, rfl⟩
theorem idxB_none {l : List UInt8} {b : UInt8} (h : ∀ x ∈ l, x.toNat < 128) (hb : 128 ≤ b.toNat) : Lib.indexByte l b = -1 := by
  induction l with
  | nil => rfl
  | cons x l ih =>
    have hx := h x (by simp)
    have hne : (x == b) = false := by
      rw [beq_eq_false_iff_ne]
      rintro rfl
      omega
    have := ih (fun y hy => h y (by simp [hy]))
    simp [Lib.indexByte, hne, this]
set_option maxRecDepth 100000 in
set_option maxHeartbeats 2000000 in
theorem idxr_err (s : ByteArray) (hs : ∀ x ∈ s.data.toList, x.toNat < 128) (hz : s.size ≤ 100) (w : World) :
    Calls Tryd.prog 51 #[.string s, .int .i32 65533] w fun e w' => e = .returned (.int .i64 (-1)) ∧ Kept (fun _ => False) w w' := by
  have HA := Lib.hid hs
  clear hs
  go_enter Tryd.func51, Tryd.ntmps51
  go_wp2_with fail
  go_loopg [5] s.size (fun g _ wx => ∃ i : Nat, i + g = s.size ∧ wx = w.iter s i)
  case atStart => exact ⟨0, by omega, rfl⟩
  case round =>
    obtain ⟨i, hig, rfl⟩ := hrel
    cases gk with
    | zero =>
      obtain rfl : i = s.size := by omega
      have hnx := run_next_end (P := Tryd.prog) w s s.size
      go_wp2
      go_ret
      exact ⟨rfl, (Kept.refl _ w).alloc _⟩
    | succ g =>
      have hi : i < s.size := by omega
      obtain ⟨x, hx⟩ : ∃ x : UInt8, s[i]'hi = x := ⟨_, rfl⟩
      have hx128 : x.toNat < 128 := HA.out x (by rw [← hx]; exact Array.getElem_mem_toList (xs := s.data) hi)
      have hnx := fun ty => run_next_ascii (P := Tryd.prog) w s i ty hi (by rw [hx]; exact hx128)
      rw [hx] at hnx
      have b1 : ((x.toNat : Int) == 65533) = false := by rw [beq_eq_false_iff_ne]; omega
      clear hx
      go_wp2
      go_roundg g
      case measure => omega
      case rel => exact ⟨i + 1, by omega, rfl⟩
set_option maxRecDepth 100000 in
set_option maxHeartbeats 2000000 in
theorem idxr_far (s : ByteArray) (hs : ∀ x ∈ s.data.toList, x.toNat < 128) (hz : s.size ≤ 100) (c : Int) (h1 : 128 ≤ c) (h2 : c ≠ 65533) (hv : Utf8.valid c = true) (w : World) :
    Calls Tryd.prog 51 #[.string s, .int .i32 c] w fun e w' => e = .returned (.int .i64 (-1)) ∧ Kept (fun _ => False) w w' := by
  obtain ⟨e1, e2, e3⟩ := encode_facts c hv h1
  have cV := vrune_any c hv w
  have hc := Utf.int_valid hv
  have b1 : decide (0 ≤ c) = true := decide_eq_true (by omega)
  have b2 : decide (c < 128) = false := decide_eq_false (by omega)
  have b3 : (c == 65533) = false := by rw [beq_eq_false_iff_ne]; exact h2
  have HA := Lib.hid hs
  have HE := Lib.hid e3
  clear hs hv h2 hc e3
  obtain ⟨l, hl⟩ : ∃ l, (Utf8.encode c).size = l + 1 := ⟨(Utf8.encode c).size - 1, by omega⟩
  obtain ⟨y, hy⟩ : ∃ y, (Utf8.encode c)[l]'(by omega) = y := ⟨_, rfl⟩
  have hy128 : 128 ≤ y.toNat := by
    have := HE.out (by omega)
    rw [← hy]
    simpa [hl] using this
  clear HE
  have b7 : wrap64 (((Utf8.encode c).size : Int) - 1) = (l : Int) := by rw [hl]; exact wrap64_in' (by omega)
  go_enter Tryd.func51, Tryd.ntmps51
  go_wp2_with (go_at_call 63; refine cV.mono ?_; rintro e w1 ⟨rfl, hw⟩; have hw2 := hw.symm; subst hw2)
  go_step3
  go_wp2_with fail
  go_loop [9] (fun v => v = .int .i64 (l : Int)) (fun _ => 0)
  case atStart => simp
  case round =>
    subst hrel
    by_cases hlt : l < s.size
    · obtain ⟨x, hx⟩ : ∃ x, s[l]'hlt = x := ⟨_, rfl⟩
      have hx128 : x.toNat < 128 := HA.out x (by rw [← hx]; exact Array.getElem_mem_toList (xs := s.data) hlt)
      have b4 : ((x.toNat : Int) != (y.toNat : Int)) = true := by rw [bne_iff_ne]; omega
      have cI := fun (W : World) => idxb_any (s.extract (l + 1) s.size) y W
      rw [show Lib.indexByte (s.extract (l + 1) s.size).data.toList y = -1 from idxB_none (fun b hb => HA.out b (mem_extract hb)) hy128] at cI
      have HCI := Lib.hid cI
      have b5 : decide (l < s.size) = true := decide_eq_true hlt
      have b6 : decide ((l : Int) < (s.size : Int)) = true := decide_eq_true (by omega)
      have t0 : IntKind.i64.wrap ((l : Int) + 1) = (l : Int) + 1 := IntWalk.i64_in _ ⟨by omega, by omega⟩
      have t1 : (0 : Int) ≤ (l : Int) + 1 := by omega
      have t2 : (l : Int) + 1 ≤ (s.size : Int) := by omega
      have t3 : ((l : Int) + 1).toNat = l + 1 := by omega
      have t4 : l + 1 ≤ s.size := by omega
      obtain ⟨sx, hsx⟩ : ∃ sx, s.extract (l + 1) s.size = sx := ⟨_, rfl⟩
      have hsl : ∀ u : World, (Instr.slice 9 (.string s) (some (.int .i64 ((l : Int) + 1))) none none).run Tryd.prog u = .ok (.string sx) u := fun u => by
        rw [← hsx]
        rw [run_slice_string_l (P := Tryd.prog) u 9 s Tryd.underlying9 .i64 ((l : Int) + 1) (by omega) (by omega), t3]
      rw [hsx] at HCI
      clear cI hsx
      go_wp2_with fail
      go_step3
      go_upto_region 6 with fail
      go_quiet (fail)
      generalize hW : w.drewN _ = w1
      have HW : Hid (Kept (fun _ => False) w w1) := by show Kept _ w w1; rw [← hW]; exact (Kept.refl _ w).drewN _
      clear hW
      go_upto_region 7 with fail
      go_quiet ((go_at_call 62; exact Calls.quiet_of_same (HCI.out _)))
      go_wp2_with fail
      show bodyPost Tryd.prog Tryd.f51 (fun e w' => e = .returned (.int .i64 (-1)) ∧ Kept (fun _ => False) w w') .ret _ _
      go_ret
      exact ⟨rfl, HW.out.drewN _⟩
    · have b5 : decide (l < s.size) = false := decide_eq_false hlt
      have b6 : decide ((l : Int) < (s.size : Int)) = false := decide_eq_false (by omega)
      go_wp2_with fail
      go_ret
      exact ⟨rfl, Kept.refl _ w⟩
end Go.Proofs.YtohmhjeimeilcaaDoor
