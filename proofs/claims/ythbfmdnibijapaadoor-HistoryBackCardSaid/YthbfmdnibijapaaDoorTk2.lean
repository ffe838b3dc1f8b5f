/-
  TEXTS: no byte stands in a valid text that the program calls a stray one but byte 0; whether a text may be.
-/
import Derived.Test.YthbfmdnibijapaaDoorTk
import Derived.Test.YthbfmdnibijapaaDoorTabsK
set_option linter.unusedVariables false
namespace Go.Proofs.YthbfmdnibijapaaDoor
open Go Go.RowKit

/-- A byte that no text has. -/
def strayB (b : UInt8) : Bool := decide (b.toNat = 0 ∨ b.toNat = 192 ∨ b.toNat = 193 ∨ 245 ≤ b.toNat)
theorem stray_and (b : UInt8) : (strayB b = true ∧ (kn b.toNat = 5 ∨ kn b.toNat = 6)) ∨ (strayB b = false ∧ (kn b.toNat = 0 ∨ kn b.toNat = 1 ∨ kn b.toNat = 2 ∨ kn b.toNat = 10)) := by
  have := UInt8.toNat_lt b
  unfold strayB kn
  by_cases h : b.toNat = 0 ∨ b.toNat = 192 ∨ b.toNat = 193 ∨ 245 ≤ b.toNat
  · refine .inl ⟨by simpa using h, ?_⟩
    (repeat' split) <;> omega
  · refine .inr ⟨by simpa using h, ?_⟩
    (repeat' split) <;> omega
theorem byte_at (s : ByteArray) (k : Nat) (h : k < s.size) : s.data.toList[k]? = some (s[k]'h) := by
  show s.data.toList[k]? = some (s.data[k]'h)
  rw [Array.getElem?_toList]
  exact Array.getElem?_eq_getElem h
theorem stray_any (s : ByteArray) (w : World) (hs : s.size ≤ 4000) :
    Calls Tryd.prog 64 #[.string s] w fun e w' => e = .returned (.bool (s.data.toList.any strayB)) ∧ w' = w := by
  obtain ⟨V, hV⟩ : ∃ V, s.data.toList.any strayB = V := ⟨_, rfl⟩
  rw [hV]
  have HV := Lib.hid hV
  clear hV
  go_enter Tryd.func64, Tryd.ntmps64
  go_wp2
  go_loop [6] (fun v => ∃ k : Nat, k ≤ s.size ∧ v = .int .i64 k ∧ (s.data.toList.take k).any strayB = false) (fun v => s.size - (intOf v).toNat)
  case atStart => exact ⟨0, Nat.zero_le _, rfl, rfl⟩
  case round =>
    obtain ⟨k, hk, rfl, hall⟩ := hrel
    have HA := Lib.hid hall
    clear hall
    by_cases hlt : k < s.size
    · obtain ⟨b, hb⟩ : ∃ b, s[k]'hlt = b := ⟨_, rfl⟩
      have hlist : Hid (s.data.toList[k]? = some b) := by
        rw [← hb]
        exact byte_at s k hlt
      have hr := UInt8.toNat_lt b
      have cK := kind_any b.toNat ⟨by omega, by omega⟩ w
      have x0 : bits BinOp.and IntKind.u8 0 4 = 0 := by decide
      have x1 : bits BinOp.and IntKind.u8 1 4 = 0 := by decide
      have x2 : bits BinOp.and IntKind.u8 2 4 = 0 := by decide
      have x3 : bits BinOp.and IntKind.u8 10 4 = 0 := by decide
      have x4 : bits BinOp.and IntKind.u8 6 4 = 4 := by decide
      have x5 : bits BinOp.and IntKind.u8 5 4 = 4 := by decide
      rcases stray_and b with ⟨h1, h2⟩ | ⟨h1, h2⟩
      · have hV : Hid (V = true) := by
          show _ = _
          rw [← HV.out]
          exact List.any_eq_true.2 ⟨b, List.mem_of_getElem? hlist.out, h1⟩
        clear h1
        rcases h2 with h2 | h2
        all_goals
          rw [h2] at cK
          clear h2
          go_wp2_with (go_at_call 76; refine cK.mono ?_; rintro e w' ⟨rfl, rfl⟩)
          go_ret
          rw [hV.out]
          exact ⟨rfl, rfl⟩
      · have H1 := Lib.hid h1
        clear h1
        rcases h2 with h2 | h2 | h2 | h2
        all_goals
          rw [h2] at cK
          clear h2
          go_wp2_with (go_at_call 76; refine cK.mono ?_; rintro e w' ⟨rfl, rfl⟩)
          go_round
          case rel =>
            refine ⟨k + 1, by omega, by go_num, ?_⟩
            rw [List.take_add_one, hlist.out, List.any_append, HA.out]
            simpa using H1.out
          case measure => simp [intOf]; omega
    · obtain rfl : k = s.size := by omega
      have hsz := Lib.size_eq s
      have hfin : Hid (V = false) := by
        show _ = _
        rw [← HV.out]
        have h := HA.out
        rwa [List.take_of_length_le (by omega)] at h
      clear hsz
      go_wp2
      go_ret
      rw [hfin.out]
      exact ⟨rfl, rfl⟩
theorem stray_valid {s : ByteArray} (h : Lib.validD s.data.toList = true) : s.data.toList.any strayB = !(s.data.toList.all fun b => b != 0) := by
  have hp := valid_plain h
  generalize s.data.toList = l at hp ⊢
  clear h
  induction l with
  | nil => rfl
  | cons b l ih =>
    have hb := hp b (by simp)
    have : strayB b = !(b != 0) := by
      unfold strayB
      by_cases h0 : b = 0
      · subst h0; rfl
      · have : b.toNat ≠ 0 := fun e => h0 (UInt8.toNat_inj.1 (by simpa using e))
        have e1 : (b != 0) = true := by simpa using h0
        rw [e1]
        simp
        omega
    rw [List.any_cons, List.all_cons, ih (fun c hc => hp c (by simp [hc])), this]
    cases (b != 0) <;> cases (l.all fun b => b != 0) <;> rfl
/-- Check: 0 where it may be a text, 1 where not. -/
theorem check_any (s : ByteArray) (w : World) (hs : s.size ≤ 140737488351232) (hT : Tabs w) :
    Calls Tryd.prog 48 #[.string s] w fun e w' => e = .returned (.int .i64 (if mayB s then 0 else 1)) ∧ Kept (fun _ => False) w w' := by
  by_cases h1 : s.size ≤ 4000
  · have cV := valid_any s w (by omega) hT
    have HT := Lib.hid hT
    clear hT
    have b1 : decide (4000 < s.size) = false := by simp; omega
    have b2 : decide (4000 < (s.size : Int)) = false := by simp; omega
    cases hv : Lib.validD s.data.toList
    · have hm : mayB s = false := by unfold mayB; rw [hv]; simp
      rw [hm]
      rw [hv] at cV
      clear hv hm
      go_enter Tryd.func48, Tryd.ntmps48
      go_wp2_with (go_at_call 30; refine cV.mono ?_; rintro e w1 ⟨rfl, hk1⟩)
      go_ret
      exact ⟨rfl, hk1⟩
    · have hm : mayB s = !(s.data.toList.any strayB) := by
        rw [stray_valid hv]
        unfold mayB
        rw [hv]
        simp [h1]
      rw [hm]
      rw [hv] at cV
      clear hm hv
      have cS := fun w1 => stray_any s w1 h1
      generalize s.data.toList.any strayB = V at cS ⊢
      go_enter Tryd.func48, Tryd.ntmps48
      go_wp2_with (go_at_call 30; refine cV.mono ?_; rintro e w1 ⟨rfl, hk1⟩)
      refine (cS w1).mono ?_
      rintro e w2 ⟨rfl, rfl⟩
      cases V
      · go_wp2
        go_ret
        exact ⟨rfl, hk1⟩
      · go_wp2
        go_ret
        exact ⟨rfl, hk1⟩
  · have b1 : decide (4000 < s.size) = true := by simp; omega
    have b2 : decide (4000 < (s.size : Int)) = true := by simp; omega
    have hm : mayB s = false := by unfold mayB; simp [h1]
    rw [hm]
    clear hm hT
    go_enter Tryd.func48, Tryd.ntmps48
    go_wp2
    go_ret
    exact ⟨rfl, Kept.refl _ _⟩
end Go.Proofs.YthbfmdnibijapaaDoor
