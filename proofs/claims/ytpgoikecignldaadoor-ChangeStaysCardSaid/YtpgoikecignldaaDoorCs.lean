/-
  THE PROGRAM's cased (change): runes with small letters, great ones, or the other ones.
-/
import Derived.Test.YtpgoikecignldaaDoorOpP
import Derived.Test.YtpgoikecignldaaDoorOwn
import Derived.Deep.CutRange
import Derived.Deep.RegionHeld3
set_option linter.unusedVariables false
namespace Go.Proofs.YtpgoikecignldaaDoor
open Go Go.RowKit

def oth (c : Int) : Int := if 97 ≤ c ∧ c ≤ 122 then c - 32 else if 65 ≤ c ∧ c ≤ 90 then c + 32 else c
set_option maxRecDepth 100000 in
theorem other_any (x : Int) (w : World) (h : 0 ≤ x ∧ x ≤ 1114111) :
    Calls Tryd.prog 39 #[.int .i32 x] w fun e w' => e = .returned (.int .i32 (oth x)) ∧ w = w' := by
  obtain ⟨V, hV⟩ : ∃ V, oth x = V := ⟨_, rfl⟩
  rw [hV]
  unfold oth at hV
  have hz : x < 65 ∨ (65 ≤ x ∧ x ≤ 90) ∨ (91 ≤ x ∧ x ≤ 96) ∨ (97 ≤ x ∧ x ≤ 122) ∨ 123 ≤ x := by omega
  rcases hz with z | z | z | z | z
  · have d1 : decide (97 ≤ x) = false := by simp; omega
    have d2 : decide (x ≤ 122) = true := by simp; omega
    have d3 : decide (65 ≤ x) = false := by simp; omega
    have d4 : decide (x ≤ 90) = true := by simp; omega
    have e : V = x := by rw [← hV]; rw [if_neg (by omega), if_neg (by omega)]
    clear hV z
    go_enter Tryd.func39, Tryd.ntmps39
    go_wp2
    go_ret
    exact ⟨by rw [e]; rfl, rfl⟩
  · have d1 : decide (97 ≤ x) = false := by simp; omega
    have d2 : decide (x ≤ 122) = true := by simp; omega
    have d3 : decide (65 ≤ x) = true := by simp; omega
    have d4 : decide (x ≤ 90) = true := by simp; omega
    have e : V = x + 32 := by rw [← hV]; rw [if_neg (by omega), if_pos (by omega)]
    clear hV
    go_enter Tryd.func39, Tryd.ntmps39
    go_wp2
    go_ret
    exact ⟨by rw [e, show x + 32 = x - 65 + 97 by omega]; rfl, rfl⟩
  · have d1 : decide (97 ≤ x) = false := by simp; omega
    have d2 : decide (x ≤ 122) = true := by simp; omega
    have d3 : decide (65 ≤ x) = true := by simp; omega
    have d4 : decide (x ≤ 90) = false := by simp; omega
    have e : V = x := by rw [← hV]; rw [if_neg (by omega), if_neg (by omega)]
    clear hV z
    go_enter Tryd.func39, Tryd.ntmps39
    go_wp2
    go_ret
    exact ⟨by rw [e]; rfl, rfl⟩
  · have d1 : decide (97 ≤ x) = true := by simp; omega
    have d2 : decide (x ≤ 122) = true := by simp; omega
    have e : V = x - 32 := by rw [← hV]; rw [if_pos (by omega)]
    clear hV
    go_enter Tryd.func39, Tryd.ntmps39
    go_wp2
    go_ret
    exact ⟨by rw [e, show x - 32 = x - 97 + 65 by omega]; rfl, rfl⟩
  · have d1 : decide (97 ≤ x) = true := by simp; omega
    have d2 : decide (x ≤ 122) = false := by simp; omega
    have d3 : decide (65 ≤ x) = true := by simp; omega
    have d4 : decide (x ≤ 90) = false := by simp; omega
    have e : V = x := by rw [← hV]; rw [if_neg (by omega), if_neg (by omega)]
    clear hV z
    go_enter Tryd.func39, Tryd.ntmps39
    go_wp2
    go_ret
    exact ⟨by rw [e]; rfl, rfl⟩
theorem oth_trn {key x : Int} (h : key = 126 ∨ (key = 85 ∧ 97 ≤ x ∧ x ≤ 122) ∨ (key = 117 ∧ ¬ (97 ≤ x ∧ x ≤ 122))) : oth x = Rw.trn key x := by
  unfold oth Rw.trn
  by_cases h1 : 97 ≤ x ∧ x ≤ 122
  · rw [if_pos h1, if_neg (by omega), if_pos (by omega)]
  · rw [if_neg h1]
    by_cases h2 : 65 ≤ x ∧ x ≤ 90
    · rw [if_pos h2, if_pos (by omega)]
    · rw [if_neg h2, if_neg (by omega), if_neg (by omega)]
theorem id_trn {key x : Int} (h : (key = 85 ∧ ¬ (97 ≤ x ∧ x ≤ 122)) ∨ (key = 117 ∧ 97 ≤ x ∧ x ≤ 122)) : x = Rw.trn key x := by
  unfold Rw.trn
  rw [if_neg (by omega), if_neg (by omega)]
theorem next_take {u t : List Int} {k n : Nat} {x key V : Int} (hk : k < n) (hu : u.length = n) (hx : t[k]? = some x) (hV : V = Rw.trn key x) (h : u.take k = (t.take k).map (Rw.trn key)) : (u.set k V).take (k + 1) = (t.take (k + 1)).map (Rw.trn key) := by
  rw [take_set_succ (by omega), h, List.take_add_one, hx, List.map_append, hV]
  rfl
set_option maxRecDepth 100000 in
set_option maxHeartbeats 1000000 in
theorem cased_any (A : Option Addr) (n c : Nat) (t : List Int) (key : Int) (w : World) (hA : Rn w A n t) (hr : Runey t) (hn : n ≤ 100000) (hkey : key = 117 ∨ key = 85 ∨ key = 126) :
    Calls Tryd.prog 27 #[.slice A n c, .int .i64 key] w fun e w' => e = .returned (.string (runesBytes (t.map (Rw.trn key)))) ∧ Kept (fun _ => False) w w' := by
  obtain ⟨wa, hmk, hka, hlt, hO⟩ := make_runes n w hn
  have HKA := Lib.hid hka
  have HO0 := Lib.hid hO
  have HA := Lib.hid hA
  have HR := Lib.hid hr
  have HL := Lib.hid hA.1
  obtain ⟨g, hg⟩ : ∃ g, w.heap.size = g := ⟨_, rfl⟩
  rw [hg] at hmk
  have HG := Lib.hid hg
  clear hA hr hka hO hlt hg
  go_enter Tryd.func27, Tryd.ntmps27
  go_upto_region 2 with fail
  go_wp2
  go_loopw [14] (fun v wr => ∃ (k : Nat) (u : List Int), k ≤ n ∧ v = .int .i64 k ∧ OwnR wr g n u ∧ u.take k = (t.take k).map (Rw.trn key) ∧ Kept (fun b => b = g) wa wr) (fun v _ => n - (intOf v).toNat)
  case atStart => exact ⟨0, _, Nat.zero_le _, rfl, by have := HO0.out; rwa [HG.out] at this, rfl, Kept.refl _ _⟩
  case round =>
    obtain ⟨k, u, hk, rfl, hO, hu, hkw⟩ := hrel
    have HO := Lib.hid hO
    have HU := Lib.hid hu
    have HKW := Lib.hid hkw
    have HUL := Lib.hid hO.rn.1
    clear hO hu hkw
    by_cases hlt : k < n
    · obtain ⟨ad, x, rfl, hx, hc⟩ := HA.out.cell hlt
      obtain ⟨x1, x2⟩ := HR.out.at_ hx
      have hcx : wr.cell? (ad.add k) = some (.int .i32 x) := cell_kept HKW.out (cell_kept HKA.out hc id) (by have := World.block_lt_of_cell? w _ hc; have := HG.out; omega)
      have HX := Lib.hid hx
      clear hx hc
      obtain ⟨y, hy⟩ : ∃ y, u[k]? = some y := ⟨_, List.getElem?_eq_getElem (by have := HUL.out; omega)⟩
      have c0 := HO.out.cell hy
      have f0 := HO.out.free k
      have HY := Lib.hid hy
      clear hy
      have hz : (97 ≤ x ∧ x ≤ 122) ∨ x < 97 ∨ 122 < x := by omega
      have b4 : decide (k < n) = true := by simp; omega
      rcases hkey with rfl | rfl | rfl
      · rcases hz with z | z | z
        · have d1 : decide (97 ≤ x) = true := by simp; omega
          have d2 : decide (x ≤ 122) = true := by simp; omega
          have HV : Hid (x = Rw.trn 117 x) := id_trn (by omega)
          clear z
          go_wp2
          go_roundw
          case rel => exact ⟨k + 1, _, by omega, by go_num, HO.out.set hlt x, next_take hlt HUL.out HX.out HV.out HU.out, HKW.out.setCell (p := ⟨g, k, none⟩) rfl _⟩
          case measure => simp [intOf]; omega
        · have d1 : decide (97 ≤ x) = false := by simp; omega
          have d2 : decide (x ≤ 122) = true := by simp; omega
          have HV : Hid (oth x = Rw.trn 117 x) := oth_trn (by omega)
          have cO := fun w => other_any x w ⟨x1, x2⟩
          clear z
          go_wp2_with (go_at_call 39; refine (cO _).mono ?_; rintro e w' ⟨rfl, rfl⟩)
          go_roundw
          case rel => exact ⟨k + 1, _, by omega, by go_num, (HO.out.set hlt x).set hlt (oth x), by rw [List.set_set]; exact next_take hlt HUL.out HX.out HV.out HU.out, (HKW.out.setCell (p := ⟨g, k, none⟩) rfl _).setCell (p := ⟨g, k, none⟩) rfl _⟩
          case measure => simp [intOf]; omega
        · have d1 : decide (97 ≤ x) = true := by simp; omega
          have d2 : decide (x ≤ 122) = false := by simp; omega
          have HV : Hid (oth x = Rw.trn 117 x) := oth_trn (by omega)
          have cO := fun w => other_any x w ⟨x1, x2⟩
          clear z
          go_wp2_with (go_at_call 39; refine (cO _).mono ?_; rintro e w' ⟨rfl, rfl⟩)
          go_roundw
          case rel => exact ⟨k + 1, _, by omega, by go_num, (HO.out.set hlt x).set hlt (oth x), by rw [List.set_set]; exact next_take hlt HUL.out HX.out HV.out HU.out, (HKW.out.setCell (p := ⟨g, k, none⟩) rfl _).setCell (p := ⟨g, k, none⟩) rfl _⟩
          case measure => simp [intOf]; omega
      · rcases hz with z | z | z
        · have d1 : decide (97 ≤ x) = true := by simp; omega
          have d2 : decide (x ≤ 122) = true := by simp; omega
          have HV : Hid (oth x = Rw.trn 85 x) := oth_trn (by omega)
          have cO := fun w => other_any x w ⟨x1, x2⟩
          clear z
          go_wp2_with (go_at_call 39; refine (cO _).mono ?_; rintro e w' ⟨rfl, rfl⟩)
          go_roundw
          case rel => exact ⟨k + 1, _, by omega, by go_num, (HO.out.set hlt x).set hlt (oth x), by rw [List.set_set]; exact next_take hlt HUL.out HX.out HV.out HU.out, (HKW.out.setCell (p := ⟨g, k, none⟩) rfl _).setCell (p := ⟨g, k, none⟩) rfl _⟩
          case measure => simp [intOf]; omega
        · have d1 : decide (97 ≤ x) = false := by simp; omega
          have d2 : decide (x ≤ 122) = true := by simp; omega
          have HV : Hid (x = Rw.trn 85 x) := id_trn (by omega)
          clear z
          go_wp2
          go_roundw
          case rel => exact ⟨k + 1, _, by omega, by go_num, HO.out.set hlt x, next_take hlt HUL.out HX.out HV.out HU.out, HKW.out.setCell (p := ⟨g, k, none⟩) rfl _⟩
          case measure => simp [intOf]; omega
        · have d1 : decide (97 ≤ x) = true := by simp; omega
          have d2 : decide (x ≤ 122) = false := by simp; omega
          have HV : Hid (x = Rw.trn 85 x) := id_trn (by omega)
          clear z
          go_wp2
          go_roundw
          case rel => exact ⟨k + 1, _, by omega, by go_num, HO.out.set hlt x, next_take hlt HUL.out HX.out HV.out HU.out, HKW.out.setCell (p := ⟨g, k, none⟩) rfl _⟩
          case measure => simp [intOf]; omega
      · rcases hz with z | z | z
        · have d1 : decide (97 ≤ x) = true := by simp; omega
          have d2 : decide (x ≤ 122) = true := by simp; omega
          have HV : Hid (oth x = Rw.trn 126 x) := oth_trn (by omega)
          have cO := fun w => other_any x w ⟨x1, x2⟩
          clear z
          go_wp2_with (go_at_call 39; refine (cO _).mono ?_; rintro e w' ⟨rfl, rfl⟩)
          go_roundw
          case rel => exact ⟨k + 1, _, by omega, by go_num, (HO.out.set hlt x).set hlt (oth x), by rw [List.set_set]; exact next_take hlt HUL.out HX.out HV.out HU.out, (HKW.out.setCell (p := ⟨g, k, none⟩) rfl _).setCell (p := ⟨g, k, none⟩) rfl _⟩
          case measure => simp [intOf]; omega
        · have d1 : decide (97 ≤ x) = false := by simp; omega
          have d2 : decide (x ≤ 122) = true := by simp; omega
          have HV : Hid (oth x = Rw.trn 126 x) := oth_trn (by omega)
          have cO := fun w => other_any x w ⟨x1, x2⟩
          clear z
          go_wp2_with (go_at_call 39; refine (cO _).mono ?_; rintro e w' ⟨rfl, rfl⟩)
          go_roundw
          case rel => exact ⟨k + 1, _, by omega, by go_num, (HO.out.set hlt x).set hlt (oth x), by rw [List.set_set]; exact next_take hlt HUL.out HX.out HV.out HU.out, (HKW.out.setCell (p := ⟨g, k, none⟩) rfl _).setCell (p := ⟨g, k, none⟩) rfl _⟩
          case measure => simp [intOf]; omega
        · have d1 : decide (97 ≤ x) = true := by simp; omega
          have d2 : decide (x ≤ 122) = false := by simp; omega
          have HV : Hid (oth x = Rw.trn 126 x) := oth_trn (by omega)
          have cO := fun w => other_any x w ⟨x1, x2⟩
          clear z
          go_wp2_with (go_at_call 39; refine (cO _).mono ?_; rintro e w' ⟨rfl, rfl⟩)
          go_roundw
          case rel => exact ⟨k + 1, _, by omega, by go_num, (HO.out.set hlt x).set hlt (oth x), by rw [List.set_set]; exact next_take hlt HUL.out HX.out HV.out HU.out, (HKW.out.setCell (p := ⟨g, k, none⟩) rfl _).setCell (p := ⟨g, k, none⟩) rfl _⟩
          case measure => simp [intOf]; omega
    · obtain rfl : k = n := by omega
      have hu : u = t.map (Rw.trn key) := by
        have h := HU.out
        rwa [List.take_of_length_le (by have := HUL.out; omega), List.take_of_length_le (by have := HL.out; omega)] at h
      have hv := run_txt (c := k) HO.out.rn
      rw [hu] at hv
      clear hu
      go_wp2
      go_ret
      exact ⟨rfl, (HKA.out.fresh HKW.out (fun b hb e => by have := HG.out; omega))⟩
end Go.Proofs.YtpgoikecignldaaDoor
