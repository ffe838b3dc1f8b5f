/-
  A ROW'S CLASSES BY OFFSETS, in a map: what the map tells; runs of one class; blanks.
-/
import Derived.Test.YtbofjefblhnkoaaGreatDoorObW
import Derived.Maps.Own
import Derived.Maps.Views
set_option linter.unusedVariables false
set_option maxRecDepth 100000
namespace Go.Proofs.YtbofjefblhnkoaaGreatDoor
open Go Go.RowKit Go.Maps

theorem zeroI (w : World) : (zeroValue 3).run Tryz.prog w = .ok (.int .i64 0) w := by kernel_rfl
theorem lawI : Keyed Tryz.prog 3 := int_keyed Tryz.underlying3
/-- A map that tells a class for each offset of a range. -/
def MapAs (W : World) (b : Nat) (f : Nat → Int) (lo hi : Nat) : Prop :=
  ∃ (n : Nat) (D : DataW Unit), W.ownsMap Tryz.prog 3 (plainElem Tryz.prog 3) b n D ∧ ∀ i : Nat, lo ≤ i → i < hi → D.atKey (.int .i64 (i : Int)) (.lit (.int .i64 0)) = .lit (.int .i64 (f i))
theorem MapAs.look {W : World} {b lo hi i : Nat} {f : Nat → Int} (h : MapAs W b f lo hi) (h1 : lo ≤ i) (h2 : i < hi) (h3 : hi ≤ 100000) {q : Int} (hq : f i = q) :
    (Instr.lookup 120 (.map (some b)) (.int .i64 (i : Int)) false).run Tryz.prog W = .ok (.int .i64 q) W := by
  obtain ⟨n, D, hown, hD⟩ := h
  obtain ⟨c, hrun, hat, _⟩ := hown.lookup_int lawI Tryz.underlying120 Tryz.underlying3 (zeroI _) (keyOf_int_mk Tryz.underlying3 (WalkArith.wf_i64 (n := (i : Int)) (by omega)))
  rw [hD i h1 h2, hq] at hat
  injection hat with hat
  injection hat with _ hat
  rw [hat]
  exact hrun
theorem ownsMap_kept {W W' : World} {S : Nat → Prop} {b n : Nat} {D : DataW Unit} (h : W.ownsMap Tryz.prog 3 (plainElem Tryz.prog 3) b n D) (hk : Kept S W W') (hS : ¬ S b) : W'.ownsMap Tryz.prog 3 (plainElem Tryz.prog 3) b n D := by
  have hlt := h.lt
  obtain ⟨es, clock, hb, F, hs, hD⟩ := h
  exact ⟨es, clock, (hk.block b hlt hS).trans hb, F, hs, hD⟩
theorem MapAs.kept {W W' : World} {S : Nat → Prop} {b lo hi : Nat} {f : Nat → Int} (h : MapAs W b f lo hi) (hk : Kept S W W') (hS : ¬ S b) : MapAs W' b f lo hi := by
  obtain ⟨n, D, hown, hD⟩ := h
  exact ⟨n, D, ownsMap_kept hown hk hS, hD⟩
abbrev clsV (b : Nat) (lo hi : Int) : Value := .agg #[.map (some b), .int .i64 lo, .int .i64 hi]
abbrev clsO (b : Nat) (lo hi : Int) : Obj := .cells #[.map (some b), .int .i64 lo, .int .i64 hi] 122
theorem cls_facts {w : World} {g b : Nat} {lo hi : Int} (h : w.heap[g]? = some (clsO b lo hi)) :
    w.cell? ⟨g, 0, none⟩ = some (.map (some b)) ∧ w.cell? ⟨g, 1, none⟩ = some (.int .i64 lo) ∧ w.cell? ⟨g, 2, none⟩ = some (.int .i64 hi) :=
  ⟨by rw [cell_of_row _ _ _ _ _ _ h]; rfl, by rw [cell_of_row _ _ _ _ _ _ h]; rfl, by rw [cell_of_row _ _ _ _ _ _ h]; rfl⟩
set_option maxRecDepth 100000 in
set_option maxHeartbeats 1000000 in
theorem prun_any (b lo hi k : Nat) (big : Bool) (t : List Int) (w : World) (hM : MapAs w b (Rw.cl t big) lo hi) (hlk : lo ≤ k) (hkh : k < hi) (hh : hi ≤ t.length) (hn : hi ≤ 6000) {q : Int} (hq : Rw.cl t big k = q) {LO HI : Nat} (hLO : Rw.rlo t big q k = LO) (hHI : Rw.rhi t big q (t.length - k) k = HI) (h1 : lo ≤ LO) (h2 : HI ≤ hi) :
    Calls Tryz.prog 81 #[clsV b lo hi, .int .i64 k] w fun e w' => e = .returned (.tuple #[.int .i64 LO, .int .i64 HI]) ∧ Kept (fun _ => False) w w' := by
  have hk1 : Kept (fun _ => False) w (w.alloc (clsO b lo hi)) := (Kept.refl _ w).alloc _
  have HM := Lib.hid (hM.kept hk1 id)
  have hlook : Hid (∀ i q', lo ≤ i → i < hi → Rw.cl t big i = q' → (Instr.lookup 120 (.map (some b)) (.int .i64 (i : Int)) false).run Tryz.prog (w.alloc (clsO b lo hi)) = .ok (.int .i64 q') (w.alloc (clsO b lo hi))) := fun i q' a1 a2 a3 => HM.out.look a1 a2 (by omega) a3
  obtain ⟨f0, f1, f2⟩ := cls_facts (heap_alloc_new w (clsO b lo hi))
  have lk := hlook.out k q hlk hkh hq
  have HQ := Lib.hid hq
  have HLO := Lib.hid hLO
  have HHI := Lib.hid (show Rw.rhi t big q (t.length - (k + 1)) (k + 1) = HI by rw [← hHI, show t.length - k = t.length - (k + 1) + 1 by omega, Rw.rhi_step (by omega) hq])
  have HK1 := Lib.hid hk1
  clear hq hLO hHI hk1 hM HM
  go_enter Tryz.func81, Tryz.ntmps81
  go_wp2_with fail
  generalize w.alloc (clsO b lo hi) = W1 at *
  generalize w.heap.size = g at *
  go_loop [4] (fun v => ∃ j : Nat, v = .int .i64 j ∧ lo ≤ j ∧ j ≤ k ∧ Rw.rlo t big q j = LO) (fun v => (intOf v).toNat)
  case atStart => exact ⟨k, rfl, hlk, Nat.le_refl _, HLO.out⟩
  case round =>
    obtain ⟨j, rfl, hlj, hjk, hlo⟩ := hrel
    have HLJ := Lib.hid hlo
    clear hlo
    by_cases hc : lo < j ∧ Rw.cl t big (j - 1) = q
    · obtain ⟨hlt, hq⟩ := hc
      obtain ⟨i, rfl⟩ : ∃ i, j = i + 1 := ⟨j - 1, by omega⟩
      rw [Nat.add_sub_cancel] at hq
      have li := hlook.out i q (by omega) (by omega) hq
      have b1 : decide (lo < i + 1) = true := decide_eq_true hlt
      have b2 : decide ((lo : Int) < (i : Int) + 1) = true := decide_eq_true (by omega)
      have HL2 := Lib.hid (show Rw.rlo t big q i = LO by rw [← HLJ.out, Rw.rlo_step hq])
      clear hq
      go_wp2_with fail
      go_round
      case rel => exact ⟨i, rfl, by omega, by omega, HL2.out⟩
      case measure => simp [intOf] <;> omega
    · have HLL := Lib.hid (show j = LO by
        by_cases hlt : lo < j
        · obtain ⟨i, rfl⟩ : ∃ i, j = i + 1 := ⟨j - 1, by omega⟩
          rw [← HLJ.out, Rw.rlo_stop (fun e => hc ⟨hlt, by rw [Nat.add_sub_cancel]; exact e⟩)]
        · have := Rw.rlo_le t big q j
          have := HLJ.out
          omega)
      have hways : j = lo ∨ (∃ i v, j = i + 1 ∧ lo < i + 1 ∧ Rw.cl t big i = v ∧ (v == q) = false) := by
        by_cases hlt : lo < j
        · exact .inr ⟨j - 1, _, by omega, by omega, rfl, beq_eq_false_iff_ne.2 (fun h => hc ⟨hlt, h⟩)⟩
        · exact .inl (by omega)
      clear hc
      rcases hways with rfl | ⟨i, v, rfl, hlt, hv, bv⟩
      case' inl =>
        have b1 : decide (j < j) = false := decide_eq_false (by omega)
        have b2 : decide ((j : Int) < (j : Int)) = false := decide_eq_false (by omega)
      case' inr =>
        have li := hlook.out i v (by omega) (by omega) hv
        have b1 : decide (lo < i + 1) = true := decide_eq_true hlt
        have b2 : decide ((lo : Int) < (i : Int) + 1) = true := decide_eq_true (by omega)
        clear hv
      all_goals
        go_wp2_with fail
        go_loop [5] (fun v => ∃ h : Nat, v = .int .i64 h ∧ k < h ∧ h ≤ hi ∧ Rw.rhi t big q (t.length - h) h = HI) (fun v => hi - (intOf v).toNat)
        case atStart => exact ⟨k + 1, by go_num, by omega, by omega, HHI.out⟩
        case round =>
          obtain ⟨h, rfl, hkk, hhh, hhi⟩ := hrel
          have HHJ := Lib.hid hhi
          clear hhi
          by_cases hlt2 : h < hi
          · have b3 : decide (h < hi) = true := decide_eq_true hlt2
            have b4 : decide ((h : Int) < (hi : Int)) = true := decide_eq_true (by omega)
            by_cases hq : Rw.cl t big h = q
            · have HL2 := Lib.hid (show Rw.rhi t big q (t.length - (h + 1)) (h + 1) = HI by rw [← HHJ.out, show t.length - h = t.length - (h + 1) + 1 by omega, Rw.rhi_step (by omega) hq])
              have lh := hlook.out h q (by omega) hlt2 hq
              clear hq
              go_wp2_with fail
              go_round
              case rel => exact ⟨h + 1, by go_num, by omega, by omega, HL2.out⟩
              case measure => simp [intOf] <;> omega
            · have HHH := Lib.hid (show h = HI by rw [← HHJ.out, Rw.rhi_stop (fun e => hq e.2)])
              obtain ⟨v2, hv2⟩ : ∃ v2, Rw.cl t big h = v2 := ⟨_, rfl⟩
              have lh := hlook.out h v2 (by omega) hlt2 hv2
              have bv2 : (v2 == q) = false := beq_eq_false_iff_ne.2 (by rw [← hv2]; exact hq)
              clear hq hv2
              go_wp2_with fail
              rw [← HLL.out, ← HHH.out]
              exact bodyPost_ret (v := .tuple #[_, _]) (by simp [results, Tryz.results81, go_sem]) rfl ⟨rfl, HK1.out⟩
          · obtain rfl : h = hi := by omega
            have b3 : decide (h < h) = false := decide_eq_false (by omega)
            have b4 : decide ((h : Int) < (h : Int)) = false := decide_eq_false (by omega)
            have HHH := Lib.hid (show h = HI by have := Rw.rhi_ge t big q (t.length - h) h; have := HHJ.out; omega)
            go_wp2_with fail
            rw [← HLL.out, ← HHH.out]
            exact bodyPost_ret (v := .tuple #[_, _]) (by simp [results, Tryz.results81, go_sem]) rfl ⟨rfl, HK1.out⟩
/-- Does a blank of the row stand there? -/
def blk (t : List Int) (big : Bool) (lo hi : Nat) (a : Int) : Bool := decide ((lo : Int) ≤ a ∧ a < (hi : Int) ∧ Rw.cl t big a.toNat = 0)
set_option maxRecDepth 100000 in
set_option maxHeartbeats 1000000 in
theorem pblank_any (b lo hi : Nat) (a : Int) (big : Bool) (t : List Int) (w : World) (hM : MapAs w b (Rw.cl t big) lo hi) (hn : hi ≤ 6000) :
    Calls Tryz.prog 82 #[clsV b lo hi, .int .i64 a] w fun e w' => e = .returned (.bool (blk t big lo hi a)) ∧ Kept (fun _ => False) w w' := by
  have hk1 : Kept (fun _ => False) w (w.alloc (clsO b lo hi)) := (Kept.refl _ w).alloc _
  have HM := Lib.hid (hM.kept hk1 id)
  obtain ⟨f0, f1, f2⟩ := cls_facts (heap_alloc_new w (clsO b lo hi))
  have HK1 := Lib.hid hk1
  clear hk1 hM
  by_cases h1 : (lo : Int) ≤ a
  · obtain ⟨i, rfl⟩ : ∃ i : Nat, a = i := ⟨a.toNat, by omega⟩
    have b1 : decide (lo ≤ i) = true := decide_eq_true (by omega)
    have b2 : decide ((lo : Int) ≤ (i : Int)) = true := decide_eq_true h1
    by_cases h2 : i < hi
    · have b3 : decide (i < hi) = true := decide_eq_true h2
      have b4 : decide ((i : Int) < (hi : Int)) = true := decide_eq_true (by omega)
      obtain ⟨v, hv⟩ : ∃ v, Rw.cl t big i = v := ⟨_, rfl⟩
      have lk := HM.out.look (i := i) (q := v) (by omega) h2 (by omega) hv
      have HB : Hid (blk t big lo hi (i : Int) = (v == 0)) := by
        show _ = _
        unfold blk
        rw [show ((i : Int).toNat) = i by omega, hv]
        by_cases h0 : v = 0
        · rw [decide_eq_true ⟨h1, by omega, h0⟩, h0]; rfl
        · rw [decide_eq_false (fun h => h0 h.2.2), beq_eq_false_iff_ne.2 h0]
      clear hv
      go_enter Tryz.func82, Tryz.ntmps82
      go_wp2_with fail
      rw [HB.out]
      exact bodyPost_ret (v := .bool _) (by simp [results, Tryz.results82, go_sem]) rfl ⟨rfl, HK1.out⟩
    · have b3 : decide (i < hi) = false := decide_eq_false h2
      have b4 : decide ((i : Int) < (hi : Int)) = false := decide_eq_false (by omega)
      have HB : Hid (blk t big lo hi (i : Int) = false) := decide_eq_false (fun h => by omega)
      go_enter Tryz.func82, Tryz.ntmps82
      go_wp2_with fail
      rw [HB.out]
      exact bodyPost_ret (v := .bool _) (by simp [results, Tryz.results82, go_sem]) rfl ⟨rfl, HK1.out⟩
  · have b1 : decide ((lo : Int) ≤ a) = false := decide_eq_false h1
    have HB : Hid (blk t big lo hi a = false) := decide_eq_false (fun h => h1 h.1)
    go_enter Tryz.func82, Tryz.ntmps82
    go_wp2_with fail
    rw [HB.out]
    exact bodyPost_ret (v := .bool _) (by simp [results, Tryz.results82, go_sem]) rfl ⟨rfl, HK1.out⟩
end Go.Proofs.YtbofjefblhnkoaaGreatDoor
