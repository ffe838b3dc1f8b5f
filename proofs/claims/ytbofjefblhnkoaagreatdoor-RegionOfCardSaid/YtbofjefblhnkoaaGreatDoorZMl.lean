/-
  THE LAWS' SMALL CALLS: a number within bounds, where a number is in a list, whether a key is one of the rows' motions.
  MOTIONS: which keys are motions, and what may be asked, as the reference tells it.
  MOTIONS: what may not be asked; what may, as the reference tells it.
  MOTIONS: what may be asked, as the reference tells it.
-/
import Derived.Test.YtbofjefblhnkoaaGreatDoorZMb
import Derived.Test.YtbofjefblhnkoaaGreatDoorZM0
import Derived.Test.YtbofjefblhnkoaaGreatDoorZMi
import Derived.Test.YtbofjefblhnkoaaGreatDoorZMk
set_option linter.unusedVariables false
namespace Go.Proofs.YtbofjefblhnkoaaGreatDoor.Ln
open Go Go.RowKit

theorem znum_any (x m : Int) (w : World) : Calls Tryz.prog 16 #[.int .i64 x, .int .i64 m] w fun e w' => e = .returned (.bool (decide (0 ≤ x ∧ x ≤ m))) ∧ w' = w := by
  by_cases h1 : 0 ≤ x
  · have b1 : decide (0 ≤ x) = true := by simp; omega
    by_cases h2 : x ≤ m
    · have b2 : decide (x ≤ m) = true := by simp; omega
      rw [decide_eq_true (show 0 ≤ x ∧ x ≤ m from ⟨h1, h2⟩)]
      clear h1 h2
      go_enter Tryz.func16, Tryz.ntmps16
      go_wp2
      go_ret
      exact ⟨rfl, rfl⟩
    · have b2 : decide (x ≤ m) = false := by simp; omega
      rw [decide_eq_false (show ¬ (0 ≤ x ∧ x ≤ m) by omega)]
      clear h1 h2
      go_enter Tryz.func16, Tryz.ntmps16
      go_wp2
      go_ret
      exact ⟨rfl, rfl⟩
  · have b1 : decide (0 ≤ x) = false := by simp; omega
    rw [decide_eq_false (show ¬ (0 ≤ x ∧ x ≤ m) by omega)]
    clear h1
    go_enter Tryz.func16, Tryz.ntmps16
    go_wp2
    go_ret
    exact ⟨rfl, rfl⟩
theorem within_any (x n : Int) (hn : 1 ≤ n) (hm : n ≤ 9223372036854775807) (w : World) : Calls Tryz.prog 20 #[.int .i64 x, .int .i64 n] w fun e w' => ∃ k : Nat, (k : Int) < n ∧ e = .returned (.int .i64 k) ∧ w' = w := by
  have e1 : IntKind.u64.wrap n = n := IntWalk.u64_in n ⟨by omega, by omega⟩
  obtain ⟨q, hq, hq0⟩ : ∃ q, IntKind.u64.wrap x = q ∧ 0 ≤ q := ⟨_, rfl, by simp [IntKind.wrap, IntKind.bits, IntKind.signed]; omega⟩
  have e2 : q.tmod n = q % n := by rw [Int.tmod_eq_emod_of_nonneg hq0]
  obtain ⟨k, hk⟩ : ∃ k : Nat, q % n = (k : Int) := ⟨(q % n).toNat, by have := Int.emod_nonneg q (show n ≠ 0 by omega); omega⟩
  have hlt : (k : Int) < n := by rw [← hk]; exact Int.emod_lt_of_pos q (by omega)
  have e4 : IntKind.u64.wrap (k : Int) = (k : Int) := IntWalk.u64_in _ ⟨by omega, by omega⟩
  have hn0 : (n == 0) = false := by rw [beq_eq_false_iff_ne]; omega
  have HK := Lib.hid hk
  clear hk
  go_enter Tryz.func20, Tryz.ntmps20
  go_wp2
  go_ret
  refine ⟨k, hlt, ?_, rfl⟩
  show Ending.returned (.int .i64 (wrap64 (q % n))) = _
  rw [HK.out, IntWalk.wrap64_in _ ⟨by omega, by omega⟩]
/-- Where a number is in a list; -1: nowhere. -/
theorem zin_any (A : Option Addr) (n c : Nat) (xs : List Int) (x : Int) (w : World) (hA : Nums w A n xs) (hn : n ≤ 100000) :
    Calls Tryz.prog 59 #[.slice A n c, .int .i64 x] w fun e w' => (∃ r : Int, e = .returned (.int .i64 r) ∧ -1 ≤ r ∧ r ≤ 100000 ∧ (0 ≤ r ↔ x ∈ xs)) ∧ w' = w := by
  have HA := Lib.hid hA
  clear hA
  go_enter Tryz.func59, Tryz.ntmps59
  go_wp2
  go_loop [5] (fun v => ∃ k : Nat, k ≤ n ∧ v = .int .i64 k ∧ x ∉ xs.take k) (fun v => n - (intOf v).toNat)
  case atStart => exact ⟨0, Nat.zero_le _, rfl, by simp⟩
  case round =>
    obtain ⟨k, hk, rfl, hno⟩ := hrel
    have HNO := Lib.hid hno
    clear hno
    by_cases hkn : k < n
    · obtain ⟨a, y, rfl, hy, hc⟩ := HA.out.cell hkn
      have HY := Lib.hid hy
      clear hy
      by_cases hxy : y = x
      · subst hxy
        go_wp2
        go_ret
        exact ⟨⟨k, rfl, by omega, by omega, fun _ => List.mem_of_getElem? HY.out, fun _ => by omega⟩, rfl⟩
      · have b1 : (y == x) = false := by rw [beq_eq_false_iff_ne]; exact hxy
        have HXY := Lib.hid hxy
        clear hxy
        go_wp2
        go_round
        case rel =>
          refine ⟨k + 1, by omega, by go_num, ?_⟩
          rw [List.take_add_one, HY.out]
          intro h
          rcases List.mem_append.1 h with h | h
          · exact HNO.out h
          · simp at h
            exact HXY.out h.symm
        case measure => simp [intOf]; omega
    · obtain rfl : k = n := by omega
      go_wp2
      go_ret
      refine ⟨⟨-1, rfl, by omega, by omega, ?_⟩, rfl⟩
      have h := HNO.out
      rw [List.take_of_length_le (by rw [HA.out.1]; exact Nat.le_refl _)] at h
      constructor
      · intro h'; omega
      · intro h'; exact absurd h' h
theorem nums_new (w : World) (xs : List Int) (t : TypeId) : Nums (w.alloc (.cells (xs.map (Value.int .i64)).toArray t)) (some ⟨w.heap.size, 0, none⟩) xs.length xs := by
  refine ⟨rfl, fun j x hj => ⟨_, rfl, ?_⟩⟩
  rw [addr_add, cell_of_row _ _ _ _ _ _ (heap_alloc_new w _)]
  simp [hj]
/-- Is it a key of the rows' motions? -/
theorem line_any (key : Int) (w : World) : Calls Tryz.prog 62 #[.int .i64 key] w fun e w' => e = .returned (.bool (decide (Rw.Line key))) ∧ Kept (fun _ => False) w w' := by
  have hN := nums_new w [104, 108, 48, 94, 36, 106, 107, 43, 45, 95, 71, 16777319] 3
  have cI := zin_any (some ⟨w.heap.size, 0, none⟩) 12 12 _ key _ hN (by decide)
  have HL : Hid (key ∈ ([104, 108, 48, 94, 36, 106, 107, 43, 45, 95, 71, 16777319] : List Int) ↔ Rw.Line key) := by
    show _ ↔ _
    unfold Rw.Line
    simp
  clear hN
  go_enter Tryz.func62, Tryz.ntmps62
  go_wp2_with (go_at_call 59; refine cI.mono ?_; rintro e w' ⟨⟨r, rfl, h1, h2, h3⟩, rfl⟩; have H3 := Lib.hid h3; clear h3)
  have hb : decide (0 ≤ r) = decide (Rw.Line key) := decide_eq_decide.2 (H3.out.trans HL.out)
  have HB := Lib.hid hb
  clear hb H3
  go_ret
  rw [← HB.out]
  exact ⟨rfl, (Kept.refl _ w).alloc _⟩
end Go.Proofs.YtbofjefblhnkoaaGreatDoor.Ln
namespace Go.Proofs.YtbofjefblhnkoaaGreatDoor
open Go Go.RowKit

theorem kin_ne (key : Int) : Rw.kin key ≠ 0 ↔ ((Rw.Seek key ∨ key = 39 ∨ key = 96) ∨ Rw.Word key ∨ Rw.Line key ∨ key ∈ ([59, 44, 123, 125, 37] : List Int)) := by
  simp only [List.mem_cons, List.not_mem_nil, or_false]
  unfold Rw.kin Rw.Seek Rw.Word Rw.Line
  repeat' split
  all_goals omega
theorem asks_any (key : Int) (w : World) : Calls Tryz.prog 60 #[.int .i64 key] w fun e w' => e = .returned (.bool (decide (Rw.Seek key ∨ key = 39 ∨ key = 96))) ∧ Kept (fun _ => False) w w' := by
  by_cases hs : Rw.Seek key
  · have cS := fun W => Sk.seek_t hs W
    rw [decide_eq_true (show Rw.Seek key ∨ key = 39 ∨ key = 96 from .inl hs)]
    clear hs
    go_enter Tryz.func60, Tryz.ntmps60
    go_wp2_with (go_at_call 27; refine (cS _).mono ?_; rintro e w' ⟨rfl, hk⟩)
    go_ret
    exact ⟨rfl, hk⟩
  · have cS := fun W => Sk.seek_f hs W
    by_cases h1 : key = 39
    · subst h1
      rw [decide_eq_true (show Rw.Seek 39 ∨ (39 : Int) = 39 ∨ (39 : Int) = 96 from .inr (.inl rfl))]
      clear hs
      go_enter Tryz.func60, Tryz.ntmps60
      go_wp2_with (go_at_call 27; refine (cS _).mono ?_; rintro e w' ⟨rfl, hk⟩)
      go_ret
      exact ⟨rfl, hk⟩
    · by_cases h2 : key = 96
      · subst h2
        rw [decide_eq_true (show Rw.Seek 96 ∨ (96 : Int) = 39 ∨ (96 : Int) = 96 from .inr (.inr rfl))]
        clear hs h1
        go_enter Tryz.func60, Tryz.ntmps60
        go_wp2_with (go_at_call 27; refine (cS _).mono ?_; rintro e w' ⟨rfl, hk⟩)
        go_ret
        exact ⟨rfl, hk⟩
      · rw [decide_eq_false (show ¬ (Rw.Seek key ∨ key = 39 ∨ key = 96) from fun h => h.elim hs (fun h => h.elim h1 h2))]
        have b1 : (key == 39) = false := beq_eq_false_iff_ne.2 h1
        have b2 : (key == 96) = false := beq_eq_false_iff_ne.2 h2
        clear hs h1 h2
        go_enter Tryz.func60, Tryz.ntmps60
        go_wp2_with (go_at_call 27; refine (cS _).mono ?_; rintro e w' ⟨rfl, hk⟩)
        go_ret
        exact ⟨rfl, hk⟩
theorem is_any (key : Int) (w : World) : Calls Tryz.prog 30 #[.int .i64 key] w fun e w' => e = .returned (.bool (decide (Rw.kin key ≠ 0))) ∧ Kept (fun _ => False) w w' := by
  have cA := fun W => asks_any key W
  have cW := fun W => word_any key W
  have cL := fun W => Ln.line_any key W
  have hk := kin_ne key
  by_cases h1 : Rw.Seek key ∨ key = 39 ∨ key = 96
  · rw [decide_eq_true (hk.2 (.inl h1))]
    rw [decide_eq_true h1] at cA
    clear hk h1
    go_enter Tryz.func30, Tryz.ntmps30
    go_wp2_with (go_at_call 60; refine (cA _).mono ?_; rintro e w1 ⟨rfl, hk1⟩)
    go_ret
    exact ⟨rfl, by first | exact hk1.alloc _ | exact hk1⟩
  · rw [decide_eq_false h1] at cA
    by_cases h2 : Rw.Word key
    · rw [decide_eq_true (hk.2 (.inr (.inl h2)))]
      rw [decide_eq_true h2] at cW
      clear hk h1 h2
      go_enter Tryz.func30, Tryz.ntmps30
      go_wp2_with (first | (go_at_call 60; refine (cA _).mono ?_; rintro e w1 ⟨rfl, hk1⟩) | (go_at_call 61; refine (cW _).mono ?_; rintro e w2 ⟨rfl, hk2⟩))
      go_ret
      exact ⟨rfl, by first | exact (hk1.trans hk2).alloc _ | exact hk1.trans hk2⟩
    · rw [decide_eq_false h2] at cW
      by_cases h3 : Rw.Line key
      · rw [decide_eq_true (hk.2 (.inr (.inr (.inl h3))))]
        rw [decide_eq_true h3] at cL
        clear hk h1 h2 h3
        go_enter Tryz.func30, Tryz.ntmps30
        go_wp2_with (first | (go_at_call 60; refine (cA _).mono ?_; rintro e w1 ⟨rfl, hk1⟩) | (go_at_call 61; refine (cW _).mono ?_; rintro e w2 ⟨rfl, hk2⟩) | (go_at_call 62; refine (cL _).mono ?_; rintro e w3 ⟨rfl, hk3⟩))
        go_ret
        exact ⟨rfl, by first | exact ((hk1.trans hk2).trans hk3).alloc _ | exact (hk1.trans hk2).trans hk3⟩
      · rw [decide_eq_false h3] at cL
        have hd : decide (Rw.kin key ≠ 0) = decide (key ∈ ([59, 44, 123, 125, 37] : List Int)) := decide_eq_decide.2 (hk.trans ⟨fun h => h.elim (fun h => absurd h h1) (fun h => h.elim (fun h => absurd h h2) (fun h => h.elim (fun h => absurd h h3) id)), fun h => .inr (.inr (.inr h))⟩)
        rw [hd]
        have cI := fun (W : World) => zin_any (some ⟨W.heap.size, 0, none⟩) 5 5 [59, 44, 123, 125, 37] key (W.alloc (.cells (([59, 44, 123, 125, 37] : List Int).map (Value.int .i64)).toArray 3)) (nums_new W [59, 44, 123, 125, 37] 3) (by decide)
        clear hk h1 h2 h3 hd
        go_enter Tryz.func30, Tryz.ntmps30
        go_wp2_with (first | (go_at_call 60; refine (cA _).mono ?_; rintro e w1 ⟨rfl, hk1⟩) | (go_at_call 61; refine (cW _).mono ?_; rintro e w2 ⟨rfl, hk2⟩) | (go_at_call 62; refine (cL _).mono ?_; rintro e w3 ⟨rfl, hk3⟩) | (go_at_call 59; refine (cI _).mono ?_; rintro e w' ⟨⟨r, rfl, g1, g2, g3⟩, rfl⟩; have G3 := Lib.hid g3; clear g3))
        have hb : decide (0 ≤ r) = decide (key ∈ ([59, 44, 123, 125, 37] : List Int)) := decide_eq_decide.2 G3.out
        have HB := Lib.hid hb
        clear hb G3
        go_ret
        rw [← HB.out]
        exact ⟨rfl, by first | exact ((hk1.trans hk2).trans hk3).alloc _ | exact (hk1.trans hk2).trans hk3⟩
/-- What may be asked of a text. -/
def GoodR (t : List Int) (k key c k1 : Int) (M : List (List Int)) : Prop := (0 ≤ k ∧ k ≤ (t.length : Int)) ∧ Rw.kin key ≠ 0 ∧ (0 ≤ c ∧ c ≤ 999) ∧ (k1 = 0 ∨ Rw.Seek k1) ∧ Rw.mOk M
end Go.Proofs.YtbofjefblhnkoaaGreatDoor
namespace Go.Proofs.YtbofjefblhnkoaaGreatDoor
open Go Go.RowKit

/-- What Go tells of what may not be. -/
def noV : Value := .tuple #[tgt 0 0, sekV 0 0, .int .i64 1]
set_option maxRecDepth 100000 in
set_option maxHeartbeats 1000000 in
theorem pgn1 (s : ByteArray) (k c0 c1 c2 c3 c4 c5 k1 k2 : Int) (A : Option Addr) (n c : Nat) (M : List (List Int)) (w : World) (hs : s.size ≤ 140737488351232) (hT : Tabs w) (hA : Rws w A n 2 M) (hn : n ≤ 100000) (hm : mayB s = false) :
    Calls Tryz.prog 24 #[.string s, .int .i64 k, cmdV c0 c1 c2 c3 c4 c5, sekV k1 k2, .slice A n c] w fun e w' => e = .returned noV ∧ Kept (fun _ => False) w w' := by
  have HK0 : Hid (Kept (fun _ => False) w ((((w.alloc (cmdO c0 c1 c2 c3 c4 c5)).alloc (sekO k1 k2)).alloc (tgtO 0 0)).alloc (sekO 0 0))) := ((((Kept.refl _ w).alloc _).alloc _).alloc _).alloc _
  have HF0 := Lib.hid (four_new w c0 c1 c2 c3 c4 c5 k1 k2)
  have cK := fun W => kindOf_any c3 W
  have cP := fun W (hk' : Kept (fun _ => False) w W) => place_form s k W hs (hT.kept hk' id id) hm
  generalize Rw.kin c3 = K0 at *
  clear hT hA
  unfold noV
  go_enter Tryz.func24, Tryz.ntmps24
  go_wp2_with (first
    | (go_at_call 49; refine (cK _).mono ?_; rintro e w' ⟨rfl, hw⟩; have hw2 := hw.symm; subst hw2)
    | (go_at_call 39; refine (cP _ HK0.out).mono ?_; rintro e w1 ⟨rfl, hk1⟩; have HK1 := Lib.hid (HK0.out.trans hk1); have HF1 := Lib.hid (HF0.out.kept hk1); have HX1 : Hid (Kept (fun _ => False) w1 (w1.alloc (.cells #[.int .i64 0, .int .i64 0] 24))) := (Kept.refl (fun _ => False) w1).alloc _; have HFA := Lib.hid (HF1.out.kept HX1.out); have HKA := Lib.hid (HK1.out.trans HX1.out); obtain ⟨a1, a2, a3, ⟨d1, d2, d3, d4⟩, ⟨e1, e2, e3, e4⟩, ⟨g1, g2, g3, g4⟩⟩ := HFA.out.facts; clear hk1))
  have FF := ((HFA.out.setT 0 0).setX 0 0)
  have KK := (Kept.pair (g := w.heap.size + 1 + 1 + 1) (Kept.pair (g := w.heap.size + 1 + 1) (Kept.refl (fun q => q = w.heap.size + 1 + 1 ∨ q = w.heap.size + 1 + 1 + 1) (w1.alloc (.cells #[.int .i64 0, .int .i64 0] 24))) (.inl rfl) (.int .i64 0) (.int .i64 0)) (.inr rfl) (.int .i64 0) (.int .i64 0))
  refine bodyPost_ret (res_go rfl _ _ (w.heap.size + 1 + 1) (w.heap.size + 1 + 1 + 1) 0 0 0 0 rfl rfl ?_ ?_) rfl ⟨rfl, ?_⟩
  · exact FF.c
  · exact FF.d
  · exact HKA.out.fresh KK (fun q hq e => by omega)
set_option maxRecDepth 100000 in
set_option maxHeartbeats 1000000 in
theorem pgn2 (s : ByteArray) (k c0 c1 c2 c3 c4 c5 k1 k2 : Int) (A : Option Addr) (n c : Nat) (M : List (List Int)) (w : World) (hs : s.size ≤ 140737488351232) (hT : Tabs w) (hA : Rws w A n 2 M) (hn : n ≤ 100000) (hm : mayB s = true) (hk : ¬ (0 ≤ k ∧ k ≤ ((rs s).length : Int))) :
    Calls Tryz.prog 24 #[.string s, .int .i64 k, cmdV c0 c1 c2 c3 c4 c5, sekV k1 k2, .slice A n c] w fun e w' => e = .returned noV ∧ Kept (fun _ => False) w w' := by
  have HK0 : Hid (Kept (fun _ => False) w ((((w.alloc (cmdO c0 c1 c2 c3 c4 c5)).alloc (sekO k1 k2)).alloc (tgtO 0 0)).alloc (sekO 0 0))) := ((((Kept.refl _ w).alloc _).alloc _).alloc _).alloc _
  have HF0 := Lib.hid (four_new w c0 c1 c2 c3 c4 c5 k1 k2)
  have cK := fun W => kindOf_any c3 W
  have cP := fun W (hk' : Kept (fun _ => False) w W) => place_none s k W (hT.kept hk' id id) hm hk
  generalize Rw.kin c3 = K0 at *
  clear hT hA
  unfold noV
  go_enter Tryz.func24, Tryz.ntmps24
  go_wp2_with (first
    | (go_at_call 49; refine (cK _).mono ?_; rintro e w' ⟨rfl, hw⟩; have hw2 := hw.symm; subst hw2)
    | (go_at_call 39; refine (cP _ HK0.out).mono ?_; rintro e w1 ⟨rfl, hk1⟩; have HK1 := Lib.hid (HK0.out.trans hk1); have HF1 := Lib.hid (HF0.out.kept hk1); have HX1 : Hid (Kept (fun _ => False) w1 (w1.alloc (.cells #[.int .i64 0, .int .i64 0] 24))) := (Kept.refl (fun _ => False) w1).alloc _; have HFA := Lib.hid (HF1.out.kept HX1.out); have HKA := Lib.hid (HK1.out.trans HX1.out); obtain ⟨a1, a2, a3, ⟨d1, d2, d3, d4⟩, ⟨e1, e2, e3, e4⟩, ⟨g1, g2, g3, g4⟩⟩ := HFA.out.facts; clear hk1))
  have FF := ((HFA.out.setT 0 0).setX 0 0)
  have KK := (Kept.pair (g := w.heap.size + 1 + 1 + 1) (Kept.pair (g := w.heap.size + 1 + 1) (Kept.refl (fun q => q = w.heap.size + 1 + 1 ∨ q = w.heap.size + 1 + 1 + 1) (w1.alloc (.cells #[.int .i64 0, .int .i64 0] 24))) (.inl rfl) (.int .i64 0) (.int .i64 0)) (.inr rfl) (.int .i64 0) (.int .i64 0))
  refine bodyPost_ret (res_go rfl _ _ (w.heap.size + 1 + 1) (w.heap.size + 1 + 1 + 1) 0 0 0 0 rfl rfl ?_ ?_) rfl ⟨rfl, ?_⟩
  · exact FF.c
  · exact FF.d
  · exact HKA.out.fresh KK (fun q hq e => by omega)
set_option maxRecDepth 100000 in
set_option maxHeartbeats 1000000 in
theorem pgn3 (s : ByteArray) (k c0 c1 c2 c3 c4 c5 k1 k2 : Int) (A : Option Addr) (n c : Nat) (M : List (List Int)) (w : World) (hs : s.size ≤ 140737488351232) (hT : Tabs w) (hA : Rws w A n 2 M) (hn : n ≤ 100000) (hm : mayB s = true) (hk : 0 ≤ k ∧ k ≤ ((rs s).length : Int)) (hkin : Rw.kin c3 = 0) :
    Calls Tryz.prog 24 #[.string s, .int .i64 k, cmdV c0 c1 c2 c3 c4 c5, sekV k1 k2, .slice A n c] w fun e w' => e = .returned noV ∧ Kept (fun _ => False) w w' := by
  have HK0 : Hid (Kept (fun _ => False) w ((((w.alloc (cmdO c0 c1 c2 c3 c4 c5)).alloc (sekO k1 k2)).alloc (tgtO 0 0)).alloc (sekO 0 0))) := ((((Kept.refl _ w).alloc _).alloc _).alloc _).alloc _
  have HF0 := Lib.hid (four_new w c0 c1 c2 c3 c4 c5 k1 k2)
  have cK := fun W => kindOf_any c3 W
  obtain ⟨k, rfl⟩ := Int.eq_ofNat_of_zero_le hk.1
  have cP := fun W (hk' : Kept (fun _ => False) w W) => place_yes s k W (hT.kept hk' id id) hm (by omega)
  generalize Rw.nl (rs s) k = p0 at *
  generalize k - Rw.beg (rs s) k = p1 at *
  rw [hkin] at cK
  clear hkin
  clear hT hA
  unfold noV
  go_enter Tryz.func24, Tryz.ntmps24
  go_wp2_with (first
    | (go_at_call 49; refine (cK _).mono ?_; rintro e w' ⟨rfl, hw⟩; have hw2 := hw.symm; subst hw2)
    | (go_at_call 39; refine (cP _ HK0.out).mono ?_; rintro e w1 ⟨rfl, hk1⟩; have HK1 := Lib.hid (HK0.out.trans hk1); have HF1 := Lib.hid (HF0.out.kept hk1); have HX1 : Hid (Kept (fun _ => False) w1 (w1.alloc (.cells #[.int .i64 p0, .int .i64 p1] 24))) := (Kept.refl (fun _ => False) w1).alloc _; have HFA := Lib.hid (HF1.out.kept HX1.out); have HKA := Lib.hid (HK1.out.trans HX1.out); obtain ⟨a1, a2, a3, ⟨d1, d2, d3, d4⟩, ⟨e1, e2, e3, e4⟩, ⟨g1, g2, g3, g4⟩⟩ := HFA.out.facts; clear hk1))
  have FF := ((HFA.out.setT 0 0).setX 0 0)
  have KK := (Kept.pair (g := w.heap.size + 1 + 1 + 1) (Kept.pair (g := w.heap.size + 1 + 1) (Kept.refl (fun q => q = w.heap.size + 1 + 1 ∨ q = w.heap.size + 1 + 1 + 1) (w1.alloc (.cells #[.int .i64 (p0 : Nat), .int .i64 (p1 : Nat)] 24))) (.inl rfl) (.int .i64 0) (.int .i64 0)) (.inr rfl) (.int .i64 0) (.int .i64 0))
  refine bodyPost_ret (res_go rfl _ _ (w.heap.size + 1 + 1) (w.heap.size + 1 + 1 + 1) 0 0 0 0 rfl rfl ?_ ?_) rfl ⟨rfl, ?_⟩
  · exact FF.c
  · exact FF.d
  · exact HKA.out.fresh KK (fun q hq e => by omega)
set_option maxRecDepth 100000 in
set_option maxHeartbeats 1000000 in
theorem pgn4 (s : ByteArray) (k c0 c1 c2 c3 c4 c5 k1 k2 : Int) (A : Option Addr) (n c : Nat) (M : List (List Int)) (w : World) (hs : s.size ≤ 140737488351232) (hT : Tabs w) (hA : Rws w A n 2 M) (hn : n ≤ 100000) (hm : mayB s = true) (hk : 0 ≤ k ∧ k ≤ ((rs s).length : Int)) (hkin : Rw.kin c3 ≠ 0) (hc : c1 < 0) :
    Calls Tryz.prog 24 #[.string s, .int .i64 k, cmdV c0 c1 c2 c3 c4 c5, sekV k1 k2, .slice A n c] w fun e w' => e = .returned noV ∧ Kept (fun _ => False) w w' := by
  have HK0 : Hid (Kept (fun _ => False) w ((((w.alloc (cmdO c0 c1 c2 c3 c4 c5)).alloc (sekO k1 k2)).alloc (tgtO 0 0)).alloc (sekO 0 0))) := ((((Kept.refl _ w).alloc _).alloc _).alloc _).alloc _
  have HF0 := Lib.hid (four_new w c0 c1 c2 c3 c4 c5 k1 k2)
  have cK := fun W => kindOf_any c3 W
  obtain ⟨k, rfl⟩ := Int.eq_ofNat_of_zero_le hk.1
  have cP := fun W (hk' : Kept (fun _ => False) w W) => place_yes s k W (hT.kept hk' id id) hm (by omega)
  generalize Rw.nl (rs s) k = p0 at *
  generalize k - Rw.beg (rs s) k = p1 at *
  have bk : (Rw.kin c3 == 0) = false := beq_eq_false_iff_ne.2 hkin
  generalize Rw.kin c3 = K0 at *
  clear hkin
  have b1 : decide (c1 < 0) = true := decide_eq_true hc
  clear hT hA
  unfold noV
  go_enter Tryz.func24, Tryz.ntmps24
  go_wp2_with (first
    | (go_at_call 49; refine (cK _).mono ?_; rintro e w' ⟨rfl, hw⟩; have hw2 := hw.symm; subst hw2)
    | (go_at_call 39; refine (cP _ HK0.out).mono ?_; rintro e w1 ⟨rfl, hk1⟩; have HK1 := Lib.hid (HK0.out.trans hk1); have HF1 := Lib.hid (HF0.out.kept hk1); have HX1 : Hid (Kept (fun _ => False) w1 (w1.alloc (.cells #[.int .i64 p0, .int .i64 p1] 24))) := (Kept.refl (fun _ => False) w1).alloc _; have HFA := Lib.hid (HF1.out.kept HX1.out); have HKA := Lib.hid (HK1.out.trans HX1.out); obtain ⟨a1, a2, a3, ⟨d1, d2, d3, d4⟩, ⟨e1, e2, e3, e4⟩, ⟨g1, g2, g3, g4⟩⟩ := HFA.out.facts; clear hk1))
  have FF := ((HFA.out.setT 0 0).setX 0 0)
  have KK := (Kept.pair (g := w.heap.size + 1 + 1 + 1) (Kept.pair (g := w.heap.size + 1 + 1) (Kept.refl (fun q => q = w.heap.size + 1 + 1 ∨ q = w.heap.size + 1 + 1 + 1) (w1.alloc (.cells #[.int .i64 (p0 : Nat), .int .i64 (p1 : Nat)] 24))) (.inl rfl) (.int .i64 0) (.int .i64 0)) (.inr rfl) (.int .i64 0) (.int .i64 0))
  refine bodyPost_ret (res_go rfl _ _ (w.heap.size + 1 + 1) (w.heap.size + 1 + 1 + 1) 0 0 0 0 rfl rfl ?_ ?_) rfl ⟨rfl, ?_⟩
  · exact FF.c
  · exact FF.d
  · exact HKA.out.fresh KK (fun q hq e => by omega)
set_option maxRecDepth 100000 in
set_option maxHeartbeats 1000000 in
theorem pgn5 (s : ByteArray) (k c0 c1 c2 c3 c4 c5 k1 k2 : Int) (A : Option Addr) (n c : Nat) (M : List (List Int)) (w : World) (hs : s.size ≤ 140737488351232) (hT : Tabs w) (hA : Rws w A n 2 M) (hn : n ≤ 100000) (hm : mayB s = true) (hk : 0 ≤ k ∧ k ≤ ((rs s).length : Int)) (hkin : Rw.kin c3 ≠ 0) (hc : 999 < c1) :
    Calls Tryz.prog 24 #[.string s, .int .i64 k, cmdV c0 c1 c2 c3 c4 c5, sekV k1 k2, .slice A n c] w fun e w' => e = .returned noV ∧ Kept (fun _ => False) w w' := by
  have HK0 : Hid (Kept (fun _ => False) w ((((w.alloc (cmdO c0 c1 c2 c3 c4 c5)).alloc (sekO k1 k2)).alloc (tgtO 0 0)).alloc (sekO 0 0))) := ((((Kept.refl _ w).alloc _).alloc _).alloc _).alloc _
  have HF0 := Lib.hid (four_new w c0 c1 c2 c3 c4 c5 k1 k2)
  have cK := fun W => kindOf_any c3 W
  obtain ⟨k, rfl⟩ := Int.eq_ofNat_of_zero_le hk.1
  have cP := fun W (hk' : Kept (fun _ => False) w W) => place_yes s k W (hT.kept hk' id id) hm (by omega)
  generalize Rw.nl (rs s) k = p0 at *
  generalize k - Rw.beg (rs s) k = p1 at *
  have bk : (Rw.kin c3 == 0) = false := beq_eq_false_iff_ne.2 hkin
  generalize Rw.kin c3 = K0 at *
  clear hkin
  have b1 : decide (c1 < 0) = false := decide_eq_false (by omega)
  have b2 : decide (999 < c1) = true := decide_eq_true hc
  clear hT hA
  unfold noV
  go_enter Tryz.func24, Tryz.ntmps24
  go_wp2_with (first
    | (go_at_call 49; refine (cK _).mono ?_; rintro e w' ⟨rfl, hw⟩; have hw2 := hw.symm; subst hw2)
    | (go_at_call 39; refine (cP _ HK0.out).mono ?_; rintro e w1 ⟨rfl, hk1⟩; have HK1 := Lib.hid (HK0.out.trans hk1); have HF1 := Lib.hid (HF0.out.kept hk1); have HX1 : Hid (Kept (fun _ => False) w1 (w1.alloc (.cells #[.int .i64 p0, .int .i64 p1] 24))) := (Kept.refl (fun _ => False) w1).alloc _; have HFA := Lib.hid (HF1.out.kept HX1.out); have HKA := Lib.hid (HK1.out.trans HX1.out); obtain ⟨a1, a2, a3, ⟨d1, d2, d3, d4⟩, ⟨e1, e2, e3, e4⟩, ⟨g1, g2, g3, g4⟩⟩ := HFA.out.facts; clear hk1))
  have FF := ((HFA.out.setT 0 0).setX 0 0)
  have KK := (Kept.pair (g := w.heap.size + 1 + 1 + 1) (Kept.pair (g := w.heap.size + 1 + 1) (Kept.refl (fun q => q = w.heap.size + 1 + 1 ∨ q = w.heap.size + 1 + 1 + 1) (w1.alloc (.cells #[.int .i64 (p0 : Nat), .int .i64 (p1 : Nat)] 24))) (.inl rfl) (.int .i64 0) (.int .i64 0)) (.inr rfl) (.int .i64 0) (.int .i64 0))
  refine bodyPost_ret (res_go rfl _ _ (w.heap.size + 1 + 1) (w.heap.size + 1 + 1 + 1) 0 0 0 0 rfl rfl ?_ ?_) rfl ⟨rfl, ?_⟩
  · exact FF.c
  · exact FF.d
  · exact HKA.out.fresh KK (fun q hq e => by omega)
set_option maxRecDepth 100000 in
set_option maxHeartbeats 1000000 in
theorem pgn6 (s : ByteArray) (k c0 c1 c2 c3 c4 c5 k1 k2 : Int) (A : Option Addr) (n c : Nat) (M : List (List Int)) (w : World) (hs : s.size ≤ 140737488351232) (hT : Tabs w) (hA : Rws w A n 2 M) (hn : n ≤ 100000) (hm : mayB s = true) (hk : 0 ≤ k ∧ k ≤ ((rs s).length : Int)) (hkin : Rw.kin c3 ≠ 0) (hc : 0 ≤ c1 ∧ c1 ≤ 999) (hx : ¬ (k1 = 0 ∨ Rw.Seek k1)) :
    Calls Tryz.prog 24 #[.string s, .int .i64 k, cmdV c0 c1 c2 c3 c4 c5, sekV k1 k2, .slice A n c] w fun e w' => e = .returned noV ∧ Kept (fun _ => False) w w' := by
  have HK0 : Hid (Kept (fun _ => False) w ((((w.alloc (cmdO c0 c1 c2 c3 c4 c5)).alloc (sekO k1 k2)).alloc (tgtO 0 0)).alloc (sekO 0 0))) := ((((Kept.refl _ w).alloc _).alloc _).alloc _).alloc _
  have HF0 := Lib.hid (four_new w c0 c1 c2 c3 c4 c5 k1 k2)
  have cK := fun W => kindOf_any c3 W
  obtain ⟨k, rfl⟩ := Int.eq_ofNat_of_zero_le hk.1
  have cP := fun W (hk' : Kept (fun _ => False) w W) => place_yes s k W (hT.kept hk' id id) hm (by omega)
  generalize Rw.nl (rs s) k = p0 at *
  generalize k - Rw.beg (rs s) k = p1 at *
  have bk : (Rw.kin c3 == 0) = false := beq_eq_false_iff_ne.2 hkin
  generalize Rw.kin c3 = K0 at *
  clear hkin
  have b1 : decide (c1 < 0) = false := decide_eq_false (by omega)
  have b2 : decide (999 < c1) = false := decide_eq_false (by omega)
  have cS := fun W => mayseek_any k1 k2 W
  rw [decide_eq_false hx] at cS
  clear hx
  clear hT hA
  unfold noV
  go_enter Tryz.func24, Tryz.ntmps24
  go_wp2_with (first
    | (go_at_call 49; refine (cK _).mono ?_; rintro e w' ⟨rfl, hw⟩; have hw2 := hw.symm; subst hw2)
    | (go_at_call 39; refine (cP _ HK0.out).mono ?_; rintro e w1 ⟨rfl, hk1⟩; have HK1 := Lib.hid (HK0.out.trans hk1); have HF1 := Lib.hid (HF0.out.kept hk1); have HX1 : Hid (Kept (fun _ => False) w1 (w1.alloc (.cells #[.int .i64 p0, .int .i64 p1] 24))) := (Kept.refl (fun _ => False) w1).alloc _; have HFA := Lib.hid (HF1.out.kept HX1.out); have HKA := Lib.hid (HK1.out.trans HX1.out); obtain ⟨a1, a2, a3, ⟨d1, d2, d3, d4⟩, ⟨e1, e2, e3, e4⟩, ⟨g1, g2, g3, g4⟩⟩ := HFA.out.facts; clear hk1)
    | (go_at_call 50; refine (cS _).mono ?_; rintro e w2 ⟨rfl, hk2⟩; have HKB := Lib.hid (HKA.out.trans hk2); have HFB := Lib.hid (HFA.out.kept hk2); obtain ⟨q1, q2, q3, ⟨r1, r2, r3, r4⟩, ⟨s1, s2, s3, s4⟩, ⟨v1, v2, v3, v4⟩⟩ := HFB.out.facts; clear hk2))
  have FF := ((HFB.out.setT 0 0).setX 0 0)
  have KK := (Kept.pair (g := w.heap.size + 1 + 1 + 1) (Kept.pair (g := w.heap.size + 1 + 1) (Kept.refl (fun q => q = w.heap.size + 1 + 1 ∨ q = w.heap.size + 1 + 1 + 1) w2) (.inl rfl) (.int .i64 0) (.int .i64 0)) (.inr rfl) (.int .i64 0) (.int .i64 0))
  refine bodyPost_ret (res_go rfl _ _ (w.heap.size + 1 + 1) (w.heap.size + 1 + 1 + 1) 0 0 0 0 rfl rfl ?_ ?_) rfl ⟨rfl, ?_⟩
  · exact FF.c
  · exact FF.d
  · exact HKB.out.fresh KK (fun q hq e => by omega)
set_option maxRecDepth 100000 in
set_option maxHeartbeats 1000000 in
theorem pgn7 (s : ByteArray) (k c0 c1 c2 c3 c4 c5 k1 k2 : Int) (A : Option Addr) (n c : Nat) (M : List (List Int)) (w : World) (hs : s.size ≤ 140737488351232) (hT : Tabs w) (hA : Rws w A n 2 M) (hn : n ≤ 100000) (hm : mayB s = true) (hk : 0 ≤ k ∧ k ≤ ((rs s).length : Int)) (hkin : Rw.kin c3 ≠ 0) (hc : 0 ≤ c1 ∧ c1 ≤ 999) (hx : k1 = 0 ∨ Rw.Seek k1) (hno : ¬ Rw.mOk M) :
    Calls Tryz.prog 24 #[.string s, .int .i64 k, cmdV c0 c1 c2 c3 c4 c5, sekV k1 k2, .slice A n c] w fun e w' => e = .returned noV ∧ Kept (fun _ => False) w w' := by
  have HK0 : Hid (Kept (fun _ => False) w ((((w.alloc (cmdO c0 c1 c2 c3 c4 c5)).alloc (sekO k1 k2)).alloc (tgtO 0 0)).alloc (sekO 0 0))) := ((((Kept.refl _ w).alloc _).alloc _).alloc _).alloc _
  have HF0 := Lib.hid (four_new w c0 c1 c2 c3 c4 c5 k1 k2)
  have cK := fun W => kindOf_any c3 W
  obtain ⟨k, rfl⟩ := Int.eq_ofNat_of_zero_le hk.1
  have cP := fun W (hk' : Kept (fun _ => False) w W) => place_yes s k W (hT.kept hk' id id) hm (by omega)
  generalize Rw.nl (rs s) k = p0 at *
  generalize k - Rw.beg (rs s) k = p1 at *
  have bk : (Rw.kin c3 == 0) = false := beq_eq_false_iff_ne.2 hkin
  generalize Rw.kin c3 = K0 at *
  clear hkin
  have b1 : decide (c1 < 0) = false := decide_eq_false (by omega)
  have b2 : decide (999 < c1) = false := decide_eq_false (by omega)
  have cS := fun W => mayseek_any k1 k2 W
  rw [decide_eq_true hx] at cS
  have cC := fun W (hk' : Kept (fun _ => False) w W) => pcheck_any A n c M W (hA.kept hk' (fun _ _ => id)) hn
  have HNO := Lib.hid hno
  clear hx hno
  clear hT hA
  unfold noV
  go_enter Tryz.func24, Tryz.ntmps24
  go_wp2_with (first
    | (go_at_call 49; refine (cK _).mono ?_; rintro e w' ⟨rfl, hw⟩; have hw2 := hw.symm; subst hw2)
    | (go_at_call 39; refine (cP _ HK0.out).mono ?_; rintro e w1 ⟨rfl, hk1⟩; have HK1 := Lib.hid (HK0.out.trans hk1); have HF1 := Lib.hid (HF0.out.kept hk1); have HX1 : Hid (Kept (fun _ => False) w1 (w1.alloc (.cells #[.int .i64 p0, .int .i64 p1] 24))) := (Kept.refl (fun _ => False) w1).alloc _; have HFA := Lib.hid (HF1.out.kept HX1.out); have HKA := Lib.hid (HK1.out.trans HX1.out); obtain ⟨a1, a2, a3, ⟨d1, d2, d3, d4⟩, ⟨e1, e2, e3, e4⟩, ⟨g1, g2, g3, g4⟩⟩ := HFA.out.facts; clear hk1)
    | (go_at_call 50; refine (cS _).mono ?_; rintro e w2 ⟨rfl, hk2⟩; have HKB := Lib.hid (HKA.out.trans hk2); have HFB := Lib.hid (HFA.out.kept hk2); obtain ⟨q1, q2, q3, ⟨r1, r2, r3, r4⟩, ⟨s1, s2, s3, s4⟩, ⟨v1, v2, v3, v4⟩⟩ := HFB.out.facts; clear hk2)
    | (go_at_call 42; refine (cC _ HKB.out).mono ?_; rintro e w3 ⟨⟨E3, rfl, hE1, hE⟩, hk3⟩; obtain rfl : E3 = 1 := hE1.resolve_left (fun e => HNO.out (hE.1 e)); have HKC := Lib.hid (HKB.out.trans hk3); have HFC := Lib.hid (HFB.out.kept hk3); obtain ⟨A1, A2, A3, ⟨D1, D2, D3, D4⟩, ⟨E1, E2, E3, E4⟩, ⟨G1, G2, G3, G4⟩⟩ := HFC.out.facts; clear hk3 hE hE1))
  have FF := ((HFC.out.setT 0 0).setX 0 0)
  have KK := (Kept.pair (g := w.heap.size + 1 + 1 + 1) (Kept.pair (g := w.heap.size + 1 + 1) (Kept.refl (fun q => q = w.heap.size + 1 + 1 ∨ q = w.heap.size + 1 + 1 + 1) w3) (.inl rfl) (.int .i64 0) (.int .i64 0)) (.inr rfl) (.int .i64 0) (.int .i64 0))
  refine bodyPost_ret (res_go rfl _ _ (w.heap.size + 1 + 1) (w.heap.size + 1 + 1 + 1) 0 0 0 0 rfl rfl ?_ ?_) rfl ⟨rfl, ?_⟩
  · exact FF.c
  · exact FF.d
  · exact HKC.out.fresh KK (fun q hq e => by omega)
theorem pgo_no (s : ByteArray) (k c0 c1 c2 c3 c4 c5 k1 k2 : Int) (A : Option Addr) (n c : Nat) (M : List (List Int)) (w : World) (hs : s.size ≤ 140737488351232) (hT : Tabs w) (hA : Rws w A n 2 M) (hn : n ≤ 100000) (hno : ¬ (mayB s = true ∧ GoodR (rs s) k c3 c1 k1 M)) :
    Calls Tryz.prog 24 #[.string s, .int .i64 k, cmdV c0 c1 c2 c3 c4 c5, sekV k1 k2, .slice A n c] w fun e w' => e = .returned noV ∧ Kept (fun _ => False) w w' := by
  cases hm : mayB s with
  | false => exact pgn1 s k c0 c1 c2 c3 c4 c5 k1 k2 A n c M w hs hT hA hn hm
  | true =>
    by_cases h1 : 0 ≤ k ∧ k ≤ ((rs s).length : Int)
    · by_cases h2 : Rw.kin c3 = 0
      · exact pgn3 s k c0 c1 c2 c3 c4 c5 k1 k2 A n c M w hs hT hA hn hm h1 h2
      · by_cases h3 : c1 < 0
        · exact pgn4 s k c0 c1 c2 c3 c4 c5 k1 k2 A n c M w hs hT hA hn hm h1 h2 h3
        · by_cases h4 : 999 < c1
          · exact pgn5 s k c0 c1 c2 c3 c4 c5 k1 k2 A n c M w hs hT hA hn hm h1 h2 h4
          · by_cases h5 : k1 = 0 ∨ Rw.Seek k1
            · exact pgn7 s k c0 c1 c2 c3 c4 c5 k1 k2 A n c M w hs hT hA hn hm h1 h2 ⟨by omega, by omega⟩ h5 (fun h => hno ⟨hm, h1, h2, ⟨by omega, by omega⟩, h5, h⟩)
            · exact pgn6 s k c0 c1 c2 c3 c4 c5 k1 k2 A n c M w hs hT hA hn hm h1 h2 ⟨by omega, by omega⟩ h5
    · exact pgn2 s k c0 c1 c2 c3 c4 c5 k1 k2 A n c M w hs hT hA hn hm h1
end Go.Proofs.YtbofjefblhnkoaaGreatDoor
namespace Go.Proofs.YtbofjefblhnkoaaGreatDoor
open Go Go.RowKit

end Go.Proofs.YtbofjefblhnkoaaGreatDoor
