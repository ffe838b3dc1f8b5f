/-
  WHERE AN OFFSET IS BEHIND A PATCH: of the program and of the reference.
-/
import Derived.Test.YtknoiehglfpepaaDoorMsA
import Derived.Test.YtknoiehglfpepaaDoorMsP
import Derived.Test.YtknoiehglfpepaaDoorShelf2
import Derived.Shelf.Utf8.RuneCount
import Derived.Deep.RegionHeld3
import Derived.Deep.CutRange
set_option linter.unusedVariables false
namespace Go.Proofs.YtknoiehglfpepaaDoor
open Go Go.RowKit

theorem count_from (s : ByteArray) : ∀ (b pos : Nat), s.size ≤ pos + b → Lib.runeCountFrom s b pos = (Utf.runes (s.data.toList.drop pos)).length
  | 0, pos, h => by rw [rune_end s pos (by omega)]; rfl
  | b + 1, pos, h => by
    by_cases hp : pos < s.size
    · have hw := Lib.decode_width_pos s pos hp
      have ih := count_from s b (pos + (Utf8.decode s pos).2) (by omega)
      have e : Lib.runeCountFrom s (b + 1) pos = 1 + Lib.runeCountFrom s b (pos + (Utf8.decode s pos).2) := by
        rw [Lib.runeCountFrom, if_pos hp]
      rw [rune_at s pos hp, List.length_cons, ← ih, e]
      omega
    · rw [rune_end s pos hp, Lib.runeCountFrom_end s _ pos hp]; rfl
theorem rcount_any (s : ByteArray) (w : World) (hs : s.size ≤ 1000000) : Calls Tryd.prog 35 #[.string s] w fun e w' => e = .returned (.int .i64 (rs s).length) ∧ Kept (fun _ => False) w w' := by
  have h := Any.utf8_RuneCountInString Tryd.lays195 s w (by omega)
  have e : Lib.runeCount s = (rs s).length := by
    have := count_from s s.size 0 (by omega)
    exact this
  rw [e] at h
  exact h.mono fun e w' ⟨he, pos, hw⟩ => ⟨he, by rw [hw]; exact (Kept.refl _ w).alloc _⟩
set_option maxRecDepth 100000 in
theorem rlen_any (s : ByteArray) (w : World) (h : s.size ≤ 1000000) : Calls Tryd.prog 37 #[.string s] w fun e w' => e = .returned (.int .i64 (rs s).length) ∧ Kept (fun _ => False) w w' := by
  obtain ⟨cap, w2, hcap, hcv, hk2, hlt, hR⟩ := conv_rs s w (by omega)
  generalize rs s = t at *
  have HK := Lib.hid hk2
  clear hk2 hR
  go_enter Tryd.func37, Tryd.ntmps37
  go_wp2
  go_ret
  exact ⟨rfl, HK.out⟩
theorem ptw_t {x : Int} (h : 0 ≤ x ∧ x ≤ 4000) (w : World) : Calls Tryd.prog 33 #[.int .i64 x] w fun e w' => e = .returned (.bool true) ∧ w' = w := by
  have b1 : decide (0 ≤ x) = true := by simp; omega
  have b2 : decide (x ≤ 4000) = true := by simp; omega
  clear h
  go_enter Tryd.func33, Tryd.ntmps33
  go_wp2
  go_ret
  exact ⟨rfl, rfl⟩
theorem ptw_f {x : Int} (h : ¬ (0 ≤ x ∧ x ≤ 4000)) (w : World) : Calls Tryd.prog 33 #[.int .i64 x] w fun e w' => e = .returned (.bool false) ∧ w' = w := by
  by_cases h1 : 0 ≤ x
  · have b1 : decide (0 ≤ x) = true := by simp; omega
    have b2 : decide (x ≤ 4000) = false := by simp; omega
    clear h h1
    go_enter Tryd.func33, Tryd.ntmps33
    go_wp2
    go_ret
    exact ⟨rfl, rfl⟩
  · have b1 : decide (0 ≤ x) = false := by simp; omega
    clear h h1
    go_enter Tryd.func33, Tryd.ntmps33
    go_wp2
    go_ret
    exact ⟨rfl, rfl⟩
theorem pat_cells {w : World} {g : Nat} {a d : Int} {s : ByteArray} {fr : Nat × Nat} (h : w.heap[g]? = some (.cells #[.int .i64 a, .int .i64 d, .string s] 29 fr)) :
    w.cell? ⟨g, 0, none⟩ = some (.int .i64 a) ∧ w.cell? ⟨g, 1, none⟩ = some (.int .i64 d) ∧ w.cell? ⟨g, 2, none⟩ = some (.string s) :=
  ⟨cell_of_row w g 0 _ _ _ h, cell_of_row w g 1 _ _ _ h, cell_of_row w g 2 _ _ _ h⟩
set_option maxRecDepth 100000 in
set_option maxHeartbeats 1000000 in
theorem shift_yes (s : ByteArray) (a d x : Int) (w : World) (hT : Tabs w) (hx : 0 ≤ x ∧ x ≤ 4000) (ha : 0 ≤ a ∧ a ≤ 4000) (hd : 0 ≤ d ∧ d ≤ 4000) (hm : mayB s = true) :
    Calls Tryd.prog 26 #[patV a d s, .int .i64 x] w fun e w' => e = .returned (.tuple #[.int .i64 (Rw.msh a d (rs s).length x), .int .i64 0]) ∧ Kept (fun _ => False) w w' := by
  have hsz := mayB_size hm
  have hl := rs_len s
  have hka : Kept (fun _ => False) w (w.alloc (patO a d s)) := (Kept.refl _ w).alloc _
  have HG : Hid ((w.alloc (patO a d s)).heap[w.heap.size]? = some (patO a d s)) := heap_alloc_new w _
  have cC := fun W hW => check_any s W (by omega) hW
  rw [hm] at cC
  have cR := fun W => rcount_any s W (by omega)
  generalize (rs s).length = n at *
  have HT := Lib.hid (hT.kept hka id id)
  have HKA := Lib.hid hka
  have HC := Lib.hid cC
  have HR := Lib.hid cR
  obtain ⟨g, hg⟩ : ∃ g, w.heap.size = g := ⟨_, rfl⟩
  have hw0 : IntKind.i64.wrap (a + d) = a + d := IntWalk.i64_in _ ⟨by omega, by omega⟩
  have hw1 : IntKind.i64.wrap (x + (n : Int)) = x + (n : Int) := IntWalk.i64_in _ ⟨by omega, by omega⟩
  have hw2 : IntKind.i64.wrap (x + (n : Int) - d) = x + (n : Int) - d := IntWalk.i64_in _ ⟨by omega, by omega⟩
  clear hT hka cC cR hm
  rcases (show (x ≤ a) ∨ (¬ x ≤ a ∧ x < a + d) ∨ (¬ x ≤ a ∧ ¬ x < a + d) by omega) with h1 | ⟨h1, h2⟩ | ⟨h1, h2⟩
  · have e : Rw.msh a d n x = x := by unfold Rw.msh; rw [if_pos h1]
    rw [e]
    have b1 : decide (x ≤ a) = true := by simp; omega
    go_enter Tryd.func26, Tryd.ntmps26
    go_wp2_with fail
    simp only [hg] at HG ⊢
    generalize w.alloc (patO a d s) = wa at *
    obtain ⟨q0, q1, q2⟩ := pat_cells HG.out
    go_wp2_with (first
      | (go_at_call 33; (first | with_reducible refine (ptw_t hx _).mono ?_ | with_reducible refine (ptw_t ha _).mono ?_ | with_reducible refine (ptw_t hd _).mono ?_); rintro e w' ⟨rfl, hw⟩; have hwx := hw.symm; subst hwx)
      | (go_at_call 34; refine (HC.out _ HT.out).mono ?_; rintro e w1 ⟨rfl, hk1⟩; have HG1 := Lib.hid ((hk1.block g (heap_lt HG.out) id).trans HG.out); have HK1 := Lib.hid hk1; obtain ⟨r0, r1, r2⟩ := pat_cells HG1.out; clear hk1))
    exact bodyPost_ret (v := .tuple #[.int .i64 x, .int .i64 0]) (by simp [results, Tryd.results26, go_sem]) rfl ⟨rfl, HKA.out.trans HK1.out⟩
  · have e : Rw.msh a d n x = a := by unfold Rw.msh; rw [if_neg h1, if_pos h2]
    rw [e]
    have b1 : decide (x ≤ a) = false := by simp; omega
    have b2 : decide (x < a + d) = true := by simp; omega
    go_enter Tryd.func26, Tryd.ntmps26
    go_wp2_with fail
    simp only [hg] at HG ⊢
    generalize w.alloc (patO a d s) = wa at *
    obtain ⟨q0, q1, q2⟩ := pat_cells HG.out
    go_wp2_with (first
      | (go_at_call 33; (first | with_reducible refine (ptw_t hx _).mono ?_ | with_reducible refine (ptw_t ha _).mono ?_ | with_reducible refine (ptw_t hd _).mono ?_); rintro e w' ⟨rfl, hw⟩; have hwx := hw.symm; subst hwx)
      | (go_at_call 34; refine (HC.out _ HT.out).mono ?_; rintro e w1 ⟨rfl, hk1⟩; have HG1 := Lib.hid ((hk1.block g (heap_lt HG.out) id).trans HG.out); have HK1 := Lib.hid hk1; obtain ⟨r0, r1, r2⟩ := pat_cells HG1.out; clear hk1))
    exact bodyPost_ret (v := .tuple #[.int .i64 a, .int .i64 0]) (by simp [results, Tryd.results26, go_sem]) rfl ⟨rfl, HKA.out.trans HK1.out⟩
  · have e : Rw.msh a d n x = x + n - d := by unfold Rw.msh; rw [if_neg h1, if_neg h2]
    rw [e]
    have b1 : decide (x ≤ a) = false := by simp; omega
    have b2 : decide (x < a + d) = false := by simp; omega
    go_enter Tryd.func26, Tryd.ntmps26
    go_wp2_with fail
    simp only [hg] at HG ⊢
    generalize w.alloc (patO a d s) = wa at *
    obtain ⟨q0, q1, q2⟩ := pat_cells HG.out
    go_upto_region 7 with (first
      | (go_at_call 33; (first | with_reducible refine (ptw_t hx _).mono ?_ | with_reducible refine (ptw_t ha _).mono ?_ | with_reducible refine (ptw_t hd _).mono ?_); rintro e w' ⟨rfl, hw⟩; have hwx := hw.symm; subst hwx)
      | (go_at_call 34; refine (HC.out _ HT.out).mono ?_; rintro e w1 ⟨rfl, hk1⟩; have HG1 := Lib.hid ((hk1.block g (heap_lt HG.out) id).trans HG.out); have HK1 := Lib.hid hk1; obtain ⟨r0, r1, r2⟩ := pat_cells HG1.out; clear hk1))
    have K1 : w1.drew.cell? ⟨g, 1, none⟩ = some (.int .i64 d) ∧ w1.drew.cell? ⟨g, 2, none⟩ = some (.string s) := ⟨r1, r2⟩
    go_region_held3 (fun (w' : World) => w'.cell? ⟨g, 1, none⟩ = some (.int .i64 d) ∧ w'.cell? ⟨g, 2, none⟩ = some (.string s)) (first | with_reducible exact K2 | with_reducible exact K1)
      ((go_at_call 35; refine (HR.out _).mono ?_; rintro e w2 ⟨rfl, hk2⟩; have K2 : w2.cell? ⟨g, 1, none⟩ = some (.int .i64 d) ∧ w2.cell? ⟨g, 2, none⟩ = some (.string s) := ⟨cell_kept hk2 K1.1 id, cell_kept hk2 K1.2 id⟩))
    all_goals
      go_wp2_with fail
      exact bodyPost_ret (v := .tuple #[.int .i64 (x + n - d), .int .i64 0]) (by simp [results, Tryd.results26, go_sem]) rfl ⟨rfl, (HKA.out.trans HK1.out.drew).trans hk2⟩
set_option maxRecDepth 100000 in
set_option maxHeartbeats 1000000 in
theorem shift_no (s : ByteArray) (a d x : Int) (w : World) (hT : Tabs w) (hs : s.size ≤ 140737488351232) (hno : ¬ ((0 ≤ x ∧ x ≤ 4000) ∧ (0 ≤ a ∧ a ≤ 4000) ∧ (0 ≤ d ∧ d ≤ 4000) ∧ mayB s = true)) :
    Calls Tryd.prog 26 #[patV a d s, .int .i64 x] w fun e w' => e = .returned (.tuple #[.int .i64 0, .int .i64 1]) ∧ Kept (fun _ => False) w w' := by
  have hka : Kept (fun _ => False) w (w.alloc (patO a d s)) := (Kept.refl _ w).alloc _
  have HG : Hid ((w.alloc (patO a d s)).heap[w.heap.size]? = some (patO a d s)) := heap_alloc_new w _
  have cC := check_any s _ hs (hT.kept hka id id)
  have HKA := Lib.hid hka
  obtain ⟨g, hg⟩ : ∃ g, w.heap.size = g := ⟨_, rfl⟩
  have hway : ¬ (0 ≤ x ∧ x ≤ 4000) ∨ ((0 ≤ x ∧ x ≤ 4000) ∧ ¬ (0 ≤ a ∧ a ≤ 4000)) ∨ ((0 ≤ x ∧ x ≤ 4000) ∧ (0 ≤ a ∧ a ≤ 4000) ∧ ¬ (0 ≤ d ∧ d ≤ 4000)) ∨ ((0 ≤ x ∧ x ≤ 4000) ∧ (0 ≤ a ∧ a ≤ 4000) ∧ (0 ≤ d ∧ d ≤ 4000) ∧ mayB s = false) := by
    by_cases h1 : 0 ≤ x ∧ x ≤ 4000
    · by_cases h2 : 0 ≤ a ∧ a ≤ 4000
      · by_cases h3 : 0 ≤ d ∧ d ≤ 4000
        · exact .inr (.inr (.inr ⟨h1, h2, h3, by cases hm : mayB s with | false => rfl | true => exact absurd ⟨h1, h2, h3, hm⟩ hno⟩))
        · exact .inr (.inr (.inl ⟨h1, h2, h3⟩))
      · exact .inr (.inl ⟨h1, h2⟩)
    · exact .inl h1
  clear hT hka hno
  rcases hway with hx | ⟨hx, ha⟩ | ⟨hx, ha, hd⟩ | ⟨hx, ha, hd, hm⟩
  case inr.inr.inr =>
    rw [hm] at cC
    clear hm
    go_enter Tryd.func26, Tryd.ntmps26
    go_wp2_with fail
    simp only [hg] at HG ⊢
    generalize w.alloc (patO a d s) = wa at *
    obtain ⟨q0, q1, q2⟩ := pat_cells HG.out
    go_wp2_with (first
      | (go_at_call 33; (first | with_reducible refine (ptw_t hx _).mono ?_ | with_reducible refine (ptw_t ha _).mono ?_ | with_reducible refine (ptw_t hd _).mono ?_); rintro e w' ⟨rfl, hw⟩; have hwx := hw.symm; subst hwx)
      | (go_at_call 34; refine cC.mono ?_; rintro e w1 ⟨rfl, hk1⟩))
    exact bodyPost_ret (v := .tuple #[.int .i64 0, .int .i64 1]) (by simp [results, Tryd.results26, go_sem]) rfl ⟨rfl, HKA.out.trans hk1⟩
  all_goals
    clear cC
    go_enter Tryd.func26, Tryd.ntmps26
    go_wp2_with fail
    simp only [hg] at HG ⊢
    generalize w.alloc (patO a d s) = wa at *
    obtain ⟨q0, q1, q2⟩ := pat_cells HG.out
    go_wp2_with (go_at_call 33; (first | with_reducible refine (ptw_t hx _).mono ?_ | with_reducible refine (ptw_f hx _).mono ?_ | with_reducible refine (ptw_t ha _).mono ?_ | with_reducible refine (ptw_f ha _).mono ?_ | with_reducible refine (ptw_f hd _).mono ?_); rintro e w' ⟨rfl, hw⟩; have hwx := hw.symm; subst hwx)
    exact bodyPost_ret (v := .tuple #[.int .i64 0, .int .i64 1]) (by simp [results, Tryd.results26, go_sem]) rfl ⟨rfl, HKA.out⟩
set_option maxRecDepth 100000 in
theorem rshift_yes (s : ByteArray) (a d x : Int) (w : World) (hx : 0 ≤ x ∧ x ≤ 4000) (ha : 0 ≤ a ∧ a ≤ 4000) (hd : 0 ≤ d ∧ d ≤ 4000) (hsz : s.size ≤ 4000) :
    Calls Tryd.prog 28 #[patV a d s, .int .i64 x] w fun e w' => e = .returned (.int .i64 (Rw.msh a d (rs s).length x)) ∧ Kept (fun _ => False) w w' := by
  have hl := rs_len s
  have hka : Kept (fun _ => False) w (w.alloc (patO a d s)) := (Kept.refl _ w).alloc _
  have HG : Hid ((w.alloc (patO a d s)).heap[w.heap.size]? = some (patO a d s)) := heap_alloc_new w _
  have cR := fun W => rlen_any s W (by omega)
  generalize (rs s).length = n at *
  have HKA := Lib.hid hka
  have HR := Lib.hid cR
  obtain ⟨g, hg⟩ : ∃ g, w.heap.size = g := ⟨_, rfl⟩
  have hw0 : IntKind.i64.wrap (a + d) = a + d := IntWalk.i64_in _ ⟨by omega, by omega⟩
  have hw1 : IntKind.i64.wrap (x + (n : Int)) = x + (n : Int) := IntWalk.i64_in _ ⟨by omega, by omega⟩
  have hw2 : IntKind.i64.wrap (x + (n : Int) - d) = x + (n : Int) - d := IntWalk.i64_in _ ⟨by omega, by omega⟩
  clear hka cR
  rcases (show (x ≤ a) ∨ (¬ x ≤ a ∧ x < a + d) ∨ (¬ x ≤ a ∧ ¬ x < a + d) by omega) with h1 | ⟨h1, h2⟩ | ⟨h1, h2⟩
  · have e : Rw.msh a d n x = x := by unfold Rw.msh; rw [if_pos h1]
    rw [e]
    have b1 : decide (x ≤ a) = true := by simp; omega
    go_enter Tryd.func28, Tryd.ntmps28
    go_wp2
    go_ret
    exact ⟨rfl, HKA.out⟩
  · have e : Rw.msh a d n x = a := by unfold Rw.msh; rw [if_neg h1, if_pos h2]
    rw [e]
    have b1 : decide (x ≤ a) = false := by simp; omega
    have b2 : decide (x < a + d) = true := by simp; omega
    go_enter Tryd.func28, Tryd.ntmps28
    go_wp2
    go_ret
    exact ⟨rfl, HKA.out⟩
  · have e : Rw.msh a d n x = x + n - d := by unfold Rw.msh; rw [if_neg h1, if_neg h2]
    rw [e]
    have b1 : decide (x ≤ a) = false := by simp; omega
    have b2 : decide (x < a + d) = false := by simp; omega
    go_enter Tryd.func28, Tryd.ntmps28
    go_upto_region 5 with fail
    simp only [hg] at HG ⊢
    generalize w.alloc (patO a d s) = wa at *
    obtain ⟨q0, q1, q2⟩ := pat_cells HG.out
    have K1 : wa.drew.cell? ⟨g, 1, none⟩ = some (.int .i64 d) ∧ wa.drew.cell? ⟨g, 2, none⟩ = some (.string s) := ⟨q1, q2⟩
    go_region_held3 (fun (w' : World) => w'.cell? ⟨g, 1, none⟩ = some (.int .i64 d) ∧ w'.cell? ⟨g, 2, none⟩ = some (.string s)) (first | with_reducible exact K2 | with_reducible exact K1)
      ((go_at_call 37; refine (HR.out _).mono ?_; rintro e w2 ⟨rfl, hk2⟩; have K2 : w2.cell? ⟨g, 1, none⟩ = some (.int .i64 d) ∧ w2.cell? ⟨g, 2, none⟩ = some (.string s) := ⟨cell_kept hk2 K1.1 id, cell_kept hk2 K1.2 id⟩))
    all_goals
      go_wp2_with fail
      go_ret
      exact ⟨rfl, HKA.out.drew.trans hk2⟩
set_option maxRecDepth 100000 in
set_option maxHeartbeats 1000000 in
theorem rmoves_t (s : ByteArray) (a d : Int) (w : World) (hT : Tabs w) (ha : 0 ≤ a ∧ a ≤ 4000) (hd : 0 ≤ d ∧ d ≤ 4000) (hm : mayB s = true) :
    Calls Tryd.prog 19 #[patV a d s] w fun e w' => e = .returned (.bool true) ∧ Kept (fun _ => False) w w' := by
  have hsz := mayB_size hm
  have hka : Kept (fun _ => False) w (w.alloc (patO a d s)) := (Kept.refl _ w).alloc _
  have cM := rmay_any s (w.alloc (patO a d s)) (by omega) (hT.kept hka id id)
  rw [hm] at cM
  have HKA := Lib.hid hka
  clear hT hka hm
  go_enter Tryd.func19, Tryd.ntmps19
  go_wp2_with (first
    | (go_at_call 13; (first | with_reducible refine (znum_t ha _).mono ?_ | with_reducible refine (znum_t hd _).mono ?_); rintro e w' ⟨rfl, hw⟩; have hwx := hw.symm; subst hwx)
    | (go_at_call 27; refine cM.mono ?_; rintro e w1 ⟨rfl, hk1⟩))
  go_ret
  exact ⟨rfl, HKA.out.trans hk1⟩
set_option maxRecDepth 100000 in
set_option maxHeartbeats 1000000 in
theorem rmoves_f (s : ByteArray) (a d : Int) (w : World) (hT : Tabs w) (hs : s.size ≤ 140737488351232) (hno : ¬ ((0 ≤ a ∧ a ≤ 4000) ∧ (0 ≤ d ∧ d ≤ 4000) ∧ mayB s = true)) :
    Calls Tryd.prog 19 #[patV a d s] w fun e w' => e = .returned (.bool false) ∧ Kept (fun _ => False) w w' := by
  have hka : Kept (fun _ => False) w (w.alloc (patO a d s)) := (Kept.refl _ w).alloc _
  have cM := rmay_any s (w.alloc (patO a d s)) hs (hT.kept hka id id)
  have HKA := Lib.hid hka
  have hway : ¬ (0 ≤ a ∧ a ≤ 4000) ∨ ((0 ≤ a ∧ a ≤ 4000) ∧ ¬ (0 ≤ d ∧ d ≤ 4000)) ∨ ((0 ≤ a ∧ a ≤ 4000) ∧ (0 ≤ d ∧ d ≤ 4000) ∧ mayB s = false) := by
    by_cases h2 : 0 ≤ a ∧ a ≤ 4000
    · by_cases h3 : 0 ≤ d ∧ d ≤ 4000
      · exact .inr (.inr ⟨h2, h3, by cases hm : mayB s with | false => rfl | true => exact absurd ⟨h2, h3, hm⟩ hno⟩)
      · exact .inr (.inl ⟨h2, h3⟩)
    · exact .inl h2
  clear hT hka hno
  rcases hway with ha | ⟨ha, hd⟩ | ⟨ha, hd, hm⟩
  · clear cM
    go_enter Tryd.func19, Tryd.ntmps19
    go_wp2_with (go_at_call 13; refine (znum_f ha _).mono ?_; rintro e w' ⟨rfl, hw⟩; have hwx := hw.symm; subst hwx)
    go_ret
    exact ⟨rfl, HKA.out⟩
  · clear cM
    go_enter Tryd.func19, Tryd.ntmps19
    go_wp2_with (go_at_call 13; (first | with_reducible refine (znum_t ha _).mono ?_ | with_reducible refine (znum_f hd _).mono ?_); rintro e w' ⟨rfl, hw⟩; have hwx := hw.symm; subst hwx)
    go_ret
    exact ⟨rfl, HKA.out⟩
  · rw [hm] at cM
    clear hm
    go_enter Tryd.func19, Tryd.ntmps19
    go_wp2_with (first
      | (go_at_call 13; (first | with_reducible refine (znum_t ha _).mono ?_ | with_reducible refine (znum_t hd _).mono ?_); rintro e w' ⟨rfl, hw⟩; have hwx := hw.symm; subst hwx)
      | (go_at_call 27; refine cM.mono ?_; rintro e w1 ⟨rfl, hk1⟩))
    go_ret
    exact ⟨rfl, HKA.out.trans hk1⟩
end Go.Proofs.YtknoiehglfpepaaDoor
