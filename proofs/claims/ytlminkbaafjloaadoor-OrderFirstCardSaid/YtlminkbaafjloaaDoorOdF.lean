/-
  ELEMENTS: the set of ids, at the few that wakes uses.
-/
import Derived.Test.YtlminkbaafjloaaDoorOdE
import Derived.Test.YtlminkbaafjloaaDoorCdM
import Derived.BigRegion
set_option linter.unusedVariables false
namespace Go.Proofs.YtlminkbaafjloaaDoor
open Go Go.RowKit

abbrev idV (t s : Int) : Value := .agg #[.int .i64 t, .int .i64 s]
theorem at_c (q : Value) (s : Int) (hs : s = 1 ∨ s = 2) (w : World) :
    Calls Tryd.prog 67 #[q, idV 1 s] w fun e w' => e = .returned (.tuple #[.int .i64 0, .int .u64 (if s = 1 then 64 else 128)]) ∧ Kept (fun _ => False) w w' := by
  have hK0 : Hid (Kept (fun _ => False) w (w.alloc (.cells #[.int .i64 1, .int .i64 s] 47))) := (Kept.refl _ w).alloc _
  rcases hs with rfl | rfl
  all_goals
    go_enter Tryd.func67, Tryd.ntmps67
    go_upto_region 2 with fail
    generalize w.alloc _ = w1 at *
    go_quiet (fail)
    go_wp2_with fail
    go_ret2
    exact ⟨rfl, hK0.out.drewN _⟩
/-- The set, as far as wakes fills it. -/
structure Ids (w : World) (g : Nat) (x : Int) : Prop where
  h : ∃ cs : Array Value, w.heap[g]? = some (.cells cs 98 (0, 0)) ∧ cs[0]? = some (.int .u64 x)
theorem Ids.cell {w : World} {g : Nat} {x : Int} (h : Ids w g x) : w.cell? ⟨g, 0, none⟩ = some (.int .u64 x) := by
  obtain ⟨cs, h1, h2⟩ := h.h
  rw [cell_of_row _ _ _ _ _ _ h1]
  exact h2
theorem Ids.free {w : World} {g : Nat} {x : Int} (h : Ids w g x) : w.frozen? ⟨g, 0, none⟩ = false := by
  obtain ⟨cs, h1, _⟩ := h.h
  exact frozen_of h1
theorem Ids.lt {w : World} {g : Nat} {x : Int} (h : Ids w g x) : g < w.heap.size := by
  obtain ⟨cs, h1, _⟩ := h.h
  exact heap_lt h1
theorem Ids.kept {S : Nat → Prop} {w w' : World} {g : Nat} {x : Int} (h : Ids w g x) (hk : Kept S w w') (hs : ¬ S g) : Ids w' g x := by
  obtain ⟨cs, h1, h2⟩ := h.h
  exact ⟨cs, (hk.block g (heap_lt h1) hs).trans h1, h2⟩
theorem Ids.drew {w : World} {g : Nat} {x : Int} (h : Ids w g x) : Ids w.drew g x := ⟨h.h⟩
theorem Ids.set {w : World} {g : Nat} {x : Int} (h : Ids w g x) (y : Int) : Ids (w.setCell ⟨g, 0, none⟩ (.int .u64 y)) g y := by
  obtain ⟨cs, h1, h2⟩ := h.h
  refine ⟨_, heap_set h1 (.int .u64 y), ?_⟩
  have hl : 0 < cs.size := by
    by_cases hl : 0 < cs.size
    · exact hl
    · rw [Array.getElem?_eq_none (by omega)] at h2; cases h2
  simp [hl]
/-- What may be added, and what is there then. -/
def Add (s x y : Int) : Prop := (s = 1 ∧ x = 0 ∧ y = 64) ∨ (s = 2 ∧ x = 0 ∧ y = 128) ∨ (s = 1 ∧ x = 128 ∧ y = 192)
theorem has_c (g : Nat) (s x y : Int) (h : Add s x y) (w : World) (hI : Ids w g x) :
    Calls Tryd.prog 51 #[.pointer (some ⟨g, 0, none⟩), idV 1 s] w fun e w' => e = .returned (.bool false) ∧ Kept (fun _ => False) w w' := by
  have hs : s = 1 ∨ s = 2 := by rcases h with ⟨h, _⟩ | ⟨h, _⟩ | ⟨h, _⟩ <;> simp [h]
  have cA := fun W => at_c (.pointer (some ⟨g, 0, none⟩)) s hs W
  have hK0 : Hid (Kept (fun _ => False) w (w.alloc (.cells #[.int .i64 1, .int .i64 s] 47))) := (Kept.refl _ w).alloc _
  have HI := Lib.hid (hI.kept hK0.out id)
  clear hI hs
  rcases h with ⟨rfl, rfl, rfl⟩ | ⟨rfl, rfl, rfl⟩ | ⟨rfl, rfl, rfl⟩
  all_goals
    go_enter Tryd.func51, Tryd.ntmps51
    go_upto_region 1 with fail
    go_wp2_with (go_at_call 67; refine (cA _).mono ?_; clear cA; rintro e w2 ⟨rfl, hk2⟩; have HK2 := Lib.hid (hK0.out.trans hk2); have c0 := (HI.out.kept hk2 id).cell; clear hk2)
    go_ret
    exact ⟨rfl, HK2.out⟩
set_option maxRecDepth 100000 in
set_option maxHeartbeats 4000000 in
theorem add_c (g : Nat) (s x y : Int) (h : Add s x y) (w : World) (hI : Ids w g x) :
    Calls Tryd.prog 50 #[.pointer (some ⟨g, 0, none⟩), idV 1 s] w fun e w' => e = .returned (.bool true) ∧ Ids w' g y ∧ Kept (fun p => p = g) w w' := by
  have hs : s = 1 ∨ s = 2 := by rcases h with ⟨h, _⟩ | ⟨h, _⟩ | ⟨h, _⟩ <;> simp [h]
  have cA := fun W => at_c (.pointer (some ⟨g, 0, none⟩)) s hs W
  have cH := fun W (h' : Ids W g x) => has_c g s x y h W h'
  have hK0 : Hid (Kept (fun _ => False) w (w.alloc (.cells #[.int .i64 1, .int .i64 s] 47))) := (Kept.refl _ w).alloc _
  have HI := Lib.hid (hI.kept hK0.out id)
  have HB : Hid ((w.alloc (.cells #[.int .i64 1, .int .i64 s] 47)).heap[w.heap.size]? = some (.cells #[.int .i64 1, .int .i64 s] 47 (0, 0))) := heap_alloc_new w _
  clear hI hs
  rcases h with ⟨rfl, rfl, rfl⟩ | ⟨rfl, rfl, rfl⟩ | ⟨rfl, rfl, rfl⟩
  all_goals
    go_enter Tryd.func50, Tryd.ntmps50
    go_upto_region 1 with fail
    generalize w.alloc _ = w1 at *
    generalize w.heap.size = pb at *
    have b0 : w1.cell? ⟨pb, 0, none⟩ = some (.int .i64 1) := cell_of_row _ _ _ _ _ _ HB.out
    have b1 := cell_of_row w1 pb 1 _ _ _ HB.out
    simp only [List.getElem?_toArray, List.getElem?_cons_succ, List.getElem?_cons_zero] at b1
    go_wp2_with fail
    refine (cH _ HI.out).mono ?_
    clear cH b0 b1
    rintro e w2 ⟨rfl, hk2⟩
    have HK2 := Lib.hid (hK0.out.trans hk2)
    have HI2 := Lib.hid (HI.out.kept hk2 id)
    have HB2 := Lib.hid ((hk2.block pb (heap_lt HB.out) id).trans HB.out)
    have b0 : w2.cell? ⟨pb, 0, none⟩ = some (.int .i64 1) := cell_of_row _ _ _ _ _ _ HB2.out
    have b1 := cell_of_row w2 pb 1 _ _ _ HB2.out
    simp only [List.getElem?_toArray, List.getElem?_cons_succ, List.getElem?_cons_zero] at b1
    clear hk2
    go_wp2_with fail
    refine (cA _).mono ?_
    clear cA b0 b1
    rintro e w3 ⟨rfl, hk3⟩
    have HK3 := Lib.hid (HK2.out.trans hk3)
    have HI3 := Lib.hid (HI2.out.kept hk3 id)
    have c0 := HI3.out.cell
    have f0 := HI3.out.free
    clear hk3
    go_wp2_with fail
    go_region
    go_wp2_with fail
    go_ret
    have e1 : bits BinOp.or IntKind.u64 0 64 = 64 := by decide
    have e2 : bits BinOp.or IntKind.u64 0 128 = 128 := by decide
    have e3 : bits BinOp.or IntKind.u64 128 64 = 192 := by decide
    simp only [e1, e2, e3]
    exact ⟨rfl, (HI3.out.set _).drew, ((HK3.out.any : Kept (fun p => p = g) w w3).setCell (p := ⟨g, 0, none⟩) rfl _).drew⟩
theorem zero_ids : Tryd.zeroCells98[0]? = some (.int .u64 0) := by kernel_rfl
/-- Elements that Check takes, by what its set holds. -/
def Few (L : List ElemS) (acc : Nat → Int) : Prop := acc 0 = 0 ∧ L.length ≤ 10 ∧ ∀ k e, L[k]? = some e → e.t = 1 ∧ Add e.si (acc k) (acc (k + 1)) ∧ Cd.ruOk e.r
set_option maxRecDepth 100000 in
set_option maxHeartbeats 8000000 in
theorem check_few (L : List ElemS) (acc : Nat → Int) (v : Value) (w : World) (h : Se w v L) (hF : Few L acc) (hT : Tabs w) :
    Calls Tryd.prog 37 #[v] w fun e w' => e = .returned (.int .i64 0) ∧ Kept (fun _ => False) w w' := by
  obtain ⟨A, c, rfl, hA, _, _⟩ := h.open'
  obtain ⟨hacc, hn, hF⟩ := hF
  obtain ⟨n, hN⟩ : ∃ n, L.length = n := ⟨_, rfl⟩
  rw [hN] at hn hA ⊢
  have hk0 : Kept (fun _ => False) w (w.alloc (.cells Tryd.zeroCells98 98)) := (Kept.refl _ w).alloc _
  have HI0 : Hid (Ids (w.alloc (.cells Tryd.zeroCells98 98)) w.heap.size (acc 0)) := ⟨_, heap_alloc_new w _, by rw [hacc]; exact zero_ids⟩
  have HA := Lib.hid hA
  have HT := Lib.hid hT
  have HK0 := Lib.hid hk0
  have HF := Lib.hid hF
  have b0 : decide (2000 < n) = false := decide_eq_false (by omega)
  have b01 : decide ((2000 : Int) < (n : Int)) = false := decide_eq_false (by omega)
  clear h hA hT hk0 hF hacc hN
  go_enter Tryd.func37, Tryd.ntmps37
  go_upto_region 4 with fail
  generalize w.alloc (.cells Tryd.zeroCells98 98) = w1 at *
  generalize hgg : w.heap.size = g at *
  have HG := Lib.hid hgg
  clear hgg b0 b01
  go_wp2_with fail
  go_loopw [11] (fun v wr => ∃ k : Nat, k ≤ n ∧ v = .int .i64 k ∧ Ids wr g (acc k) ∧ Kept (fun p => p = g) w1 wr) (fun v _ => n - (intOf v).toNat)
  case atStart => exact ⟨0, Nat.zero_le _, rfl, HI0.out, Kept.refl _ _⟩
  case round =>
    obtain ⟨k, hk, rfl, hid, hkept⟩ := hrel
    have HK := Lib.hid hkept
    have HID := Lib.hid hid
    clear hkept hid
    have hkw : Kept (fun _ => False) w wr := HK0.out.fresh HK.out (fun p hp e => by have e : p = g := e; have := HG.out; omega)
    have HKW := Lib.hid hkw
    clear hkw
    by_cases hlt : k < n
    · obtain ⟨ad, e, rfl, he, h4'⟩ := (HA.out.kept HKW.out (fun _ _ => id)).at_ hlt
      obtain ⟨ht, hadd, hru⟩ := HF.out k e he
      have c0 := h4'.c0
      have c1 := h4'.c1
      have c2 := h4'.c2
      have c3 := h4'.c3
      have b1 : decide (k < n) = true := decide_eq_true hlt
      have b2 : decide ((k : Int) < (n : Int)) = true := decide_eq_true (by omega)
      have t1 : (0 : Int) ≤ (k : Int) := by omega
      have t2 : (k : Int) < (n : Int) := by omega
      have hs : e.si = 1 ∨ e.si = 2 := by rcases hadd with ⟨h, _⟩ | ⟨h, _⟩ | ⟨h, _⟩ <;> simp [h]
      have cM := fun W => mayid_any 1 e.si W
      rw [decide_eq_true (show Cd.idOk 1 e.si from ⟨by omega, by omega⟩)] at cM
      have cR := fun W (hT' : Tabs W) => isrune_any e.r W hT'
      rw [decide_eq_true hru] at cR
      have cA := fun W (hI : Ids W g (acc k)) => add_c g e.si (acc k) (acc (k + 1)) hadd W hI
      have hk5 : Kept (fun _ => False) wr (wr.alloc (elemO e)) := (Kept.refl _ wr).alloc _
      have HE5 : Hid (El4 (wr.alloc (elemO e)) ⟨wr.heap.size, 0, none⟩ e) := el4_new
      have HI5 := Lib.hid (HID.out.kept hk5 id)
      have HK5 := Lib.hid hk5
      have HTT := Lib.hid ht
      clear he h4' hadd hru hs hk5 ht
      go_upto_region 7 with fail
      clear c0 c1 c2 c3
      simp only [elemO] at HE5 HI5 HK5
      generalize wr.alloc (.cells #[.int .i64 e.t, .int .i64 e.si, .int .i64 e.r, .bool e.d] 56) = w5 at *
      generalize wr.heap.size = q at *
      obtain ⟨x0, x1, x2, x3⟩ := HE5.out.cs
      rw [HTT.out] at x0
      go_wp2_with fail
      refine (cM _).mono ?_
      clear cM x0 x1 x2 x3
      rintro ee w6 ⟨rfl, hk6⟩
      have HK6 := Lib.hid (HK5.out.trans hk6)
      have HI6 := Lib.hid (HI5.out.kept hk6 id)
      have HE6 := Lib.hid (HE5.out.kept hk6 id)
      obtain ⟨x0, x1, x2, x3⟩ := HE6.out.cs
      rw [HTT.out] at x0
      clear hk6
      go_wp2_with fail
      refine (cR _ (HT.out.kept (HKW.out.trans HK6.out) id id)).mono ?_
      clear cR x0 x1 x2 x3
      rintro ee w7 ⟨rfl, hk7⟩
      have HK7 := Lib.hid (HK6.out.trans hk7)
      have HI7 := Lib.hid (HI6.out.kept hk7 id)
      have HE7 := Lib.hid (HE6.out.kept hk7 id)
      obtain ⟨x0, x1, x2, x3⟩ := HE7.out.cs
      rw [HTT.out] at x0
      clear hk7
      go_wp2_with fail
      refine (cA _ HI7.out).mono ?_
      clear cA x0 x1 x2 x3
      rintro ee w8 ⟨rfl, hi8, hk8⟩
      have HK8 := Lib.hid (HK.out.trans (HK7.out.any.trans hk8))
      have HI8 := Lib.hid hi8
      clear hi8 hk8
      go_wp2_with fail
      go_roundw
      case rel => exact ⟨k + 1, by omega, by go_num, HI8.out, HK8.out⟩
      case measure => simp [intOf] <;> omega
    · obtain rfl : k = n := by omega
      have b1 : decide (k < k) = false := decide_eq_false (by omega)
      have b2 : decide ((k : Int) < (k : Int)) = false := decide_eq_false (by omega)
      go_wp2_with fail
      go_ret
      exact ⟨rfl, HKW.out⟩
end Go.Proofs.YtlminkbaafjloaaDoor
