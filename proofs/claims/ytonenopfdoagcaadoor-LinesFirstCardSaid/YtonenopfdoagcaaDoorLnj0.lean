/-
  THE MOTIONS BY ROWS, of the program: within a row, and to a row some rows away.
-/
import Derived.Test.YtonenopfdoagcaaDoorSp2
import Derived.Test.YtonenopfdoagcaaDoorSp3j
import Derived.Laws.ResultCell
import Derived.Laws.Rows
set_option linter.unusedVariables false
namespace Go.Proofs.YtonenopfdoagcaaDoor
open Go Go.RowKit

/-- A target, as it lies in memory. -/
def tgt (x k : Int) : Value := .agg #[.int .i64 x, .int .i64 k]
/-- What is told of where a motion leads. -/
def ans (o : Option Nat) (kind : Int) : Value := match o with
  | none => .tuple #[tgt 0 0, .int .i64 6]
  | some x => .tuple #[tgt x kind, .int .i64 0]
abbrev zeroT : Obj := .cells #[.int .i64 0, .int .i64 0] 68
theorem load_tgt (w : World) (x k : Int) : (loadVar 68 ⟨w.heap.size, 0, none⟩).run Tryd.prog (w.alloc (.cells #[.int .i64 x, .int .i64 k] 68)) = .ok (tgt x k) (w.alloc (.cells #[.int .i64 x, .int .i64 k] 68)) :=
  run_loadVar_row _ _ _ _ _ _ _ (heap_alloc_new w _) Tryd.underlying68 rfl (by kernel_rfl)
theorem res_tgt {fn : Func} {p u : Tmp} (h : fn.results = #[.cell p 68, .tmp u]) (tmps : Array Value) (w : World) (x k : Int) (hp : tmps.getD p undef = .pointer (some ⟨w.heap.size, 0, none⟩)) :
    (results fn tmps).run Tryd.prog (w.alloc (.cells #[.int .i64 x, .int .i64 k] 68)) = .ok (.tuple #[tgt x k, tmps.getD u undef]) (w.alloc (.cells #[.int .i64 x, .int .i64 k] 68)) := by
  rw [results_cell_tmp h, hp]
  simp [asAddr, Result.andThen, load_tgt]
theorem res_tgt1 {fn : Func} {p : Tmp} (h : fn.results = #[.cell p 68]) (tmps : Array Value) (w : World) (x k : Int) (hp : tmps.getD p undef = .pointer (some ⟨w.heap.size, 0, none⟩)) :
    (results fn tmps).run Tryd.prog (w.alloc (.cells #[.int .i64 x, .int .i64 k] 68)) = .ok (tgt x k) (w.alloc (.cells #[.int .i64 x, .int .i64 k] 68)) :=
  results_cell_row h tmps _ w.heap.size _ _ _ _ hp (heap_alloc_new w _) Tryd.underlying68 rfl (by kernel_rfl)
section
variable {A : Option Addr} {n c : Nat} {t : List Int} {k m : Nat} {w : World}
theorem w104_any (hA : Rn w A n t) (hr : Runey t) (hk : k ≤ n) (hn : n ≤ 100000) (hm : m ≤ 1000) (hm1 : 1 ≤ m) :
    Calls Tryd.prog 51 #[.slice A n c, .int .i64 k, .int .i64 104, .int .i64 m] w fun e w' => e = .returned (ans (Rw.to t k 104 m) 0) ∧ Kept (fun _ => False) w w' := by
  have hA1 : Rn (w.alloc zeroT) A n t := hA.kept ((Kept.refl (fun _ => False) w).alloc _) (fun _ _ => id)
  have hl := hA.1
  have hb := Rw.beg_le t k
  have he1 := Rw.en_ge t k
  have he2 := Rw.en_le t k (by rw [hA.1]; exact hk)
  rw [hl] at he2
  have hmx : max m 1 = m := by omega
  have hR : Hid (Rw.to t k 104 m = if max (Rw.beg t k) (k - m) = k then none else some (max (Rw.beg t k) (k - m))) := by
    show _ = _
    unfold Rw.to
    simp [hmx]
  have cR := row_any A n c t k (w.alloc zeroT) hA1 hk hn
  clear hA hr hA1 hl hmx
  generalize Rw.beg t k = b at *
  generalize Rw.en t k = h at *
  by_cases hx : max ((k : Int) - m) b = k
  · have hE : Hid (Rw.to t k 104 m = none) := by show _ = _; rw [hR.out, if_pos (by omega)]
    clear hR
    go_enter Tryd.func51, Tryd.ntmps51
    go_wp2_with (go_at_call 49; refine cR.mono ?_; rintro e w' ⟨rfl, rfl⟩)
    refine bodyPost_ret (res_tgt rfl _ w 0 0 rfl) rfl ⟨?_, (Kept.refl _ w).alloc _⟩
    rw [hE.out]
    rfl
  · have hE : Hid (Rw.to t k 104 m = some (max b (k - m))) := by show _ = _; rw [hR.out, if_neg (by omega)]
    have hv : Hid (((max b (k - m) : Nat) : Int) = max ((k : Int) - m) b) := by show _ = _; omega
    clear hR
    go_enter Tryd.func51, Tryd.ntmps51
    go_wp2_with (go_at_call 49; refine cR.mono ?_; rintro e w' ⟨rfl, rfl⟩)
    refine bodyPost_ret (res_tgt rfl _ w (max ((k : Int) - m) b) 0 rfl) rfl ⟨?_, (Kept.refl _ w).alloc _⟩
    rw [hE.out, ← hv.out]
    rfl
theorem w108_any (hA : Rn w A n t) (hr : Runey t) (hk : k ≤ n) (hn : n ≤ 100000) (hm : m ≤ 1000) (hm1 : 1 ≤ m) :
    Calls Tryd.prog 51 #[.slice A n c, .int .i64 k, .int .i64 108, .int .i64 m] w fun e w' => e = .returned (ans (Rw.to t k 108 m) 0) ∧ Kept (fun _ => False) w w' := by
  have hA1 : Rn (w.alloc zeroT) A n t := hA.kept ((Kept.refl (fun _ => False) w).alloc _) (fun _ _ => id)
  have hl := hA.1
  have hb := Rw.beg_le t k
  have he1 := Rw.en_ge t k
  have he2 := Rw.en_le t k (by rw [hA.1]; exact hk)
  rw [hl] at he2
  have hmx : max m 1 = m := by omega
  have hR : Hid (Rw.to t k 108 m = if min (Rw.en t k) (k + m) = k then none else some (min (Rw.en t k) (k + m))) := by
    show _ = _
    unfold Rw.to
    simp [hmx]
  have cR := row_any A n c t k (w.alloc zeroT) hA1 hk hn
  clear hA hr hA1 hl hmx
  generalize Rw.beg t k = b at *
  generalize Rw.en t k = h at *
  by_cases hx : min ((k : Int) + m) h = k
  · have hE : Hid (Rw.to t k 108 m = none) := by show _ = _; rw [hR.out, if_pos (by omega)]
    clear hR
    go_enter Tryd.func51, Tryd.ntmps51
    go_wp2_with (go_at_call 49; refine cR.mono ?_; rintro e w' ⟨rfl, rfl⟩)
    refine bodyPost_ret (res_tgt rfl _ w 0 0 rfl) rfl ⟨?_, (Kept.refl _ w).alloc _⟩
    rw [hE.out]
    rfl
  · have hE : Hid (Rw.to t k 108 m = some (min h (k + m))) := by show _ = _; rw [hR.out, if_neg (by omega)]
    have hv : Hid (((min h (k + m) : Nat) : Int) = min ((k : Int) + m) h) := by show _ = _; omega
    clear hR
    go_enter Tryd.func51, Tryd.ntmps51
    go_wp2_with (go_at_call 49; refine cR.mono ?_; rintro e w' ⟨rfl, rfl⟩)
    refine bodyPost_ret (res_tgt rfl _ w (min ((k : Int) + m) h) 0 rfl) rfl ⟨?_, (Kept.refl _ w).alloc _⟩
    rw [hE.out, ← hv.out]
    rfl
theorem w48_any (hA : Rn w A n t) (hr : Runey t) (hk : k ≤ n) (hn : n ≤ 100000) (hm : m ≤ 1000) (hm1 : 1 ≤ m) :
    Calls Tryd.prog 51 #[.slice A n c, .int .i64 k, .int .i64 48, .int .i64 m] w fun e w' => e = .returned (ans (Rw.to t k 48 m) 0) ∧ Kept (fun _ => False) w w' := by
  have hA1 : Rn (w.alloc zeroT) A n t := hA.kept ((Kept.refl (fun _ => False) w).alloc _) (fun _ _ => id)
  have hl := hA.1
  have hb := Rw.beg_le t k
  have he1 := Rw.en_ge t k
  have he2 := Rw.en_le t k (by rw [hA.1]; exact hk)
  rw [hl] at he2
  have hmx : max m 1 = m := by omega
  have hE : Hid (Rw.to t k 48 m = some (Rw.beg t k)) := rfl
  have cR := row_any A n c t k (w.alloc zeroT) hA1 hk hn
  clear hA hr hA1 hl hmx
  generalize Rw.beg t k = b at *
  generalize Rw.en t k = h at *
  by_cases hbk : b = k
  case' pos => subst hbk
  case' neg => have hx : ¬ ((b : Int) = k) := by omega
  all_goals
    go_enter Tryd.func51, Tryd.ntmps51
    go_wp2_with (go_at_call 49; refine cR.mono ?_; rintro e w' ⟨rfl, rfl⟩)
    refine bodyPost_ret (res_tgt rfl _ w b 0 rfl) rfl ⟨?_, (Kept.refl _ w).alloc _⟩
    rw [hE.out]
    rfl
theorem w94_any (hA : Rn w A n t) (hr : Runey t) (hk : k ≤ n) (hn : n ≤ 100000) (hm : m ≤ 1000) (hm1 : 1 ≤ m) :
    Calls Tryd.prog 51 #[.slice A n c, .int .i64 k, .int .i64 94, .int .i64 m] w fun e w' => e = .returned (ans (Rw.to t k 94 m) 0) ∧ Kept (fun _ => False) w w' := by
  have hA1 : Rn (w.alloc zeroT) A n t := hA.kept ((Kept.refl (fun _ => False) w).alloc _) (fun _ _ => id)
  have hl := hA.1
  have hb := Rw.beg_le t k
  have he1 := Rw.en_ge t k
  have he2 := Rw.en_le t k (by rw [hA.1]; exact hk)
  rw [hl] at he2
  have hmx : max m 1 = m := by omega
  have hE : Hid (Rw.to t k 94 m = some (Rw.fst t k)) := rfl
  have cR := row_any A n c t k (w.alloc zeroT) hA1 hk hn
  have cF := first_any A n c t k (w.alloc zeroT) hA1 hr hk hn
  have hf := Rw.fst_le t k (by rw [hl]; exact hk)
  clear hA hr hA1 hl hmx
  generalize Rw.beg t k = b at *
  generalize Rw.en t k = h at *
  generalize Rw.fst t k = f at *
  by_cases hbk : f = k
  case' pos => subst hbk
  case' neg => have hx : ¬ ((f : Int) = k) := by omega
  all_goals
    go_enter Tryd.func51, Tryd.ntmps51
    go_wp2_with (first | (go_at_call 49; refine cR.mono ?_; rintro e w' ⟨rfl, rfl⟩) | (go_at_call 34; refine cF.mono ?_; rintro e w' ⟨rfl, rfl⟩))
    refine bodyPost_ret (res_tgt rfl _ w f 0 rfl) rfl ⟨?_, (Kept.refl _ w).alloc _⟩
    rw [hE.out]
    rfl
end
end Go.Proofs.YtonenopfdoagcaaDoor
