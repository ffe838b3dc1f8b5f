/-
  Rest AND Class OF WHATEVER ARGUMENTS; an ask of the first layer, opened.
-/
import Derived.Test.YtclmcieegoobkaaDoorRe
import Derived.Test.YtclmcieegoobkaaDoorAo3
import Derived.Deep.RegionHeld3
set_option linter.unusedVariables false
namespace Go.Proofs.YtclmcieegoobkaaDoor
open Go Go.RowKit Go.ChangeShapes Go.WideShapes Go.ChangeAt

theorem class_all (r : Int) (w : World) : Calls Tryd.prog 17 #[.int .i64 r] w fun e w' => e = .returned (.int .i64 (Rw.cls r)) ∧ w' = w := by
  by_cases h0 : 0 ≤ r
  · by_cases h1 : r ≤ 1114111
    · exact class_any r h0 h1 w
    · have hc : Rw.cls r = 1 := by unfold Rw.cls; (repeat' split) <;> omega
      have b1 : decide (r < 0) = false := decide_eq_false (by omega)
      have b2 : decide (128 ≤ r) = true := decide_eq_true (by omega)
      rw [hc]
      clear hc
      go_enter Tryd.func17, Tryd.ntmps17
      go_wp2
      go_ret
      exact ⟨rfl, rfl⟩
  · have hc : Rw.cls r = 2 := by unfold Rw.cls; (repeat' split) <;> omega
    have b1 : decide (r < 0) = true := decide_eq_true (by omega)
    rw [hc]
    clear hc
    go_enter Tryd.func17, Tryd.ntmps17
    go_wp2
    go_ret
    exact ⟨rfl, rfl⟩
theorem rclass_all (r : Int) (w : World) : Calls Tryd.prog 18 #[.int .i64 r] w fun e w' => e = .returned (.int .i64 (Rw.cls r)) ∧ w' = w := by
  by_cases h0 : 0 ≤ r
  · exact rclass_any r h0 w
  · have hc : Rw.cls r = 2 := by unfold Rw.cls; (repeat' split) <;> omega
    have e1 := neqI r 32 (by omega)
    have e2 := neqI r 9 (by omega)
    have e3 := neqI r 95 (by omega)
    have b1 : decide (97 ≤ r) = false := decide_eq_false (by omega)
    have b2 : decide (65 ≤ r) = false := decide_eq_false (by omega)
    have b3 : decide (48 ≤ r) = false := decide_eq_false (by omega)
    have b4 : decide (128 ≤ r) = false := decide_eq_false (by omega)
    rw [hc]
    clear hc
    go_enter Tryd.func18, Tryd.ntmps18
    go_wp2
    go_ret
    exact ⟨rfl, rfl⟩
/-- The reference's. -/
theorem rrest_any (A : Option Addr) (n c : Nat) (t : List Int) (k : Nat) (w : World) (hA : Rn w A n t) (hk : k ≤ n) (hn : n ≤ 100000) :
    Calls Tryd.prog 22 #[.slice A n c, .int .i64 k] w fun e w' => e = .returned (.int .i64 (Rw.rst t k : Nat)) ∧ w' = w := by
  have cE := rend_any A n c t k w hA hk hn
  have cB := rbegin_any A n c t k w hA hk hn
  have hb := Rw.beg_le t k
  have he := Rw.en_ge t k
  obtain ⟨V, hV⟩ : ∃ V, Rw.rst t k = V := ⟨_, rfl⟩
  rw [hV]
  unfold Rw.rst at hV
  generalize Rw.beg t k = b at *
  generalize Rw.en t k = e at *
  clear hA
  by_cases h1 : e = k
  · subst h1
    by_cases h2 : b < e
    · rw [if_pos ⟨rfl, h2⟩] at hV
      obtain ⟨e', rfl⟩ : ∃ e', e = e' + 1 := ⟨e - 1, by omega⟩
      have b1 : decide (b < e' + 1) = true := decide_eq_true h2
      have b2 : decide ((b : Int) < (e' : Int) + 1) = true := decide_eq_true (by omega)
      have HV := Lib.hid hV
      clear hV
      go_enter Tryd.func22, Tryd.ntmps22
      go_wp2_with (first | (go_at_call 44; refine cE.mono ?_; rintro e w' ⟨rfl, rfl⟩) | (go_at_call 45; refine cB.mono ?_; rintro e w' ⟨rfl, rfl⟩))
      go_ret
      rw [← HV.out]
      exact ⟨rfl, rfl⟩
    · rw [if_neg (fun h => h2 h.2)] at hV
      have b1 : decide (b < e) = false := decide_eq_false h2
      have b2 : decide ((b : Int) < (e : Int)) = false := decide_eq_false (by omega)
      have HV := Lib.hid hV
      clear hV
      go_enter Tryd.func22, Tryd.ntmps22
      go_wp2_with (first | (go_at_call 44; refine cE.mono ?_; rintro e w' ⟨rfl, rfl⟩) | (go_at_call 45; refine cB.mono ?_; rintro e w' ⟨rfl, rfl⟩))
      go_ret
      rw [← HV.out]
      exact ⟨rfl, rfl⟩
  · rw [if_neg (fun h => h1 h.1)] at hV
    have e1 : ((k : Int) == (e : Int)) = false := by rw [beq_eq_false_iff_ne]; omega
    have e2 : (k == e) = false := by rw [beq_eq_false_iff_ne]; omega
    have HV := Lib.hid hV
    clear hV h1
    go_enter Tryd.func22, Tryd.ntmps22
    go_wp2_with (first | (go_at_call 44; refine cE.mono ?_; rintro e w' ⟨rfl, rfl⟩) | (go_at_call 45; refine cB.mono ?_; rintro e w' ⟨rfl, rfl⟩))
    go_ret
    rw [← HV.out]
    exact ⟨rfl, rfl⟩
/-- Rest where the text may not be, or there is no such offset. -/
theorem rest_form (s : ByteArray) (k : Int) (w : World) (hs : s.size ≤ 140737488351232) (hT : Tabs w) (hm : mayB s = false) :
    Calls Tryd.prog 19 #[.string s, .int .i64 k] w fun e w' => e = .returned (.tuple #[.int .i64 0, .int .i64 1]) ∧ Kept (fun _ => False) w w' := by
  have cP := place_form s k w hs hT hm
  clear hT hm
  go_enter Tryd.func19, Tryd.ntmps19
  go_wp2_with (go_at_call 41; refine cP.mono ?_; rintro e w1 ⟨rfl, hk1⟩; have HK1 := Lib.hid hk1; clear hk1 cP)
  exact bodyPost_ret (v := .tuple #[.int .i64 0, .int .i64 1]) (by simp [results, Tryd.results19, go_sem]) rfl ⟨rfl, HK1.out.alloc _⟩
theorem rest_none (s : ByteArray) (k : Int) (w : World) (hT : Tabs w) (hm : mayB s = true) (hk : ¬ (0 ≤ k ∧ k ≤ (rs s).length)) :
    Calls Tryd.prog 19 #[.string s, .int .i64 k] w fun e w' => e = .returned (.tuple #[.int .i64 0, .int .i64 3]) ∧ Kept (fun _ => False) w w' := by
  have cP := place_none s k w hT hm hk
  clear hT hm hk
  go_enter Tryd.func19, Tryd.ntmps19
  go_wp2_with (go_at_call 41; refine cP.mono ?_; rintro e w1 ⟨rfl, hk1⟩; have HK1 := Lib.hid hk1; clear hk1 cP)
  exact bodyPost_ret (v := .tuple #[.int .i64 0, .int .i64 3]) (by simp [results, Tryd.results19, go_sem]) rfl ⟨rfl, HK1.out.alloc _⟩
section
variable {H : Type} {enc : TypeId × Value → H} {W : World} {base : Nat} {sp : Nat → Bool} {held : Bool}
/-- A parameter of the first layer's type. -/
theorem ask1_open {r : Reach} {b0 : Nat} {v : Value} {d : DataW H} {p : List MemPlace} (hv : Value.okWide Tryd.prog W r b0 26 v) (h : DataW.Trod enc Tryd.prog W base sp held 26 v d p)
    (hz : ∀ q ∈ d.weights Tryd.prog 26, q ≤ reachBytes) :
    ∃ (A : Option Addr) (n c : Nat) (ss : List ByteArray) (xa xb xr xc : Int), v = .agg #[.slice A n c, .int .i64 xa, .int .i64 xb, .int .i64 xr, .int .i64 xc] ∧ Strs W A n ss ∧ n ≤ 8796093022208 ∧ I64 xa ∧ I64 xb ∧ I64 xr ∧ I64 xc := by
  obtain ⟨cs, rfl, hsz⟩ := okWide_struct Tryd.underlying26 hv
  rw [cells_ask1] at hsz
  obtain ⟨l⟩ := cs
  match l, hsz with
  | [c0, c1, c2, c3, c4], _ =>
    obtain ⟨fuel, hf⟩ := h
    obtain ⟨x0, x1, x2, x3, n', hx', _, k0, k1, k2, k3⟩ := Joins.trod_struct4 Tryd.underlying26 hf
    simp only [Prod.mk.injEq] at hx'
    obtain ⟨rfl, rfl⟩ := hx'
    simp only [Value.cells, cells_int, cells_strings, cells_pos, List.drop_zero, List.drop_succ_cons, List.take_succ_cons, List.take_zero] at k0 k1 k2 k3
    obtain ⟨z1, e1, _, w1⟩ := DataW.trod_int Tryd.underlying3 k1
    obtain ⟨z2, e2, _, w2⟩ := DataW.trod_int Tryd.underlying3 k2
    obtain ⟨u0, u1, n2, hx2, _, j0, j1⟩ := trod_struct2 Tryd.underlying24 k3
    simp only [cells_int, List.drop_zero, List.drop_succ_cons, List.take_succ_cons, List.take_zero] at j0 j1
    obtain ⟨z3, e3, _, w3⟩ := DataW.trod_int Tryd.underlying3 j0
    obtain ⟨z4, e4, _, w4⟩ := DataW.trod_int Tryd.underlying3 j1
    obtain ⟨A, m, c, ss, e0, hS, hm⟩ := strs_open k0 (fun q hq => hz q (by
      simp only [DataW.weights, Tryd.underlying26, List.map_cons, List.map_nil, DataW.weightsEach, List.mem_append]
      exact Or.inl hq))
    simp only [List.cons.injEq, and_true] at e0 e1 e2 e3 e4
    exact ⟨A, m, c, ss, z1, z2, z3, z4, by rw [e0, e1, e2, e3, e4], hS, hm, i64_of_wf w1, i64_of_wf w2, i64_of_wf w3, i64_of_wf w4⟩
end
end Go.Proofs.YtclmcieegoobkaaDoor
