/-
  MARKS: Move, of the program and of the reference.
-/
import Derived.Test.YtknoiehglfpepaaDoorMsC
import Derived.Test.YtknoiehglfpepaaDoorMsS
import Derived.Deep.RegionHeld3
import Derived.RegionTactic
set_option linter.unusedVariables false
namespace Go.Proofs.YtknoiehglfpepaaDoor
open Go Go.RowKit

theorem own_kept {w w' : World} {base : Nat} {v : Value} {n : Nat} {xs : List Value} (h : w.ownsRow base 61 2 v n xs) (hk : Kept (fun _ => False) w w') : w'.ownsRow base 61 2 v n xs :=
  h.kept (row := none) ⟨hk.os, hk.tape, hk.output, hk.size, fun j hj _ => hk.block j hj id⟩ (by cases v.ownBlock <;> simp)
theorem own_told {w : World} {base : Nat} {v : Value} {L : Nat} {xs : List Value} {rows : List (List Int)} (h : w.ownsRow base 61 2 v L xs) (hL : L = rows.length) (hx : xs = flat rows) (hl : ∀ r ∈ rows, r.length = 2 ∧ ∀ x ∈ r, I64 x) :
    ∃ B c', v = .slice B L c' ∧ Rws w B rows.length 2 rows ∧ (∀ a, B = some a → base ≤ a.block) ∧ Cq w B rows.length c' := by
  subst hL hx
  exact owned_rows h rfl hl
theorem mk_cells {w : World} {g : Nat} {x y : Int} (h : w.heap[g]? = some (.cells #[.int .i64 x, .int .i64 y] 61 (0, 0))) : w.cell? ⟨g, 0, none⟩ = some (.int .i64 x) ∧ w.cell? ⟨g, 1, none⟩ = some (.int .i64 y) :=
  ⟨cell_of_row w g 0 _ _ _ h, cell_of_row w g 1 _ _ _ h⟩
theorem msh_i64 {a d v : Int} {n : Nat} (hv : 0 ≤ v ∧ v ≤ 4000) (ha : 0 ≤ a ∧ a ≤ 4000) (hd : 0 ≤ d ∧ d ≤ 4000) (hn : n ≤ 4000) : -4000 ≤ Rw.msh a d n v ∧ Rw.msh a d n v ≤ 8000 := by
  unfold Rw.msh
  split
  · omega
  · split <;> omega
theorem mmv_i64 {M : List (List Int)} {a d : Int} {n : Nat} (hM : Rw.mOk M) (hl : ∀ r ∈ M, r.length = 2) (ha : 0 ≤ a ∧ a ≤ 4000) (hd : 0 ≤ d ∧ d ≤ 4000) (hn : n ≤ 4000) : ∀ r ∈ Rw.mmv M a d n, r.length = 2 ∧ ∀ x ∈ r, I64 x := by
  intro r hr
  unfold Rw.mmv at hr
  obtain ⟨q, hq, hr⟩ := List.mem_flatMap.1 hr
  have h2 := hl q hq
  obtain ⟨i, hi, rfl⟩ := List.getElem_of_mem hq
  have hget := List.getElem?_eq_getElem hi
  generalize M[i] = q at *
  match q, h2 with
  | [x, y], _ =>
    obtain ⟨h3, h4, _⟩ := hM i x y hget
    simp only [Rw.mmv1] at hr
    split at hr
    · simp at hr
    · simp only [List.mem_cons, List.not_mem_nil, or_false] at hr
      subst hr
      refine ⟨rfl, fun z hz => ?_⟩
      have := msh_i64 h4 ha hd hn
      simp only [List.mem_cons, List.not_mem_nil, or_false] at hz
      unfold I64
      rcases hz with rfl | rfl <;> omega
set_option maxRecDepth 100000 in
set_option maxHeartbeats 4000000 in
theorem pmove_yes (A : Option Addr) (n c : Nat) (rows : List (List Int)) (a d : Int) (s : ByteArray) (w : World) (hT : Tabs w) (hA : Rws w A n 2 rows) (hn : n ≤ 100000) (ho : Rw.mOk rows) (ha : 0 ≤ a ∧ a ≤ 4000) (hd : 0 ≤ d ∧ d ≤ 4000) (hm : mayB s = true) :
    Calls Tryd.prog 18 #[.slice A n c, patV a d s] w fun e w' => MsTold w (Rw.mmv rows a d (rs s).length) e w' ∧ Kept (fun _ => False) w w' := by
  obtain ⟨i0, hi, hz0, hz1, hz2⟩ := info_parts info_mark
  have hsz := mayB_size hm
  have hl := rs_len s
  have hka : Kept (fun _ => False) w (w.alloc (patO a d s)) := (Kept.refl _ w).alloc _
  have HG : Hid ((w.alloc (patO a d s)).heap[w.heap.size]? = some (patO a d s)) := heap_alloc_new w _
  have cS := fun (v : Int) (hv : 0 ≤ v ∧ v ≤ 4000) W (hW : Tabs W) => shift_yes s a d v W hW hv ha hd hm
  have HFIN := Lib.hid (mmv_i64 (n := (rs s).length) ho hA.len2 ha hd (by omega))
  have hNN : (rs s).length ≤ 4000 := by omega
  generalize (rs s).length = N at *
  have cC := fun W (h : Kept (fun _ => False) w W) => pcheck_any A n c rows W (hA.kept h (fun _ _ => id)) hn
  have HT := Lib.hid (hT.kept hka id id)
  have HKA := Lib.hid hka
  have HA := Lib.hid hA
  have HO := Lib.hid ho
  have HCS := Lib.hid cS
  have cS0 := cS 0 (by omega) _ HT.out
  have hw0 : IntKind.i64.wrap (a + d) = a + d := IntWalk.i64_in _ ⟨by omega, by omega⟩
  obtain ⟨S0, hS0⟩ : ∃ S0, Rw.msh a d N 0 = S0 := ⟨_, rfl⟩
  rw [hS0] at cS0
  clear hT hka hA ho cS hm hS0
  go_enter Tryd.func18, Tryd.ntmps18
  go_upto_region 4 with (first
    | (go_at_call 26; refine cS0.mono ?_; rintro e w1 ⟨rfl, hk1⟩; have HG1 := Lib.hid ((hk1.block _ (heap_lt HG.out) id).trans HG.out); have HK1 := Lib.hid (HKA.out.trans hk1); have HT1 := Lib.hid (HT.out.kept hk1 id id); clear hk1)
    | (go_at_call 9; refine (cC _ HK1.out).mono ?_; rintro e w2 ⟨⟨E, rfl, _, hE⟩, hk2⟩; obtain rfl : E = 0 := hE.2 HO.out; have HG2 := Lib.hid ((hk2.block _ (heap_lt HG1.out) id).trans HG1.out); have HK2 := Lib.hid (HK1.out.trans hk2); have HT2 := Lib.hid (HT1.out.kept hk2 id id); clear hk2 hE))
  have hb2 : w.heap.size ≤ w2.heap.size := HK2.out.size
  have HA2 := Lib.hid (HA.out.kept HK2.out (fun _ _ => id))
  generalize hpb : w.heap.size = pb at HG2 ⊢
  have hpw : w.heap.size = pb := hpb
  clear hpb cS0 cC
  go_upto_region 5 with (at_make; refine wpList_make_own _ rfl _ _ 22 rfl w2.heap.size 61 i0 (.agg #[.int .i64 0, .int .i64 0]) 2 Tryd.underlying22 hi hz0 hz1 .i64 .i64 _ n rfl rfl rfl (by rw [hz2]; omega) (by unfold maxLen; omega) (Nat.le_refl _) ?_; intro w5 hown0 hgrow)
  have HK5 : Hid (Kept (fun _ => False) w2 w5) := (Kept.refl _ w2).grown hgrow
  have HO5 := Lib.hid hown0
  have HPW := Lib.hid hpw
  clear hown0 hgrow hpw
  go_wp2_with fail
  go_loopw [8, 30] (fun v i wr => ∃ k : Nat, k ≤ n ∧ i = .int .i64 k ∧ wr.ownsRow w2.heap.size 61 2 v (Rw.mmv (rows.take k) a d N).length (flat (Rw.mmv (rows.take k) a d N)) ∧ Kept (fun _ => False) w2 wr) (fun _ i _ => n - (intOf i).toNat)
  case atStart => exact ⟨0, Nat.zero_le _, rfl, by rw [Rw.mmv_zero]; exact HO5.out, HK5.out⟩
  case round =>
    obtain ⟨k, hk, rfl, hown, hkept⟩ := hrel
    have HK := Lib.hid hkept
    have hsz2 := hkept.size
    have hLL : (Rw.mmv (rows.take k) a d N).length ≤ n := by
      have h1 := Rw.mmv_len (rows.take k) a d N
      rw [List.length_take] at h1
      omega
    have HT3 := Lib.hid (HT2.out.kept hkept id id)
    have hG3 := (hkept.block _ (heap_lt HG2.out) id).trans HG2.out
    have HG3 := Lib.hid hG3
    clear hkept
    obtain ⟨L, hL⟩ : ∃ L, (Rw.mmv (rows.take k) a d N).length = L := ⟨_, rfl⟩
    obtain ⟨xs, hxs⟩ : ∃ xs, flat (Rw.mmv (rows.take k) a d N) = xs := ⟨_, rfl⟩
    rw [hL, hxs] at hown
    rw [hL] at hLL
    have HLX := Lib.hid hL
    have HXS := Lib.hid hxs
    clear hL hxs hG3
    by_cases hkn : k < n
    · obtain ⟨ad, x, v, rfl, hr, f0, f1⟩ := (HA2.out.kept HK.out (fun _ _ => id)).two hkn
      obtain ⟨hx, hv, _⟩ := HO.out k x v hr
      have b1 : decide (k < n) = true := decide_eq_true hkn
      have b2 : decide ((k : Int) < (n : Int)) = true := decide_eq_true (by omega)
      have t1 : (0 : Int) ≤ (k : Int) := by omega
      have t2 : (k : Int) < (n : Int) := by omega
      have HSt := Lib.hid (Rw.mmv_step (a := a) (d := d) (n := N) hr)
      have hka3 : Kept (fun _ => False) wr (wr.alloc (.cells #[.int .i64 x, .int .i64 v] 61)) := (Kept.refl _ wr).alloc _
      have hGa := (hka3.block _ (heap_lt HG3.out) id).trans HG3.out
      have HGa := Lib.hid hGa
      have HMa : Hid ((wr.alloc (.cells #[.int .i64 x, .int .i64 v] 61)).heap[wr.heap.size]? = some (.cells #[.int .i64 x, .int .i64 v] 61 (0, 0))) := heap_alloc_new wr _
      have HKa := Lib.hid hka3
      have HTa := Lib.hid (HT3.out.kept hka3 id id)
      obtain ⟨p0, p1, p2⟩ := pat_cells hGa
      clear hr hGa hka3
      by_cases hin : a < v ∧ v < a + d
      · obtain ⟨h1, h2⟩ := hin
        have b3 : decide (a < v) = true := decide_eq_true h1
        have b4 : decide (v < a + d) = true := decide_eq_true h2
        have HE : Hid (Rw.mmv (rows.take (k + 1)) a d N = Rw.mmv (rows.take k) a d N) := by
          show _ = _
          rw [HSt.out]
          simp only [Rw.mmv1]
          rw [if_pos ⟨h1, h2⟩, List.append_nil]
        go_wp2_with fail
        go_roundw
        case rel => exact ⟨k + 1, by omega, by go_num, by rw [HE.out, HLX.out, HXS.out]; exact hown.alloc _, HK.out.trans HKa.out⟩
        case measure => simp [intOf] <;> omega
      · have hc : (decide (a < v) = false) ∨ (decide (a < v) = true ∧ decide (v < a + d) = false) := by
          by_cases h1 : a < v
          · exact .inr ⟨decide_eq_true h1, decide_eq_false (fun h2 => hin ⟨h1, h2⟩)⟩
          · exact .inl (decide_eq_false h1)
        have hE : Rw.mmv (rows.take (k + 1)) a d N = Rw.mmv (rows.take k) a d N ++ [[x, min (Rw.msh a d N v) 4000]] := by
          rw [HSt.out]
          simp only [Rw.mmv1]
          rw [if_neg hin]
        have cSv := HCS.out v hv _ HTa.out
        have hrange := msh_i64 (n := N) hv ha hd hNN
        obtain ⟨S, hS⟩ : ∃ S, Rw.msh a d N v = S := ⟨_, rfl⟩
        rw [hS] at hE cSv hrange
        obtain ⟨Q, hQ⟩ : ∃ Q, min S 4000 = Q := ⟨_, rfl⟩
        rw [hQ] at hE
        have HE := Lib.hid (snoc_at hE HLX.out HXS.out)
        clear hS hin hE
        rcases hc with b3 | ⟨b3, b4⟩
        all_goals
          go_wp2_with (first
            | (go_at_call 26; refine cSv.mono ?_; rintro e w6 ⟨rfl, hk6⟩; have HK6 := Lib.hid (HK.out.trans (HKa.out.trans hk6)); have HM6 := Lib.hid ((hk6.block _ (heap_lt HMa.out) id).trans HMa.out); obtain ⟨m0, m1⟩ := mk_cells HM6.out; have HO6 := Lib.hid (own_kept (hown.alloc (.cells #[.int .i64 x, .int .i64 v] 61)) hk6); have hs6 : w2.heap.size ≤ w6.heap.size := HK6.out.size; clear hk6)
            | (at_builtin; refine wpList_append_own_at _ rfl (.tmp 56) (.tmp 62) 22 rfl w2.heap.size 61 i0 (.agg #[.int .i64 0, .int .i64 0]) 2 16 Tryd.underlying22 hi hz0 hz1 hz2 rfl (by decide) _ _ _ rfl (HO6.out.alloc _) ⟨_, 0, none⟩ 1 1 [.int .i64 x, .int .i64 Q] rfl rfl two_cells two_one (by unfold maxLen; omega) (by omega) (by simp <;> omega) ?_; intro v7 w7 hown7 hgrow7 _ hat7; have HO7 := Lib.hid hown7; have HK7 := Lib.hid (Kept.grew (HK6.out.alloc _) hgrow7 (fun b hb => (HO6.out.lt b hb).1)); clear hown7 hgrow7 hat7))
          go_roundw
          case rel => exact ⟨k + 1, by omega, by go_num, by rw [HE.out.1, HE.out.2]; exact HO7.out, HK7.out⟩
          case measure => simp [intOf] <;> omega
    · obtain rfl : k = n := by omega
      have b1 : decide (k < k) = false := decide_eq_false (by omega)
      have b2 : decide ((k : Int) < (k : Int)) = false := decide_eq_false (by omega)
      have hall : rows.take k = rows := List.take_of_length_le (by rw [HA.out.1]; exact Nat.le_refl _)
      rw [hall] at HLX HXS
      go_wp2_with fail
      obtain ⟨B, c', e1, h1, h2, h3⟩ := own_told hown HLX.out.symm HXS.out.symm HFIN.out
      subst e1
      have HX : Hid (MsTold w (Rw.mmv rows a d N) (.returned (.tuple #[.slice B L c', .int .i64 0])) wr) := by
        show MsTold _ _ _ _
        rw [← HLX.out]
        exact ⟨B, c', rfl, h1, fun q hq => Nat.le_trans (by have := HPW.out; omega) (h2 q hq), h3⟩
      exact bodyPost_ret (v := .tuple #[.slice B L c', .int .i64 0]) (by simp [results, Tryd.results18, go_sem]) rfl ⟨HX.out, HK2.out.trans HK.out⟩
set_option maxRecDepth 100000 in
theorem pmove_no (A : Option Addr) (n c : Nat) (rows : List (List Int)) (a d : Int) (s : ByteArray) (w : World) (hT : Tabs w) (hA : Rws w A n 2 rows) (hn : n ≤ 100000) (hs : s.size ≤ 140737488351232) (hno : ¬ (Rw.mOk rows ∧ (0 ≤ a ∧ a ≤ 4000) ∧ (0 ≤ d ∧ d ≤ 4000) ∧ mayB s = true)) :
    Calls Tryd.prog 18 #[.slice A n c, patV a d s] w fun e w' => e = .returned (.tuple #[.slice none 0 0, .int .i64 1]) ∧ Kept (fun _ => False) w w' := by
  have hka : Kept (fun _ => False) w (w.alloc (patO a d s)) := (Kept.refl _ w).alloc _
  have cC := fun W (h : Kept (fun _ => False) w W) => pcheck_any A n c rows W (hA.kept h (fun _ _ => id)) hn
  have HT := Lib.hid (hT.kept hka id id)
  have HKA := Lib.hid hka
  by_cases hp : (0 ≤ a ∧ a ≤ 4000) ∧ (0 ≤ d ∧ d ≤ 4000) ∧ mayB s = true
  · obtain ⟨ha, hd, hm⟩ := hp
    have cS0 := shift_yes s a d 0 _ HT.out (by omega) ha hd hm
    have HO : Hid (¬ Rw.mOk rows) := fun ho => hno ⟨ho, ha, hd, hm⟩
    generalize Rw.msh a d (rs s).length 0 = S0 at *
    clear hT hka hA hno hm
    go_enter Tryd.func18, Tryd.ntmps18
    go_wp2_with (first
      | (go_at_call 26; refine cS0.mono ?_; rintro e w1 ⟨rfl, hk1⟩; have HK1 := Lib.hid (HKA.out.trans hk1); clear hk1)
      | (go_at_call 9; refine (cC _ HK1.out).mono ?_; rintro e w2 ⟨⟨E, rfl, hE1, hE⟩, hk2⟩; obtain rfl : E = 1 := hE1.resolve_left (fun h => HO.out (hE.1 h)); have HK2 := Lib.hid (HK1.out.trans hk2); clear hk2 hE hE1))
    exact bodyPost_ret (v := .tuple #[.slice none 0 0, .int .i64 1]) (by simp [results, Tryd.results18, go_sem]) rfl ⟨rfl, HK2.out⟩
  · have cS0 := shift_no s a d 0 _ HT.out hs (fun h => hp h.2)
    clear hT hka hA hno hp cC
    go_enter Tryd.func18, Tryd.ntmps18
    go_wp2_with (go_at_call 26; refine cS0.mono ?_; rintro e w1 ⟨rfl, hk1⟩; have HK1 := Lib.hid (HKA.out.trans hk1); clear hk1)
    exact bodyPost_ret (v := .tuple #[.slice none 0 0, .int .i64 1]) (by simp [results, Tryd.results18, go_sem]) rfl ⟨rfl, HK1.out⟩
end Go.Proofs.YtknoiehglfpepaaDoor
