/-
  ELEMENTS: the reference's text of them, which may be, the same.
-/
import Derived.Test.YthkohjijppbliaaDoorLMd
set_option linter.unusedVariables false
namespace Go.Proofs.YthkohjijppbliaaDoor
open Go Go.RowKit

theorem info_i32 : (Tryd.prog.info? 21).map (fun i => (i.zero, i.size, i.bytes)) = some (some (.int .i32 0), 1, 4) := by kernel_rfl
/-- The runes of those that are not dead. -/
def txL (L : List ElemS) : List Int := (L.filter fun e => !e.d).map fun e => e.r
theorem txL_nil : txL [] = [] := rfl
theorem txL_take {L : List ElemS} {k : Nat} {e : ElemS} (h : L[k]? = some e) : txL (L.take (k + 1)) = txL (L.take k) ++ (if e.d = true then [] else [e.r]) := by
  rw [List.take_add_one, h]
  unfold txL
  rw [List.filter_append, List.map_append]
  cases hd : e.d <;> simp [hd]
theorem txL_len (L : List ElemS) : (txL L).length ≤ L.length := by
  unfold txL
  rw [List.length_map]
  exact List.length_filter_le _ _
theorem txL_EL (t : List Int) : txL (EL t) = t := by
  unfold txL EL
  rw [List.filter_map]
  have : (List.filter ((fun e : ElemS => !e.d) ∘ fun p : Int × Nat => (⟨(p.2 : Int) + 1, 0, p.1, false⟩ : ElemS)) t.zipIdx) = t.zipIdx := by
    rw [List.filter_eq_self]
    intro a _
    rfl
  rw [this, List.map_map]
  exact List.zipIdx_map_fst 0 t
theorem one_cell (W : World) (x : Int) (ty : TypeId) : ∀ j u, ([Value.int .i32 x] : List Value)[j]? = some u → (W.alloc (.cells #[.int .i32 x] ty)).cell? ((⟨W.heap.size, 0, none⟩ : Addr).add j) = some u := by
  intro j u hj
  match j, hj with
  | 0, hj =>
    rw [addr_add, cell_of_row _ _ _ _ _ _ (heap_alloc_new W _)]
    simpa using hj
theorem own_rn {w : World} {B n : Nat} {v : Value} {t : List Int} (h : w.ownsRow B 21 1 v n (t.map (Value.int .i32))) : ∃ A c, v = .slice A n c ∧ Rn w A n t := by
  have hl : t.length = n := by have := h.1; rw [List.length_map] at this; omega
  rcases id h.2 with ⟨rfl, rfl⟩ | ⟨g, cap, cur, rfl, hb, hh, hcap, _, _, _⟩
  · obtain rfl := List.eq_nil_of_length_eq_zero hl
    exact ⟨none, 0, rfl, rfl, fun j x hj => by simp at hj⟩
  · refine ⟨_, cap, rfl, hl, fun j x hj => ⟨_, rfl, ?_⟩⟩
    exact h.cells rfl j _ (by rw [List.getElem?_map, hj]; rfl)
set_option maxRecDepth 100000 in
set_option maxHeartbeats 4000000 in
theorem rtext_any (v : Value) (L : List ElemS) (w : World) (h : Se w v L) (hn : L.length ≤ 100000) (hr : ∀ e ∈ L, 0 ≤ e.r ∧ e.r ≤ 1114111) :
    Calls Tryd.prog 19 #[v] w fun e w' => e = .returned (.string (runesBytes (txL L))) ∧ Kept (fun _ => False) w w' := by
  obtain ⟨j0, hj, hj0, hj1, hj2⟩ := info_parts info_i32
  obtain ⟨A, c, rfl, hA, _, _⟩ := h.open'
  obtain ⟨n, hN⟩ : ∃ n, L.length = n := ⟨_, rfl⟩
  rw [hN] at hn hA ⊢
  have HA := Lib.hid hA
  have HN := Lib.hid hN
  have HR := Lib.hid hr
  obtain ⟨Y, hY⟩ : ∃ Y, txL L = Y := ⟨_, rfl⟩
  rw [hY]
  have HY := Lib.hid hY
  obtain ⟨B, hB⟩ : ∃ B, w.heap.size = B := ⟨_, rfl⟩
  have HB := Lib.hid hB
  clear h hA hN hB hr hY
  go_enter Tryd.func19, Tryd.ntmps19
  go_wp2_with fail
  go_loopw [3, 4] (fun v i wr => ∃ k : Nat, k ≤ n ∧ i = .int .i64 k ∧ wr.ownsRow B 21 1 v (txL (L.take k)).length ((txL (L.take k)).map (Value.int .i32)) ∧ Kept (fun _ => False) w wr) (fun _ i _ => n - (intOf i).toNat)
  case atStart => exact ⟨0, Nat.zero_le _, rfl, World.ownsRow_nil _ _ _ _, Kept.refl _ _⟩
  case round =>
    obtain ⟨k, hk, rfl, hown, hkept⟩ := hrel
    have HK := Lib.hid hkept
    clear hkept
    by_cases hlt : k < n
    · obtain ⟨ad, e, rfl, he, h4⟩ := (HA.out.kept HK.out (fun _ _ => id)).at_ hlt
      have c2 := h4.c2
      have c3 := h4.c3
      have hx := HR.out e (List.mem_of_getElem? he)
      have b1 : decide (k < n) = true := decide_eq_true hlt
      have b2 : decide ((k : Int) < (n : Int)) = true := decide_eq_true (by omega)
      have t1 : (0 : Int) ≤ (k : Int) := by omega
      have t2 : (k : Int) < (n : Int) := by omega
      have hst := txL_take he
      have hLL : (txL (L.take k)).length ≤ n := by have := txL_len (L.take k); rw [List.length_take] at this; omega
      have hBw : B ≤ wr.heap.size := by have := HB.out; have := HK.out.size; omega
      generalize txL (L.take k) = X at *
      have HST := Lib.hid hst
      obtain ⟨et, es, x, d⟩ := e
      simp only at c2 c3 hx
      have e32 : IntKind.i32.wrap x = x := wraps_i32 x (by omega) (by omega)
      clear he h4 hst
      cases d
      · have HE : Hid (txL (L.take (k + 1)) = X ++ [x]) := HST.out
        go_wp2_with (at_builtin; refine wpList_append_own_at _ rfl (.tmp 17) (.tmp 24) 90 rfl B 21 j0 (.int .i32 0) 1 4 Tryd.underlying90 hj hj0 hj1 hj2 rfl (by decide) _ _ _ rfl (World.ownsRow.alloc hown _) ⟨_, 0, none⟩ 1 1 [.int .i32 x] rfl rfl (one_cell _ _ _) (fun u hu => by simp at hu; subst hu; rfl) (by unfold maxLen; omega) (by omega) (by have := HB.out; simp <;> omega) ?_; intro v5 w5 hown5 hgrow5 _ hat5; have HO5 := Lib.hid hown5; have HK5 := Lib.hid (Kept.grew (HK.out.alloc _) hgrow5 (fun q hq => by have := (hown.lt q hq).1; have := HB.out; omega)); clear hown5 hgrow5 hat5)
        go_roundw
        case rel => exact ⟨k + 1, by omega, by go_num, by rw [HE.out, List.length_append, List.map_append]; exact HO5.out, HK5.out⟩
        case measure => simp [intOf] <;> omega
      · have HE : Hid (txL (L.take (k + 1)) = X) := by show _ = _; rw [HST.out]; exact List.append_nil X
        go_wp2_with fail
        go_roundw
        case rel => exact ⟨k + 1, by omega, by go_num, by rw [HE.out]; exact hown, HK.out⟩
        case measure => simp [intOf] <;> omega
    · obtain rfl : k = n := by omega
      have b1 : decide (k < k) = false := decide_eq_false (by omega)
      have b2 : decide ((k : Int) < (k : Int)) = false := decide_eq_false (by omega)
      have hall : L.take k = L := List.take_of_length_le (by rw [HN.out]; exact Nat.le_refl _)
      rw [hall, HY.out] at hown
      obtain ⟨A5, c5, rfl, hrn⟩ := own_rn hown
      have hcv := run_txt (c := c5) hrn
      clear hall hown
      go_wp2_with fail
      go_ret
      exact ⟨rfl, HK.out⟩
set_option maxRecDepth 100000 in
set_option maxHeartbeats 1000000 in
theorem eqelems_yes (v v' : Value) (L : List ElemS) (w : World) (h : Se w v L) (h' : Se w v' L) (hn : L.length ≤ 100000) :
    Calls Tryd.prog 13 #[v, v'] w fun e w' => e = .returned (.bool true) ∧ Kept (fun _ => False) w w' := by
  obtain ⟨A, c, rfl, hA, _, _⟩ := h.open'
  obtain ⟨B, c', rfl, hB, _, _⟩ := h'.open'
  obtain ⟨n, hN⟩ : ∃ n, L.length = n := ⟨_, rfl⟩
  rw [hN] at hn hA hB ⊢
  have HA := Lib.hid hA
  have HB := Lib.hid hB
  clear hA hB h h' hN
  go_enter Tryd.func13, Tryd.ntmps13
  go_wp2_with fail
  go_loopw [5] (fun v wr => ∃ k m : Nat, k ≤ n ∧ v = .int .i64 k ∧ wr = w.drewN m) (fun v _ => n - (intOf v).toNat)
  case atStart => exact ⟨0, 0, Nat.zero_le _, rfl, rfl⟩
  case round =>
    obtain ⟨k, m, hk, rfl, rfl⟩ := hrel
    have hkm : Kept (fun _ => False) w (w.drewN m) := (Kept.refl _ w).drewN m
    by_cases hlt : k < n
    · obtain ⟨ad, r, rfl, hr, h4⟩ := HA.out.at_ hlt
      obtain ⟨bd, r', rfl, hr', g4⟩ := HB.out.at_ hlt
      rw [hr] at hr'
      injection hr' with hr'
      subst hr'
      obtain ⟨f0, f1, f2, f3⟩ := h4
      obtain ⟨g0, g1, g2, g3⟩ := g4
      have f0' := cell_kept hkm f0 id
      have f1' := cell_kept hkm f1 id
      have f2' := cell_kept hkm f2 id
      have f3' := cell_kept hkm f3 id
      have g0' := cell_kept hkm g0 id
      have g1' := cell_kept hkm g1 id
      have g2' := cell_kept hkm g2 id
      have g3' := cell_kept hkm g3 id
      have b1 : decide (k < n) = true := decide_eq_true hlt
      have b2 : decide ((k : Int) < (n : Int)) = true := decide_eq_true (by omega)
      have t1 : (0 : Int) ≤ (k : Int) := by omega
      have t2 : (k : Int) < (n : Int) := by omega
      clear hr hkm
      go_wp2_with fail
      go_quiet (fail)
      go_wp2_with fail
      go_roundw
      case rel => exact ⟨k + 1, _, by omega, by go_num, rfl⟩
      case measure => simp [intOf] <;> omega
    · obtain rfl : k = n := by omega
      have b1 : decide (k < k) = false := decide_eq_false (by omega)
      have b2 : decide ((k : Int) < (k : Int)) = false := decide_eq_false (by omega)
      go_wp2_with fail
      go_ret
      exact ⟨rfl, (Kept.refl _ w).drewN m⟩
set_option maxRecDepth 100000 in
set_option maxHeartbeats 4000000 in
theorem rfind_any (v : Value) (L : List ElemS) (t s : Int) (w : World) (h : Se w v L) (hn : L.length ≤ 100000) :
    Calls Tryd.prog 14 #[v, .agg #[.int .i64 t, .int .i64 s]] w fun e w' => (∃ q : Int, e = .returned (.int .i64 q)) ∧ Kept (fun _ => False) w w' := by
  obtain ⟨A, c, rfl, hA, _, _⟩ := h.open'
  obtain ⟨n, hN⟩ : ∃ n, L.length = n := ⟨_, rfl⟩
  rw [hN] at hn hA ⊢
  have hk0 : Kept (fun _ => False) w (w.alloc (.cells #[.int .i64 t, .int .i64 s] 39)) := (Kept.refl _ w).alloc _
  have HBX : Hid ((w.alloc (.cells #[.int .i64 t, .int .i64 s] 39)).heap[w.heap.size]? = some (.cells #[.int .i64 t, .int .i64 s] 39 (0, 0))) := heap_alloc_new w _
  have HA := Lib.hid (hA.kept hk0 (fun _ _ => id))
  have HK0 := Lib.hid hk0
  clear h hA hN hk0
  go_enter Tryd.func14, Tryd.ntmps14
  go_upto_region 1 with fail
  generalize w.alloc (.cells #[.int .i64 t, .int .i64 s] 39) = w1 at *
  generalize w.heap.size = cb at *
  go_wp2_with fail
  go_loopw [5] (fun v wr => ∃ k : Nat, k ≤ n ∧ v = .int .i64 k ∧ Kept (fun _ => False) w1 wr) (fun v _ => n - (intOf v).toNat)
  case atStart => exact ⟨0, Nat.zero_le _, rfl, Kept.refl _ _⟩
  case round =>
    obtain ⟨k, hk, rfl, hkept⟩ := hrel
    have HK := Lib.hid hkept
    clear hkept
    have hbx := (HK.out.block cb (heap_lt HBX.out) id).trans HBX.out
    have x0 : wr.cell? ⟨cb, 0, none⟩ = some (.int .i64 t) := cell_of_row _ _ _ _ _ _ hbx
    have x1 : wr.cell? ⟨cb, 1, none⟩ = some (.int .i64 s) := cell_of_row _ _ _ _ _ _ hbx
    clear hbx
    by_cases hlt : k < n
    · obtain ⟨ad, e, rfl, he, h4⟩ := (HA.out.kept HK.out (fun _ _ => id)).at_ hlt
      have c0 := h4.c0
      have c1 := h4.c1
      have b1 : decide (k < n) = true := decide_eq_true hlt
      have b2 : decide ((k : Int) < (n : Int)) = true := decide_eq_true (by omega)
      have t1 : (0 : Int) ≤ (k : Int) := by omega
      have t2 : (k : Int) < (n : Int) := by omega
      clear he h4
      by_cases hs : e.t = t ∧ e.si = s
      · have z1 : (e.t == t) = true := by simp [hs.1]
        have z2 : (e.si == s) = true := by simp [hs.2]
        clear hs
        go_wp2_with fail
        go_quiet (fail)
        go_wp2_with fail
        go_ret
        exact ⟨⟨_, rfl⟩, HK0.out.trans (HK.out.drewN _)⟩
      · have hss : (e.t == t) = false ∨ ((e.t == t) = true ∧ (e.si == s) = false) := by
          by_cases h1 : e.t = t
          · exact .inr ⟨by simp [h1], beq_eq_false_iff_ne.2 (fun h2 => hs ⟨h1, h2⟩)⟩
          · exact .inl (beq_eq_false_iff_ne.2 h1)
        clear hs
        rcases hss with z1 | ⟨z1, z2⟩
        all_goals
          go_wp2_with fail
          go_quiet (fail)
          go_wp2_with fail
          go_roundw
          case rel => exact ⟨k + 1, by omega, by go_num, HK.out.drewN _⟩
          case measure => simp [intOf] <;> omega
    · obtain rfl : k = n := by omega
      have b1 : decide (k < k) = false := decide_eq_false (by omega)
      have b2 : decide ((k : Int) < (k : Int)) = false := decide_eq_false (by omega)
      go_wp2_with fail
      go_ret
      exact ⟨⟨_, rfl⟩, HK0.out.trans HK.out⟩
end Go.Proofs.YthkohjijppbliaaDoor
