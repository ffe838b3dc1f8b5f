/-
  ORDER: Do and Where; what patch an op is.
-/
import Derived.Test.YthkohjijppbliaaDoorLpN
set_option linter.unusedVariables false
namespace Go.Proofs.YthkohjijppbliaaDoor
open Go Go.RowKit

theorem eclone_v (L : List ElemS) (v : Value) (w : World) (h : Se w v L) (hn : L.length ≤ 100000) :
    Calls Tryd.prog 43 #[v] w fun e w' => (∃ v', e = .returned v' ∧ Oe w' w.heap.size v' L) ∧ Kept (fun _ => False) w w' := by
  obtain ⟨A, n, c, rfl, hE, h2, h3⟩ := h
  have hl := hE.1
  refine (eclone_any A n c L w hE h3 (by omega)).mono fun e w' ⟨⟨v', he, ho⟩, hk⟩ => ⟨⟨v', he, ?_⟩, hk⟩
  unfold Oe
  rw [hl]
  exact ho
def DoR (w w' : World) (L : List ElemS) (o : Cd.OpP) (v' : Value) (L' : List ElemS) : Prop :=
  Oe w' w.heap.size v' L' ∧ ((o.kd = 2 ∧ ∃ (i : Nat) (e : ElemS), L[i]? = some e ∧ e.t = o.t ∧ e.si = o.si ∧ L' = L.set i { e with d := true }) ∨ (o.kd = 1 ∧ ∃ (i j : Nat), idxE L o.t0 o.s0 + 1 = (i : Int) ∧ StopAt L o.t o.si i j ∧ L' = insE L j ⟨o.t, o.si, o.rn, false⟩))
/-- An op that can be done. -/
def CanDo (L : List ElemS) (o : Cd.OpP) : Prop := (o.kd = 2 ∧ 0 ≤ idxE L o.t o.si) ∨ (o.kd = 1 ∧ idxE L o.t o.si < 0 ∧ (0 ≤ idxE L o.t0 o.s0 ∨ o.t0 = 0 ∧ o.s0 = 0) ∧ L.length < 2000)
set_option maxRecDepth 100000 in
set_option maxHeartbeats 8000000 in
theorem odo_ok (L : List ElemS) (v : Value) (b : OpS) (w : World) (h : Se w v L) (hb : OpOk w b) (hT : Tabs w) (hok : elsOk L) (hop : Cd.opOk b.o) (hcd : CanDo L b.o) :
    Calls Tryd.prog 15 #[v, opV b] w fun e w' => (∃ v' L', e = .returned (.tuple #[v', .int .i64 0]) ∧ DoR w w' L b.o v' L') ∧ Kept (fun _ => False) w w' := by
  have hk0 : Kept (fun _ => False) w (w.alloc (opO b)) := (Kept.refl _ w).alloc _
  have HO : Hid (Op9 (w.alloc (opO b)) ⟨w.heap.size, 0, none⟩ b) := op9_new
  have HK0 := Lib.hid hk0
  have cC := fun W (hk : Kept (fun _ => False) w W) => ocheck_any L v W (h.kept hk) (by have := hok.1; omega) (hT.kept hk id id)
  have cM := fun W (hk : Kept (fun _ => False) w W) => may_any b W (hb.kept hk (fun _ _ => id)) (hT.kept hk id id)
  have cF := fun W (hk : Kept (fun _ => False) w W) => find_any L v b.o.t b.o.si W (h.kept hk) (by have := hok.1; omega)
  have cI := fun (i : Nat) (hi : idxE L b.o.t0 b.o.s0 + 1 = (i : Int)) (h0 : i = 0 → b.o.t0 = 0 ∧ b.o.s0 = 0) (hl : L.length < 2000) W (hk : Kept (fun _ => False) w W) => oinsert_any L v b i W (h.kept hk) hl hi h0
  simp only [if_pos hok] at cC
  simp only [if_pos hop] at cM
  have hL := hok.1
  have cL := fun W (hk : Kept (fun _ => False) w W) => eclone_v L v W (h.kept hk) (by omega)
  have HCD := Lib.hid hcd
  have hp := hok.2.2
  obtain ⟨A, c, hv, _⟩ := h.open'
  obtain ⟨N, hN⟩ : ∃ N, L.length = N := ⟨_, rfl⟩
  rw [hN] at hv
  subst hv
  have HN := Lib.hid hN
  clear h hb hT hok hop hk0 hcd hN
  obtain ⟨⟨kd, t, si, t0, s0, rn, st, nn, seen⟩, B, m, mc⟩ := b
  simp only [opV, opO] at *
  obtain ⟨g, hg⟩ : ∃ g, w.heap.size = g := ⟨_, rfl⟩
  rcases HCD.out with ⟨hkd, hx⟩ | ⟨hkd, hx, ha, hl⟩
  · simp only at hkd hx
    subst hkd
    obtain ⟨i, e, hi, he, het, hes⟩ := idxE_some hx
    rw [hi] at cF
    have HE := Lib.hid he
    have HET := Lib.hid (And.intro het hes)
    have hiN : i < N := by have := (List.getElem?_eq_some_iff.1 he).1; have := HN.out; omega
    have b0 : decide (0 ≤ (i : Int)) = true := decide_eq_true (by omega)
    have b1 : decide ((i : Int) < 0) = false := decide_eq_false (by omega)
    have t1 : (0 : Int) ≤ (i : Int) := by omega
    have t2 : (i : Int) < (N : Int) := by omega
    clear hx hi he het hes cI
    go_enter Tryd.func15, Tryd.ntmps15
    go_upto_region 1 with fail
    generalize w.alloc _ = w1 at *
    simp only [hg] at HO ⊢
    obtain ⟨c0, c1, c2, c3, c4, c5, c6, c7, c8⟩ := HO.out.cs
    simp only at c0 c1 c2 c3 c4 c5 c6 c7 c8
    go_upto_region 3 with (first
      | (go_at_call 39; refine (cC _ HK0.out).mono ?_; clear cC; rintro ee w2 ⟨rfl, hk2⟩; have HK2 := Lib.hid (HK0.out.trans hk2); have HO2 := Lib.hid (HO.out.kept hk2 id); clear hk2 c0 c1 c2 c3 c4 c5 c6 c7 c8; obtain ⟨c0, c1, c2, c3, c4, c5, c6, c7, c8⟩ := HO2.out.cs; simp only at c0 c1 c2 c3 c4 c5 c6 c7 c8)
      | (go_at_call 40; refine (cM _ HK2.out).mono ?_; clear cM; rintro ee w3 ⟨rfl, hk3⟩; have HK3 := Lib.hid (HK2.out.trans hk3); have HO3 := Lib.hid (HO2.out.kept hk3 id); clear hk3 c0 c1 c2 c3 c4 c5 c6 c7 c8; obtain ⟨c0, c1, c2, c3, c4, c5, c6, c7, c8⟩ := HO3.out.cs; simp only at c0 c1 c2 c3 c4 c5 c6 c7 c8))
    go_upto_region 4 with (go_at_call 41; refine (cF _ HK3.out).mono ?_; clear cF; rintro ee w4 ⟨rfl, hk4⟩; have HK4 := Lib.hid (HK3.out.trans hk4); have HO4 := Lib.hid (HO3.out.kept hk4 id); clear hk4 c0 c1 c2 c3 c4 c5 c6 c7 c8; obtain ⟨c0, c1, c2, c3, c4, c5, c6, c7, c8⟩ := HO4.out.cs; simp only at c0 c1 c2 c3 c4 c5 c6 c7 c8)
    go_upto_region 8 with fail
    clear c0 c1 c2 c3 c4 c5 c6 c7 c8
    go_upto_region 9 with (go_at_call 43; refine (cL _ HK4.out).mono ?_; clear cL; rintro ee w5 ⟨⟨v5, rfl, ho5⟩, hk5⟩; obtain ⟨A5, c5', hv5⟩ := ho5.form; rw [HN.out] at hv5; subst hv5; have HO5 := Lib.hid ho5; have HK5 := Lib.hid (HK4.out.trans hk5); clear ho5 hk5)
    obtain ⟨d, hd, hem, hB5, hcm⟩ : ∃ d, A5 = some ⟨d, 0, none⟩ ∧ Em w5 d c5' L ∧ w4.heap.size ≤ d ∧ c5' ≤ maxLen := by
      rcases HO5.out.em with ⟨_, h⟩ | ⟨d, cc, h1, h0, h2, h6⟩
      · have he := HE.out
        rw [h] at he
        simp at he
      · injection h1 with h1 h3 h4
        subst h4
        exact ⟨d, h1, h2, h0, h6⟩
    subst hd
    obtain ⟨c0, c1, c2, c3, f3⟩ := el_at hem HE.out
    go_wp2_with fail
    have hks : Kept (fun z => z = d) w5 (w5.setCell ⟨d, i * 4 + 3, none⟩ (.bool true)) := (Kept.refl (fun z => z = d) w5).setCell (p := ⟨d, i * 4 + 3, none⟩) rfl _
    have hoe := (hem.dead HE.out).oe (B := w.heap.size) (n := N) (by have := HK4.out.size; omega) hcm (by rw [List.length_set]; exact HN.out)
    go_ret2
    exact ⟨⟨_, _, rfl, hoe, .inl ⟨rfl, i, e, HE.out, HET.out.1, HET.out.2, rfl⟩⟩, HK5.out.fresh hks (fun z hz e => by have e : z = d := e; have := HK4.out.size; omega)⟩
  · simp only at hkd hx ha hl
    subst hkd
    obtain ⟨q, hq⟩ : ∃ q, idxE L t si = q := ⟨_, rfl⟩
    rw [hq] at cF hx
    have b0 : decide (0 ≤ q) = false := decide_eq_false (by omega)
    have b00 : decide (q ≥ 0) = false := decide_eq_false (by omega)
    obtain ⟨i, hi, h0⟩ : ∃ i : Nat, idxE L t0 s0 + 1 = (i : Int) ∧ (i = 0 → t0 = 0 ∧ s0 = 0) := by
      have h1 := idxE_ge L t0 s0
      refine ⟨(idxE L t0 s0 + 1).toNat, by omega, fun h => ?_⟩
      rcases ha with h2 | h2
      · omega
      · exact h2
    have HI := Lib.hid hi
    have cI := cI i hi h0 hl
    clear hx hi h0 hl ha hq cL
    go_enter Tryd.func15, Tryd.ntmps15
    go_upto_region 1 with fail
    generalize w.alloc _ = w1 at *
    simp only [hg] at HO ⊢
    obtain ⟨c0, c1, c2, c3, c4, c5, c6, c7, c8⟩ := HO.out.cs
    simp only at c0 c1 c2 c3 c4 c5 c6 c7 c8
    go_upto_region 3 with (first
      | (go_at_call 39; refine (cC _ HK0.out).mono ?_; clear cC; rintro ee w2 ⟨rfl, hk2⟩; have HK2 := Lib.hid (HK0.out.trans hk2); have HO2 := Lib.hid (HO.out.kept hk2 id); clear hk2 c0 c1 c2 c3 c4 c5 c6 c7 c8; obtain ⟨c0, c1, c2, c3, c4, c5, c6, c7, c8⟩ := HO2.out.cs; simp only at c0 c1 c2 c3 c4 c5 c6 c7 c8)
      | (go_at_call 40; refine (cM _ HK2.out).mono ?_; clear cM; rintro ee w3 ⟨rfl, hk3⟩; have HK3 := Lib.hid (HK2.out.trans hk3); have HO3 := Lib.hid (HO2.out.kept hk3 id); clear hk3 c0 c1 c2 c3 c4 c5 c6 c7 c8; obtain ⟨c0, c1, c2, c3, c4, c5, c6, c7, c8⟩ := HO3.out.cs; simp only at c0 c1 c2 c3 c4 c5 c6 c7 c8))
    go_upto_region 4 with (go_at_call 41; refine (cF _ HK3.out).mono ?_; clear cF; rintro ee w4 ⟨rfl, hk4⟩; have HK4 := Lib.hid (HK3.out.trans hk4); have HO4 := Lib.hid (HO3.out.kept hk4 id); clear hk4 c0 c1 c2 c3 c4 c5 c6 c7 c8; obtain ⟨c0, c1, c2, c3, c4, c5, c6, c7, c8⟩ := HO4.out.cs; simp only at c0 c1 c2 c3 c4 c5 c6 c7 c8)
    go_wp2_with (go_at_call 42; refine (cI _ HK4.out).mono ?_; clear cI c0 c1 c2 c3 c4 c5 c6 c7 c8; rintro ee w5 ⟨⟨v5, rfl, j, hst, ho5⟩, hk5⟩; have HST := Lib.hid hst; have HO5 := Lib.hid ho5; have HK5 := Lib.hid (HK4.out.trans hk5); clear hst ho5 hk5)
    go_ret2
    exact ⟨⟨_, _, rfl, HO5.out.mono HK4.out.size, .inr ⟨rfl, i, j, HI.out, HST.out, rfl⟩⟩, HK5.out⟩
/-- Where: some number. -/
theorem owhere_any (L : List ElemS) (v : Value) (t s : Int) (w : World) (h : Se w v L) (hT : Tabs w) (hok : elsOk L) :
    Calls Tryd.prog 80 #[v, idV t s] w fun e w' => (∃ n c : Int, e = .returned (.tuple #[.int .i64 n, .int .i64 c]) ∧ 0 ≤ n ∧ n ≤ 2000) ∧ Kept (fun _ => False) w w' := by
  have hk0 : Kept (fun _ => False) w (w.alloc (.cells #[.int .i64 t, .int .i64 s] 39)) := (Kept.refl _ w).alloc _
  have HI : Hid ((w.alloc (.cells #[.int .i64 t, .int .i64 s] 39)).heap[w.heap.size]? = some (.cells #[.int .i64 t, .int .i64 s] 39 (0, 0))) := heap_alloc_new w _
  have HK0 := Lib.hid hk0
  have hL := hok.1
  have cC := fun W (hk : Kept (fun _ => False) w W) => ocheck_any L v W (h.kept hk) (by omega) (hT.kept hk id id)
  simp only [if_pos hok] at cC
  obtain ⟨A, c, hv, hA, _, _⟩ := h.open'
  obtain ⟨n, hN⟩ : ∃ n, L.length = n := ⟨_, rfl⟩
  rw [hN] at hv hA hL
  subst hv
  have HA := Lib.hid hA
  clear h hT hok hk0 hA hN
  go_enter Tryd.func80, Tryd.ntmps80
  go_upto_region 1 with fail
  generalize w.alloc _ = w1 at *
  obtain ⟨g, hg⟩ : ∃ g, w.heap.size = g := ⟨_, rfl⟩
  simp only [hg] at HI ⊢
  go_upto_region 5 with (go_at_call 39; refine (cC _ HK0.out).mono ?_; clear cC; rintro ee w2 ⟨rfl, hk2⟩; have HK2 := Lib.hid (HK0.out.trans hk2); have HI2 := Lib.hid ((hk2.block g (heap_lt HI.out) id).trans HI.out); clear hk2)
  go_wp2_with fail
  go_loopw [7, 17] (fun u v wr => ∃ (k q : Nat), k ≤ n ∧ q ≤ k ∧ v = .int .i64 k ∧ u = .int .i64 q ∧ Kept (fun _ => False) w2 wr) (fun _ v _ => n - (intOf v).toNat)
  case atStart => exact ⟨0, 0, Nat.zero_le _, Nat.le_refl _, rfl, rfl, Kept.refl _ _⟩
  case round =>
    obtain ⟨k, q, hk, hq, rfl, rfl, hkept⟩ := hrel
    have HK := Lib.hid hkept
    clear hkept
    by_cases hlt : k < n
    · obtain ⟨ad, e, rfl, he, h4'⟩ := (HA.out.kept (HK2.out.trans HK.out) (fun _ _ => id)).at_ hlt
      have c0 := h4'.c0
      have c1 := h4'.c1
      have c2 := h4'.c2
      have c3 := h4'.c3
      have b1 : decide (k < n) = true := decide_eq_true hlt
      have b2 : decide ((k : Int) < (n : Int)) = true := decide_eq_true (by omega)
      have t1 : (0 : Int) ≤ (k : Int) := by omega
      have t2 : (k : Int) < (n : Int) := by omega
      have hk5 : Kept (fun _ => False) wr (wr.alloc (elemO e)) := (Kept.refl _ wr).alloc _
      have HE5 : Hid (El4 (wr.alloc (elemO e)) ⟨wr.heap.size, 0, none⟩ e) := el4_new
      have HK5 := Lib.hid (HK.out.trans hk5)
      have HI5 := Lib.hid ((HK5.out.block g (heap_lt HI2.out) id).trans HI2.out)
      clear he h4' hk5
      go_upto_region 8 with fail
      clear c0 c1 c2 c3
      simp only [elemO] at HE5 HK5 HI5
      generalize wr.alloc (.cells #[.int .i64 e.t, .int .i64 e.si, .int .i64 e.r, .bool e.d] 71) = w5 at *
      generalize wr.heap.size = qb at *
      obtain ⟨x0, x1, x2, x3⟩ := HE5.out.cs
      have y0 : w5.cell? ⟨g, 0, none⟩ = some (.int .i64 t) := cell_of_row _ _ _ _ _ _ HI5.out
      have y1 : w5.cell? ⟨g, 1, none⟩ = some (.int .i64 s) := cell_of_row _ _ _ _ _ _ HI5.out
      obtain ⟨et, es, er, ed⟩ := e
      simp only at x0 x1 x2 x3
      have wq : IntKind.i64.wrap ((q : Int) + 1) = (q : Int) + 1 := IntWalk.i64_in _ ⟨by omega, by omega⟩
      have hss : ((et == t) = false) ∨ ((et == t) = true ∧ (es == s) = false) ∨ ((et == t) = true ∧ (es == s) = true) := by
        cases h1 : (et == t) with
        | false => exact .inl rfl
        | true => cases h2 : (es == s) with
          | false => exact .inr (.inl ⟨rfl, rfl⟩)
          | true => exact .inr (.inr ⟨rfl, rfl⟩)
      rcases hss with z1 | ⟨z1, z2⟩ | ⟨z1, z2⟩
      · cases ed with
        | true =>
          go_wp2_with fail
          go_roundw
          case rel => exact ⟨k + 1, q, by omega, by omega, by go_num, rfl, HK5.out⟩
          case measure => simp [intOf] <;> omega
        | false =>
          go_wp2_with fail
          go_roundw
          case rel => exact ⟨k + 1, q + 1, by omega, by omega, by go_num, by go_num, HK5.out⟩
          case measure => simp [intOf] <;> omega
      · cases ed with
        | true =>
          go_wp2_with fail
          go_roundw
          case rel => exact ⟨k + 1, q, by omega, by omega, by go_num, rfl, HK5.out⟩
          case measure => simp [intOf] <;> omega
        | false =>
          go_wp2_with fail
          go_roundw
          case rel => exact ⟨k + 1, q + 1, by omega, by omega, by go_num, by go_num, HK5.out⟩
          case measure => simp [intOf] <;> omega
      · go_wp2_with fail
        go_ret2
        exact ⟨⟨_, _, rfl, by omega, by omega⟩, HK2.out.trans HK5.out⟩
    · obtain rfl : k = n := by omega
      have b1 : decide (k < k) = false := decide_eq_false (by omega)
      have b2 : decide ((k : Int) < (k : Int)) = false := decide_eq_false (by omega)
      go_wp2_with fail
      go_ret2
      exact ⟨⟨_, _, rfl, by omega, by omega⟩, HK2.out.trans HK.out⟩
end Go.Proofs.YthkohjijppbliaaDoor
