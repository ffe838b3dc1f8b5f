/-
  THE LAW MarksExact: whatever is set, asked and moved, each call tells what the reference says.
-/
import Derived.Test.YtknoiehglfpepaaDoorMsM
set_option linter.unusedVariables false
namespace Go.Proofs.YtknoiehglfpepaaDoor
open Go Go.RowKit

/-- An act's block. -/
abbrev actO (b : ActS) : Obj := .cells #[.int .i64 b.k, .int .i64 b.nm, .int .i64 b.pl, .int .i64 b.a, .int .i64 b.d, .string b.s] 31
theorem act_facts {w : World} {g : Nat} {b : ActS} (h : w.heap[g]? = some (actO b)) : w.cell? ⟨g, 0, none⟩ = some (.int .i64 b.k) ∧ w.cell? ⟨g, 1, none⟩ = some (.int .i64 b.nm) ∧ w.cell? ⟨g, 2, none⟩ = some (.int .i64 b.pl) ∧ w.cell? ⟨g, 3, none⟩ = some (.int .i64 b.a) ∧ w.cell? ⟨g, 4, none⟩ = some (.int .i64 b.d) ∧ w.cell? ⟨g, 5, none⟩ = some (.string b.s) :=
  ⟨cell_of_row w g 0 _ _ _ h, cell_of_row w g 1 _ _ _ h, cell_of_row w g 2 _ _ _ h, cell_of_row w g 3 _ _ _ h, cell_of_row w g 4 _ _ _ h, cell_of_row w g 5 _ _ _ h⟩
theorem Rws.far {S : Nat → Prop} {w w' : World} {A : Option Addr} {n k : Nat} {rows : List (List Int)} (h : Rws w A n k rows) (hk : Kept S w w') (hS : ∀ j, j < w.heap.size → ¬ S j) : Rws w' A n k rows := by
  refine ⟨h.1, fun i r hi => ?_⟩
  obtain ⟨h1, h2, ad, e, hc⟩ := h.2 i r hi
  exact ⟨h1, h2, ad, e, fun f x hf => cell_kept hk (hc f x hf) (hS _ (World.block_lt_of_cell? w _ (hc f x hf)))⟩
theorem rmarks_t {A : Option Addr} {n c : Nat} {rows : List (List Int)} {w : World} (hA : Rws w A n 2 rows) (hn : n ≤ 100000) (ho : Rw.mOk rows) : Calls Tryd.prog 7 #[.slice A n c] w fun e w' => e = .returned (.bool true) ∧ Kept (fun _ => False) w w' :=
  (rmarks_any A n c rows w hA hn).mono fun e w' ⟨⟨b, he, hb⟩, hk⟩ => ⟨by rw [he, hb.2 ho], hk⟩
theorem rmarks_f {A : Option Addr} {n c : Nat} {rows : List (List Int)} {w : World} (hA : Rws w A n 2 rows) (hn : n ≤ 100000) (ho : ¬ Rw.mOk rows) : Calls Tryd.prog 7 #[.slice A n c] w fun e w' => e = .returned (.bool false) ∧ Kept (fun _ => False) w w' :=
  (rmarks_any A n c rows w hA hn).mono fun e w' ⟨⟨b, he, hb⟩, hk⟩ => ⟨by rw [he, Bool.eq_false_iff.2 (fun h => ho (hb.1 h))], hk⟩
theorem pcheck_t {A : Option Addr} {n c : Nat} {rows : List (List Int)} {w : World} (hA : Rws w A n 2 rows) (hn : n ≤ 100000) (ho : Rw.mOk rows) : Calls Tryd.prog 9 #[.slice A n c] w fun e w' => e = .returned (.int .i64 0) ∧ Kept (fun _ => False) w w' :=
  (pcheck_any A n c rows w hA hn).mono fun e w' ⟨⟨E, he, _, hE⟩, hk⟩ => ⟨by rw [he, hE.2 ho], hk⟩
theorem pcheck_f {A : Option Addr} {n c : Nat} {rows : List (List Int)} {w : World} (hA : Rws w A n 2 rows) (hn : n ≤ 100000) (ho : ¬ Rw.mOk rows) : Calls Tryd.prog 9 #[.slice A n c] w fun e w' => e = .returned (.int .i64 1) ∧ Kept (fun _ => False) w w' :=
  (pcheck_any A n c rows w hA hn).mono fun e w' ⟨⟨E, he, h1, hE⟩, hk⟩ => ⟨by rw [he, h1.resolve_left (fun h => ho (hE.1 h))], hk⟩
set_option maxRecDepth 100000 in
set_option maxHeartbeats 40000000 in
theorem marksExact_any (p : ScrM) (w : World) (hp : ScrMOk w p) (hT : Tabs w) :
    Calls Tryd.prog 3 #[.agg p.cells] w fun e w' => e = .returned (.bool true) ∧ Kept (fun _ => False) w w' := by
  have hK0 : Hid (Kept (fun _ => False) w (w.alloc (.cells p.cells 25))) := (Kept.refl _ w).alloc _
  have hH0 : Hid (HeldS (w.alloc (.cells p.cells 25)) w.heap.size p) := ⟨heap_alloc_new w _, hp.kept hK0.out⟩
  have HT0 := Lib.hid (hT.kept hK0.out id id)
  have cH := heavy6_any p (w.alloc (.cells p.cells 25)) hH0.out.scr
  clear hp hT
  obtain ⟨M, mn, mc, marks, L, ln, lc, acts⟩ := p
  unfold ScrM.cells at *
  simp only at *
  go_enter Tryd.func3, Tryd.ntmps3
  go_wp2_with fail
  refine cH.mono ?_
  rintro e w1 ⟨⟨hv, rfl, hsm⟩, hk1⟩
  have HS := Lib.hid hsm
  have HK1 := Lib.hid (hK0.out.trans hk1)
  have HH := Lib.hid (hH0.out.kept hk1)
  have HT1 := Lib.hid (HT0.out.kept hk1 id id)
  clear hsm hk1 hH0 hK0 cH HT0
  generalize hpb : w.heap.size = pb at HH ⊢
  clear hpb
  have p0 : w1.cell? ⟨pb, 0, none⟩ = some (.slice M mn mc) := HH.out.pb.c 0
  cases hv with
  | true =>
    go_wp2_with fail
    go_ret
    exact ⟨rfl, HK1.out⟩
  | false =>
    have hmn : mn ≤ 4000 := HS.out rfl
    have cP0 := copymarks_any M mn mc marks w1 HH.out.scr.marks (by omega)
    clear HS
    go_wp2_with fail
    refine cP0.mono ?_
    rintro e w2 ⟨⟨B0, d0, rfl, hR0, _, hC0⟩, hk2⟩
    have HK2 := Lib.hid (HK1.out.trans hk2)
    have HH2 := Lib.hid (HH.out.kept hk2)
    have HT2 := Lib.hid (HT1.out.kept hk2 id id)
    have HR0 := Lib.hid hR0
    clear hk2 hC0 cP0 HK1 HH HT1 p0 hR0
    go_wp2_with fail
    go_loopw [3, 4] (fun v u wr => ∃ (i : Nat) (A : Option Addr) (n c : Nat) (rows : List (List Int)), i ≤ ln ∧ i ≤ 10 ∧ u = .int .i64 i ∧ v = .slice A n c ∧ Rws wr A n 2 rows ∧ n ≤ 4000 + i ∧ Kept (fun _ => False) w2 wr) (fun _ u _ => ln - (intOf u).toNat)
    case atStart => exact ⟨0, B0, mn, d0, marks, Nat.zero_le _, Nat.zero_le _, rfl, rfl, HR0.out, by omega, Kept.refl _ _⟩
    case round =>
      obtain ⟨i, A, n, c, rows, hi, hi4, rfl, rfl, hA, hn, hki⟩ := hrel
      obtain ⟨wi', hwi⟩ : ∃ wi', wi' = wr := ⟨_, rfl⟩
      subst hwi
      have HKW := Lib.hid hki
      have HA := Lib.hid hA
      clear hki hA
      have HHi := Lib.hid (HH2.out.kept HKW.out)
      have p1 : wi'.cell? ⟨pb, 1, none⟩ = some (.slice L ln lc) := HHi.out.pb.c 1
      by_cases hgo : i < ln ∧ i < 10
      · obtain ⟨g1, g2⟩ := hgo
        obtain ⟨ad, b, rfl, hb, c0, c1, c2, c3, c4, c5, hgood⟩ := HHi.out.scr.acts.at_ g1
        have HGD := Lib.hid hgood
        clear hb hgood
        have b1 : decide (i < ln) = true := by simp; omega
        have b2 : decide (i < 10) = true := by simp; omega
        have b3 : decide ((i : Int) < 10) = true := by simp; omega
        have b4 : decide ((i : Int) < (ln : Int)) = true := by simp; omega
        have t1 : (0 : Int) ≤ (i : Int) := by omega
        have t2 : (i : Int) < (ln : Int) := by omega
        have HAB : Hid ((wi'.alloc (actO b)).heap[wi'.heap.size]? = some (actO b)) := heap_alloc_new wi' _
        have HKa : Hid (Kept (fun _ => False) wi' (wi'.alloc (actO b))) := (Kept.refl _ wi').alloc _
        go_upto_region 8 with fail
        clear b1 b2 b3 b4 t1 t2 c0 c1 c2 c3 c4 c5 p1
        generalize hgb : wi'.heap.size = gb at HAB ⊢
        clear hgb
        generalize wi'.alloc (actO b) = wa at *
        -- in, and what may be
        have cP := copymarks_any A n c rows wa (HA.out.kept HKa.out (fun _ _ => id)) (by omega)
        go_wp2_with fail
        refine cP.mono ?_
        rintro e w3 ⟨⟨I, ic, rfl, hI, _, hIC⟩, hk3⟩
        have HK3 := Lib.hid (HKW.out.trans (HKa.out.trans hk3))
        have HI := Lib.hid hI
        have HIC := Lib.hid hIC
        have HA3 := Lib.hid (HA.out.kept (HKa.out.trans hk3) (fun _ _ => id))
        have HB3 := Lib.hid ((hk3.block _ (heap_lt HAB.out) id).trans HAB.out)
        clear hk3 hI hIC cP HAB HKa HA
        -- numbers of the act
        have hD := wi_lt b.k 5 (by omega)
        have cW := fun W => within_is b.k 5 (by omega) (by omega) W
        generalize wi b.k 5 = D at *
        by_cases ho : Rw.mOk rows
        · have cR := rmarks_t (c := c) HA3.out (by omega) ho
          have HO := Lib.hid ho
          clear ho
          go_wp2_with fail
          refine cR.mono ?_
          rintro e w4 ⟨rfl, hk4⟩
          have cC := pcheck_t (c := ic) (HI.out.kept hk4 (fun _ _ => id)) (by omega) HO.out
          have HK4 := Lib.hid (HK3.out.trans hk4)
          have HI4 := Lib.hid (HI.out.kept hk4 (fun _ _ => id))
          have HA4 := Lib.hid (HA3.out.kept hk4 (fun _ _ => id))
          have HB4 := Lib.hid ((hk4.block _ (heap_lt HB3.out) id).trans HB3.out)
          clear hk4 cR HI HA3 HB3 HK3
          go_wp2_with fail
          refine cC.mono ?_
          rintro e w5 ⟨rfl, hk5⟩
          have HK5 := Lib.hid (HK4.out.trans hk5)
          have HI5 := Lib.hid (HI4.out.kept hk5 (fun _ _ => id))
          have HA5 := Lib.hid (HA4.out.kept hk5 (fun _ _ => id))
          have HB5 := Lib.hid ((hk5.block _ (heap_lt HB4.out) id).trans HB4.out)
          clear hk5 cC HI4 HA4 HB4 HK4
          obtain ⟨a0, a1, a2, a3, a4, a5⟩ := act_facts HB5.out
          go_upto_region 15 with (go_at_call 8; refine (num6_any _ _).mono ?_; rintro e w' ⟨rfl, hw⟩; have hw2 := hw.symm; subst hw2)
          have hD' : D = 0 ∨ D = 1 ∨ D = 2 ∨ D = 3 ∨ D = 4 := by omega
          rcases hD' with rfl | rfl | rfl | rfl | rfl
          · as_aux_lemma =>
              by_cases hz : 97 ≤ b.nm ∧ b.nm ≤ 122
              · by_cases hy : 0 ≤ b.pl ∧ b.pl ≤ 4000
                · have cS := mset_yes I n ic rows b.nm b.pl w5 HI5.out HIC.out (by omega) HO.out hz hy
                  have cBt := fun W => mbtw_any b.nm 97 122 W
                  have cNz := fun W => mnum_any b.pl 4000 W
                  rw [decide_eq_true hz] at cBt
                  rw [decide_eq_true hy] at cNz
                  have HZ := Lib.hid hz
                  have HY := Lib.hid hy
                  clear hz hy
                  go_wp2_with (go_at_call 10; refine (cW _).mono ?_; rintro e w' ⟨rfl, hw⟩; have hw2 := hw.symm; subst hw2)
                  refine cS.mono ?_
                  rintro e w6 ⟨⟨mm, ff, hat, hm6⟩, hk6⟩
                  have hlen : (Rw.mset rows b.nm b.pl mm ff).length ≤ 4000 + (i + 1) := by rw [Rw.mset_len hat.mf, HI5.out.1]; omega
                  have HAT := Lib.hid hat
                  have HS65 := Lib.hid hk6
                  clear hat
                  obtain ⟨X, xc, rfl, hX, hXb, _, xbase, xxs, hown⟩ := hm6
                  have HK6 := Lib.hid (HK5.out.trans hk6)
                  have HI6 := Lib.hid (HI5.out.kept hk6 (fun _ _ => id))
                  have HA6 := Lib.hid (HA5.out.kept hk6 (fun _ _ => id))
                  have HB6 := Lib.hid ((hk6.block _ (heap_lt HB5.out) id).trans HB5.out)
                  obtain ⟨e0, e1, e2, e3, e4, e5⟩ := act_facts HB6.out
                  clear a0 a1 a2 a3 a4 a5
                  have HX6 := Lib.hid hX
                  have HXB := Lib.hid hXb
                  have HOW := Lib.hid hown
                  have HS6 := Lib.hid hk6.size
                  clear hX hXb hown cS
                  have cT := rset_any A n c rows b.nm b.pl mm ff w6 HA6.out (by omega) HAT.out HO.out HZ.out HY.out
                  clear hk6
                  generalize Rw.mset rows b.nm b.pl mm ff = RS at *
                  go_wp2_with (first | (go_at_call 12; refine (cBt _).mono ?_; rintro e w' ⟨rfl, hw⟩; have hw2 := hw.symm; subst hw2) | (go_at_call 13; refine (cNz _).mono ?_; rintro e w' ⟨rfl, hw⟩; have hw2 := hw.symm; subst hw2))
                  refine cT.mono ?_
                  rintro e w7 ⟨hm7, hk7⟩
                  obtain ⟨V, vc, rfl, hV, hVb, _⟩ := hm7
                  have HK7 := Lib.hid hk7
                  have HV7 := Lib.hid hV
                  have HVB := Lib.hid hVb
                  clear hk7 hV hVb e0 e1 e2 e3 e4 e5
                  have cE1 := fun W (h : Kept (fun _ => False) w7 W) => eqmarks_yes X V RS.length xc vc RS W (HX6.out.kept (HK7.out.trans h) (fun _ _ => id)) (HV7.out.kept h (fun _ _ => id)) (by omega)
                  have cE2 := fun W (h : Kept (fun _ => False) w6 W) => eqmarks_yes I A n ic c rows W (HI6.out.kept h (fun _ _ => id)) (HA6.out.kept h (fun _ _ => id)) (by omega)
                  go_wp2_with (go_at_call 8; refine (num6_any _ _).mono ?_; rintro e w' ⟨rfl, hw⟩; have hw2 := hw.symm; subst hw2)
                  refine (cE1 _ (Kept.refl _ _)).mono ?_
                  rintro e w8 ⟨rfl, hk8⟩
                  have HK8 := Lib.hid hk8
                  clear hk8 cE1
                  go_wp2_with fail
                  refine (cE2 _ (HK7.out.trans HK8.out)).mono ?_
                  rintro e w9 ⟨rfl, hk9⟩
                  have HK9 := Lib.hid (HK8.out.trans hk9)
                  have HK69 := Lib.hid (HK7.out.trans HK9.out)
                  clear hk9 cE2
                  go_wp2_with fail
                  refine (spoil_any xbase _ _ xxs w9 (own_kept HOW.out HK69.out) (by omega)).mono ?_
                  rintro e w10 ⟨rfl, hk10⟩
                  have hfar : ∀ q, q < w5.heap.size → ¬ (Value.slice X RS.length xc).ownBlock = some q := fun q hq e => by
                    cases X with
                    | none => simp [Value.ownBlock] at e
                    | some a =>
                      have h1 := HXB.out a rfl
                      have h2 : a.block = q := by simpa [Value.ownBlock] using e
                      omega
                  have hk510 : Kept (fun q => (Value.slice X RS.length xc).ownBlock = some q) w5 w10 := (((HS65.out).trans HK69.out).mono (fun _ _ h => h.elim)).trans hk10
                  have HI10 := Lib.hid (HI5.out.far hk510 hfar)
                  have HA10 := Lib.hid (HA5.out.far hk510 hfar)
                  have HV10 := Lib.hid ((HV7.out.kept HK9.out (fun _ _ => id)).kept hk10 (fun a ha e => by
                    have h1 := HVB.out a ha
                    have h2 := (HOW.out.lt _ e).2
                    omega))
                  have HK10 := Lib.hid ((HK6.out.trans HK69.out).fresh hk10 (fun q hq => hfar q (Nat.lt_of_lt_of_le hq HK5.out.size)))
                  clear hk10 hfar hk510
                  have cE3 := eqmarks_yes I A n ic c rows w10 HI10.out HA10.out (by omega)
                  go_wp2_with fail
                  refine cE3.mono ?_
                  rintro e w11 ⟨rfl, hk11⟩
                  have cC := copymarks_any V RS.length vc RS w11 (HV10.out.kept hk11 (fun _ _ => id)) (by omega)
                  have HK11 := Lib.hid (HK10.out.trans hk11)
                  clear hk11 cE3
                  go_wp2_with fail
                  refine cC.mono ?_
                  rintro e w12 ⟨⟨Y, yc, rfl, hY, _, _⟩, hk12⟩
                  have HY := Lib.hid hY
                  have HK12 := Lib.hid (HK11.out.trans hk12)
                  clear hY hk12 cC
                  go_wp2_with fail
                  go_roundw
                  case rel => exact ⟨i + 1, Y, RS.length, yc, RS, by omega, by omega, by go_num, rfl, HY.out, by omega, HK12.out⟩
                  case measure => simp [intOf]; omega
                · have cBt := fun W => mbtw_any b.nm 97 122 W
                  have cNz := fun W => mnum_any b.pl 4000 W
                  rw [decide_eq_true hz] at cBt
                  rw [decide_eq_false hy] at cNz
                  have HY := Lib.hid hy
                  clear hz hy
                  have cS := mset_no I n ic rows b.nm b.pl w5 HI5.out (by omega) (fun h => HY.out h.2.2)
                  go_wp2_with (go_at_call 10; refine (cW _).mono ?_; rintro e w' ⟨rfl, hw⟩; have hw2 := hw.symm; subst hw2)
                  refine cS.mono ?_
                  rintro e w6 ⟨rfl, hk6⟩
                  have HK6 := Lib.hid (HK5.out.trans hk6)
                  have HI6 := Lib.hid (HI5.out.kept hk6 (fun _ _ => id))
                  have HA6 := Lib.hid (HA5.out.kept hk6 (fun _ _ => id))
                  have HB6 := Lib.hid ((hk6.block _ (heap_lt HB5.out) id).trans HB5.out)
                  obtain ⟨e0, e1, e2, e3, e4, e5⟩ := act_facts HB6.out
                  clear a0 a1 a2 a3 a4 a5
                  clear hk6 cS
                  have cE1 := fun W => eqmarks_yes none none 0 0 0 [] W (rws_nil W) (rws_nil W) (by omega)
                  have cE2 := fun W (h : Kept (fun _ => False) w6 W) => eqmarks_yes I A n ic c rows W (HI6.out.kept h (fun _ _ => id)) (HA6.out.kept h (fun _ _ => id)) (by omega)
                  go_wp2_with (first | (go_at_call 12; refine (cBt _).mono ?_; rintro e w' ⟨rfl, hw⟩; have hw2 := hw.symm; subst hw2) | (go_at_call 13; refine (cNz _).mono ?_; rintro e w' ⟨rfl, hw⟩; have hw2 := hw.symm; subst hw2) | (go_at_call 8; refine (num6_any _ _).mono ?_; rintro e w' ⟨rfl, hw⟩; have hw2 := hw.symm; subst hw2))
                  refine (cE1 _).mono ?_
                  rintro e w7 ⟨rfl, hk7⟩
                  go_wp2_with fail
                  refine (cE2 _ hk7).mono ?_
                  rintro e w8 ⟨rfl, hk8⟩
                  have HK8 := Lib.hid (hk7.trans hk8)
                  clear hk7 hk8 e0 e1 e2 e3 e4 e5
                  go_wp2_with fail
                  refine (spoil_any w8.heap.size (.slice none 0 0) 0 [] w8 (World.ownsRow_nil _ _ _ _) (by omega)).mono ?_
                  rintro e w9 ⟨rfl, hk9⟩
                  have hk9' : Kept (fun _ => False) w8 w9 := hk9.mono (fun k _ h => by simp [Value.ownBlock] at h)
                  have HK9 := Lib.hid (HK8.out.trans hk9')
                  clear hk9 hk9'
                  go_wp2_with fail
                  refine (cE2 _ HK9.out).mono ?_
                  rintro e w10 ⟨rfl, hk10⟩
                  have HK10 := Lib.hid (HK9.out.trans hk10)
                  clear hk10 cE1 cE2
                  go_wp2_with fail
                  go_roundw
                  case rel => exact ⟨i + 1, A, n, c, rows, by omega, by omega, by go_num, rfl, HA6.out.kept HK10.out (fun _ _ => id), by omega, HK6.out.trans HK10.out⟩
                  case measure => simp [intOf]; omega
              · have cBt := fun W => mbtw_any b.nm 97 122 W
                rw [decide_eq_false hz] at cBt
                have HZ := Lib.hid hz
                clear hz
                have cS := mset_no I n ic rows b.nm b.pl w5 HI5.out (by omega) (fun h => HZ.out h.2.1)
                go_wp2_with (go_at_call 10; refine (cW _).mono ?_; rintro e w' ⟨rfl, hw⟩; have hw2 := hw.symm; subst hw2)
                refine cS.mono ?_
                rintro e w6 ⟨rfl, hk6⟩
                have HK6 := Lib.hid (HK5.out.trans hk6)
                have HI6 := Lib.hid (HI5.out.kept hk6 (fun _ _ => id))
                have HA6 := Lib.hid (HA5.out.kept hk6 (fun _ _ => id))
                have HB6 := Lib.hid ((hk6.block _ (heap_lt HB5.out) id).trans HB5.out)
                obtain ⟨e0, e1, e2, e3, e4, e5⟩ := act_facts HB6.out
                clear a0 a1 a2 a3 a4 a5
                clear hk6 cS
                have cE1 := fun W => eqmarks_yes none none 0 0 0 [] W (rws_nil W) (rws_nil W) (by omega)
                have cE2 := fun W (h : Kept (fun _ => False) w6 W) => eqmarks_yes I A n ic c rows W (HI6.out.kept h (fun _ _ => id)) (HA6.out.kept h (fun _ _ => id)) (by omega)
                go_wp2_with (first | (go_at_call 12; refine (cBt _).mono ?_; rintro e w' ⟨rfl, hw⟩; have hw2 := hw.symm; subst hw2) | (go_at_call 8; refine (num6_any _ _).mono ?_; rintro e w' ⟨rfl, hw⟩; have hw2 := hw.symm; subst hw2))
                refine (cE1 _).mono ?_
                rintro e w7 ⟨rfl, hk7⟩
                go_wp2_with fail
                refine (cE2 _ hk7).mono ?_
                rintro e w8 ⟨rfl, hk8⟩
                have HK8 := Lib.hid (hk7.trans hk8)
                clear hk7 hk8 e0 e1 e2 e3 e4 e5
                go_wp2_with fail
                refine (spoil_any w8.heap.size (.slice none 0 0) 0 [] w8 (World.ownsRow_nil _ _ _ _) (by omega)).mono ?_
                rintro e w9 ⟨rfl, hk9⟩
                have hk9' : Kept (fun _ => False) w8 w9 := hk9.mono (fun k _ h => by simp [Value.ownBlock] at h)
                have HK9 := Lib.hid (HK8.out.trans hk9')
                clear hk9 hk9'
                go_wp2_with fail
                refine (cE2 _ HK9.out).mono ?_
                rintro e w10 ⟨rfl, hk10⟩
                have HK10 := Lib.hid (HK9.out.trans hk10)
                clear hk10 cE1 cE2
                go_wp2_with fail
                go_roundw
                case rel => exact ⟨i + 1, A, n, c, rows, by omega, by omega, by go_num, rfl, HA6.out.kept HK10.out (fun _ _ => id), by omega, HK6.out.trans HK10.out⟩
                case measure => simp [intOf]; omega
          · as_aux_lemma =>
              by_cases hz : 97 ≤ b.nm ∧ b.nm ≤ 122
              · by_cases hy : 0 ≤ b.pl ∧ b.pl ≤ 4000
                · have cS := mset_yes I n ic rows b.nm b.pl w5 HI5.out HIC.out (by omega) HO.out hz hy
                  have cBt := fun W => mbtw_any b.nm 97 122 W
                  have cNz := fun W => mnum_any b.pl 4000 W
                  rw [decide_eq_true hz] at cBt
                  rw [decide_eq_true hy] at cNz
                  have HZ := Lib.hid hz
                  have HY := Lib.hid hy
                  clear hz hy
                  go_wp2_with (go_at_call 10; refine (cW _).mono ?_; rintro e w' ⟨rfl, hw⟩; have hw2 := hw.symm; subst hw2)
                  refine cS.mono ?_
                  rintro e w6 ⟨⟨mm, ff, hat, hm6⟩, hk6⟩
                  have hlen : (Rw.mset rows b.nm b.pl mm ff).length ≤ 4000 + (i + 1) := by rw [Rw.mset_len hat.mf, HI5.out.1]; omega
                  have HAT := Lib.hid hat
                  have HS65 := Lib.hid hk6
                  clear hat
                  obtain ⟨X, xc, rfl, hX, hXb, _, xbase, xxs, hown⟩ := hm6
                  have HK6 := Lib.hid (HK5.out.trans hk6)
                  have HI6 := Lib.hid (HI5.out.kept hk6 (fun _ _ => id))
                  have HA6 := Lib.hid (HA5.out.kept hk6 (fun _ _ => id))
                  have HB6 := Lib.hid ((hk6.block _ (heap_lt HB5.out) id).trans HB5.out)
                  obtain ⟨e0, e1, e2, e3, e4, e5⟩ := act_facts HB6.out
                  clear a0 a1 a2 a3 a4 a5
                  have HX6 := Lib.hid hX
                  have HXB := Lib.hid hXb
                  have HOW := Lib.hid hown
                  have HS6 := Lib.hid hk6.size
                  clear hX hXb hown cS
                  have cT := rset_any A n c rows b.nm b.pl mm ff w6 HA6.out (by omega) HAT.out HO.out HZ.out HY.out
                  clear hk6
                  generalize Rw.mset rows b.nm b.pl mm ff = RS at *
                  go_wp2_with (first | (go_at_call 12; refine (cBt _).mono ?_; rintro e w' ⟨rfl, hw⟩; have hw2 := hw.symm; subst hw2) | (go_at_call 13; refine (cNz _).mono ?_; rintro e w' ⟨rfl, hw⟩; have hw2 := hw.symm; subst hw2))
                  refine cT.mono ?_
                  rintro e w7 ⟨hm7, hk7⟩
                  obtain ⟨V, vc, rfl, hV, hVb, _⟩ := hm7
                  have HK7 := Lib.hid hk7
                  have HV7 := Lib.hid hV
                  have HVB := Lib.hid hVb
                  clear hk7 hV hVb e0 e1 e2 e3 e4 e5
                  have cE1 := fun W (h : Kept (fun _ => False) w7 W) => eqmarks_yes X V RS.length xc vc RS W (HX6.out.kept (HK7.out.trans h) (fun _ _ => id)) (HV7.out.kept h (fun _ _ => id)) (by omega)
                  have cE2 := fun W (h : Kept (fun _ => False) w6 W) => eqmarks_yes I A n ic c rows W (HI6.out.kept h (fun _ _ => id)) (HA6.out.kept h (fun _ _ => id)) (by omega)
                  go_wp2_with (go_at_call 8; refine (num6_any _ _).mono ?_; rintro e w' ⟨rfl, hw⟩; have hw2 := hw.symm; subst hw2)
                  refine (cE1 _ (Kept.refl _ _)).mono ?_
                  rintro e w8 ⟨rfl, hk8⟩
                  have HK8 := Lib.hid hk8
                  clear hk8 cE1
                  go_wp2_with fail
                  refine (cE2 _ (HK7.out.trans HK8.out)).mono ?_
                  rintro e w9 ⟨rfl, hk9⟩
                  have HK9 := Lib.hid (HK8.out.trans hk9)
                  have HK69 := Lib.hid (HK7.out.trans HK9.out)
                  clear hk9 cE2
                  go_wp2_with fail
                  refine (spoil_any xbase _ _ xxs w9 (own_kept HOW.out HK69.out) (by omega)).mono ?_
                  rintro e w10 ⟨rfl, hk10⟩
                  have hfar : ∀ q, q < w5.heap.size → ¬ (Value.slice X RS.length xc).ownBlock = some q := fun q hq e => by
                    cases X with
                    | none => simp [Value.ownBlock] at e
                    | some a =>
                      have h1 := HXB.out a rfl
                      have h2 : a.block = q := by simpa [Value.ownBlock] using e
                      omega
                  have hk510 : Kept (fun q => (Value.slice X RS.length xc).ownBlock = some q) w5 w10 := (((HS65.out).trans HK69.out).mono (fun _ _ h => h.elim)).trans hk10
                  have HI10 := Lib.hid (HI5.out.far hk510 hfar)
                  have HA10 := Lib.hid (HA5.out.far hk510 hfar)
                  have HV10 := Lib.hid ((HV7.out.kept HK9.out (fun _ _ => id)).kept hk10 (fun a ha e => by
                    have h1 := HVB.out a ha
                    have h2 := (HOW.out.lt _ e).2
                    omega))
                  have HK10 := Lib.hid ((HK6.out.trans HK69.out).fresh hk10 (fun q hq => hfar q (Nat.lt_of_lt_of_le hq HK5.out.size)))
                  clear hk10 hfar hk510
                  have cE3 := eqmarks_yes I A n ic c rows w10 HI10.out HA10.out (by omega)
                  go_wp2_with fail
                  refine cE3.mono ?_
                  rintro e w11 ⟨rfl, hk11⟩
                  have cC := copymarks_any V RS.length vc RS w11 (HV10.out.kept hk11 (fun _ _ => id)) (by omega)
                  have HK11 := Lib.hid (HK10.out.trans hk11)
                  clear hk11 cE3
                  go_wp2_with fail
                  refine cC.mono ?_
                  rintro e w12 ⟨⟨Y, yc, rfl, hY, _, _⟩, hk12⟩
                  have HY := Lib.hid hY
                  have HK12 := Lib.hid (HK11.out.trans hk12)
                  clear hY hk12 cC
                  go_wp2_with fail
                  go_roundw
                  case rel => exact ⟨i + 1, Y, RS.length, yc, RS, by omega, by omega, by go_num, rfl, HY.out, by omega, HK12.out⟩
                  case measure => simp [intOf]; omega
                · have cBt := fun W => mbtw_any b.nm 97 122 W
                  have cNz := fun W => mnum_any b.pl 4000 W
                  rw [decide_eq_true hz] at cBt
                  rw [decide_eq_false hy] at cNz
                  have HY := Lib.hid hy
                  clear hz hy
                  have cS := mset_no I n ic rows b.nm b.pl w5 HI5.out (by omega) (fun h => HY.out h.2.2)
                  go_wp2_with (go_at_call 10; refine (cW _).mono ?_; rintro e w' ⟨rfl, hw⟩; have hw2 := hw.symm; subst hw2)
                  refine cS.mono ?_
                  rintro e w6 ⟨rfl, hk6⟩
                  have HK6 := Lib.hid (HK5.out.trans hk6)
                  have HI6 := Lib.hid (HI5.out.kept hk6 (fun _ _ => id))
                  have HA6 := Lib.hid (HA5.out.kept hk6 (fun _ _ => id))
                  have HB6 := Lib.hid ((hk6.block _ (heap_lt HB5.out) id).trans HB5.out)
                  obtain ⟨e0, e1, e2, e3, e4, e5⟩ := act_facts HB6.out
                  clear a0 a1 a2 a3 a4 a5
                  clear hk6 cS
                  have cE1 := fun W => eqmarks_yes none none 0 0 0 [] W (rws_nil W) (rws_nil W) (by omega)
                  have cE2 := fun W (h : Kept (fun _ => False) w6 W) => eqmarks_yes I A n ic c rows W (HI6.out.kept h (fun _ _ => id)) (HA6.out.kept h (fun _ _ => id)) (by omega)
                  go_wp2_with (first | (go_at_call 12; refine (cBt _).mono ?_; rintro e w' ⟨rfl, hw⟩; have hw2 := hw.symm; subst hw2) | (go_at_call 13; refine (cNz _).mono ?_; rintro e w' ⟨rfl, hw⟩; have hw2 := hw.symm; subst hw2) | (go_at_call 8; refine (num6_any _ _).mono ?_; rintro e w' ⟨rfl, hw⟩; have hw2 := hw.symm; subst hw2))
                  refine (cE1 _).mono ?_
                  rintro e w7 ⟨rfl, hk7⟩
                  go_wp2_with fail
                  refine (cE2 _ hk7).mono ?_
                  rintro e w8 ⟨rfl, hk8⟩
                  have HK8 := Lib.hid (hk7.trans hk8)
                  clear hk7 hk8 e0 e1 e2 e3 e4 e5
                  go_wp2_with fail
                  refine (spoil_any w8.heap.size (.slice none 0 0) 0 [] w8 (World.ownsRow_nil _ _ _ _) (by omega)).mono ?_
                  rintro e w9 ⟨rfl, hk9⟩
                  have hk9' : Kept (fun _ => False) w8 w9 := hk9.mono (fun k _ h => by simp [Value.ownBlock] at h)
                  have HK9 := Lib.hid (HK8.out.trans hk9')
                  clear hk9 hk9'
                  go_wp2_with fail
                  refine (cE2 _ HK9.out).mono ?_
                  rintro e w10 ⟨rfl, hk10⟩
                  have HK10 := Lib.hid (HK9.out.trans hk10)
                  clear hk10 cE1 cE2
                  go_wp2_with fail
                  go_roundw
                  case rel => exact ⟨i + 1, A, n, c, rows, by omega, by omega, by go_num, rfl, HA6.out.kept HK10.out (fun _ _ => id), by omega, HK6.out.trans HK10.out⟩
                  case measure => simp [intOf]; omega
              · have cBt := fun W => mbtw_any b.nm 97 122 W
                rw [decide_eq_false hz] at cBt
                have HZ := Lib.hid hz
                clear hz
                have cS := mset_no I n ic rows b.nm b.pl w5 HI5.out (by omega) (fun h => HZ.out h.2.1)
                go_wp2_with (go_at_call 10; refine (cW _).mono ?_; rintro e w' ⟨rfl, hw⟩; have hw2 := hw.symm; subst hw2)
                refine cS.mono ?_
                rintro e w6 ⟨rfl, hk6⟩
                have HK6 := Lib.hid (HK5.out.trans hk6)
                have HI6 := Lib.hid (HI5.out.kept hk6 (fun _ _ => id))
                have HA6 := Lib.hid (HA5.out.kept hk6 (fun _ _ => id))
                have HB6 := Lib.hid ((hk6.block _ (heap_lt HB5.out) id).trans HB5.out)
                obtain ⟨e0, e1, e2, e3, e4, e5⟩ := act_facts HB6.out
                clear a0 a1 a2 a3 a4 a5
                clear hk6 cS
                have cE1 := fun W => eqmarks_yes none none 0 0 0 [] W (rws_nil W) (rws_nil W) (by omega)
                have cE2 := fun W (h : Kept (fun _ => False) w6 W) => eqmarks_yes I A n ic c rows W (HI6.out.kept h (fun _ _ => id)) (HA6.out.kept h (fun _ _ => id)) (by omega)
                go_wp2_with (first | (go_at_call 12; refine (cBt _).mono ?_; rintro e w' ⟨rfl, hw⟩; have hw2 := hw.symm; subst hw2) | (go_at_call 8; refine (num6_any _ _).mono ?_; rintro e w' ⟨rfl, hw⟩; have hw2 := hw.symm; subst hw2))
                refine (cE1 _).mono ?_
                rintro e w7 ⟨rfl, hk7⟩
                go_wp2_with fail
                refine (cE2 _ hk7).mono ?_
                rintro e w8 ⟨rfl, hk8⟩
                have HK8 := Lib.hid (hk7.trans hk8)
                clear hk7 hk8 e0 e1 e2 e3 e4 e5
                go_wp2_with fail
                refine (spoil_any w8.heap.size (.slice none 0 0) 0 [] w8 (World.ownsRow_nil _ _ _ _) (by omega)).mono ?_
                rintro e w9 ⟨rfl, hk9⟩
                have hk9' : Kept (fun _ => False) w8 w9 := hk9.mono (fun k _ h => by simp [Value.ownBlock] at h)
                have HK9 := Lib.hid (HK8.out.trans hk9')
                clear hk9 hk9'
                go_wp2_with fail
                refine (cE2 _ HK9.out).mono ?_
                rintro e w10 ⟨rfl, hk10⟩
                have HK10 := Lib.hid (HK9.out.trans hk10)
                clear hk10 cE1 cE2
                go_wp2_with fail
                go_roundw
                case rel => exact ⟨i + 1, A, n, c, rows, by omega, by omega, by go_num, rfl, HA6.out.kept HK10.out (fun _ _ => id), by omega, HK6.out.trans HK10.out⟩
                case measure => simp [intOf]; omega
          · as_aux_lemma =>
              have cS := mget_yes I n ic rows b.nm w5 HI5.out (by omega) HO.out
              have cE2 := fun W (h : Kept (fun _ => False) w5 W) => eqmarks_yes I A n ic c rows W (HI5.out.kept h (fun _ _ => id)) (HA5.out.kept h (fun _ _ => id)) (by omega)
              have cT := fun W (h : Kept (fun _ => False) w5 W) => rget_any A n c rows b.nm W (HA5.out.kept h (fun _ _ => id)) (by omega)
              cases hg : Rw.mget rows b.nm with
              | none =>
                rw [hg] at cS
                simp only [hg] at cT
                unfold getT at cS
                unfold getV at cT
                simp only at cS cT
                clear hg
                go_wp2_with (go_at_call 10; refine (cW _).mono ?_; rintro e w' ⟨rfl, hw⟩; have hw2 := hw.symm; subst hw2)
                refine cS.mono ?_
                rintro e w6 ⟨rfl, hk6⟩
                have HK6 := Lib.hid hk6
                have HB6 := Lib.hid ((hk6.block _ (heap_lt HB5.out) id).trans HB5.out)
                obtain ⟨e0, e1, e2, e3, e4, e5⟩ := act_facts HB6.out
                clear hk6 cS a0 a1 a2 a3 a4 a5
                go_wp2_with (first | (go_at_call 16; refine (cT _ HK6.out).mono ?_; rintro e w' ⟨rfl, hw⟩; have hw2 := hw.symm; subst hw2) | (go_at_call 8; refine (num6_any _ _).mono ?_; rintro e w' ⟨rfl, hw⟩; have hw2 := hw.symm; subst hw2))
                refine (cE2 _ HK6.out).mono ?_
                rintro e w7 ⟨rfl, hk7⟩
                have HK7 := Lib.hid (HK6.out.trans hk7)
                clear hk7 cE2 cT
                go_wp2_with fail
                go_roundw
                case rel => exact ⟨i + 1, A, n, c, rows, by omega, by omega, by go_num, rfl, HA5.out.kept HK7.out (fun _ _ => id), by omega, HK5.out.trans HK7.out⟩
                case measure => simp [intOf]; omega
              | some y =>
                have hyr := HO.out.range hg
                rw [hg] at cS
                simp only [hg] at cT
                unfold getT at cS
                unfold getV at cT
                simp only at cS cT
                have v1 : decide (0 ≤ y) = true := decide_eq_true hyr.1
                have v2 : (y != y) = false := by simp
                clear hg
                go_wp2_with (go_at_call 10; refine (cW _).mono ?_; rintro e w' ⟨rfl, hw⟩; have hw2 := hw.symm; subst hw2)
                refine cS.mono ?_
                rintro e w6 ⟨rfl, hk6⟩
                have HK6 := Lib.hid hk6
                have HB6 := Lib.hid ((hk6.block _ (heap_lt HB5.out) id).trans HB5.out)
                obtain ⟨e0, e1, e2, e3, e4, e5⟩ := act_facts HB6.out
                clear hk6 cS a0 a1 a2 a3 a4 a5
                go_wp2_with (first | (go_at_call 16; refine (cT _ HK6.out).mono ?_; rintro e w' ⟨rfl, hw⟩; have hw2 := hw.symm; subst hw2) | (go_at_call 8; refine (num6_any _ _).mono ?_; rintro e w' ⟨rfl, hw⟩; have hw2 := hw.symm; subst hw2))
                refine (cE2 _ HK6.out).mono ?_
                rintro e w7 ⟨rfl, hk7⟩
                have HK7 := Lib.hid (HK6.out.trans hk7)
                clear hk7 cE2 cT
                go_wp2_with fail
                go_roundw
                case rel => exact ⟨i + 1, A, n, c, rows, by omega, by omega, by go_num, rfl, HA5.out.kept HK7.out (fun _ _ => id), by omega, HK5.out.trans HK7.out⟩
                case measure => simp [intOf]; omega
          · as_aux_lemma =>
              by_cases hz : (0 ≤ b.a ∧ b.a ≤ 4000) ∧ (0 ≤ b.d ∧ b.d ≤ 4000) ∧ mayB b.s = true
              · obtain ⟨ha, hd, hm⟩ := hz
                have hsz := mayB_size hm
                have cS := pmove_yes I n ic rows b.a b.d b.s w5 (HT2.out.kept HK5.out id id) HI5.out (by omega) HO.out ha hd hm
                have HHA := Lib.hid ha
                have HHD := Lib.hid hd
                have HHM := Lib.hid hm
                have hlen : (Rw.mmv rows b.a b.d (rs b.s).length).length ≤ 4000 + (i + 1) := by have h1 := Rw.mmv_len rows b.a b.d (rs b.s).length; rw [HI5.out.1] at h1; omega
                clear ha hd hm
                go_wp2_with (go_at_call 10; refine (cW _).mono ?_; rintro e w' ⟨rfl, hw⟩; have hw2 := hw.symm; subst hw2)
                refine cS.mono ?_
                rintro e w6 ⟨hm6, hk6⟩
                have HS65 := Lib.hid hk6
                obtain ⟨X, xc, rfl, hX, hXb, _, xbase, xxs, hown⟩ := hm6
                have HK6 := Lib.hid (HK5.out.trans hk6)
                have HI6 := Lib.hid (HI5.out.kept hk6 (fun _ _ => id))
                have HA6 := Lib.hid (HA5.out.kept hk6 (fun _ _ => id))
                have HB6 := Lib.hid ((hk6.block _ (heap_lt HB5.out) id).trans HB5.out)
                obtain ⟨e0, e1, e2, e3, e4, e5⟩ := act_facts HB6.out
                clear a0 a1 a2 a3 a4 a5
                have HX6 := Lib.hid hX
                have HXB := Lib.hid hXb
                have HOW := Lib.hid hown
                have HS6 := Lib.hid hk6.size
                clear hX hXb hown cS
                have cMv := rmoves_t b.s b.a b.d w6 (HT2.out.kept HK6.out id id) HHA.out HHD.out HHM.out
                have cT := fun W (h : Kept (fun _ => False) w6 W) => rmove_any A n c rows b.a b.d b.s W (HA6.out.kept h (fun _ _ => id)) (by omega) HO.out HHA.out HHD.out hsz
                clear hk6
                generalize Rw.mmv rows b.a b.d (rs b.s).length = RS at *
                go_wp2_with fail
                refine cMv.mono ?_
                rintro e w6' ⟨rfl, hk6'⟩
                have HKM := Lib.hid hk6'
                have HBM := Lib.hid ((hk6'.block _ (heap_lt HB6.out) id).trans HB6.out)
                obtain ⟨n0, n1, n2, n3, n4, n5⟩ := act_facts HBM.out
                clear hk6' cMv
                go_wp2_with fail
                refine (cT _ HKM.out).mono ?_
                rintro e w7 ⟨hm7, hk7⟩
                obtain ⟨V, vc, rfl, hV, hVb, _⟩ := hm7
                have HK7 := Lib.hid (HKM.out.trans hk7)
                have hsM := HKM.out.size
                have HV7 := Lib.hid hV
                have HVB := Lib.hid hVb
                clear hk7 hV hVb e0 e1 e2 e3 e4 e5 n0 n1 n2 n3 n4 n5
                have cE1 := fun W (h : Kept (fun _ => False) w7 W) => eqmarks_yes X V RS.length xc vc RS W (HX6.out.kept (HK7.out.trans h) (fun _ _ => id)) (HV7.out.kept h (fun _ _ => id)) (by omega)
                have cE2 := fun W (h : Kept (fun _ => False) w6 W) => eqmarks_yes I A n ic c rows W (HI6.out.kept h (fun _ _ => id)) (HA6.out.kept h (fun _ _ => id)) (by omega)
                go_wp2_with (go_at_call 8; refine (num6_any _ _).mono ?_; rintro e w' ⟨rfl, hw⟩; have hw2 := hw.symm; subst hw2)
                refine (cE1 _ (Kept.refl _ _)).mono ?_
                rintro e w8 ⟨rfl, hk8⟩
                have HK8 := Lib.hid hk8
                clear hk8 cE1
                go_wp2_with fail
                refine (cE2 _ (HK7.out.trans HK8.out)).mono ?_
                rintro e w9 ⟨rfl, hk9⟩
                have HK9 := Lib.hid (HK8.out.trans hk9)
                have HK69 := Lib.hid (HK7.out.trans HK9.out)
                clear hk9 cE2
                go_wp2_with fail
                refine (spoil_any xbase _ _ xxs w9 (own_kept HOW.out HK69.out) (by omega)).mono ?_
                rintro e w10 ⟨rfl, hk10⟩
                have hfar : ∀ q, q < w5.heap.size → ¬ (Value.slice X RS.length xc).ownBlock = some q := fun q hq e => by
                  cases X with
                  | none => simp [Value.ownBlock] at e
                  | some a =>
                    have h1 := HXB.out a rfl
                    have h2 : a.block = q := by simpa [Value.ownBlock] using e
                    omega
                have hk510 : Kept (fun q => (Value.slice X RS.length xc).ownBlock = some q) w5 w10 := (((HS65.out).trans HK69.out).mono (fun _ _ h => h.elim)).trans hk10
                have HI10 := Lib.hid (HI5.out.far hk510 hfar)
                have HA10 := Lib.hid (HA5.out.far hk510 hfar)
                have HV10 := Lib.hid ((HV7.out.kept HK9.out (fun _ _ => id)).kept hk10 (fun a ha e => by
                  have h1 := HVB.out a ha
                  have h2 := (HOW.out.lt _ e).2
                  omega))
                have HK10 := Lib.hid ((HK6.out.trans HK69.out).fresh hk10 (fun q hq => hfar q (Nat.lt_of_lt_of_le hq HK5.out.size)))
                clear hk10 hfar hk510
                have cE3 := eqmarks_yes I A n ic c rows w10 HI10.out HA10.out (by omega)
                go_wp2_with fail
                refine cE3.mono ?_
                rintro e w11 ⟨rfl, hk11⟩
                have cC := copymarks_any V RS.length vc RS w11 (HV10.out.kept hk11 (fun _ _ => id)) (by omega)
                have HK11 := Lib.hid (HK10.out.trans hk11)
                clear hk11 cE3
                go_wp2_with fail
                refine cC.mono ?_
                rintro e w12 ⟨⟨Y, yc, rfl, hY, _, _⟩, hk12⟩
                have HY := Lib.hid hY
                have HK12 := Lib.hid (HK11.out.trans hk12)
                clear hY hk12 cC
                go_wp2_with fail
                go_roundw
                case rel => exact ⟨i + 1, Y, RS.length, yc, RS, by omega, by omega, by go_num, rfl, HY.out, by omega, HK12.out⟩
                case measure => simp [intOf]; omega
              · have cMv := fun W (hW : Tabs W) => rmoves_f b.s b.a b.d W hW HGD.out.2.2.2.2.2 hz
                have HZ := Lib.hid hz
                clear hz
                have cS := pmove_no I n ic rows b.a b.d b.s w5 (HT2.out.kept HK5.out id id) HI5.out (by omega) HGD.out.2.2.2.2.2 (fun h => HZ.out h.2)
                go_wp2_with (go_at_call 10; refine (cW _).mono ?_; rintro e w' ⟨rfl, hw⟩; have hw2 := hw.symm; subst hw2)
                refine cS.mono ?_
                rintro e w6 ⟨rfl, hk6⟩
                have HK6 := Lib.hid (HK5.out.trans hk6)
                have HI6 := Lib.hid (HI5.out.kept hk6 (fun _ _ => id))
                have HA6 := Lib.hid (HA5.out.kept hk6 (fun _ _ => id))
                have HB6 := Lib.hid ((hk6.block _ (heap_lt HB5.out) id).trans HB5.out)
                obtain ⟨e0, e1, e2, e3, e4, e5⟩ := act_facts HB6.out
                clear a0 a1 a2 a3 a4 a5
                clear hk6 cS
                have cMv6 := cMv w6 (HT2.out.kept HK6.out id id)
                clear cMv
                go_wp2_with fail
                refine cMv6.mono ?_
                rintro e w6' ⟨rfl, hk6'⟩
                have HKM := Lib.hid hk6'
                clear hk6' cMv6
                have cE1 := fun W => eqmarks_yes none none 0 0 0 [] W (rws_nil W) (rws_nil W) (by omega)
                have cE2 := fun W (h : Kept (fun _ => False) w6 W) => eqmarks_yes I A n ic c rows W (HI6.out.kept h (fun _ _ => id)) (HA6.out.kept h (fun _ _ => id)) (by omega)
                go_wp2_with (go_at_call 8; refine (num6_any _ _).mono ?_; rintro e w' ⟨rfl, hw⟩; have hw2 := hw.symm; subst hw2)
                refine (cE1 _).mono ?_
                rintro e w7 ⟨rfl, hk7'⟩
                have hk7 := HKM.out.trans hk7'
                go_wp2_with fail
                refine (cE2 _ hk7).mono ?_
                rintro e w8 ⟨rfl, hk8⟩
                have HK8 := Lib.hid (hk7.trans hk8)
                clear hk7 hk8 e0 e1 e2 e3 e4 e5
                go_wp2_with fail
                refine (spoil_any w8.heap.size (.slice none 0 0) 0 [] w8 (World.ownsRow_nil _ _ _ _) (by omega)).mono ?_
                rintro e w9 ⟨rfl, hk9⟩
                have hk9' : Kept (fun _ => False) w8 w9 := hk9.mono (fun k _ h => by simp [Value.ownBlock] at h)
                have HK9 := Lib.hid (HK8.out.trans hk9')
                clear hk9 hk9'
                go_wp2_with fail
                refine (cE2 _ HK9.out).mono ?_
                rintro e w10 ⟨rfl, hk10⟩
                have HK10 := Lib.hid (HK9.out.trans hk10)
                clear hk10 cE1 cE2
                go_wp2_with fail
                go_roundw
                case rel => exact ⟨i + 1, A, n, c, rows, by omega, by omega, by go_num, rfl, HA6.out.kept HK10.out (fun _ _ => id), by omega, HK6.out.trans HK10.out⟩
                case measure => simp [intOf]; omega
          · as_aux_lemma =>
              by_cases hz : (0 ≤ b.a ∧ b.a ≤ 4000) ∧ (0 ≤ b.d ∧ b.d ≤ 4000) ∧ mayB b.s = true
              · obtain ⟨ha, hd, hm⟩ := hz
                have hsz := mayB_size hm
                have cS := pmove_yes I n ic rows b.a b.d b.s w5 (HT2.out.kept HK5.out id id) HI5.out (by omega) HO.out ha hd hm
                have HHA := Lib.hid ha
                have HHD := Lib.hid hd
                have HHM := Lib.hid hm
                have hlen : (Rw.mmv rows b.a b.d (rs b.s).length).length ≤ 4000 + (i + 1) := by have h1 := Rw.mmv_len rows b.a b.d (rs b.s).length; rw [HI5.out.1] at h1; omega
                clear ha hd hm
                go_wp2_with (go_at_call 10; refine (cW _).mono ?_; rintro e w' ⟨rfl, hw⟩; have hw2 := hw.symm; subst hw2)
                refine cS.mono ?_
                rintro e w6 ⟨hm6, hk6⟩
                have HS65 := Lib.hid hk6
                obtain ⟨X, xc, rfl, hX, hXb, _, xbase, xxs, hown⟩ := hm6
                have HK6 := Lib.hid (HK5.out.trans hk6)
                have HI6 := Lib.hid (HI5.out.kept hk6 (fun _ _ => id))
                have HA6 := Lib.hid (HA5.out.kept hk6 (fun _ _ => id))
                have HB6 := Lib.hid ((hk6.block _ (heap_lt HB5.out) id).trans HB5.out)
                obtain ⟨e0, e1, e2, e3, e4, e5⟩ := act_facts HB6.out
                clear a0 a1 a2 a3 a4 a5
                have HX6 := Lib.hid hX
                have HXB := Lib.hid hXb
                have HOW := Lib.hid hown
                have HS6 := Lib.hid hk6.size
                clear hX hXb hown cS
                have cMv := rmoves_t b.s b.a b.d w6 (HT2.out.kept HK6.out id id) HHA.out HHD.out HHM.out
                have cT := fun W (h : Kept (fun _ => False) w6 W) => rmove_any A n c rows b.a b.d b.s W (HA6.out.kept h (fun _ _ => id)) (by omega) HO.out HHA.out HHD.out hsz
                clear hk6
                generalize Rw.mmv rows b.a b.d (rs b.s).length = RS at *
                go_wp2_with fail
                refine cMv.mono ?_
                rintro e w6' ⟨rfl, hk6'⟩
                have HKM := Lib.hid hk6'
                have HBM := Lib.hid ((hk6'.block _ (heap_lt HB6.out) id).trans HB6.out)
                obtain ⟨n0, n1, n2, n3, n4, n5⟩ := act_facts HBM.out
                clear hk6' cMv
                go_wp2_with fail
                refine (cT _ HKM.out).mono ?_
                rintro e w7 ⟨hm7, hk7⟩
                obtain ⟨V, vc, rfl, hV, hVb, _⟩ := hm7
                have HK7 := Lib.hid (HKM.out.trans hk7)
                have hsM := HKM.out.size
                have HV7 := Lib.hid hV
                have HVB := Lib.hid hVb
                clear hk7 hV hVb e0 e1 e2 e3 e4 e5 n0 n1 n2 n3 n4 n5
                have cE1 := fun W (h : Kept (fun _ => False) w7 W) => eqmarks_yes X V RS.length xc vc RS W (HX6.out.kept (HK7.out.trans h) (fun _ _ => id)) (HV7.out.kept h (fun _ _ => id)) (by omega)
                have cE2 := fun W (h : Kept (fun _ => False) w6 W) => eqmarks_yes I A n ic c rows W (HI6.out.kept h (fun _ _ => id)) (HA6.out.kept h (fun _ _ => id)) (by omega)
                go_wp2_with (go_at_call 8; refine (num6_any _ _).mono ?_; rintro e w' ⟨rfl, hw⟩; have hw2 := hw.symm; subst hw2)
                refine (cE1 _ (Kept.refl _ _)).mono ?_
                rintro e w8 ⟨rfl, hk8⟩
                have HK8 := Lib.hid hk8
                clear hk8 cE1
                go_wp2_with fail
                refine (cE2 _ (HK7.out.trans HK8.out)).mono ?_
                rintro e w9 ⟨rfl, hk9⟩
                have HK9 := Lib.hid (HK8.out.trans hk9)
                have HK69 := Lib.hid (HK7.out.trans HK9.out)
                clear hk9 cE2
                go_wp2_with fail
                refine (spoil_any xbase _ _ xxs w9 (own_kept HOW.out HK69.out) (by omega)).mono ?_
                rintro e w10 ⟨rfl, hk10⟩
                have hfar : ∀ q, q < w5.heap.size → ¬ (Value.slice X RS.length xc).ownBlock = some q := fun q hq e => by
                  cases X with
                  | none => simp [Value.ownBlock] at e
                  | some a =>
                    have h1 := HXB.out a rfl
                    have h2 : a.block = q := by simpa [Value.ownBlock] using e
                    omega
                have hk510 : Kept (fun q => (Value.slice X RS.length xc).ownBlock = some q) w5 w10 := (((HS65.out).trans HK69.out).mono (fun _ _ h => h.elim)).trans hk10
                have HI10 := Lib.hid (HI5.out.far hk510 hfar)
                have HA10 := Lib.hid (HA5.out.far hk510 hfar)
                have HV10 := Lib.hid ((HV7.out.kept HK9.out (fun _ _ => id)).kept hk10 (fun a ha e => by
                  have h1 := HVB.out a ha
                  have h2 := (HOW.out.lt _ e).2
                  omega))
                have HK10 := Lib.hid ((HK6.out.trans HK69.out).fresh hk10 (fun q hq => hfar q (Nat.lt_of_lt_of_le hq HK5.out.size)))
                clear hk10 hfar hk510
                have cE3 := eqmarks_yes I A n ic c rows w10 HI10.out HA10.out (by omega)
                go_wp2_with fail
                refine cE3.mono ?_
                rintro e w11 ⟨rfl, hk11⟩
                have cC := copymarks_any V RS.length vc RS w11 (HV10.out.kept hk11 (fun _ _ => id)) (by omega)
                have HK11 := Lib.hid (HK10.out.trans hk11)
                clear hk11 cE3
                go_wp2_with fail
                refine cC.mono ?_
                rintro e w12 ⟨⟨Y, yc, rfl, hY, _, _⟩, hk12⟩
                have HY := Lib.hid hY
                have HK12 := Lib.hid (HK11.out.trans hk12)
                clear hY hk12 cC
                go_wp2_with fail
                go_roundw
                case rel => exact ⟨i + 1, Y, RS.length, yc, RS, by omega, by omega, by go_num, rfl, HY.out, by omega, HK12.out⟩
                case measure => simp [intOf]; omega
              · have cMv := fun W (hW : Tabs W) => rmoves_f b.s b.a b.d W hW HGD.out.2.2.2.2.2 hz
                have HZ := Lib.hid hz
                clear hz
                have cS := pmove_no I n ic rows b.a b.d b.s w5 (HT2.out.kept HK5.out id id) HI5.out (by omega) HGD.out.2.2.2.2.2 (fun h => HZ.out h.2)
                go_wp2_with (go_at_call 10; refine (cW _).mono ?_; rintro e w' ⟨rfl, hw⟩; have hw2 := hw.symm; subst hw2)
                refine cS.mono ?_
                rintro e w6 ⟨rfl, hk6⟩
                have HK6 := Lib.hid (HK5.out.trans hk6)
                have HI6 := Lib.hid (HI5.out.kept hk6 (fun _ _ => id))
                have HA6 := Lib.hid (HA5.out.kept hk6 (fun _ _ => id))
                have HB6 := Lib.hid ((hk6.block _ (heap_lt HB5.out) id).trans HB5.out)
                obtain ⟨e0, e1, e2, e3, e4, e5⟩ := act_facts HB6.out
                clear a0 a1 a2 a3 a4 a5
                clear hk6 cS
                have cMv6 := cMv w6 (HT2.out.kept HK6.out id id)
                clear cMv
                go_wp2_with fail
                refine cMv6.mono ?_
                rintro e w6' ⟨rfl, hk6'⟩
                have HKM := Lib.hid hk6'
                clear hk6' cMv6
                have cE1 := fun W => eqmarks_yes none none 0 0 0 [] W (rws_nil W) (rws_nil W) (by omega)
                have cE2 := fun W (h : Kept (fun _ => False) w6 W) => eqmarks_yes I A n ic c rows W (HI6.out.kept h (fun _ _ => id)) (HA6.out.kept h (fun _ _ => id)) (by omega)
                go_wp2_with (go_at_call 8; refine (num6_any _ _).mono ?_; rintro e w' ⟨rfl, hw⟩; have hw2 := hw.symm; subst hw2)
                refine (cE1 _).mono ?_
                rintro e w7 ⟨rfl, hk7'⟩
                have hk7 := HKM.out.trans hk7'
                go_wp2_with fail
                refine (cE2 _ hk7).mono ?_
                rintro e w8 ⟨rfl, hk8⟩
                have HK8 := Lib.hid (hk7.trans hk8)
                clear hk7 hk8 e0 e1 e2 e3 e4 e5
                go_wp2_with fail
                refine (spoil_any w8.heap.size (.slice none 0 0) 0 [] w8 (World.ownsRow_nil _ _ _ _) (by omega)).mono ?_
                rintro e w9 ⟨rfl, hk9⟩
                have hk9' : Kept (fun _ => False) w8 w9 := hk9.mono (fun k _ h => by simp [Value.ownBlock] at h)
                have HK9 := Lib.hid (HK8.out.trans hk9')
                clear hk9 hk9'
                go_wp2_with fail
                refine (cE2 _ HK9.out).mono ?_
                rintro e w10 ⟨rfl, hk10⟩
                have HK10 := Lib.hid (HK9.out.trans hk10)
                clear hk10 cE1 cE2
                go_wp2_with fail
                go_roundw
                case rel => exact ⟨i + 1, A, n, c, rows, by omega, by omega, by go_num, rfl, HA6.out.kept HK10.out (fun _ _ => id), by omega, HK6.out.trans HK10.out⟩
                case measure => simp [intOf]; omega
        · have cR := rmarks_f (c := c) HA3.out (by omega) ho
          have HO := Lib.hid ho
          clear ho
          go_wp2_with fail
          refine cR.mono ?_
          rintro e w4 ⟨rfl, hk4⟩
          have cC := pcheck_f (c := ic) (HI.out.kept hk4 (fun _ _ => id)) (by omega) HO.out
          have HK4 := Lib.hid (HK3.out.trans hk4)
          have HI4 := Lib.hid (HI.out.kept hk4 (fun _ _ => id))
          have HA4 := Lib.hid (HA3.out.kept hk4 (fun _ _ => id))
          have HB4 := Lib.hid ((hk4.block _ (heap_lt HB3.out) id).trans HB3.out)
          clear hk4 cR HI HA3 HB3 HK3
          go_wp2_with fail
          refine cC.mono ?_
          rintro e w5 ⟨rfl, hk5⟩
          have HK5 := Lib.hid (HK4.out.trans hk5)
          have HI5 := Lib.hid (HI4.out.kept hk5 (fun _ _ => id))
          have HA5 := Lib.hid (HA4.out.kept hk5 (fun _ _ => id))
          have HB5 := Lib.hid ((hk5.block _ (heap_lt HB4.out) id).trans HB4.out)
          clear hk5 cC HI4 HA4 HB4 HK4
          obtain ⟨a0, a1, a2, a3, a4, a5⟩ := act_facts HB5.out
          go_upto_region 15 with (go_at_call 8; refine (num6_any _ _).mono ?_; rintro e w' ⟨rfl, hw⟩; have hw2 := hw.symm; subst hw2)
          have hD' : D = 0 ∨ D = 1 ∨ D = 2 ∨ D = 3 ∨ D = 4 := by omega
          rcases hD' with rfl | rfl | rfl | rfl | rfl
          · as_aux_lemma =>
              have cS := mset_no I n ic rows b.nm b.pl w5 HI5.out (by omega) (fun h => HO.out h.1)
              go_wp2_with (go_at_call 10; refine (cW _).mono ?_; rintro e w' ⟨rfl, hw⟩; have hw2 := hw.symm; subst hw2)
              refine cS.mono ?_
              rintro e w6 ⟨rfl, hk6⟩
              have HK6 := Lib.hid (HK5.out.trans hk6)
              have HI6 := Lib.hid (HI5.out.kept hk6 (fun _ _ => id))
              have HA6 := Lib.hid (HA5.out.kept hk6 (fun _ _ => id))
              have HB6 := Lib.hid ((hk6.block _ (heap_lt HB5.out) id).trans HB5.out)
              obtain ⟨e0, e1, e2, e3, e4, e5⟩ := act_facts HB6.out
              clear a0 a1 a2 a3 a4 a5
              clear hk6 cS
              have cE1 := fun W => eqmarks_yes none none 0 0 0 [] W (rws_nil W) (rws_nil W) (by omega)
              have cE2 := fun W (h : Kept (fun _ => False) w6 W) => eqmarks_yes I A n ic c rows W (HI6.out.kept h (fun _ _ => id)) (HA6.out.kept h (fun _ _ => id)) (by omega)
              go_wp2_with (go_at_call 8; refine (num6_any _ _).mono ?_; rintro e w' ⟨rfl, hw⟩; have hw2 := hw.symm; subst hw2)
              refine (cE1 _).mono ?_
              rintro e w7 ⟨rfl, hk7⟩
              go_wp2_with fail
              refine (cE2 _ hk7).mono ?_
              rintro e w8 ⟨rfl, hk8⟩
              have HK8 := Lib.hid (hk7.trans hk8)
              clear hk7 hk8 e0 e1 e2 e3 e4 e5
              go_wp2_with fail
              refine (spoil_any w8.heap.size (.slice none 0 0) 0 [] w8 (World.ownsRow_nil _ _ _ _) (by omega)).mono ?_
              rintro e w9 ⟨rfl, hk9⟩
              have hk9' : Kept (fun _ => False) w8 w9 := hk9.mono (fun k _ h => by simp [Value.ownBlock] at h)
              have HK9 := Lib.hid (HK8.out.trans hk9')
              clear hk9 hk9'
              go_wp2_with fail
              refine (cE2 _ HK9.out).mono ?_
              rintro e w10 ⟨rfl, hk10⟩
              have HK10 := Lib.hid (HK9.out.trans hk10)
              clear hk10 cE1 cE2
              go_wp2_with fail
              go_roundw
              case rel => exact ⟨i + 1, A, n, c, rows, by omega, by omega, by go_num, rfl, HA6.out.kept HK10.out (fun _ _ => id), by omega, HK6.out.trans HK10.out⟩
              case measure => simp [intOf]; omega
          · as_aux_lemma =>
              have cS := mset_no I n ic rows b.nm b.pl w5 HI5.out (by omega) (fun h => HO.out h.1)
              go_wp2_with (go_at_call 10; refine (cW _).mono ?_; rintro e w' ⟨rfl, hw⟩; have hw2 := hw.symm; subst hw2)
              refine cS.mono ?_
              rintro e w6 ⟨rfl, hk6⟩
              have HK6 := Lib.hid (HK5.out.trans hk6)
              have HI6 := Lib.hid (HI5.out.kept hk6 (fun _ _ => id))
              have HA6 := Lib.hid (HA5.out.kept hk6 (fun _ _ => id))
              have HB6 := Lib.hid ((hk6.block _ (heap_lt HB5.out) id).trans HB5.out)
              obtain ⟨e0, e1, e2, e3, e4, e5⟩ := act_facts HB6.out
              clear a0 a1 a2 a3 a4 a5
              clear hk6 cS
              have cE1 := fun W => eqmarks_yes none none 0 0 0 [] W (rws_nil W) (rws_nil W) (by omega)
              have cE2 := fun W (h : Kept (fun _ => False) w6 W) => eqmarks_yes I A n ic c rows W (HI6.out.kept h (fun _ _ => id)) (HA6.out.kept h (fun _ _ => id)) (by omega)
              go_wp2_with (go_at_call 8; refine (num6_any _ _).mono ?_; rintro e w' ⟨rfl, hw⟩; have hw2 := hw.symm; subst hw2)
              refine (cE1 _).mono ?_
              rintro e w7 ⟨rfl, hk7⟩
              go_wp2_with fail
              refine (cE2 _ hk7).mono ?_
              rintro e w8 ⟨rfl, hk8⟩
              have HK8 := Lib.hid (hk7.trans hk8)
              clear hk7 hk8 e0 e1 e2 e3 e4 e5
              go_wp2_with fail
              refine (spoil_any w8.heap.size (.slice none 0 0) 0 [] w8 (World.ownsRow_nil _ _ _ _) (by omega)).mono ?_
              rintro e w9 ⟨rfl, hk9⟩
              have hk9' : Kept (fun _ => False) w8 w9 := hk9.mono (fun k _ h => by simp [Value.ownBlock] at h)
              have HK9 := Lib.hid (HK8.out.trans hk9')
              clear hk9 hk9'
              go_wp2_with fail
              refine (cE2 _ HK9.out).mono ?_
              rintro e w10 ⟨rfl, hk10⟩
              have HK10 := Lib.hid (HK9.out.trans hk10)
              clear hk10 cE1 cE2
              go_wp2_with fail
              go_roundw
              case rel => exact ⟨i + 1, A, n, c, rows, by omega, by omega, by go_num, rfl, HA6.out.kept HK10.out (fun _ _ => id), by omega, HK6.out.trans HK10.out⟩
              case measure => simp [intOf]; omega
          · as_aux_lemma =>
              have cS := mget_no I n ic rows b.nm w5 HI5.out (by omega) HO.out
              have cE2 := fun W (h : Kept (fun _ => False) w5 W) => eqmarks_yes I A n ic c rows W (HI5.out.kept h (fun _ _ => id)) (HA5.out.kept h (fun _ _ => id)) (by omega)
              go_wp2_with (go_at_call 10; refine (cW _).mono ?_; rintro e w' ⟨rfl, hw⟩; have hw2 := hw.symm; subst hw2)
              refine cS.mono ?_
              rintro e w6 ⟨rfl, hk6⟩
              have HK6 := Lib.hid hk6
              clear hk6 cS a0 a1 a2 a3 a4 a5
              go_wp2_with (go_at_call 8; refine (num6_any _ _).mono ?_; rintro e w' ⟨rfl, hw⟩; have hw2 := hw.symm; subst hw2)
              refine (cE2 _ HK6.out).mono ?_
              rintro e w7 ⟨rfl, hk7⟩
              have HK7 := Lib.hid (HK6.out.trans hk7)
              clear hk7 cE2
              go_wp2_with fail
              go_roundw
              case rel => exact ⟨i + 1, A, n, c, rows, by omega, by omega, by go_num, rfl, HA5.out.kept HK7.out (fun _ _ => id), by omega, HK5.out.trans HK7.out⟩
              case measure => simp [intOf]; omega
          · as_aux_lemma =>
              have cS := pmove_no I n ic rows b.a b.d b.s w5 (HT2.out.kept HK5.out id id) HI5.out (by omega) HGD.out.2.2.2.2.2 (fun h => HO.out h.1)
              go_wp2_with (go_at_call 10; refine (cW _).mono ?_; rintro e w' ⟨rfl, hw⟩; have hw2 := hw.symm; subst hw2)
              refine cS.mono ?_
              rintro e w6 ⟨rfl, hk6⟩
              have HK6 := Lib.hid (HK5.out.trans hk6)
              have HI6 := Lib.hid (HI5.out.kept hk6 (fun _ _ => id))
              have HA6 := Lib.hid (HA5.out.kept hk6 (fun _ _ => id))
              have HB6 := Lib.hid ((hk6.block _ (heap_lt HB5.out) id).trans HB5.out)
              obtain ⟨e0, e1, e2, e3, e4, e5⟩ := act_facts HB6.out
              clear a0 a1 a2 a3 a4 a5
              clear hk6 cS
              have cE1 := fun W => eqmarks_yes none none 0 0 0 [] W (rws_nil W) (rws_nil W) (by omega)
              have cE2 := fun W (h : Kept (fun _ => False) w6 W) => eqmarks_yes I A n ic c rows W (HI6.out.kept h (fun _ _ => id)) (HA6.out.kept h (fun _ _ => id)) (by omega)
              go_wp2_with (go_at_call 8; refine (num6_any _ _).mono ?_; rintro e w' ⟨rfl, hw⟩; have hw2 := hw.symm; subst hw2)
              refine (cE1 _).mono ?_
              rintro e w7 ⟨rfl, hk7⟩
              go_wp2_with fail
              refine (cE2 _ hk7).mono ?_
              rintro e w8 ⟨rfl, hk8⟩
              have HK8 := Lib.hid (hk7.trans hk8)
              clear hk7 hk8 e0 e1 e2 e3 e4 e5
              go_wp2_with fail
              refine (spoil_any w8.heap.size (.slice none 0 0) 0 [] w8 (World.ownsRow_nil _ _ _ _) (by omega)).mono ?_
              rintro e w9 ⟨rfl, hk9⟩
              have hk9' : Kept (fun _ => False) w8 w9 := hk9.mono (fun k _ h => by simp [Value.ownBlock] at h)
              have HK9 := Lib.hid (HK8.out.trans hk9')
              clear hk9 hk9'
              go_wp2_with fail
              refine (cE2 _ HK9.out).mono ?_
              rintro e w10 ⟨rfl, hk10⟩
              have HK10 := Lib.hid (HK9.out.trans hk10)
              clear hk10 cE1 cE2
              go_wp2_with fail
              go_roundw
              case rel => exact ⟨i + 1, A, n, c, rows, by omega, by omega, by go_num, rfl, HA6.out.kept HK10.out (fun _ _ => id), by omega, HK6.out.trans HK10.out⟩
              case measure => simp [intOf]; omega
          · as_aux_lemma =>
              have cS := pmove_no I n ic rows b.a b.d b.s w5 (HT2.out.kept HK5.out id id) HI5.out (by omega) HGD.out.2.2.2.2.2 (fun h => HO.out h.1)
              go_wp2_with (go_at_call 10; refine (cW _).mono ?_; rintro e w' ⟨rfl, hw⟩; have hw2 := hw.symm; subst hw2)
              refine cS.mono ?_
              rintro e w6 ⟨rfl, hk6⟩
              have HK6 := Lib.hid (HK5.out.trans hk6)
              have HI6 := Lib.hid (HI5.out.kept hk6 (fun _ _ => id))
              have HA6 := Lib.hid (HA5.out.kept hk6 (fun _ _ => id))
              have HB6 := Lib.hid ((hk6.block _ (heap_lt HB5.out) id).trans HB5.out)
              obtain ⟨e0, e1, e2, e3, e4, e5⟩ := act_facts HB6.out
              clear a0 a1 a2 a3 a4 a5
              clear hk6 cS
              have cE1 := fun W => eqmarks_yes none none 0 0 0 [] W (rws_nil W) (rws_nil W) (by omega)
              have cE2 := fun W (h : Kept (fun _ => False) w6 W) => eqmarks_yes I A n ic c rows W (HI6.out.kept h (fun _ _ => id)) (HA6.out.kept h (fun _ _ => id)) (by omega)
              go_wp2_with (go_at_call 8; refine (num6_any _ _).mono ?_; rintro e w' ⟨rfl, hw⟩; have hw2 := hw.symm; subst hw2)
              refine (cE1 _).mono ?_
              rintro e w7 ⟨rfl, hk7⟩
              go_wp2_with fail
              refine (cE2 _ hk7).mono ?_
              rintro e w8 ⟨rfl, hk8⟩
              have HK8 := Lib.hid (hk7.trans hk8)
              clear hk7 hk8 e0 e1 e2 e3 e4 e5
              go_wp2_with fail
              refine (spoil_any w8.heap.size (.slice none 0 0) 0 [] w8 (World.ownsRow_nil _ _ _ _) (by omega)).mono ?_
              rintro e w9 ⟨rfl, hk9⟩
              have hk9' : Kept (fun _ => False) w8 w9 := hk9.mono (fun k _ h => by simp [Value.ownBlock] at h)
              have HK9 := Lib.hid (HK8.out.trans hk9')
              clear hk9 hk9'
              go_wp2_with fail
              refine (cE2 _ HK9.out).mono ?_
              rintro e w10 ⟨rfl, hk10⟩
              have HK10 := Lib.hid (HK9.out.trans hk10)
              clear hk10 cE1 cE2
              go_wp2_with fail
              go_roundw
              case rel => exact ⟨i + 1, A, n, c, rows, by omega, by omega, by go_num, rfl, HA6.out.kept HK10.out (fun _ _ => id), by omega, HK6.out.trans HK10.out⟩
              case measure => simp [intOf]; omega
      · have hlast : (i = ln ∧ i < 10) ∨ (i < ln ∧ i = 10) ∨ (i = ln ∧ i = 10) := by omega
        have cW := fun W => wakes6_any W
        rcases hlast with ⟨h1, h2⟩ | ⟨h1, h2⟩ | ⟨h1, h2⟩
        case' inl | inr.inr => have b1 : decide (i < ln) = false := by simp; omega
        case' inr.inl =>
          have b1 : decide (i < ln) = true := by simp; omega
          have b2 : decide (i < 10) = false := by simp; omega
          have b3 : decide ((i : Int) < 10) = false := by simp; omega
        all_goals
          clear h1 h2
          go_wp2_with (go_at_call 22; refine (cW _).mono ?_; rintro e w9 ⟨rfl, hk9⟩; have HK9 := Lib.hid (HKW.out.trans hk9); clear hk9)
          go_ret
          exact ⟨rfl, HK2.out.trans HK9.out⟩
end Go.Proofs.YtknoiehglfpepaaDoor
