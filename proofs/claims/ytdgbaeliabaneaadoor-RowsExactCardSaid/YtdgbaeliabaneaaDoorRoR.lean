/-
  RowsExact: the law's walk.
-/
import Derived.Test.YtdgbaeliabaneaaDoorRoW
import Derived.Deep.CutBlock
import Derived.Deep.CutRange
set_option linter.unusedVariables false
namespace Go.Proofs.YtdgbaeliabaneaaDoor
open Go Go.RowKit

/-- How the law stands: its parameter, the tree (of L2), the rows (L), in memory. -/
structure Rx (w wr : World) (pb T : Nat) (p : Scr3) (lv : Value) (L L2 : List ByteArray) : Prop where
  par : PS3 wr pb p
  tree : Tree wr T L2
  own : wr.ownsRow w.heap.size 9 1 lv L.length (L.map .string)
  may : MayL L
  kp : Kept (fun _ => False) w wr
  tt : w.heap.size ≤ T
theorem Rx.kept {w wr wx : World} {pb T : Nat} {p : Scr3} {lv : Value} {L L2 : List ByteArray} (h : Rx w wr pb T p lv L L2) (hk : Kept (fun _ => False) wr wx) : Rx w wx pb T p lv L L2 :=
  ⟨h.par.kept hk id, h.tree.kept hk, ownsRow_kept h.own hk (fun _ _ h => h), h.may, h.kp.trans hk, h.tt⟩
theorem own_tree {w : World} {B n T : Nat} {v : Value} {xs : List Value} {u : Value} (hown : w.ownsRow B 9 1 v n xs) (h : w.heap[T]? = some (.cells #[u] 58)) : ∀ g, v.ownBlock = some g → g ≠ T := by
  intro g hg
  rcases hown.2 with ⟨rfl, _⟩ | ⟨g', cap, cur, rfl, hb, hgg, rest⟩
  · cases hg
  · cases hg
    exact block_ne hgg h (by decide)
/-- Behind Splice. -/
theorem Rx.spliced {w wr wx : World} {pb T : Nat} {p : Scr3} {lv : Value} {L L2 L3 : List ByteArray} (h : Rx w wr pb T p lv L L2) (ht : Tree wx T L3) (hk : Kept (fun q => q = T) wr wx) : Rx w wx pb T p lv L L3 := by
  obtain ⟨v, h1, _⟩ := h.tree.at_
  refine ⟨h.par.kept hk (fun e => ?_), ht, ownsRow_kept h.own hk (fun g hg e => own_tree h.own h1 g hg e), h.may, h.kp.fresh hk (fun q hq e => ?_), h.tt⟩
  · have e : pb = T := e
    subst e
    have := h1.symm.trans h.par
    simp at this
  · have e : q = T := e
    have := h.tt
    omega
/-- Behind a slice that is spoilt. -/
theorem Rx.spoilt {w wr wx : World} {pb T : Nat} {p : Scr3} {lv : Value} {L L2 : List ByteArray} (h : Rx w wr pb T p lv L L2) {B n : Nat} {v : Value} {xs : List Value} (hown : wr.ownsRow B 9 1 v n xs) (hB : w.heap.size ≤ B) (hne : ∀ q, v.ownBlock = some q → lv.ownBlock ≠ some q) (hk : Kept (fun q => v.ownBlock = some q) wr wx) : Rx w wx pb T p lv L L2 := by
  have hty : ∀ q, v.ownBlock = some q → ∃ cs, wr.heap[q]? = some (.cells cs 9) ∧ B ≤ q := by
    intro q hq
    rcases hown.2 with ⟨rfl, _⟩ | ⟨g', cap, cur, rfl, hb, hgg, rest⟩
    · cases hq
    · cases hq
      exact ⟨cur, hgg, hb⟩
  refine ⟨h.par.kept hk (fun e => ?_), h.tree.keptT hk (fun q hq => ?_), ownsRow_kept h.own hk (fun g hg e => hne g e hg), h.may, h.kp.fresh hk (fun q hq e => ?_), h.tt⟩
  · obtain ⟨cs, h1, _⟩ := hty pb e
    exact block_ne h.par h1 (by decide) rfl
  · obtain ⟨cs, h1, _⟩ := hty q hq
    exact .inr ⟨cs, _, _, h1, by decide, by decide⟩
  · obtain ⟨_, _, h2⟩ := hty q e
    omega
/-- What New tells, in one form. -/
def NewR (w w' : World) (L : List ByteArray) (v4 : Value) (z : Int) : Prop := (MayL L ∧ z = 0 ∧ ∃ T, v4 = .pointer (some ⟨T, 0, none⟩) ∧ Tree w' T L ∧ w.heap.size ≤ T) ∨ (¬ MayL L ∧ z = 1 ∧ v4 = .pointer none)
theorem new_all (A : Option Addr) (n c : Nat) (L : List ByteArray) (w : World) (h : Strs w A n L) (hc : n ≤ c) (hn : n ≤ 1000000) (hb : byL L ≤ 1000000) (hT : Tabs w) :
    Calls Tryd.prog 7 #[.slice A n c] w fun e w' => (∃ v4 z, e = .returned (.tuple #[v4, .int .i64 z]) ∧ NewR w w' L v4 z) ∧ Kept (fun _ => False) w w' := by
  by_cases hM : MayL L
  · refine (new_yes A n c L w h hc hM hT).mono ?_
    rintro e w' ⟨⟨T, rfl, ht, hTT⟩, hk⟩
    exact ⟨⟨_, _, rfl, .inl ⟨hM, rfl, T, rfl, ht, hTT⟩⟩, hk⟩
  · refine (new_no A n c L w h hn hb hM hT).mono ?_
    rintro e w' ⟨rfl, hk⟩
    exact ⟨⟨_, _, rfl, .inr ⟨hM, rfl, rfl⟩⟩, hk⟩
/-- What is wanted, as far as the rows that come are looked at. -/
def WantR (l : List ByteArray) (j : Nat) (V : Int) : Prop := ((l.take j).all rowB = true ∧ V = 0) ∨ ((l.take j).all rowB = false ∧ V = 1)
theorem take_all {l : List ByteArray} {j : Nat} {x : ByteArray} (hx : l[j]? = some x) : (l.take (j + 1)).all rowB = ((l.take j).all rowB && rowB x) := by
  rw [List.take_add_one, hx, List.all_append]
  simp
theorem WantR.no {l : List ByteArray} {j : Nat} {V : Int} {x : ByteArray} (h : WantR l j V) (hx : l[j]? = some x) (hr : rowB x = false) : WantR l (j + 1) 1 := by
  refine .inr ⟨?_, rfl⟩
  rw [take_all hx, hr, Bool.and_false]
theorem WantR.yes {l : List ByteArray} {j : Nat} {V : Int} {x : ByteArray} (h : WantR l j V) (hx : l[j]? = some x) (hr : rowB x = true) : WantR l (j + 1) V := by
  unfold WantR at *
  rw [take_all hx, hr, Bool.and_true]
  exact h
/-- Behind where the law begins: a tree of these rows. -/
def J1 (w wx : World) (pb : Nat) (p : Scr3) (v4 v5 v6 : Value) : Prop := ∃ (T : Nat) (L : List ByteArray), v4 = .pointer (some ⟨T, 0, none⟩) ∧ v5 = .int .i64 0 ∧ Rx w wx pb T p v6 L L
set_option maxRecDepth 100000 in
set_option maxHeartbeats 16000000 in
theorem rowsExact_any (p : Scr3) (w : World) (hp : Scr3Ok w p) (hT : Tabs w) : Calls Tryd.prog 3 #[.agg p.cells] w fun e w' => e = .returned (.bool true) ∧ Kept (fun _ => False) w w' := by
  have hk0 : Kept (fun _ => False) w (w.alloc (.cells p.cells 25)) := (Kept.refl _ w).alloc _
  have HPS0 : Hid (PS3 (w.alloc (.cells p.cells 25)) w.heap.size p) := heap_alloc_new w _
  have HK0 := Lib.hid hk0
  have cH := heavy3_any p _ (hp.kept hk0)
  have HPW := Lib.hid hp
  have HTT := Lib.hid hT
  clear hk0 hp hT
  obtain ⟨S, sn, sc, ss, LA, ln, lc, acts⟩ := p
  unfold Scr3.cells at *
  simp only at *
  have p0 := HPS0.out.c 0
  have p1 := HPS0.out.c 1
  simp only [Scr3.cells] at p0 p1
  obtain ⟨pb, hpb⟩ : ∃ pb, w.heap.size = pb := ⟨_, rfl⟩
  have HPB := Lib.hid hpb
  simp only [hpb] at HPS0 p0 p1
  clear hpb
  go_enter Tryd.func3, Tryd.ntmps3
  go_upto_region 1 with fail
  simp only [HPB.out]
  generalize w.alloc (.cells #[.slice S sn sc, .slice LA ln lc] 25) = w0 at *
  have q0 : w0.cell? ⟨pb, 0, none⟩ = some (.slice S sn sc) := p0
  have q1 : w0.cell? ⟨pb, 1, none⟩ = some (.slice LA ln lc) := p1
  clear p0 p1
  go_wp2_with (go_at_call 5; refine cH.mono ?_; rintro e w1 ⟨⟨E, rfl, hb⟩, hk1⟩; have HK1 := Lib.hid (HK0.out.trans hk1); have HPS1 := Lib.hid (HPS0.out.kept hk1 id); have HHV := Lib.hid hb; have s0 := cell_kept hk1 q0 id; have s1 := cell_kept hk1 q1 id; clear hk1 cH q0 q1 hb)
  · exact bodyPost_ret (results_tmp rfl _ _ _) rfl ⟨rfl, HK1.out⟩
  have hv0 : E = false := by assumption
  subst hv0
  have HLT := Lib.hid (HHV.out rfl)
  clear HHV
  have hsn := HLT.out.s
  simp only at hsn
  have cC := copystr_any S sn sc ss w1 (HPW.out.ss.kept HK1.out) (by omega)
  refine cC.mono ?_
  rintro e w2 ⟨⟨v, rfl, hO⟩, hk2⟩
  obtain ⟨A1, c1, rfl, hs1, hc1, _⟩ := own_strs hO (by omega)
  have HK2 := Lib.hid (HK1.out.trans hk2)
  have HPS2 := Lib.hid (HPS1.out.kept hk2 id)
  have HS1 := Lib.hid hs1
  have HSP2 : Hid (w.heap.size ≤ w2.heap.size) := HK2.out.size
  have hslen : ss.length = sn := HPW.out.ss.1
  have HSL := Lib.hid hslen
  have t0 := cell_kept hk2 s0 id
  have t1 := cell_kept hk2 s1 id
  clear hk2 cC hO s0 s1 hs1 hslen
  have cN := new_all A1 sn c1 ss w2 HS1.out hc1 (by omega) (by omega) (HTT.out.kept HK2.out id id)
  go_upto_region 6 with (first
    | (go_at_call 7; refine cN.mono ?_; rintro e w3 ⟨⟨v4, z, rfl, hN⟩, hk3⟩; have HK3 := Lib.hid (HK2.out.trans hk3); have HN3 := Lib.hid hN; have HPS3 := Lib.hid (HPS2.out.kept hk3 id); have HS3 := Lib.hid (HS1.out.kept hk3); have u0 := cell_kept hk3 t0 id; have u1 := cell_kept hk3 t1 id; clear cN hk3 hN t0 t1; have cD := copystr_any S sn sc ss w3 (HPW.out.ss.kept HK3.out) (by omega))
    | (go_at_call 6; refine cD.mono ?_; rintro e w4 ⟨⟨v6, rfl, hO6⟩, hk4⟩; obtain ⟨A6, c6, rfl, hs6, _, _⟩ := own_strs hO6 (by omega); have HK4 := Lib.hid (HK3.out.trans hk4); have HK34 := Lib.hid hk4; have HO6 := Lib.hid hO6; have HPS4 := Lib.hid (HPS3.out.kept hk4 id); have HS4 := Lib.hid (HS3.out.kept hk4); have HS6 := Lib.hid hs6; have HH6 : Hid (w.heap.size ≤ w3.heap.size) := HK3.out.size; have t0 := cell_kept hk4 u0 id; have t1 := cell_kept hk4 u1 id; clear cD hk4 hO6 hs6 u0 u1))
  have cE := lmay_any A6 sn c6 ss w4 HS6.out (by omega) (by omega) (HTT.out.kept HK4.out id id)
  go_upto_if 36 with (go_at_call 8; refine cE.mono ?_; rintro e w5 ⟨⟨E, rfl, hE⟩, hk5⟩; have HE := Lib.hid hE; have HK5 := Lib.hid (HK4.out.trans hk5); have HK35 := Lib.hid (HK34.out.trans hk5); have HPS5 := Lib.hid (HPS4.out.kept hk5 id); have HO5 := Lib.hid (ownsRow_kept HO6.out hk5 (fun _ _ h => h)); have HS5 := Lib.hid (HS4.out.kept hk5); have r0 := cell_kept hk5 t0 id; have r1 := cell_kept hk5 t1 id; clear cE hk5 hE t0 t1)
  go_cut [4, 5, 6] from 34 to 49 (fun v4 v5 v6 wx => J1 w wx pb ⟨S, sn, sc, ss, LA, ln, lc, acts⟩ v4 v5 v6 ∧ Strs wx A1 sn ss)
  case first =>
    rcases HN3.out with ⟨hM, rfl, T, rfl, ht3, hTT⟩ | ⟨hM, rfl, rfl⟩
    · obtain rfl : E = true := HE.out.2 hM
      have HM := Lib.hid hM
      have HT5 := Lib.hid (ht3.kept HK35.out)
      have HTS : Hid (w.heap.size ≤ T) := Nat.le_trans HSP2.out hTT
      clear hM ht3 hTT HN3
      go_wp2_with fail
      go_meet
      refine ⟨⟨T, ss, rfl, rfl, HPS5.out, HT5.out, ?_, HM.out, HK5.out, HTS.out⟩, HS5.out⟩
      rw [HSL.out]
      exact HO5.out.mono HH6.out
    · obtain rfl : E = false := by
        cases E with
        | false => rfl
        | true => exact absurd (HE.out.1 rfl) hM
      clear hM HN3
      have cZ := num3_any 1 w5
      go_wp2_with (first
        | (go_at_call 9; refine cZ.mono ?_; rintro e w6 ⟨rfl, hw⟩; have hw2 := hw.symm; subst hw2; clear cZ; have hk7 : Kept (fun _ => False) w5 ((w5.alloc (.cells #[.string ⟨#[]⟩] 9)).alloc (.cells #[.string ⟨#[]⟩] 9)) := ((Kept.refl _ w5).alloc _).alloc _; have HK57 := Lib.hid hk7; have HK7 := Lib.hid (HK5.out.trans hk7); have cY := new_yes (some ⟨w5.heap.size + 1, 0, none⟩) 1 1 [⟨#[]⟩] ((w5.alloc (.cells #[.string ⟨#[]⟩] 9)).alloc (.cells #[.string ⟨#[]⟩] 9)) (by have h := lit_strs (w5.alloc (.cells #[.string ⟨#[]⟩] 9)) [⟨#[]⟩] (by decide); rw [show (w5.alloc (.cells #[.string ⟨#[]⟩] 9)).heap.size = w5.heap.size + 1 by simp] at h; exact h) (Nat.le_refl _) may_e (HTT.out.kept HK7.out id id); clear hk7)
        | (go_at_call 7; refine cY.mono ?_; rintro e w8 ⟨⟨T, rfl, ht8, hTT⟩, hk8⟩; have HK8 := Lib.hid (HK7.out.trans hk8); have HT8 := Lib.hid ht8; have HTS : Hid (w.heap.size ≤ T) := Nat.le_trans HK7.out.size hTT; have HPS8 := Lib.hid ((HPS5.out.kept HK57.out id).kept hk8 id); have HS8 := Lib.hid ((HS5.out.kept HK57.out).kept hk8); have HO8 : Hid (w8.ownsRow w.heap.size 9 1 (.slice (some ⟨w5.heap.size, 0, none⟩) 1 1) 1 [.string ⟨#[]⟩]) := ownsRow_kept ((World.ownsRow_lit (base := w.heap.size) (e := 9) (size := 1) w5 #[.string ⟨#[]⟩] 1 HK5.out.size (by unfold maxLen; omega) rfl).alloc _) hk8 (fun _ _ h => h); clear cY hk8 ht8 hTT))
      go_meet
      exact ⟨⟨T, [⟨#[]⟩], rfl, rfl, HPS8.out, HT8.out, HO8.out, may_e, HK8.out, HTS.out⟩, HS8.out⟩
  case rest =>
    obtain ⟨⟨T, L0, rfl, rfl, hrx⟩, hs1⟩ := hcut
    obtain ⟨A7, c7, hu6, hs7, _, _⟩ := own_strs hrx.own (by have := hrx.may.by_; omega)
    have hu7 := hu6.symm
    subst hu7
    clear hu6
    have HR := Lib.hid hrx
    have HS1 := Lib.hid hs1
    have HS7 := Lib.hid hs7
    have hlo := hrx.may.lo
    have hhi := hrx.may.hi
    have hby := hrx.may.by_
    have e0 : wc.cell? ⟨pb, 0, none⟩ = some (.slice S sn sc) := (hrx.par.c 0).trans rfl
    have cZ := num3_any 0 wc
    have cQ := eqstr_yes A1 S sn sn c1 sc ss wc hs1 (HPW.out.ss.kept hrx.kp) (by omega)
    have HHO : Hid (∀ W, Kept (fun _ => False) wc W → Calls Tryd.prog 11 #[.pointer (some ⟨T, 0, none⟩), .slice A7 L0.length c7] W fun e w' => e = .returned (.bool true) ∧ Kept (fun _ => False) W w') := fun W hk => holds_yes T A7 L0.length c7 L0 W (HR.out.tree.kept hk) (HS7.out.kept hk) HR.out.may.lo (by have := HR.out.may.hi; omega) (by have := HR.out.may.by_; omega)
    clear hrx hs1 hs7 HN3 HS6 HO6 HH6 HK4 HK34 HPS4 HS4 HPS2 HPS3 HS3 HPS0 HPS1 HE HK5 HK35 HPS5 HO5 HS5 r0 r1 hlo hhi hby hc1 HSP2 HS1 HSL HK1 HK2 HK3 HK0
    generalize L0.length = n0 at *
    go_upto_region 13 with (first
      | (go_at_call 9; refine cZ.mono ?_; rintro e w6 ⟨rfl, hw⟩; have hw2 := hw.symm; subst hw2; clear cZ)
      | (go_at_call 10; refine cQ.mono ?_; rintro e w5 ⟨rfl, hk5⟩; have HK5 := Lib.hid hk5; clear cQ hk5; have cO := HHO.out w5 HK5.out)
      | (go_at_call 11; refine cO.mono ?_; rintro e w6 ⟨rfl, hk6⟩; have HK6 := Lib.hid (HK5.out.trans hk6); clear cO hk6))
    have HR6 := Lib.hid (HR.out.kept HK6.out)
    clear HHO HR HS7 e0
    go_wp2_with fail
    go_loopw [6, 7] (fun lv i wr => ∃ (k : Nat) (L : List ByteArray), k ≤ ln ∧ k ≤ 20 ∧ i = .int .i64 k ∧ Rx w wr pb T ⟨S, sn, sc, ss, LA, ln, lc, acts⟩ lv L L) (fun _ i _ => ln - (intOf i).toNat)
    case atStart => exact ⟨0, _, Nat.zero_le _, Nat.zero_le _, rfl, HR6.out⟩
    case round =>
      obtain ⟨k, L, hk, hk20, rfl, hrx⟩ := hrel
      obtain ⟨A8, c8, hu8, hs8, hc8, _⟩ := own_strs hrx.own (by have := hrx.may.by_; omega)
      have hu9 := hu8.symm
      subst hu9
      clear hu8 HR6 HK5 HK6
      have HR := Lib.hid hrx
      have HS := Lib.hid hs8
      have p1 : wr.cell? ⟨pb, 1, none⟩ = some (.slice LA ln lc) := (hrx.par.c 1).trans rfl
      have hlo := hrx.may.lo
      have hhi := hrx.may.hi
      have hby := hrx.may.by_
      obtain ⟨n, hn⟩ : ∃ n, L.length = n := ⟨_, rfl⟩
      have HLN := Lib.hid hn
      simp only [hn] at HR HS hlo hhi hby hc8 ⊢
      have HHO : Hid (∀ W, Rx w W pb T ⟨S, sn, sc, ss, LA, ln, lc, acts⟩ (.slice A8 n c8) L L → Calls Tryd.prog 11 #[.pointer (some ⟨T, 0, none⟩), .slice A8 n c8] W fun e w' => e = .returned (.bool true) ∧ Kept (fun _ => False) W w') := fun W h => by
        obtain ⟨A9, c9, hu, hs, _, _⟩ := own_strs h.own (by have := h.may.by_; omega)
        rw [HLN.out] at hu hs
        cases hu
        exact holds_yes T A8 n c8 L W h.tree hs hlo (by omega) (by omega)
      clear hrx hs8 hn
      by_cases hkl : k < ln
      · have b1 : decide (k < ln) = true := decide_eq_true hkl
        have b2 : decide ((k : Int) < (ln : Int)) = true := decide_eq_true (by omega)
        by_cases hk2 : k < 20
        · have b3 : decide (k < 20) = true := decide_eq_true hk2
          have b4 : decide ((k : Int) < 20) = true := decide_eq_true (by omega)
          obtain ⟨ad, b, rfl, hb, h3, hok⟩ := (HPW.out.acts.kept HR.out.kp).at_ hkl
          have HB := Lib.hid hb
          have HAS := Lib.hid hok.ss
          have HASW := Lib.hid (HPW.out.acts.2 k b hb).2.ss
          have hbl := HLT.out.a b (List.mem_of_getElem? hb)
          have a0 := h3.c0
          have a1 := h3.c1
          have a2 := h3.c2
          have t1 : (0 : Int) ≤ (k : Int) := by omega
          have t2 : (k : Int) < (ln : Int) := by omega
          obtain ⟨bi, bn, BA, bm, bc, bl⟩ := b
          simp only at a0 a1 a2 HAS HASW hbl
          have HAX := Lib.hid (heap_alloc_new wr (.cells #[.int .i64 bi, .int .i64 bn, .slice BA bm bc] 37))
          have HKA : Hid (Kept (fun _ => False) wr (wr.alloc (.cells #[.int .i64 bi, .int .i64 bn, .slice BA bm bc] 37))) := (Kept.refl _ wr).alloc _
          have HAB : Hid (w.heap.size ≤ wr.heap.size) := HR.out.kp.size
          clear hb h3 hok
          go_upto_region 17 with fail
          clear a0 a1 a2
          generalize wr.alloc (.cells #[.int .i64 bi, .int .i64 bn, .slice BA bm bc] 37) = w4 at *
          obtain ⟨ab, hab⟩ : ∃ ab, wr.heap.size = ab := ⟨_, rfl⟩
          have HABE := Lib.hid hab
          simp only [hab] at HAX HAB ⊢
          clear hab
          have HR4 := Lib.hid (HR.out.kept HKA.out)
          have HS4 := Lib.hid (HS.out.kept HKA.out)
          have HAS4 := Lib.hid (HAS.out.kept HKA.out)
          go_upto_if 88 with fail
          go_cut [] from 86 to 105 (fun wx => ∃ I N : Int, wx.heap[ab]? = some (.cells #[.int .i64 I, .int .i64 N, .slice BA bm bc] 37) ∧ Kept (fun q => q = ab) w4 wx)
          case first =>
            have g0 : w4.cell? ⟨ab, 0, none⟩ = some (.int .i64 bi) := cell_of_row _ _ _ _ _ _ HAX.out
            have g1 : w4.cell? ⟨ab, 1, none⟩ = some (.int .i64 bn) := cell_of_row _ _ _ _ _ _ HAX.out
            have z0 := frozen_of (i := 0) HAX.out
            have z1 := frozen_of (i := 1) HAX.out
            have en : IntKind.i64.wrap ((n : Int) + 1) = (n : Int) + 1 := IntWalk.i64_in _ ⟨by omega, by omega⟩
            by_cases hev : k % 2 = 0
            · have f1 : (((k : Int) % 2) == 0) = true := by rw [beq_iff_eq]; omega
              have f2 : ((k : Int).tmod 2 == 0) = true := by rw [beq_iff_eq, Int.tmod_eq_emod_of_nonneg (by omega)]; omega
              have cW := within_any bi ((n : Int) + 1) (by omega) (by omega) w4
              go_wp2_with (first
                | (go_at_call 12; refine cW.mono ?_; rintro e w5 ⟨k1, hk1, rfl, hw⟩; have hw2 := hw.symm; subst hw2; clear cW; have em : IntKind.i64.wrap ((n : Int) - (k1 : Int)) = (n : Int) - (k1 : Int) := IntWalk.i64_in _ ⟨by omega, by omega⟩; have em2 : IntKind.i64.wrap ((n : Int) - (k1 : Int) + 1) = (n : Int) - (k1 : Int) + 1 := IntWalk.i64_in _ ⟨by omega, by omega⟩; have cV := fun W => within_any bn ((n : Int) - (k1 : Int) + 1) (by omega) (by omega) W)
                | (go_at_call 12; refine (cV _).mono ?_; rintro e w6 ⟨k2, hk2, rfl, hw⟩; have hw2 := hw.symm; subst hw2; clear cV))
              go_meet
              exact ⟨(k1 : Int), (k2 : Int), (heap_set (heap_set HAX.out _) _).trans rfl, ((Kept.refl (fun q => q = ab) w4).setCell (p := ⟨ab, 0, none⟩) rfl _).setCell (p := ⟨ab, 1, none⟩) rfl _⟩
            · have f1 : (((k : Int) % 2) == 0) = false := by rw [beq_eq_false_iff_ne]; omega
              have f2 : ((k : Int).tmod 2 == 0) = false := by rw [beq_eq_false_iff_ne, Int.tmod_eq_emod_of_nonneg (by omega)]; omega
              go_wp2_with fail
              go_meet
              exact ⟨bi, bn, HAX.out, Kept.refl _ _⟩
          case rest =>
            obtain ⟨I, N, hax, hk5⟩ := hcut
            obtain ⟨w5, hw5⟩ : ∃ w5, w5 = wc := ⟨_, rfl⟩
            subst hw5
            have HAX5 := Lib.hid hax
            have hk05 : Kept (fun _ => False) wr w5 := HKA.out.fresh hk5 (fun q h1 h2 => by have := HABE.out; omega)
            have HR5 := Lib.hid (HR.out.kept hk05)
            have HS5 := Lib.hid (HS.out.kept hk05)
            have HAS5 := Lib.hid (HAS.out.kept hk05)
            have HBW5 : Hid (w.heap.size ≤ w5.heap.size) := HR5.out.kp.size
            have hbm : bm ≤ 100000 := by omega
            have HBL : Hid (byL bl ≤ 100000) := by show _ ≤ _; omega
            have HMAY : Hid (MayL L) := HR.out.may
            have j0 : w5.cell? ⟨ab, 0, none⟩ = some (.int .i64 I) := cell_of_row _ _ _ _ _ _ hax
            have j1 : w5.cell? ⟨ab, 1, none⟩ = some (.int .i64 N) := cell_of_row _ _ _ _ _ _ hax
            have j2 : w5.cell? ⟨ab, 2, none⟩ = some (.slice BA bm bc) := cell_of_row _ _ _ _ _ _ hax
            have cR := copystr_any BA bm bc bl w5 HAS5.out hbm
            clear hax hk5 hk05 HAX HKA HR4 HS4 HAS4 HAS HB
            go_upto_region 22 with (first
              | (go_at_call 6; refine cR.mono ?_; rintro e w6 ⟨⟨v9, rfl, hO9⟩, hk6⟩; obtain ⟨A9, c9, hv9, hs9, hc9, _⟩ := own_strs hO9 (by have := HBL.out; omega); have hv10 := hv9.symm; subst hv10; clear hv9; have HK6 := Lib.hid hk6; have HO9 := Lib.hid hO9; have h0 := cell_kept hk6 j0 id; have h1 := cell_kept hk6 j1 id; have HR6 := Lib.hid (HR5.out.kept hk6); clear cR hO9; obtain ⟨F, L', hcs, hsp⟩ := splice_all T L bl I N A9 bm c9 HMAY.out hbm HBL.out; have HCS := Lib.hid hcs; have cS := hsp w6 HR6.out.tree hs9 hc9 (HTT.out.kept HR6.out.kp id id); clear hcs hsp hs9 hc9 hk6)
              | (go_at_call 13; refine cS.mono ?_; rintro e w7 ⟨rfl, ht7, hk7⟩; have HR7 := Lib.hid (HR6.out.spliced ht7 hk7); have HK7 := Lib.hid hk7; have HT6 := Lib.hid HR6.out.tree.at_; clear cS ht7 hk7; have cM := num3_any F w7)
              | (go_at_call 9; refine cM.mono ?_; rintro e w8 ⟨rfl, hw⟩; have hw2 := hw.symm; subst hw2; clear cM))
            obtain ⟨tv, htv, _⟩ := HT6.out
            have HAX6 := Lib.hid ((HK6.out.block _ (heap_lt HAX5.out) id).trans HAX5.out)
            have habt : ab ≠ T := block_ne HAX6.out htv (by decide)
            have HAX7 := Lib.hid ((HK7.out.block _ (heap_lt HAX6.out) habt).trans HAX6.out)
            have HRW7 := Lib.hid (ownsRow_kept HO9.out HK7.out (fun g hg e => own_tree HO9.out htv g hg e))
            have HS7 : Hid (Strs w7 A8 n L) := (HS5.out.kept HK6.out).keptS HK7.out (fun a ha e => own_tree HR6.out.own htv a.block (by subst ha; rfl) e)
            have HASF : Hid (∀ W, Kept (fun _ => False) w7 W → Strs W BA bm bl) := fun W hk => HASW.out.kept (HR7.out.kp.trans hk)
            have HABF : Hid (∀ W, Kept (fun _ => False) w7 W → W.cell? ⟨ab, 0, none⟩ = some (.int .i64 I) ∧ W.cell? ⟨ab, 1, none⟩ = some (.int .i64 N) ∧ W.cell? ⟨ab, 2, none⟩ = some (.slice BA bm bc)) := fun W hk => ⟨cell_kept hk (cell_of_row _ _ _ _ _ _ HAX7.out) id, cell_kept hk (cell_of_row _ _ _ _ _ _ HAX7.out) id, cell_kept hk (cell_of_row _ _ _ _ _ _ HAX7.out) id⟩
            have HB57 : Hid (w5.heap.size ≤ w7.heap.size) := Nat.le_trans HK6.out.size HK7.out.size
            have HRWL : Hid (∀ q, (Value.slice A9 bm c9).ownBlock = some q → w5.heap.size ≤ q ∧ q < w7.heap.size) := fun q hq => by have h := HO9.out.lt q hq; have := HK7.out.size; omega
            have HLVL : Hid (∀ q, (Value.slice A8 n c8).ownBlock = some q → q < w5.heap.size) := fun q hq => (HR5.out.own.lt q hq).2
            clear htv habt j0 j1 j2 h0 h1 HAX5 HAX6 HAS5 HR5 HR6 HS5 HK6 HK7 HT6 HASW HO9
            go_upto_region 24 with fail
            obtain ⟨B, hB⟩ : ∃ B : Bool, B = true ↔ ¬ ((0 ≤ I ∧ I ≤ (n : Int)) ∧ 0 ≤ N ∧ N ≤ (n : Int) - I) := ⟨decide _, decide_eq_true_iff⟩
            have HBV := Lib.hid hB
            clear hB
            go_cut [134] from 117 to 134 (fun v wx => v = .bool B ∧ wx = w7)
            case first =>
              obtain ⟨x0, x1, _⟩ := HABF.out w7 (Kept.refl _ _)
              by_cases g1 : 0 ≤ I ∧ I ≤ (n : Int)
              · have cX := znum_t g1 w7
                have ew : IntKind.i64.wrap ((n : Int) - I) = (n : Int) - I := IntWalk.i64_in _ ⟨by omega, by omega⟩
                by_cases g2 : 0 ≤ N ∧ N ≤ (n : Int) - I
                · have cY := znum_t g2 w7
                  have hBf : B = false := by
                    cases B with
                    | false => rfl
                    | true => exact absurd ⟨g1, g2⟩ (HBV.out.1 rfl)
                  subst hBf
                  clear g1 g2
                  go_wp2_with (first
                    | (go_at_call 14; refine cX.mono ?_; rintro e wy ⟨rfl, hw⟩; have hw2 := hw.symm; subst hw2; clear cX)
                    | (go_at_call 14; refine cY.mono ?_; rintro e wy ⟨rfl, hw⟩; have hw2 := hw.symm; subst hw2; clear cY))
                  go_meet
                  exact ⟨rfl, rfl⟩
                · have cY := znum_f g2 w7
                  have hBt : B = true := HBV.out.2 (fun h => g2 h.2)
                  subst hBt
                  clear g1 g2
                  go_wp2_with (first
                    | (go_at_call 14; refine cX.mono ?_; rintro e wy ⟨rfl, hw⟩; have hw2 := hw.symm; subst hw2; clear cX)
                    | (go_at_call 14; refine cY.mono ?_; rintro e wy ⟨rfl, hw⟩; have hw2 := hw.symm; subst hw2; clear cY))
                  go_meet
                  exact ⟨rfl, rfl⟩
              · have cX := znum_f g1 w7
                have hBt : B = true := HBV.out.2 (fun h => g1 h.1)
                subst hBt
                clear g1
                go_wp2_with (go_at_call 14; refine cX.mono ?_; rintro e wy ⟨rfl, hw⟩; have hw2 := hw.symm; subst hw2; clear cX)
                go_meet
                exact ⟨rfl, rfl⟩
            case rest =>
              obtain ⟨hvb, hwc⟩ := hcut
              have hvb2 := hvb.symm
              subst hvb2
              have hwc2 := hwc.symm
              subst hwc2
              clear hvb hwc
              go_upto_if 134 with fail
              go_cut [11, 12] from 135 to 171 (fun v11 v12 wx => v11 = .int .i64 F ∧ (F = 0 → wx.ownsRow w7.heap.size 9 1 v12 L'.length (L'.map .string)) ∧ Kept (fun _ => False) w7 wx)
              case first =>
                -- the ways
                cases B with
                | true =>
                  have HF3 : Hid (F = 3) := by
                    rcases HCS.out.cs with ⟨h, _⟩ | ⟨i, m', rfl, rfl, hin, _⟩
                    · exact h
                    · exact absurd (by have := HLN.out; omega) (HBV.out.1 rfl)
                  go_wp2_with fail
                  go_meet
                  exact ⟨by rw [HF3.out], (fun h => by rw [HF3.out] at h; cases h), Kept.refl _ _⟩
                | false =>
                  obtain ⟨i, m', hI, hN, hin, hcase⟩ : ∃ i m' : Nat, I = i ∧ N = m' ∧ i + m' ≤ L.length ∧ ((F = 1 ∧ bl.all rowB = false ∧ L' = L) ∨ (F = 4 ∧ bl.all rowB = true ∧ ¬ MayL (spl L i m' bl) ∧ L' = L) ∨ (F = 0 ∧ bl.all rowB = true ∧ MayL (spl L i m' bl) ∧ L' = spl L i m' bl)) := by
                    rcases HCS.out.cs with ⟨_, h, _⟩ | h
                    · exact absurd (HBV.out.2 (by rw [← HLN.out]; exact h)) (by decide)
                    · exact h
                  subst hI hN
                  have HCASE := Lib.hid hcase
                  have HIN := Lib.hid hin
                  rw [HLN.out] at hin
                  clear hcase
                  go_upto_region 26 with fail
                  go_wp2_with fail
                  go_loopw [11, 13] (fun wv jv wz => ∃ (j : Nat) (V : Int), j ≤ bm ∧ jv = .int .i64 j ∧ wv = .int .i64 V ∧ WantR bl j V ∧ Kept (fun _ => False) w7 wz) (fun _ jv _ => bm - (intOf jv).toNat)
                  case atStart => exact ⟨0, 0, Nat.zero_le _, rfl, rfl, .inl ⟨rfl, rfl⟩, Kept.refl _ _⟩
                  case round =>
                    obtain ⟨j, V, hj, rfl, rfl, hV, hkz⟩ := hrel
                    have HV := Lib.hid hV
                    have HKZ := Lib.hid hkz
                    obtain ⟨x0, x1, x2⟩ := HABF.out wr hkz
                    clear hV hkz
                    by_cases hjb : j < bm
                    · obtain ⟨ad2, x, hBA, hx, f0, hxz⟩ := (HASF.out wr HKZ.out).cell hjb
                      subst hBA
                      have cRow := rrow_any x wr hxz (HTT.out.kept (HR7.out.kp.trans HKZ.out) id id)
                      have y1 : decide (j < bm) = true := decide_eq_true hjb
                      have y2 : decide ((j : Int) < (bm : Int)) = true := decide_eq_true (by omega)
                      have y3 : (0 : Int) ≤ (j : Int) := by omega
                      have y4 : (j : Int) < (bm : Int) := by omega
                      have HX := Lib.hid hx
                      clear hx hxz
                      cases hr : rowB x with
                      | false =>
                        rw [hr] at cRow
                        have HW : Hid (WantR bl (j + 1) 1) := HV.out.no HX.out hr
                        clear hr
                        go_wp2_with (go_at_call 15; refine cRow.mono ?_; rintro e wz ⟨rfl, hkk⟩; have HKY := Lib.hid (HKZ.out.trans hkk); clear cRow hkk)
                        go_roundw
                        case rel => exact ⟨j + 1, 1, by omega, by go_num, rfl, HW.out, HKY.out⟩
                        case measure => simp [intOf] <;> omega
                      | true =>
                        rw [hr] at cRow
                        have HW : Hid (WantR bl (j + 1) V) := HV.out.yes HX.out hr
                        clear hr
                        go_wp2_with (go_at_call 15; refine cRow.mono ?_; rintro e wz ⟨rfl, hkk⟩; have HKY := Lib.hid (HKZ.out.trans hkk); clear cRow hkk)
                        go_roundw
                        case rel => exact ⟨j + 1, V, by omega, by go_num, rfl, HW.out, HKY.out⟩
                        case measure => simp [intOf] <;> omega
                    · obtain rfl : j = bm := by omega
                      have y1 : decide (j < j) = false := decide_eq_false (by omega)
                      have y2 : decide ((j : Int) < (j : Int)) = false := decide_eq_false (by omega)
                      have e31 : IntKind.i64.wrap ((i : Int) + (m' : Int)) = (i : Int) + (m' : Int) := IntWalk.i64_in _ ⟨by omega, by omega⟩
                      have q31 := fun W => run_cut_h W A8 n c8 i (i : Int) rfl (by omega)
                      have q32 := fun W => run_cut_l W A8 n c8 (i + m') ((i : Int) + (m' : Int)) (by omega) (by omega) hc8
                      have HSZ := Lib.hid (HS7.out.kept HKZ.out)
                      obtain ⟨lk, hlk⟩ : ∃ lk, n - (i + m') = lk := ⟨_, rfl⟩
                      have HLK := Lib.hid hlk
                      obtain ⟨B1, hB1⟩ : ∃ B1, cutB A8 c8 0 = B1 := ⟨_, rfl⟩
                      obtain ⟨B2, hB2⟩ : ∃ B2, cutB A8 c8 (i + m') = B2 := ⟨_, rfl⟩
                      obtain ⟨c2, hc2⟩ : ∃ c2, c8 - (i + m') = c2 := ⟨_, rfl⟩
                      have HST := Lib.hid (HSZ.out.take (hi := i) (by omega) hc8)
                      have HSD := Lib.hid (HSZ.out.drop (lo := i + m') (by omega) hc8)
                      have hik : i + j + lk ≤ 1000000 := by omega
                      have hi1 : i ≤ 100000 := by omega
                      rw [hB1] at HST q31
                      rw [hB2, hlk] at HSD
                      rw [hB2, hlk, hc2] at q32
                      have HD : Hid (Kept (fun _ => False) wr wr.drew) := (Kept.refl _ wr).drew
                      have HABZ : Hid (∀ W, Kept (fun _ => False) wr W → W.cell? ⟨ab, 0, none⟩ = some (.int .i64 i) ∧ W.cell? ⟨ab, 1, none⟩ = some (.int .i64 m') ∧ W.cell? ⟨ab, 2, none⟩ = some (.slice BA j bc)) := fun W hk => HABF.out W (HKZ.out.trans hk)
                      have KA := HABZ.out wr.drew HD.out
                      have cC3 := copystr_any B1 i c8 (L.take i) wr.drew (HST.out.kept HD.out) hi1
                      clear hlk hB1 hB2 hc2
                      go_upto_region 31 with fail
                      have HAPP : Hid (∀ W, Kept (fun _ => False) wr W → Strs W BA j bl ∧ Strs W B2 lk (L.drop (i + m'))) := fun W hk => ⟨HASF.out W (HKZ.out.trans hk), HSD.out.kept hk⟩
                      go_region_held3 (fun (W : World) => W.cell? ⟨ab, 0, none⟩ = some (.int .i64 i) ∧ W.cell? ⟨ab, 1, none⟩ = some (.int .i64 m') ∧ W.cell? ⟨ab, 2, none⟩ = some (.slice BA j bc))
                        (first | with_reducible exact KD | with_reducible exact KC | with_reducible exact KB | with_reducible exact KA)
                        (first
                          | (go_at_call 6; refine cC3.mono ?_; rintro e wb ⟨⟨vb, rfl, hob⟩, hkb⟩; have HKB := Lib.hid (HD.out.trans hkb); have HOB := Lib.hid hob; have KB := HABZ.out wb HKB.out; have HBB : Hid (wr.drew.heap.size ≤ wb.heap.size) := hkb.size; clear cC3 hkb hob)
                          | (refine step_append_strs rfl (.tmp 153) (.tmp 155) rfl wr.drew.heap.size vb i ((L.take i).map .string) rfl HOB.out BA j bc bl rfl (HAPP.out wb HKB.out).1 (by omega) HBB.out ?_; intro vd wd hown hgrow; have HOD := Lib.hid hown; have HKD := Lib.hid (Kept.grew HKB.out hgrow (fun q hq => (HOB.out.lt q hq).1)); have KC := HABZ.out wd HKD.out; have HBD : Hid (wr.drew.heap.size ≤ wd.heap.size) := Nat.le_trans HBB.out hgrow.size; clear hown hgrow)
                          | (refine step_append_strs rfl (.tmp 156) (.tmp 163) rfl wr.drew.heap.size vd (i + j) ((L.take i).map .string ++ bl.map .string) rfl HOD.out B2 lk c2 (L.drop (i + m')) rfl (HAPP.out wd HKD.out).2 hik HBD.out ?_; intro ve we hown hgrow; have HOE := Lib.hid hown; have HKE := Lib.hid (Kept.grew HKD.out hgrow (fun q hq => (HOD.out.lt q hq).1)); have KD := HABZ.out we HKE.out; clear hown hgrow))
                      all_goals
                        have hblj : bl.length = j := (HASF.out wr HKZ.out).1
                        have hbt : bl.take j = bl := List.take_of_length_le (by omega)
                        have hsl := spl_len (l := bl) HIN.out
                        have hsb := spl_by (L := L) (l := bl) (i := i) (n := m')
                        have hs1 := byL_take_le L i
                        have hs2 := byL_split L (i + m')
                        have hs3 := HMAY.out.by_
                        have hs4 := HBL.out
                        have hse : i + j + lk = (spl L i m' bl).length := by have := HLN.out; have := HLK.out; omega
                        have hsm : ((L.take i).map Value.string ++ bl.map .string) ++ (L.drop (i + m')).map .string = (spl L i m' bl).map .string := by unfold spl; rw [List.map_append, List.map_append]
                        have hoz : we.ownsRow wr.drew.heap.size 9 1 ve (spl L i m' bl).length ((spl L i m' bl).map .string) := by rw [← hse, ← hsm]; exact HOE.out
                        have HNX : Hid (we.ownsRow w7.heap.size 9 1 ve (spl L i m' bl).length ((spl L i m' bl).map .string)) := hoz.mono HKZ.out.size
                        have HKW : Hid (Kept (fun _ => False) w7 we) := HKZ.out.trans HKE.out
                        obtain ⟨A12, c12, hu, hs12, hc12, _⟩ := own_strs hoz (by omega)
                        have hu2 := hu.symm
                        subst hu2
                        have hV := HV.out
                        unfold WantR at hV
                        rw [hbt] at hV
                        have cE := lmay_any A12 _ c12 (spl L i m' bl) we hs12 (by omega) (by omega) (HTT.out.kept (HR7.out.kp.trans HKW.out) id id)
                        clear hblj hbt hsl hsb hs1 hs2 hs3 hs4 hsm hoz hu hs12 hc12
                        rcases hV with ⟨hal, rfl⟩ | ⟨hal, rfl⟩
                        · rcases HCASE.out with ⟨_, h, _⟩ | ⟨hF, _, hm, _⟩ | ⟨hF, _, hm, hL'⟩
                          · rw [hal] at h; cases h
                          · subst hF
                            have HM := Lib.hid hm
                            clear hal hm HCASE
                            clear hse
                            go_wp2_with (go_at_call 8; refine cE.mono ?_; rintro e wf ⟨⟨E, rfl, hE⟩, hkf⟩; obtain rfl : E = false := (by cases E with | false => rfl | true => exact absurd (hE.1 rfl) HM.out); have HKF := Lib.hid (HKW.out.trans hkf); clear cE hkf hE)
                            go_meet
                            exact ⟨rfl, (fun h => by cases h), HKF.out⟩
                          · subst hF
                            have HM := Lib.hid hm
                            have HL' := Lib.hid hL'
                            clear hal hm hL' HCASE
                            clear hse
                            go_wp2_with (go_at_call 8; refine cE.mono ?_; rintro e wf ⟨⟨E, rfl, hE⟩, hkf⟩; obtain rfl : E = true := hE.2 HM.out; have HKF := Lib.hid (HKW.out.trans hkf); have HNF := Lib.hid (ownsRow_kept HNX.out hkf (fun _ _ h => h)); clear cE hkf hE)
                            go_meet
                            exact ⟨rfl, (fun _ => by rw [HL'.out]; exact HNF.out), HKF.out⟩
                        · rcases HCASE.out with ⟨hF, _, _⟩ | ⟨_, h, _⟩ | ⟨_, h, _⟩
                          · subst hF
                            clear hal HCASE cE hse
                            go_wp2_with fail
                            go_meet
                            exact ⟨rfl, (fun h => by cases h), HKW.out⟩
                          · rw [hal] at h; cases h
                          · rw [hal] at h; cases h
              case rest =>
                obtain ⟨h11, hnx, hk8⟩ := hcut
                have h12 := h11.symm
                subst h12
                obtain ⟨w8, hw8⟩ : ∃ w8, w8 = wc := ⟨_, rfl⟩
                subst hw8
                have HR8 := Lib.hid (HR7.out.kept hk8)
                have HRW8 := Lib.hid (ownsRow_kept HRW7.out hk8 (fun _ _ h => h))
                have HB58 : Hid (w5.heap.size ≤ w8.heap.size) := Nat.le_trans HB57.out hk8.size
                clear h11 hk8 HABF HASF HS7 HRW7 HAX7 HBV
                by_cases hF : F = 0
                · obtain ⟨hm2, hown2⟩ : MayL L' ∧ w8.ownsRow w7.heap.size 9 1 u12 L'.length (L'.map .string) := ⟨HCS.out.may HMAY.out, hnx hF⟩
                  obtain ⟨A12, c12, hu, hs12, hc12, _⟩ := own_strs hown2 (by have := hm2.by_; omega)
                  have hu2 := hu.symm
                  subst hu2
                  subst hF
                  have HRF : Hid (Rx w w8 pb T ⟨S, sn, sc, ss, some ad, ln, lc, acts⟩ (.slice A12 L'.length c12) L' L') := ⟨HR8.out.par, HR8.out.tree, hown2.mono HR7.out.kp.size, hm2, HR8.out.kp, HR8.out.tt⟩
                  have HNE : Hid (∀ q, (Value.slice A9 bm c9).ownBlock = some q → (Value.slice A12 L'.length c12).ownBlock ≠ some q) := fun q h1 h2 => by have g1 := (HRWL.out q h1).2; have g2 := (hown2.lt q h2).1; omega
                  have cO := holds_yes T A12 L'.length c12 L' w8 HRF.out.tree hs12 hm2.lo (by have := hm2.hi; omega) (by have := hm2.by_; omega)
                  clear hu hs12 hc12 hm2 hown2 hnx
                  go_wp2_with (first
                    | (go_at_call 11; refine cO.mono ?_; rintro e wa ⟨rfl, hka⟩; have HRA := Lib.hid (HRF.out.kept hka); have HRWA := Lib.hid (ownsRow_kept HRW8.out hka (fun _ _ h => h)); have hsz : w8.heap.size ≤ wa.heap.size := hka.size; clear cO hka; have cP := spoil_any w5.heap.size bm (.slice A9 bm c9) (bl.map .string) wa HRWA.out hbm (Nat.le_trans HB58.out hsz); clear hsz)
                    | (go_at_call 16; refine cP.mono ?_; rintro e wb ⟨⟨ub, rfl⟩, hkb⟩; have HRB := Lib.hid (HRA.out.spoilt HRWA.out HBW5.out HNE.out hkb); clear cP hkb; have cAL := all_any T L' wb HRB.out.tree (by have := HRB.out.may.hi; omega))
                    | (go_at_call 17; refine cAL.mono ?_; rintro e wd ⟨⟨vd, rfl, hod⟩, hkd⟩; have HRD := Lib.hid (HRB.out.kept hkd); have HOD := Lib.hid hod; have HBD : Hid (w.heap.size ≤ wb.heap.size) := HRB.out.kp.size; have HLB : Hid (∀ q, (Value.slice A12 L'.length c12).ownBlock = some q → q < wb.heap.size) := fun q hq => (HRB.out.own.lt q hq).2; have hsd : wb.heap.size ≤ wd.heap.size := hkd.size; clear cAL hkd hod; have cP2 := spoil_any wb.heap.size L'.length vd (L'.map .string) wd HOD.out (by have := HRD.out.may.hi; omega) hsd; clear hsd)
                    | (go_at_call 16; refine cP2.mono ?_; rintro e we ⟨⟨ue, rfl⟩, hke⟩; have HRE := Lib.hid (HRD.out.spoilt HOD.out HBD.out (fun q hq hl => by have h1 := HLB.out q hl; have h2 := (HOD.out.lt q hq).1; omega) hke); clear cP2 hke))
                  go_roundw
                  case rel => exact ⟨k + 1, L', by omega, by omega, by go_num, HRE.out⟩
                  case measure => simp [intOf] <;> omega
                · have hLL : L' = L := by
                    rcases HCS.out.cs with ⟨_, _, h⟩ | ⟨_, _, _, _, _, ⟨_, _, h⟩ | ⟨_, _, _, h⟩ | ⟨h, _⟩⟩
                    · exact h
                    · exact h
                    · exact h
                    · exact absurd h hF
                  subst hLL
                  have dF : (F == 0) = false := by rw [beq_eq_false_iff_ne]; exact hF
                  have HRF : Hid (Rx w w8 pb T ⟨S, sn, sc, ss, some ad, ln, lc, acts⟩ (.slice A8 n c8) L' L') := HR8.out
                  have HNE : Hid (∀ q, (Value.slice A9 bm c9).ownBlock = some q → (Value.slice A8 n c8).ownBlock ≠ some q) := fun q h1 h2 => by have g1 := (HRWL.out q h1).1; have g2 := HLVL.out q h2; omega
                  have cO := HHO.out w8 HRF.out
                  clear hnx hF
                  go_wp2_with (first
                    | (go_at_call 11; refine cO.mono ?_; rintro e wa ⟨rfl, hka⟩; have HRA := Lib.hid (HRF.out.kept hka); have HRWA := Lib.hid (ownsRow_kept HRW8.out hka (fun _ _ h => h)); have hsz : w8.heap.size ≤ wa.heap.size := hka.size; clear cO hka; have cP := spoil_any w5.heap.size bm (.slice A9 bm c9) (bl.map .string) wa HRWA.out hbm (Nat.le_trans HB58.out hsz); clear hsz)
                    | (go_at_call 16; refine cP.mono ?_; rintro e wb ⟨⟨ub, rfl⟩, hkb⟩; have HRB := Lib.hid (HRA.out.spoilt HRWA.out HBW5.out HNE.out hkb); clear cP hkb; have cAL := all_any T L' wb HRB.out.tree (by have := HRB.out.may.hi; omega))
                    | (go_at_call 17; refine cAL.mono ?_; rintro e wd ⟨⟨vd, rfl, hod⟩, hkd⟩; have HRD := Lib.hid (HRB.out.kept hkd); have HOD := Lib.hid hod; have HBD : Hid (w.heap.size ≤ wb.heap.size) := HRB.out.kp.size; have HLB : Hid (∀ q, (Value.slice A8 n c8).ownBlock = some q → q < wb.heap.size) := fun q hq => (HRB.out.own.lt q hq).2; have hsd : wb.heap.size ≤ wd.heap.size := hkd.size; clear cAL hkd hod; have cP2 := spoil_any wb.heap.size L'.length vd (L'.map .string) wd HOD.out (by have := HRD.out.may.hi; omega) hsd; clear hsd)
                    | (go_at_call 16; refine cP2.mono ?_; rintro e we ⟨⟨ue, rfl⟩, hke⟩; have HRE := Lib.hid (HRD.out.spoilt HOD.out HBD.out (fun q hq hl => by have h1 := HLB.out q hl; have h2 := (HOD.out.lt q hq).1; omega) hke); clear cP2 hke))
                  go_roundw
                  case rel => exact ⟨k + 1, L', by omega, by omega, by go_num, HRE.out⟩
                  case measure => simp [intOf] <;> omega
        · have b3 : decide (k < 20) = false := decide_eq_false hk2
          have b4 : decide ((k : Int) < 20) = false := decide_eq_false (by omega)
          have cR1 := row_no T L (-1) wr HR.out.tree (.inl (by decide))
          have e9 : IntKind.i64.wrap ((n : Int) + 1) = (n : Int) + 1 := IntWalk.i64_in _ ⟨by omega, by omega⟩
          clear hk hk20 hlo hhi hby hc8
          go_wp2_with (first
            | (go_at_call 18; refine cR1.mono ?_; rintro e w4 ⟨rfl, hk4⟩; have HK4 := Lib.hid hk4; clear cR1 hk4; have cR2 := row_no T L (n : Int) w4 (HR.out.kept HK4.out).tree (.inr (by rw [HLN.out]; exact Int.le_refl _)))
            | (go_at_call 18; refine cR2.mono ?_; rintro e w5 ⟨rfl, hk5⟩; have HK5 := Lib.hid (HK4.out.trans hk5); clear cR2 hk5; have cA := ahead_no T L ((n : Int) + 1) w5 (HR.out.kept HK5.out).tree (.inr (by rw [HLN.out]; omega)))
            | (go_at_call 19; refine cA.mono ?_; rintro e w6 ⟨rfl, hk6⟩; have HK6 := Lib.hid (HK5.out.trans hk6); clear cA hk6; have cN1 := num3_any 3 w6)
            | (go_at_call 9; refine cN1.mono ?_; rintro e w7 ⟨rfl, hw⟩; have hw2 := hw.symm; subst hw2; clear cN1; have cN2 := num3_any 3 w6)
            | (go_at_call 9; refine cN2.mono ?_; rintro e w7 ⟨rfl, hw⟩; have hw2 := hw.symm; subst hw2; clear cN2; have cN3 := num3_any 3 w6)
            | (go_at_call 9; refine cN3.mono ?_; rintro e w7 ⟨rfl, hw⟩; have hw2 := hw.symm; subst hw2; clear cN3; have cO := HHO.out w6 (HR.out.kept HK6.out))
            | (go_at_call 11; refine cO.mono ?_; rintro e w8 ⟨rfl, hk8⟩; have HK8 := Lib.hid (HK6.out.trans hk8); clear cO hk8; have cW := wakes3_any w8 (HTT.out.kept (HR.out.kp.trans HK8.out) id id))
            | (go_at_call 20; refine cW.mono ?_; rintro e w9 ⟨rfl, hk9⟩; have HK9 := Lib.hid (HK8.out.trans hk9); clear cW hk9))
          go_ret
          exact ⟨rfl, HR.out.kp.trans HK9.out⟩
      · have b1 : decide (k < ln) = false := decide_eq_false hkl
        have b2 : decide ((k : Int) < (ln : Int)) = false := decide_eq_false (by omega)
        have cR1 := row_no T L (-1) wr HR.out.tree (.inl (by decide))
        have e9 : IntKind.i64.wrap ((n : Int) + 1) = (n : Int) + 1 := IntWalk.i64_in _ ⟨by omega, by omega⟩
        clear hk hk20 hlo hhi hby hc8
        go_wp2_with (first
          | (go_at_call 18; refine cR1.mono ?_; rintro e w4 ⟨rfl, hk4⟩; have HK4 := Lib.hid hk4; clear cR1 hk4; have cR2 := row_no T L (n : Int) w4 (HR.out.kept HK4.out).tree (.inr (by rw [HLN.out]; exact Int.le_refl _)))
          | (go_at_call 18; refine cR2.mono ?_; rintro e w5 ⟨rfl, hk5⟩; have HK5 := Lib.hid (HK4.out.trans hk5); clear cR2 hk5; have cA := ahead_no T L ((n : Int) + 1) w5 (HR.out.kept HK5.out).tree (.inr (by rw [HLN.out]; omega)))
          | (go_at_call 19; refine cA.mono ?_; rintro e w6 ⟨rfl, hk6⟩; have HK6 := Lib.hid (HK5.out.trans hk6); clear cA hk6; have cN1 := num3_any 3 w6)
          | (go_at_call 9; refine cN1.mono ?_; rintro e w7 ⟨rfl, hw⟩; have hw2 := hw.symm; subst hw2; clear cN1; have cN2 := num3_any 3 w6)
          | (go_at_call 9; refine cN2.mono ?_; rintro e w7 ⟨rfl, hw⟩; have hw2 := hw.symm; subst hw2; clear cN2; have cN3 := num3_any 3 w6)
          | (go_at_call 9; refine cN3.mono ?_; rintro e w7 ⟨rfl, hw⟩; have hw2 := hw.symm; subst hw2; clear cN3; have cO := HHO.out w6 (HR.out.kept HK6.out))
          | (go_at_call 11; refine cO.mono ?_; rintro e w8 ⟨rfl, hk8⟩; have HK8 := Lib.hid (HK6.out.trans hk8); clear cO hk8; have cW := wakes3_any w8 (HTT.out.kept (HR.out.kp.trans HK8.out) id id))
          | (go_at_call 20; refine cW.mono ?_; rintro e w9 ⟨rfl, hk9⟩; have HK9 := Lib.hid (HK8.out.trans hk9); clear cW hk9))
        go_ret
        exact ⟨rfl, HR.out.kp.trans HK9.out⟩
end Go.Proofs.YtdgbaeliabaneaaDoor
