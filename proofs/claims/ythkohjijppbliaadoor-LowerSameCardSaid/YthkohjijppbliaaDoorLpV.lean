/-
  LOWER: how much an ask weighs.
-/
import Derived.Test.YthkohjijppbliaaDoorLpU
import Derived.Test.YthkohjijppbliaaDoorLpT
set_option linter.unusedVariables false
namespace Go.Proofs.YthkohjijppbliaaDoor
open Go Go.RowKit

theorem texts_none (w : World) : Calls Tryd.prog 103 #[.slice none 0 0] w fun e w' => e = .returned (.int .i64 0) ∧ w' = w := by
  go_enter Tryd.func103, Tryd.ntmps103
  go_wp2
  go_loop [3, 4] (fun m i => m = .int .i64 0 ∧ i = .int .i64 0) (fun _ _ => 0)
  case atStart => exact ⟨rfl, rfl⟩
  case round =>
    obtain ⟨rfl, rfl⟩ := hrel
    go_wp2
    go_ret
    exact ⟨rfl, rfl⟩
theorem heavy_none (w : World) : Calls Tryd.prog 73 #[.agg #[.slice none 0 0, .int .i64 0, .int .i64 0, .int .i64 0, .int .i64 0]] w fun e w' => e = .returned (.bool false) ∧ Kept (fun _ => False) w w' := by
  have cT := texts_none (w.alloc (.cells #[.slice none 0 0, .int .i64 0, .int .i64 0, .int .i64 0, .int .i64 0] 87))
  go_enter Tryd.func73, Tryd.ntmps73
  go_wp2_with (go_at_call 103; refine cT.mono ?_; rintro e w' ⟨rfl, rfl⟩)
  go_ret
  exact ⟨rfl, (Kept.refl _ w).alloc _⟩
def HvQ (ps : List PatS) (e : Ending) : Prop := ∃ b : Bool, e = .returned (.bool b) ∧ (b = false → ∀ b ∈ ps, b.s.size ≤ 6000)
set_option maxRecDepth 100000 in
set_option maxHeartbeats 1000000 in
theorem heavy4_pats (B : Option Addr) (m e : Nat) (ps : List PatS) (w : World) (h : Pats w B m ps) (hm : m ≤ 140737488351232) :
    Calls Tryd.prog 45 #[.agg #[.slice none 0 0, .int .i64 0, .int .i64 0, .int .i64 0, .int .i64 0, .slice B m e, .int .i64 0]] w fun e w' => HvQ ps e ∧ Kept (fun _ => False) w w' := by
  have hK0 : Hid (Kept (fun _ => False) w (w.alloc (.cells #[.slice none 0 0, .int .i64 0, .int .i64 0, .int .i64 0, .int .i64 0, .slice B m e, .int .i64 0] 89))) := (Kept.refl _ w).alloc _
  have hP0 : Hid ((w.alloc (.cells #[.slice none 0 0, .int .i64 0, .int .i64 0, .int .i64 0, .int .i64 0, .slice B m e, .int .i64 0] 89)).heap[w.heap.size]? = some (.cells #[.slice none 0 0, .int .i64 0, .int .i64 0, .int .i64 0, .int .i64 0, .slice B m e, .int .i64 0] 89 (0, 0))) := heap_alloc_new w _
  have hA0 : Hid (Pats (w.alloc (.cells #[.slice none 0 0, .int .i64 0, .int .i64 0, .int .i64 0, .int .i64 0, .slice B m e, .int .i64 0] 89)) B m ps) := h.kept hK0.out
  have HCT := Lib.hid (heavy_none (w.alloc (.cells #[.slice none 0 0, .int .i64 0, .int .i64 0, .int .i64 0, .int .i64 0, .slice B m e, .int .i64 0] 89)))
  clear h
  go_enter Tryd.func45, Tryd.ntmps45
  go_wp2_with fail
  generalize hpb : w.heap.size = pb at hP0 ⊢
  clear hpb
  generalize w.alloc (.cells #[.slice none 0 0, .int .i64 0, .int .i64 0, .int .i64 0, .int .i64 0, .slice B m e, .int .i64 0] 89) = wa at *
  have p0 : wa.cell? ⟨pb, 0, none⟩ = some (.slice none 0 0) := cell_of_row _ _ _ _ _ _ hP0.out
  have p1 : wa.cell? ⟨pb, 1, none⟩ = some (.int .i64 0) := cell_of_row _ _ _ _ _ _ hP0.out
  have p2 : wa.cell? ⟨pb, 2, none⟩ = some (.int .i64 0) := cell_of_row _ _ _ _ _ _ hP0.out
  have p3 : wa.cell? ⟨pb, 3, none⟩ = some (.int .i64 0) := cell_of_row _ _ _ _ _ _ hP0.out
  have p4 : wa.cell? ⟨pb, 4, none⟩ = some (.int .i64 0) := cell_of_row _ _ _ _ _ _ hP0.out
  have p5 : wa.cell? ⟨pb, 5, none⟩ = some (.slice B m e) := cell_of_row _ _ _ _ _ _ hP0.out
  go_loop [3, 4] (fun v i => ∃ (k : Nat) (q : Int), k ≤ m ∧ i = .int .i64 k ∧ v = .int .i64 q ∧ 0 ≤ q ∧ q ≤ 300000000000000 ∧ ∀ j b, j < k → ps[j]? = some b → (b.s.size : Int) ≤ q) (fun _ i => m - (intOf i).toNat)
  case atStart => exact ⟨0, m, Nat.zero_le _, rfl, rfl, by omega, by omega, fun j s hj => by omega⟩
  case round =>
    obtain ⟨k, q, hk, rfl, rfl, h1, h2, h3⟩ := hrel
    have H3 := Lib.hid h3
    clear h3
    by_cases hlt : k < m
    · by_cases hq : q < 1048576
      · obtain ⟨ad, b, rfl, hs, c0, c1, c2, _, _, hsz⟩ := hA0.out.at_ hlt
        have HS := Lib.hid hs
        clear hs c0 c1
        have bq : decide (q < 1048576) = true := by simp; omega
        go_wp2
        go_round
        case rel => exact ⟨k + 1, q + b.s.size, by omega, by go_num, by go_num, by omega, by omega, fun j b' hj hb => by
          by_cases hjk : j < k
          · have := H3.out j b' hjk hb
            omega
          · obtain rfl : j = k := by omega
            rw [HS.out] at hb
            injection hb with hb
            subst hb
            omega⟩
        case measure => simp [intOf]; omega
      · have bq : decide (q < 1048576) = false := by simp; omega
        have bq2 : ¬ q < 1048576 := hq
        have b6 : decide (6000 < q) = true := by simp; omega
        go_wp2
        go_ret
        exact ⟨⟨true, rfl, fun h => by cases h⟩, hK0.out⟩
    · obtain rfl : k = m := by omega
      have hall : Hid (q ≤ 6000 → ∀ b ∈ ps, b.s.size ≤ 6000) := fun h b hb => by
        obtain ⟨j, hj, rfl⟩ := List.getElem_of_mem hb
        have := H3.out j _ (by have := hA0.out.1; omega) (List.getElem?_eq_getElem hj)
        omega
      by_cases hq6 : 6000 < q
      · have b6 : decide (6000 < q) = true := by simp; omega
        go_wp2
        go_ret
        exact ⟨⟨true, rfl, fun h => by cases h⟩, hK0.out⟩
      · have b6 : decide (6000 < q) = false := by simp; omega
        have hq7 := hall.out (by omega)
        have HQ7 := Lib.hid hq7
        clear hq7
        go_wp2_with (go_at_call 73; refine HCT.out.mono ?_; rintro e w' ⟨rfl, hk⟩; have HK := Lib.hid hk; clear hk)
        go_ret
        exact ⟨⟨_, rfl, fun _ => HQ7.out⟩, hK0.out.trans HK.out⟩
def SwOk (x : SiteS) (e : Ending) : Prop := ∃ q : Int, e = .returned (.int .i64 q) ∧ ((x.L.length + x.sn + x.wn + x.ln : Nat) : Int) ≤ q ∧ q ≤ 700000000000000
set_option maxRecDepth 100000 in
set_option maxHeartbeats 4000000 in
theorem siteweight_any (x : SiteS) (w : World) (hx : SiteOk w x) :
    Calls Tryd.prog 44 #[x.V] w fun e w' => SwOk x e ∧ Kept (fun _ => False) w w' := by
  have hK0 : Hid (Kept (fun _ => False) w (w.alloc x.O)) := (Kept.refl _ w).alloc _
  have hP0 : Hid ((w.alloc x.O).heap[w.heap.size]? = some x.O) := heap_alloc_new w _
  have HX := Lib.hid hx
  clear hx
  obtain ⟨st, ck, dv, L, sA, sn, sc, seen, wA, wn, wc, wl, lA, ln, lc, ll⟩ := x
  obtain ⟨A, c, hdv, _⟩ := HX.out.doc.open'
  simp only at hdv
  subst hdv
  simp only [SiteS.V, SiteS.O, SiteS.cs] at *
  obtain ⟨N, hN⟩ : ∃ N, L.length = N := ⟨_, rfl⟩
  have n1 : N ≤ 140737488351232 := hN ▸ HX.out.n1
  have n2 : sn ≤ 17592186044416 := HX.out.n2
  unfold SwOk
  simp only [hN] at hK0 hP0 HX ⊢
  clear hN
  go_enter Tryd.func44, Tryd.ntmps44
  go_upto_region 1 with fail
  generalize hpb : w.heap.size = pb at hP0 ⊢
  clear hpb
  generalize w.alloc _ = wa at *
  have HK := Lib.hid hK0.out.drew
  have HO := heap_drew hP0.out
  have HB : Hid (SiteOk wa.drew ⟨st, ck, .slice A N c, L, sA, sn, sc, seen, wA, wn, wc, wl, lA, ln, lc, ll⟩) := HX.out.kept HK.out
  have KA := site_cells (x := ⟨st, ck, .slice A N c, L, sA, sn, sc, seen, wA, wn, wc, wl, lA, ln, lc, ll⟩) HO
  clear HO
  simp only at KA
  have c1 := opsweight_any wA wn wc wl wa.drew HB.out.wait HB.out.n3
  have c2 := opsweight_any lA ln lc ll wa.drew HB.out.log HB.out.n4
  go_region_held3 (fun (V : World) => V.cell? ⟨pb, 0, none⟩ = some (.int .i64 st) ∧ V.cell? ⟨pb, 1, none⟩ = some (.int .i64 ck) ∧ V.cell? ⟨pb, 2, none⟩ = some (.slice A N c) ∧ V.cell? ⟨pb, 3, none⟩ = some (.slice sA sn sc) ∧ V.cell? ⟨pb, 4, none⟩ = some (.slice wA wn wc) ∧ V.cell? ⟨pb, 5, none⟩ = some (.slice lA ln lc))
    (first | with_reducible exact KA | fail)
    (first
      | (go_at_call 27; refine c1.mono ?_; clear c1; rintro ee w4 ⟨⟨q1, rfl, g1, g2⟩, hw⟩; subst hw)
      | (go_at_call 27; refine c2.mono ?_; clear c2; rintro ee w5 ⟨⟨q2, rfl, g3, g4⟩, hw⟩; subst hw))
  all_goals
    go_wp2_with fail
    go_ret
    exact ⟨⟨(N : Int) + (sn : Int) + q1 + q2, by rw [IntWalk.i64_in ((N : Int) + (sn : Int)) ⟨by omega, by omega⟩, IntWalk.i64_in (_ + q1) ⟨by omega, by omega⟩, IntWalk.i64_in (_ + q2) ⟨by omega, by omega⟩]; rfl, by omega, by omega⟩, HK.out⟩
/-- What Heavy tells. -/
def HvL (p : AskL) (e : Ending) : Prop := ∃ b : Bool, e = .returned (.bool b) ∧ (b = false → p.x.L.length + p.x.sn + p.x.wn + p.x.ln ≤ 2500 ∧ p.on ≤ 1000 ∧ ∀ b ∈ p.ps, b.s.size ≤ 6000)
set_option maxRecDepth 100000 in
set_option maxHeartbeats 4000000 in
theorem heavy27_any (p : AskL) (w : World) (h : AskLOk w p) :
    Calls Tryd.prog 16 #[.agg p.cells] w fun e w' => HvL p e ∧ Kept (fun _ => False) w w' := by
  have hK0 : Hid (Kept (fun _ => False) w (w.alloc (.cells p.cells 49))) := (Kept.refl _ w).alloc _
  have hP0 : Hid ((w.alloc (.cells p.cells 49)).heap[w.heap.size]? = some (.cells p.cells 49 (0, 0))) := heap_alloc_new w _
  have hA0 : Hid (AskLOk (w.alloc (.cells p.cells 49)) p) := h.kept hK0.out
  clear h
  obtain ⟨x, B, m, e, ps, O, on, oc, os⟩ := p
  obtain ⟨NX, hNX⟩ : ∃ NX, x.L.length + x.sn + x.wn + x.ln = NX := ⟨_, rfl⟩
  have cS := siteweight_any x _ hA0.out.x
  have cO := fun W (hk : Kept (fun _ => False) _ W) => opsweight_any O on oc os W (hA0.out.kept hk).os hA0.out.on
  have cP := fun W (hk : Kept (fun _ => False) _ W) => heavy4_pats B m e ps W (hA0.out.kept hk).ps hA0.out.m
  unfold SwOk at cS
  unfold HvL
  simp only [hNX] at cS ⊢
  clear hA0
  obtain ⟨st, ck, dv, L, sA, sn, sc, seen, wA, wn, wc, wl, lA, ln, lc, ll⟩ := x
  simp only [SiteS.V, SiteS.cs] at cS
  unfold AskL.cells at *
  simp only at *
  clear hNX
  go_enter Tryd.func16, Tryd.ntmps16
  go_upto_region 1 with fail
  generalize hpb : w.heap.size = pb at hP0 ⊢
  clear hpb
  generalize w.alloc _ = wa at *
  have p0 : wa.cell? ⟨pb, 0, none⟩ = some (.int .i64 st) := cell_of_row _ _ _ _ _ _ hP0.out
  have p1 : wa.cell? ⟨pb, 1, none⟩ = some (.int .i64 ck) := cell_of_row _ _ _ _ _ _ hP0.out
  have p2 : wa.cell? ⟨pb, 2, none⟩ = some dv := cell_of_row _ _ _ _ _ _ hP0.out
  have p3 : wa.cell? ⟨pb, 3, none⟩ = some (.slice sA sn sc) := cell_of_row _ _ _ _ _ _ hP0.out
  have p4 : wa.cell? ⟨pb, 4, none⟩ = some (.slice wA wn wc) := cell_of_row _ _ _ _ _ _ hP0.out
  have p5 : wa.cell? ⟨pb, 5, none⟩ = some (.slice lA ln lc) := cell_of_row _ _ _ _ _ _ hP0.out
  go_wp2_with fail
  refine cS.mono ?_
  clear cS
  rintro ee w1 ⟨⟨q, rfl, hq1, hq2⟩, hk1⟩
  have HK1 := Lib.hid hk1
  have HKW := Lib.hid (hK0.out.trans hk1)
  have HP1 := Lib.hid ((hk1.block _ (heap_lt hP0.out) id).trans hP0.out)
  have c1 := cO w1 hk1
  have c2 := cP w1 hk1
  clear hk1 p0 p1 p2 p3 p4 p5 cO cP
  have r6 : w1.cell? ⟨pb, 6, none⟩ = some (.slice B m e) := cell_of_row _ _ _ _ _ _ HP1.out
  have r7 : w1.cell? ⟨pb, 7, none⟩ = some (.slice O on oc) := cell_of_row _ _ _ _ _ _ HP1.out
  rcases decI (2500 < q) with ⟨h3, b3⟩ | ⟨h3, b3⟩
  · go_wp2_with fail
    go_ret
    exact ⟨⟨true, rfl, fun h => by cases h⟩, HKW.out⟩
  · go_wp2_with fail
    refine c1.mono ?_
    clear c1
    rintro ee w2 ⟨⟨q2, rfl, hq3, hq4⟩, hw⟩
    subst hw
    rcases decI (1000 < q2) with ⟨h4, b4⟩ | ⟨h4, b4⟩
    · go_wp2_with fail
      go_ret
      exact ⟨⟨true, rfl, fun h => by cases h⟩, HKW.out⟩
    · go_wp2_with fail
      refine c2.mono ?_
      clear c2
      rintro ee w3 ⟨⟨b, rfl, hb⟩, hk3⟩
      have HB := Lib.hid hb
      have HKX := Lib.hid (HKW.out.trans hk3)
      clear hb hk3
      go_wp2_with fail
      go_ret
      exact ⟨⟨b, rfl, fun h => ⟨by omega, by omega, HB.out h⟩⟩, HKX.out⟩
end Go.Proofs.YthkohjijppbliaaDoor
