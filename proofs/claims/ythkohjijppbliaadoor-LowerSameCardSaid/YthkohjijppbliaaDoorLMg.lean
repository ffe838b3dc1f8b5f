/-
  LOWER: Down.
  LOWER: Down, where there is no room.
-/
import Derived.Test.YthkohjijppbliaaDoorLpK
import Derived.Deep.RegionHeld3
import Derived.Deep.CutRange
set_option linter.unusedVariables false
namespace Go.Proofs.YthkohjijppbliaaDoor
open Go Go.RowKit

theorem results_tct {fn : Func} {s p u : Tmp} {ty : TypeId} (h : fn.results = #[.tmp s, .cell p ty, .tmp u]) (tmps : Array Value) (P : Program) (w : World) :
    (results fn tmps).run P w =
      ((asAddr (tmps.getD p undef)).run P w).andThen fun a w₁ => ((loadVar ty a).run P w₁).andThen fun v w₂ => .ok (.tuple #[tmps.getD s undef, v, tmps.getD u undef]) w₂ := by
  simp only [results, h]
  simp [Sem.run_bind, Result.andThen]
theorem res_tst {fn : Func} {s p u : Tmp} (h : fn.results = #[.tmp s, .cell p 46, .tmp u]) (tmps : Array Value) (w : World) (g : Nat) (a0 a1 a2 a3 a4 a5 v z : Value) (fr : Nat × Nat) (hp : tmps.getD p undef = .pointer (some ⟨g, 0, none⟩)) (hv : tmps.getD s undef = v) (hz : tmps.getD u undef = z)
    (hg : w.heap[g]? = some (.cells #[a0, a1, a2, a3, a4, a5] 46 fr)) :
    (results fn tmps).run Tryd.prog w = .ok (.tuple #[v, .agg #[a0, a1, a2, a3, a4, a5], z]) w := by
  rw [results_tct h, hp, hv, hz]
  simp [asAddr, Result.andThen, run_loadVar_row w g 46 46 #[a0, a1, a2, a3, a4, a5] fr _ hg Tryd.underlying46 rfl (by kernel_rfl)]
abbrev zSite : Array Value := #[.int .i64 0, .int .i64 0, .slice none 0 0, .slice none 0 0, .slice none 0 0, .slice none 0 0]
/-- What Down begins with: three variables. -/
structure DnS (w W : World) (x : SiteS) (a d : Int) (PX : ByteArray) : Prop where
  x : W.heap[w.heap.size]? = some x.O
  p : W.heap[w.heap.size + 1]? = some (patO a d PX)
  z : W.heap[w.heap.size + 2]? = some (.cells zSite 46)
  k : Kept (fun _ => False) w W
theorem dns_new (w : World) (x : SiteS) (a d : Int) (PX : ByteArray) : DnS w (((w.alloc x.O).alloc (patO a d PX)).alloc (.cells zSite 46)) x a d PX := by
  have s1 : (w.alloc x.O).heap.size = w.heap.size + 1 := by simp
  have s2 : ((w.alloc x.O).alloc (patO a d PX)).heap.size = w.heap.size + 2 := by simp
  refine ⟨?_, ?_, ?_, (((Kept.refl _ w).alloc _).alloc _).alloc _⟩
  · exact (heap_alloc_old _ _ (by omega)).trans ((heap_alloc_old _ _ (by omega)).trans (heap_alloc_new w _))
  · have h := heap_alloc_new (w.alloc x.O) (patO a d PX)
    rw [s1] at h
    exact (heap_alloc_old _ _ (by omega)).trans h
  · have h := heap_alloc_new ((w.alloc x.O).alloc (patO a d PX)) (.cells zSite 46)
    rw [s2] at h
    exact h
theorem DnS.keep {w W W' : World} {x : SiteS} {a d : Int} {PX : ByteArray} (h : DnS w W x a d PX) (hk : Kept (fun _ => False) W W') : DnS w W' x a d PX :=
  ⟨(hk.block _ (heap_lt h.x) id).trans h.x, (hk.block _ (heap_lt h.p) id).trans h.p, (hk.block _ (heap_lt h.z) id).trans h.z, h.k.trans hk⟩
set_option maxRecDepth 100000 in
set_option maxHeartbeats 8000000 in
theorem down_form (x : SiteS) (a d : Int) (PX : ByteArray) (w : World) (hx : SiteOk w x) (hT : Tabs w) (hP : PX.size ≤ 100000) (ha : I64 a) (hd : I64 d) (hno : ¬ (SOk x.P ∧ POk (runesBytes (txL x.L)) PX a d)) :
    Calls Tryd.prog 22 #[x.V, patV a d PX] w fun e w' => e = .returned (.tuple #[.slice none 0 0, .agg zSite, .int .i64 1]) ∧ Kept (fun _ => False) w w' := by
  have HS := Lib.hid (dns_new w x a d PX)
  have HX := Lib.hid hx
  have HT := Lib.hid hT
  have cC := fun W (hk : Kept (fun _ => False) w W) => lcheck_any x W (hx.kept hk) (hT.kept hk id id)
  have cM := fun (hels : elsOk x.L) W (hk : Kept (fun _ => False) w W) => maypatch_any x.L x.dv a d PX W (hx.doc.kept hk) hels (hT.kept hk id id) hP ha hd
  have HNO := Lib.hid hno
  clear hx hT hP ha hd hno
  obtain ⟨st, ck, dv, L, sA, sn, sc, seen, wA, wn, wc, wl, lA, ln, lc, ll⟩ := x
  simp only [SiteS.V, SiteS.O, SiteS.cs] at *
  obtain ⟨A, c, hdv, _⟩ := HX.out.doc.open'
  simp only at hdv
  subst hdv
  obtain ⟨N, hN⟩ : ∃ N, L.length = N := ⟨_, rfl⟩
  simp only [hN] at *
  clear hN
  by_cases hok : SOk (SiteS.P ⟨st, ck, .slice A N c, L, sA, sn, sc, seen, wA, wn, wc, wl, lA, ln, lc, ll⟩)
  · have hnp : Hid (¬ POk (runesBytes (txL L)) PX a d) := fun h => HNO.out ⟨hok, h⟩
    have cM := cM hok.els
    simp only [if_pos hok] at cC
    clear hok
    go_enter Tryd.func22, Tryd.ntmps22
    go_upto_region 1 with fail
    simp only [patO, zSite] at HS
    generalize ((w.alloc _).alloc _).alloc _ = W at *
    obtain ⟨g, hg⟩ : ∃ g, w.heap.size = g := ⟨_, rfl⟩
    obtain ⟨p0, p1, p2, p3, p4, p5⟩ := site_cells (x := ⟨st, ck, .slice A N c, L, sA, sn, sc, seen, wA, wn, wc, wl, lA, ln, lc, ll⟩) HS.out.x
    obtain ⟨r0, r1, r2⟩ := pat_cells HS.out.p
    simp only [hg] at p0 p1 p2 p3 p4 p5 r0 r1 r2 ⊢
    go_upto_region 2 with (first
      | (go_at_call 46; refine (cC _ HS.out.k).mono ?_; clear cC; rintro ee w2 ⟨rfl, hk2⟩; have HS2 := Lib.hid (HS.out.keep hk2); clear hk2 p0 p1 p2 p3 p4 p5 r0 r1 r2; obtain ⟨p0, p1, p2, p3, p4, p5⟩ := site_cells (x := ⟨st, ck, .slice A N c, L, sA, sn, sc, seen, wA, wn, wc, wl, lA, ln, lc, ll⟩) HS2.out.x; obtain ⟨r0, r1, r2⟩ := pat_cells HS2.out.p; simp only [hg] at p0 p1 p2 p3 p4 p5 r0 r1 r2)
      | (go_at_call 47; refine (cM _ HS2.out.k).mono ?_; clear cM; rintro ee w3 ⟨⟨R, rfl, hR⟩, hk3⟩; have hRf : R = false := (by cases R with | false => rfl | true => exact absurd (hR.1 rfl) hnp.out); subst hRf; have HS3 := Lib.hid (HS2.out.keep hk3); clear hk3 hR p0 p1 p2 p3 p4 p5 r0 r1 r2))
    obtain ⟨⟨x0, x1, x2, x3, x4, x5⟩, y0, y1, y2, y3, y4, y5⟩ := six_facts HS3.out.z
    simp only [hg] at x0 x1 x2 x3 x4 x5 y0 y1 y2 y3 y4 y5
    go_wp2_with fail
    refine bodyPost_ret (res_tst rfl _ _ (g + 2) _ _ _ _ _ _ _ _ (0, 0) rfl rfl rfl (six_set (by rw [← hg]; exact HS3.out.z) _ _ _ _ _ _)) rfl ⟨rfl, HS3.out.k.fresh (Kept.six (Kept.refl (fun q => q = g + 2) w3) rfl _ _ _ _ _ _) (fun q hq e => by have e : q = g + 2 := e; omega)⟩
  · simp only [if_neg hok] at cC
    clear hok cM
    go_enter Tryd.func22, Tryd.ntmps22
    go_upto_region 1 with fail
    simp only [patO, zSite] at HS
    generalize ((w.alloc _).alloc _).alloc _ = W at *
    obtain ⟨g, hg⟩ : ∃ g, w.heap.size = g := ⟨_, rfl⟩
    obtain ⟨p0, p1, p2, p3, p4, p5⟩ := site_cells (x := ⟨st, ck, .slice A N c, L, sA, sn, sc, seen, wA, wn, wc, wl, lA, ln, lc, ll⟩) HS.out.x
    simp only [hg] at p0 p1 p2 p3 p4 p5 ⊢
    go_upto_region 2 with (go_at_call 46; refine (cC _ HS.out.k).mono ?_; clear cC; rintro ee w2 ⟨rfl, hk2⟩; have HS3 := Lib.hid (HS.out.keep hk2); clear hk2 p0 p1 p2 p3 p4 p5)
    obtain ⟨⟨x0, x1, x2, x3, x4, x5⟩, y0, y1, y2, y3, y4, y5⟩ := six_facts HS3.out.z
    simp only [hg] at x0 x1 x2 x3 x4 x5 y0 y1 y2 y3 y4 y5
    go_wp2_with fail
    refine bodyPost_ret (res_tst rfl _ _ (g + 2) _ _ _ _ _ _ _ _ (0, 0) rfl rfl rfl (six_set (by rw [← hg]; exact HS3.out.z) _ _ _ _ _ _)) rfl ⟨rfl, HS3.out.k.fresh (Kept.six (Kept.refl (fun q => q = g + 2) w2) rfl _ _ _ _ _ _) (fun q hq e => by have e : q = g + 2 := e; omega)⟩
end Go.Proofs.YthkohjijppbliaaDoor
namespace Go.Proofs.YthkohjijppbliaaDoor
open Go Go.RowKit

set_option maxRecDepth 100000 in
set_option maxHeartbeats 8000000 in
theorem down_full (x : SiteS) (a d : Nat) (R : List Int) (w : World) (hx : SiteOk w x) (hT : Tabs w) (hP : (runesBytes R).size ≤ 100000) (hR : Vld R) (hml : R.length ≤ 100000) (ha : a ≤ 100000) (hd : d ≤ 100000) (hok : SOk x.P) (hp : POk (runesBytes (txL x.L)) (runesBytes R) a d) (hroom : ¬ Room x.P d R.length) :
    Calls Tryd.prog 22 #[x.V, patV a d (runesBytes R)] w fun e w' => e = .returned (.tuple #[.slice none 0 0, .agg zSite, .int .i64 4]) ∧ Kept (fun _ => False) w w' := by
  have HS := Lib.hid (dns_new w x a d (runesBytes R))
  have HX := Lib.hid hx
  have HT := Lib.hid hT
  have hrs : (rs (runesBytes R)) = R := rs_txt hR
  have cC := fun W (hk : Kept (fun _ => False) w W) => lcheck_any x W (hx.kept hk) (hT.kept hk id id)
  have cM := fun W (hk : Kept (fun _ => False) w W) => maypatch_any x.L x.dv a d (runesBytes R) W (hx.doc.kept hk) hok.els (hT.kept hk id id) hP ⟨by omega, by omega⟩ ⟨by omega, by omega⟩
  have cN := fun W => rcount_any (runesBytes R) W (by omega)
  rw [hrs] at cN
  have cH := fun W (hk : Kept (fun _ => False) w W) => hasroom_any x d R.length W (hx.kept hk) hok (by omega) (by omega)
  have HP := Lib.hid hp
  have HR := Lib.hid hroom
  have HOK := Lib.hid hok
  have HVR := Lib.hid hR
  simp only [if_pos hok] at cC
  clear hx hT hrs hp hroom hok hR
  obtain ⟨st, ck, dv, L, sA, sn, sc, seen, wA, wn, wc, wl, lA, ln, lc, ll⟩ := x
  simp only [SiteS.V, SiteS.O, SiteS.cs] at *
  obtain ⟨A, c, hdv, _⟩ := HX.out.doc.open'
  simp only at hdv
  subst hdv
  obtain ⟨N, hN⟩ : ∃ N, L.length = N := ⟨_, rfl⟩
  have HN := Lib.hid hN
  simp only [hN] at cC cM cH HS HX HOK HR HP ⊢
  clear hN
  obtain ⟨M, hM⟩ : ∃ M, R.length = M := ⟨_, rfl⟩
  have HM := Lib.hid hM
  simp only [hM] at cN cH HR hml
  clear hM
  obtain ⟨PX, hPX⟩ : ∃ PX, runesBytes R = PX := ⟨_, rfl⟩
  have HPX := Lib.hid hPX
  simp only [hPX] at cC cM cN cH HS HP hP ⊢
  clear hPX
  go_enter Tryd.func22, Tryd.ntmps22
  go_upto_region 1 with fail
  simp only [patO, zSite] at HS
  generalize ((w.alloc _).alloc _).alloc _ = W at *
  obtain ⟨g, hg⟩ : ∃ g, w.heap.size = g := ⟨_, rfl⟩
  have HGG := Lib.hid hg
  obtain ⟨p0, p1, p2, p3, p4, p5⟩ := site_cells (x := ⟨st, ck, .slice A N c, L, sA, sn, sc, seen, wA, wn, wc, wl, lA, ln, lc, ll⟩) HS.out.x
  obtain ⟨r0, r1, r2⟩ := pat_cells HS.out.p
  simp only [hg] at p0 p1 p2 p3 p4 p5 r0 r1 r2 ⊢
  go_upto_region 3 with (first
    | (go_at_call 46; refine (cC _ HS.out.k).mono ?_; clear cC; rintro ee w2 ⟨rfl, hk2⟩; have HS2 := Lib.hid (HS.out.keep hk2); clear hk2 p0 p1 p2 p3 p4 p5 r0 r1 r2; obtain ⟨p0, p1, p2, p3, p4, p5⟩ := site_cells (x := ⟨st, ck, .slice A N c, L, sA, sn, sc, seen, wA, wn, wc, wl, lA, ln, lc, ll⟩) HS2.out.x; obtain ⟨r0, r1, r2⟩ := pat_cells HS2.out.p; simp only [hg] at p0 p1 p2 p3 p4 p5 r0 r1 r2)
    | (go_at_call 47; refine (cM _ HS2.out.k).mono ?_; clear cM; rintro ee w3 ⟨⟨RB, rfl, hR⟩, hk3⟩; have hRf : RB = true := hR.2 HP.out; subst hRf; have HS3 := Lib.hid (HS2.out.keep hk3); clear hk3 hR p0 p1 p2 p3 p4 p5 r0 r1 r2))
  have KF : Hid (∀ V, Kept (fun _ => False) w3 V → (V.cell? ⟨g, 0, none⟩ = some (.int .i64 st) ∧ V.cell? ⟨g, 1, none⟩ = some (.int .i64 ck) ∧ V.cell? ⟨g, 2, none⟩ = some (.slice A N c) ∧ V.cell? ⟨g, 3, none⟩ = some (.slice sA sn sc) ∧ V.cell? ⟨g, 4, none⟩ = some (.slice wA wn wc) ∧ V.cell? ⟨g, 5, none⟩ = some (.slice lA ln lc)) ∧ V.cell? ⟨g + 1, 0, none⟩ = some (.int .i64 (a : Int)) ∧ V.cell? ⟨g + 1, 1, none⟩ = some (.int .i64 (d : Int)) ∧ V.cell? ⟨g + 1, 2, none⟩ = some (.string PX)) := by
    show ∀ V, _
    intro V hk
    have h := HS3.out.keep hk
    have h1 := site_cells (x := ⟨st, ck, .slice A N c, L, sA, sn, sc, seen, wA, wn, wc, wl, lA, ln, lc, ll⟩) h.x
    have h2 := pat_cells h.p
    simp only [hg] at h1 h2
    exact ⟨h1, h2⟩
  have HKD : Hid (Kept (fun _ => False) w3 w3.drew) := (Kept.refl _ w3).drew
  have KA := KF.out w3.drew HKD.out
  go_cut [28] from 21 to 28 (fun v wx => v = .bool true ∧ Kept (fun _ => False) w3 wx)
  case first =>
    go_region_held3 (fun (V : World) => (V.cell? ⟨g, 0, none⟩ = some (.int .i64 st) ∧ V.cell? ⟨g, 1, none⟩ = some (.int .i64 ck) ∧ V.cell? ⟨g, 2, none⟩ = some (.slice A N c) ∧ V.cell? ⟨g, 3, none⟩ = some (.slice sA sn sc) ∧ V.cell? ⟨g, 4, none⟩ = some (.slice wA wn wc) ∧ V.cell? ⟨g, 5, none⟩ = some (.slice lA ln lc)) ∧ V.cell? ⟨g + 1, 0, none⟩ = some (.int .i64 (a : Int)) ∧ V.cell? ⟨g + 1, 1, none⟩ = some (.int .i64 (d : Int)) ∧ V.cell? ⟨g + 1, 2, none⟩ = some (.string PX))
      (first | with_reducible exact KC | with_reducible exact KB | with_reducible exact KA | fail)
      (first
        | (go_at_call 49; refine (cN _).mono ?_; clear cN; rintro ee w4 ⟨rfl, hk4⟩; have HK4 := Lib.hid (HKD.out.trans hk4); have KB := KF.out w4 HK4.out; clear hk4)
        | (go_at_call 48; refine (cH _ (HS3.out.k.trans HK4.out)).mono ?_; clear cH; rintro ee w5 ⟨⟨RB, rfl, hRR⟩, hk5⟩; have HK5 := Lib.hid (HK4.out.trans hk5); have KC := KF.out w5 HK5.out; have hRf : RB = false := (by cases RB with | false => rfl | true => exact absurd (hRR.1 rfl) HR.out); subst hRf; clear hk5 hRR))
    all_goals
      go_wp2_with fail
      go_meet
      exact ⟨rfl, HK5.out⟩
  case rest =>
    obtain ⟨rfl, hk5⟩ := hcut
    obtain ⟨w5, hw5⟩ : ∃ w5, w5 = wc := ⟨_, rfl⟩
    subst hw5
    have HS5 := Lib.hid (HS3.out.keep hk5)
    clear hk5 KA
    obtain ⟨⟨x0, x1, x2, x3, x4, x5⟩, y0, y1, y2, y3, y4, y5⟩ := six_facts HS5.out.z
    simp only [hg] at x0 x1 x2 x3 x4 x5 y0 y1 y2 y3 y4 y5
    go_wp2_with fail
    refine bodyPost_ret (res_tst rfl _ _ (g + 2) _ _ _ _ _ _ _ _ (0, 0) rfl rfl rfl (six_set (by rw [← hg]; exact HS5.out.z) _ _ _ _ _ _)) rfl ⟨rfl, HS5.out.k.fresh (Kept.six (Kept.refl (fun q => q = g + 2) w5) rfl _ _ _ _ _ _) (fun q hq e => by have e : q = g + 2 := e; omega)⟩
end Go.Proofs.YthkohjijppbliaaDoor
