/-
  THE LAW's step.
-/
import Derived.Test.YtgehjkbcgcpbnaaDoorUoA
set_option linter.unusedVariables false
namespace Go.Proofs.YtgehjkbcgcpbnaaDoor
open Go Go.RowKit

theorem On.keptO {S : Nat → Prop} {w w' : World} {B : Nat} {v : Value} {L : List NodeS} (h : On w B v L) (hk : Kept S w w') (hs : ∀ q, v.ownBlock = some q → ¬ S q) : On w' B v L := by
  refine ⟨h.1, ?_⟩
  rcases h.2 with hn | ⟨g, cap, cur, e, hb, hg, rest⟩
  · exact .inl hn
  · exact .inr ⟨g, cap, cur, e, hb, (hk.block g (heap_lt hg) (hs g (by rw [e]; rfl))).trans hg, rest⟩
theorem On.own {w : World} {B : Nat} {v : Value} {L : List NodeS} (h : On w B v L) : ∀ q, v.ownBlock = some q → B ≤ q ∧ q < w.heap.size := World.ownsRow.lt h
abbrev actO (a : NodeS) : Obj := .cells #[.int .i64 a.sq, .int .i64 a.pa, .int .i64 a.at_, .string a.tx] 40
abbrev actV (a : NodeS) : Value := .agg #[.int .i64 a.sq, .int .i64 a.pa, .int .i64 a.at_, .string a.tx]
/-- The step's own boxes. -/
structure Sv (A : Option Addr) (n c : Nat) (L : List NodeS) (cur : Int) (a : NodeS) (pb : Nat) (W : World) : Prop where
  tabs : Tabs W
  two : 2 ≤ pb
  ng : Ng W A n L
  tb : W.heap[pb]? = some (treeO (.slice A n c) cur)
  ab : W.heap[pb + 1]? = some (actO a)
  rb : W.heap[pb + 1 + 1]? = some nilT
  lt : ∀ ad, A = some ad → ad.block < pb
theorem Sv.keptS {S : Nat → Prop} {A : Option Addr} {n c : Nat} {L : List NodeS} {cur : Int} {a : NodeS} {pb : Nat} {W W' : World} (h : Sv A n c L cur a pb W) (hk : Kept S W W') (hs : ∀ q, q ≤ pb + 1 + 1 → ¬ S q) : Sv A n c L cur a pb W' :=
  ⟨h.tabs.kept hk (hs 0 (by omega)) (hs 1 (by have := h.two; omega)), h.two, h.ng.kept hk (fun ad ha => hs _ (by have := h.lt ad ha; omega)), (hk.block _ (heap_lt h.tb) (hs _ (by omega))).trans h.tb, (hk.block _ (heap_lt h.ab) (hs _ (by omega))).trans h.ab, (hk.block _ (heap_lt h.rb) (hs _ (by omega))).trans h.rb, h.lt⟩
theorem Sv.kept {A : Option Addr} {n c : Nat} {L : List NodeS} {cur : Int} {a : NodeS} {pb : Nat} {W W' : World} (h : Sv A n c L cur a pb W) (hk : Kept (fun _ => False) W W') : Sv A n c L cur a pb W' := h.keptS hk (fun _ _ => id)
/-- What a cell of the act holds. -/
theorem Sv.act {A : Option Addr} {n c : Nat} {L : List NodeS} {cur : Int} {a : NodeS} {pb : Nat} {W : World} (h : Sv A n c L cur a pb W) : W.cell? ⟨pb + 1, 0, none⟩ = some (.int .i64 a.sq) ∧ W.cell? ⟨pb + 1, 1, none⟩ = some (.int .i64 a.pa) ∧ W.cell? ⟨pb + 1, 2, none⟩ = some (.int .i64 a.at_) ∧ W.cell? ⟨pb + 1, 3, none⟩ = some (.string a.tx) :=
  ⟨cell_of_row _ _ _ _ _ _ h.ab, cell_of_row _ _ _ _ _ _ h.ab, cell_of_row _ _ _ _ _ _ h.ab, cell_of_row _ _ _ _ _ _ h.ab⟩
/-- The copy that is handed on. -/
structure Si (L : List NodeS) (cur : Int) (pb ib : Nat) (v1 : Value) (W : World) : Prop where
  bx : W.heap[ib]? = some (treeO v1 cur)
  on : On W pb v1 L
  lt : ∀ q, v1.ownBlock = some q → q < ib
  pi : pb + 1 + 1 < ib
theorem Si.keptS {S : Nat → Prop} {L : List NodeS} {cur : Int} {pb ib : Nat} {v1 : Value} {W W' : World} (h : Si L cur pb ib v1 W) (hk : Kept S W W') (hs : ∀ q, q ≤ ib → ¬ S q) : Si L cur pb ib v1 W' :=
  ⟨(hk.block _ (heap_lt h.bx) (hs _ (Nat.le_refl _))).trans h.bx, h.on.keptO hk (fun q hq => hs q (Nat.le_of_lt (h.lt q hq))), h.lt, h.pi⟩
theorem Si.kept {L : List NodeS} {cur : Int} {pb ib : Nat} {v1 : Value} {W W' : World} (h : Si L cur pb ib v1 W) (hk : Kept (fun _ => False) W W') : Si L cur pb ib v1 W' := h.keptS hk (fun _ _ => id)
/-- Behind the act: what was told, and what should be. -/
structure Jx (D : WR) (xb : Nat) (vx vw : Value) (W : World) : Prop where
  xbb : W.heap[xb]? = some (treeO vx D.cu)
  xo : On W xb vx D.ns
  wbb : W.heap[xb + 1]? = some (treeO vw D.cu)
  wo : On W xb vw D.ns
  xl : ∀ q, vx.ownBlock = some q → xb + 1 < q ∧ vw.ownBlock ≠ some q
theorem Jx.kept {D : WR} {xb : Nat} {vx vw : Value} {W W' : World} (h : Jx D xb vx vw W) (hk : Kept (fun _ => False) W W') : Jx D xb vx vw W' :=
  ⟨(hk.block _ (heap_lt h.xbb) id).trans h.xbb, h.xo.kept hk, (hk.block _ (heap_lt h.wbb) id).trans h.wbb, h.wo.kept hk, h.xl⟩
/-- What a Commit tells. -/
def ToldC (w : World) (D : WR) (r : Ending) (w' : World) : Prop := (∃ v, r = .returned (.tuple #[treeV v D.cu, .int .i64 D.er]) ∧ On w' w.heap.size v D.ns) ∧ Kept (fun _ => False) w w'
/-- What a step tells. -/
def ToldS (A : Option Addr) (n c : Nat) (cur : Int) (w : World) (D : WR) (r : Ending) (w' : World) : Prop :=
  ((D.er = 0 ∧ ∃ v, r = .returned (.tuple #[treeV v D.cu, .bool true]) ∧ On w' w.heap.size v D.ns) ∨ (D.er ≠ 0 ∧ r = .returned (.tuple #[treeV (.slice A n c) cur, .bool true]))) ∧ Kept (fun _ => False) w w'
set_option maxRecDepth 100000 in
set_option maxHeartbeats 8000000 in
theorem step_w1 (A : Option Addr) (n c : Nat) (L : List NodeS) (cur : Int) (a : NodeS) (w : World) (hA : Ng w A n L) (hnc : n ≤ c) (hAl : ∀ ad, A = some ad → ad.block < w.heap.size) (hT : Tabs w) (hn : L.length ≤ 100000) (B : Bool) (D : WR) (hDn : D.ns.length ≤ 100000) (hTr : ∀ W, Ng W A n L → Tabs W → Calls Tryd.prog 9 #[treeV (.slice A n c) cur] W fun r W' => r = .returned (.bool B) ∧ Kept (fun _ => False) W W') (hAN : A = none → n = 0 ∧ c = 0)
    (hX : ∀ A' c' W, Ng W A' n L → n ≤ c' → Tabs W → Calls Tryd.prog 33 #[treeV (.slice A' n c') cur, .int .i64 1] W (Told W D))
    (hR : B = true → ∀ W, Ng W A n L → Tabs W → Calls Tryd.prog 34 #[treeV (.slice A n c) cur, .int .i64 1] W (Told W D))
    (hD : B = false → D = wr0 1) (hk : ∀ W : World, Calls Tryd.prog 21 #[.int .i64 a.sq, .int .i64 10] W fun r W' => r = .returned (.int .i64 5) ∧ W' = W) :
    Calls Tryd.prog 16 #[treeV (.slice A n c) cur, actV a] w (ToldS A n c cur w D) := by
  have HXX := Lib.hid hX
  have HRR := Lib.hid hR
  have HDD := Lib.hid hD
  have HWI := Lib.hid hk
  have HAN := Lib.hid hAN
  have hDn' := hDn
  clear hX hR hD hk hAN
  have hl := hA.len
  have hk0 : Kept (fun _ => False) w (((w.alloc (treeO (.slice A n c) cur)).alloc (actO a)).alloc nilT) := (((Kept.refl _ w).alloc _).alloc _).alloc _
  have HS0 : Hid (Sv A n c L cur a w.heap.size (((w.alloc (treeO (.slice A n c) cur)).alloc (actO a)).alloc nilT)) := by
    refine ⟨hT.kept hk0 id id, hT.two, hA.kept hk0 (fun _ _ => id), ?_, ?_, ?_, hAl⟩
    · exact (((Kept.refl (fun _ => False) ((w.alloc (treeO (.slice A n c) cur)).alloc (actO a))).alloc nilT).block _ (by simp <;> omega) id).trans (heap_two1 w _ _)
    · exact (((Kept.refl (fun _ => False) ((w.alloc (treeO (.slice A n c) cur)).alloc (actO a))).alloc nilT).block _ (by simp <;> omega) id).trans (heap_two2 w _ _)
    · have h := heap_two2 (w.alloc (treeO (.slice A n c) cur)) (actO a) nilT
      rwa [show (w.alloc (treeO (.slice A n c) cur)).heap.size + 1 = w.heap.size + 1 + 1 by simp] at h
  have HK0 := Lib.hid hk0
  obtain ⟨pb, hpb⟩ : ∃ pb, w.heap.size = pb := ⟨_, rfl⟩
  have HPB := Lib.hid hpb
  rw [hpb] at HS0
  have HHL := Lib.hid hl
  have hnn : n ≤ 100000 := by omega
  have HTR := Lib.hid hTr
  obtain ⟨dl, dc, ds, da, de⟩ := D
  obtain ⟨aD, aA, aM, s⟩ := a
  clear hpb hA hT hl hk0 hAl hTr
  go_enter Tryd.func16, Tryd.ntmps16
  go_upto_region 1 with fail
  simp only [HPB.out]
  simp only [treeO, nilT, actO] at HS0 HK0
  generalize ((w.alloc _).alloc _).alloc _ = w0 at *
  obtain ⟨t0, t1, _⟩ := tree_facts HS0.out.tb
  have cC := copytree_any A n c L cur w0 HS0.out.ng hnn
  go_upto_region 2 with (go_at_call 6; refine cC.mono ?_; rintro r w1 ⟨⟨v1, rfl, hO⟩, hk1⟩; obtain ⟨A1, c1, rfl, _, hc1, _⟩ := hO.slice; have HO1 := Lib.hid hO; have HC1 := Lib.hid hc1; have HK1 := Lib.hid (HK0.out.trans hk1); have HS1 := Lib.hid (HS0.out.kept hk1); clear hk1 hO hc1 t0 t1 cC)
  rw [HHL.out] at HO1 HC1 ⊢
  have hk2 : Kept (fun _ => False) w1 (w1.alloc (treeO (.slice A1 n c1) cur)) := (Kept.refl _ w1).alloc _
  have HS2 := Lib.hid (HS1.out.kept hk2)
  have HK2 := Lib.hid (HK1.out.trans hk2)
  have HN0 : Hid (pb + 1 + 1 < w0.heap.size) := heap_lt HS0.out.rb
  have HN1 : Hid (pb + 1 + 1 < w1.heap.size) := heap_lt HS1.out.rb
  have HI2 : Hid (Si L cur pb w1.heap.size (.slice A1 n c1) (w1.alloc (treeO (.slice A1 n c1) cur))) := ⟨heap_alloc_new w1 _, (HO1.out.kept hk2).mono (by have := HN0.out; omega), fun q hq => (HO1.out.own q hq).2, HN1.out⟩
  clear hk2
  simp only [treeO] at HS2 HK2 HI2
  generalize w1.alloc _ = w2 at *
  generalize w1.heap.size = ib at *
  clear HO1 HS1 HK1
  obtain ⟨t0, t1, _⟩ := tree_facts HS2.out.tb
  have cT := HTR.out w2 HS2.out.ng HS2.out.tabs
  go_upto_region 3 with (go_at_call 9; refine cT.mono ?_; rintro r w3 ⟨rfl, hk3⟩; have HK3 := Lib.hid (HK2.out.trans hk3); have HS3 := Lib.hid (HS2.out.kept hk3); have HI3 := Lib.hid (HI2.out.kept hk3); clear hk3 t0 t1 cT)
  have hk4 : Kept (fun _ => False) w3 ((w3.alloc nilT).alloc nilT) := ((Kept.refl _ w3).alloc _).alloc _
  have HX4 := Lib.hid (heap_two1 w3 nilT nilT)
  have HY4 := Lib.hid (heap_two2 w3 nilT nilT)
  have HS4 := Lib.hid (HS3.out.kept hk4)
  have HI4 := Lib.hid (HI3.out.kept hk4)
  have HK4 := Lib.hid (HK3.out.trans hk4)
  have HXI : Hid (ib < w3.heap.size) := heap_lt HI3.out.bx
  clear hk4
  go_upto_region 4 with fail
  simp only [nilT, treeO] at HX4 HY4 HS4 HI4 HK4
  generalize (w3.alloc _).alloc _ = w4 at *
  generalize w3.heap.size = xb at *
  have HYX : Hid (xb + 1 < w4.heap.size) := heap_lt HY4.out
  obtain ⟨a0, _, _, _⟩ := HS4.out.act
  go_upto_region 8 with (go_at_call 21; refine (HWI.out w4).mono ?_; rintro r w' ⟨rfl, hw⟩; have hw2 := hw.symm; subst hw2)
  clear a0 HWI
  go_upto_block 0 with fail
  go_cut [10, 11, 12, 13, 14, 15] from 26 to 122 (fun v10 v11 v12 v13 v14 v15 wx => v10 = .int .i64 de ∧ v11 = .string ds ∧ v12 = .int .i64 da ∧ v13 = .string ds ∧ v14 = .int .i64 da ∧ v15 = .int .i64 de ∧ ∃ vx vw, Jx ⟨dl, dc, ds, da, de⟩ xb vx vw wx ∧ Sv A n c L cur ⟨aD, aA, aM, s⟩ pb wx ∧ Si L cur pb ib (.slice A1 n c1) wx ∧ Kept (fun _ => False) w wx)
  case first =>
    obtain ⟨i0, i1, _⟩ := tree_facts HI4.out.bx
    have cX := HXX.out A1 c1 w4 (by have h2 := HI4.out.on.slice; obtain ⟨A9, c9, e9, h9, _⟩ := h2; rw [HHL.out] at e9 h9; injection e9 with e1 e2 e3; subst e1 e3; exact h9) HC1.out HS4.out.tabs
    go_upto_region 16 with fail
    go_upto_region 17 with (go_at_call 33; refine cX.mono ?_; rintro r w5 ⟨⟨vx, rfl, hO⟩, hk5⟩; obtain ⟨Ax, nx, cx, rfl, _⟩ := hO.sn; have HO5 := Lib.hid hO; have HS5 := Lib.hid (HS4.out.kept hk5); have HI5 := Lib.hid (HI4.out.kept hk5); have HK5 := Lib.hid (HK4.out.trans hk5); have HX5 := Lib.hid ((hk5.block _ (heap_lt HX4.out) id).trans HX4.out); have HY5 := Lib.hid ((hk5.block _ (heap_lt HY4.out) id).trans HY4.out); have HZ5 : Hid (w4.heap.size ≤ w5.heap.size) := hk5.size; clear hk5 hO cX i0 i1; obtain ⟨x0, x1, x2, x3⟩ := tree_facts HX5.out)
    have hks : Kept (fun q => q = xb) w5 ((w5.setCell ⟨xb, 0, none⟩ (.slice Ax nx cx)).setCell ⟨xb, 1, none⟩ (.int .i64 dc)) := Kept.tree (g := xb) (S := fun q => q = xb) (Kept.refl (fun q => q = xb) w5) rfl _ _
    have HX6 := Lib.hid (tree_set HX5.out (.slice Ax nx cx) dc)
    have HY6 := Lib.hid ((hks.block _ (heap_lt HY5.out) (by show ¬ xb + 1 = xb; omega)).trans HY5.out)
    have HO6 := Lib.hid (HO5.out.keptO hks (fun q hq h => by have := (HO5.out.own q hq).1; have := HYX.out; omega))
    have HS6 := Lib.hid (HS5.out.keptS hks (fun q h1 h2 => by have := HXI.out; have := HI5.out.pi; omega))
    have HI6 := Lib.hid (HI5.out.keptS hks (fun q h1 h2 => by have := HXI.out; omega))
    have HK6 := Lib.hid (HK5.out.fresh hks (fun q h1 h2 => by have := HXI.out; have := HI5.out.pi; have := HPB.out; omega))
    have HL6 : Hid (∀ q, (Value.slice Ax nx cx).ownBlock = some q → w4.heap.size ≤ q ∧ q < w5.heap.size) := HO5.out.own
    have HZ6 : Hid (w5.heap.size ≤ ((w5.setCell ⟨xb, 0, none⟩ (.slice Ax nx cx)).setCell ⟨xb, 1, none⟩ (.int .i64 dc)).heap.size) := hks.size
    clear hks
    generalize (w5.setCell ⟨xb, 0, none⟩ (.slice Ax nx cx)).setCell ⟨xb, 1, none⟩ (.int .i64 dc) = w6 at *
    clear x0 x1 x2 x3 HX5 HY5 HS5 HI5 HK5 HO5
    cases B with
    | false =>
      have hd := HDD.out rfl
      injection hd with e1 e2 e3 e4 e5
      subst e1 e2 e3 e4 e5
      go_wp2_with fail
      go_meet
      refine ⟨rfl, rfl, rfl, rfl, rfl, rfl, _, .slice none 0 0, ⟨HX6.out, HO6.out.mono (by have := HYX.out; omega), HY6.out, on_nil _ _, fun q hq => ⟨by have := (HL6.out q hq).1; have := HYX.out; omega, fun h => by cases h⟩⟩, HS6.out, HI6.out, HK6.out⟩
    | true =>
      have cW := HRR.out rfl w6 HS6.out.ng HS6.out.tabs
      obtain ⟨t0, t1, _⟩ := tree_facts HS6.out.tb
      go_wp2_with (go_at_call 34; refine cW.mono ?_; rintro r w7 ⟨⟨vw, rfl, hO⟩, hk7⟩; obtain ⟨Aw, nw, cw, rfl, _⟩ := hO.sn; have HW7 := Lib.hid hO; have HO7 := Lib.hid (HO6.out.kept hk7); have HS7 := Lib.hid (HS6.out.kept hk7); have HI7 := Lib.hid (HI6.out.kept hk7); have HK7 := Lib.hid (HK6.out.trans hk7); have HX7 := Lib.hid ((hk7.block _ (heap_lt HX6.out) id).trans HX6.out); have HY7 := Lib.hid ((hk7.block _ (heap_lt HY6.out) id).trans HY6.out); clear hk7 hO cW t0 t1; obtain ⟨y0, y1, y2, y3⟩ := tree_facts HY7.out)
      have hks7 : Kept (fun q => q = xb + 1) w7 ((w7.setCell ⟨xb + 1, 0, none⟩ (.slice Aw nw cw)).setCell ⟨xb + 1, 1, none⟩ (.int .i64 dc)) := Kept.tree (g := xb + 1) (S := fun q => q = xb + 1) (Kept.refl (fun q => q = xb + 1) w7) rfl _ _
      go_meet
      refine ⟨rfl, rfl, rfl, rfl, rfl, rfl, _, _, ⟨(hks7.block _ (heap_lt HX7.out) (by show ¬ xb = xb + 1; omega)).trans HX7.out, (HO7.out.keptO hks7 (fun q hq h => by have := (HL6.out q hq).1; have := HYX.out; omega)).mono (by have := HYX.out; omega), tree_set HY7.out _ _, (HW7.out.keptO hks7 (fun q hq h => by have := (HW7.out.own q hq).1; have := HYX.out; have := HZ5.out; have := HZ6.out; omega)).mono (by have := HYX.out; have := HZ5.out; have := HZ6.out; omega), fun q hq => ⟨by have := (HL6.out q hq).1; have := HYX.out; omega, fun h => by have := (HW7.out.own q h).1; have := (HL6.out q hq).2; have := HZ6.out; omega⟩⟩, HS7.out.keptS hks7 (fun q h1 h2 => by have := HXI.out; have := HI7.out.pi; omega), HI7.out.keptS hks7 (fun q h1 h2 => by have := HXI.out; omega), HK7.out.fresh hks7 (fun q h1 h2 => by have := HXI.out; have := HI7.out.pi; have := HPB.out; omega)⟩
  case rest =>
    obtain ⟨rfl, rfl, rfl, rfl, rfl, rfl, vx, vw, hJ, hS, hI, hK⟩ := hcut
    obtain ⟨w5, hw5⟩ : ∃ w5, w5 = wc := ⟨_, rfl⟩
    subst hw5
    have HJ5 := Lib.hid hJ
    have HS5 := Lib.hid hS
    have HI5 := Lib.hid hI
    have HK5 := Lib.hid hK
    obtain ⟨Ax, cx, rfl, _, _, _⟩ := hJ.xo.slice
    obtain ⟨Aw, cw, rfl, hwn, _, _⟩ := hJ.wo.slice
    clear hJ hS hI hK hwn HS4 HI4 HK4 HX4 HY4 HS3 HI3 HK3 HS2 HI2 HK2 HS0
    have cE1 := fun W (h : Jx ⟨dl, dc, ds, da, de⟩ xb (.slice Ax dl.length cx) (.slice Aw dl.length cw) W) => eqtree_yes _ _ dl dc W h.xo.sn h.wo.sn hDn
    have cE2 := fun W (h : Si L cur pb ib (.slice A1 n c1) W) (h2 : Sv A n c L cur ⟨aD, aA, aM, s⟩ pb W) => eqtree_yes (.slice A1 n c1) (.slice A n c) L cur W h.on.sn ⟨A, n, c, rfl, h2.ng, hnc, HAN.out⟩ hn
    have HE1 := Lib.hid cE1
    have HE2 := Lib.hid cE2
    have HSP := Lib.hid (fun W (h : Jx ⟨dl, dc, ds, da, de⟩ xb (.slice Ax dl.length cx) (.slice Aw dl.length cw) W) => spoil_tree _ _ dl dc W h.xo hDn)
    have HCP := Lib.hid (fun W (h : Jx ⟨dl, dc, ds, da, de⟩ xb (.slice Ax dl.length cx) (.slice Aw dl.length cw) W) => copytree_any Aw dl.length cw dl dc W (by have h2 := h.wo.slice; obtain ⟨A9, c9, e9, h9, _⟩ := h2; injection e9 with e1 e2 e3; subst e1 e3; exact h9) hDn)
    clear cE1 cE2
    obtain ⟨x0, x1, _⟩ := tree_facts HJ5.out.xbb
    obtain ⟨y0, y1, _⟩ := tree_facts HJ5.out.wbb
    try simp only at x1 y1
    obtain ⟨dn, hdn⟩ : ∃ dn, dl.length = dn := ⟨_, rfl⟩
    rw [hdn] at HJ5 HE1 HSP HCP x0 y0
    have HDN := Lib.hid hdn
    have cE1 := HE1.out w5 HJ5.out
    clear hdn
    go_upto_region 29 with (first
      | (go_at_call 7; refine (unum_any _ _).mono ?_; rintro e w' ⟨rfl, hw⟩; have hw2 := hw.symm; subst hw2)
      | (go_at_call 14; refine cE1.mono ?_; rintro r w6 ⟨rfl, hk6⟩; clear cE1 x0 x1 y0 y1; have HJ6 := Lib.hid (HJ5.out.kept hk6); have HS6 := Lib.hid (HS5.out.kept hk6); have HI6 := Lib.hid (HI5.out.kept hk6); have HK6 := Lib.hid (HK5.out.trans hk6); clear hk6; obtain ⟨i0, i1, _⟩ := tree_facts HI6.out.bx; obtain ⟨t0, t1, _⟩ := tree_facts HS6.out.tb; have cE2 := HE2.out w6 HI6.out HS6.out)
      | (go_at_call 14; refine cE2.mono ?_; rintro r w7 ⟨rfl, hk7⟩; clear cE2 i0 i1 t0 t1; have HJ7 := Lib.hid (HJ6.out.kept hk7); have HS7 := Lib.hid (HS6.out.kept hk7); have HI7 := Lib.hid (HI6.out.kept hk7); have HK7 := Lib.hid (HK6.out.trans hk7); clear hk7))
    obtain ⟨x0, x1, _⟩ := tree_facts HJ7.out.xbb
    try simp only at x1
    have cS := HSP.out w7 HJ7.out
    go_upto_region 30 with (go_at_call 36; refine cS.mono ?_; rintro r w8 ⟨rfl, hk8⟩; have HK78 := Lib.hid hk8; clear cS hk8 x0 x1)
    have HXB : Hid (∀ q, (Value.slice Ax dn cx).ownBlock = some q → xb + 1 < q ∧ (Value.slice Aw dn cw).ownBlock ≠ some q) := HJ7.out.xl
    have HS8 := Lib.hid (HS7.out.keptS HK78.out (fun q h1 h2 => by have := (HXB.out q h2).1; have := HXI.out; have := HI7.out.pi; omega))
    have HI8 := Lib.hid (HI7.out.keptS HK78.out (fun q h1 h2 => by have := (HXB.out q h2).1; have := HXI.out; omega))
    have HW8 := Lib.hid ((HK78.out.block _ (heap_lt HJ7.out.wbb) (fun h => by have := (HXB.out _ h).1; omega)).trans HJ7.out.wbb)
    have HO8 := Lib.hid (HJ7.out.wo.keptO HK78.out (fun q hq h => (HXB.out q h).2 hq))
    have HK8 := Lib.hid (HK7.out.fresh HK78.out (fun q h1 h2 => by have := (HXB.out q h2).1; have := HXI.out; have := HI7.out.pi; have := HPB.out; omega))
    clear HJ5 HJ6 HS5 HS6 HI5 HI6 HK5 HK6
    obtain ⟨i0, i1, _⟩ := tree_facts HI8.out.bx
    obtain ⟨t0, t1, _⟩ := tree_facts HS8.out.tb
    have cE3 := HE2.out w8 HI8.out HS8.out
    go_upto_region 32 with (go_at_call 14; refine cE3.mono ?_; rintro r w9 ⟨rfl, hk9⟩; have HS9 := Lib.hid (HS8.out.kept hk9); have HK9 := Lib.hid (HK8.out.trans hk9); have HW9 := Lib.hid ((hk9.block _ (heap_lt HW8.out) id).trans HW8.out); have HO9 := Lib.hid (HO8.out.kept hk9); clear hk9 cE3 i0 i1 t0 t1)
    by_cases hde : de = 0
    · have q4 : (de != 0) = false := by simp [hde]
      have HDE := Lib.hid hde
      clear hde
      obtain ⟨y0, y1, _⟩ := tree_facts HW9.out
      try simp only at y1
      have cC := copytree_any Aw dn cw dl dc w9 (by have h2 := HO9.out.slice; obtain ⟨A9, c9, e9, h9, _⟩ := h2; rw [HDN.out] at e9 h9; injection e9 with e1 e2 e3; subst e1 e3; exact h9) (by rw [← HDN.out]; exact hDn')
      obtain ⟨r0, r1, r2, r3⟩ := tree_facts HS9.out.rb
      go_wp2_with (go_at_call 6; refine cC.mono ?_; rintro r w10 ⟨⟨v3, rfl, hO⟩, hk10⟩; obtain ⟨A3, n3, c3, rfl, _⟩ := hO.sn; have HO10 := Lib.hid hO; have HS10 := Lib.hid (HS9.out.kept hk10); have HK10 := Lib.hid (HK9.out.trans hk10); clear hk10 hO cC y0 y1 r0 r1 r2 r3; obtain ⟨r0, r1, r2, r3⟩ := tree_facts HS10.out.rb)
      refine bodyPost_ret (res_t1 rfl _ _ (pb + 1 + 1) _ dc rfl rfl (tree_set HS10.out.rb _ _)) rfl ⟨.inl ⟨HDE.out, _, rfl, ?ho⟩, ?hk⟩
      case ho =>
        have h1 := HO10.out.keptS (Kept.tree (g := pb + 1 + 1) (S := fun q => q = pb + 1 + 1) (Kept.refl (fun q => q = pb + 1 + 1) w10) rfl (.slice A3 n3 c3) (.int .i64 dc)) (fun q h1 h => by have h1 := heap_lt HS9.out.rb; omega)
        exact h1.mono (by have h1 := heap_lt HS9.out.rb; have := HPB.out; omega)
      case hk => exact HK10.out.fresh (Kept.tree (g := pb + 1 + 1) (S := fun q => q = pb + 1 + 1) (Kept.refl (fun q => q = pb + 1 + 1) w10) rfl _ _) (fun b hb h => by have := HPB.out; omega)
    · have q4 : (de != 0) = true := by simp [hde]
      have HDE := Lib.hid hde
      clear hde
      obtain ⟨t0, t1, _⟩ := tree_facts HS9.out.tb
      obtain ⟨r0, r1, r2, r3⟩ := tree_facts HS9.out.rb
      go_wp2_with fail
      refine bodyPost_ret (res_t1 rfl _ _ (pb + 1 + 1) _ cur rfl rfl (tree_set HS9.out.rb _ _)) rfl ⟨.inr ⟨HDE.out, rfl⟩, ?_⟩
      exact HK9.out.fresh (Kept.tree (g := pb + 1 + 1) (S := fun q => q = pb + 1 + 1) (Kept.refl (fun q => q = pb + 1 + 1) w9) rfl _ _) (fun b hb h => by have := HPB.out; omega)
set_option maxRecDepth 100000 in
set_option maxHeartbeats 8000000 in
theorem step_w2 (A : Option Addr) (n c : Nat) (L : List NodeS) (cur : Int) (a : NodeS) (w : World) (hA : Ng w A n L) (hnc : n ≤ c) (hAl : ∀ ad, A = some ad → ad.block < w.heap.size) (hT : Tabs w) (hn : L.length ≤ 100000) (B : Bool) (D : WR) (hDn : D.ns.length ≤ 100000) (hTr : ∀ W, Ng W A n L → Tabs W → Calls Tryd.prog 9 #[treeV (.slice A n c) cur] W fun r W' => r = .returned (.bool B) ∧ Kept (fun _ => False) W W') (hAN : A = none → n = 0 ∧ c = 0)
    (hX : ∀ A' c' W, Ng W A' n L → n ≤ c' → Tabs W → Calls Tryd.prog 33 #[treeV (.slice A' n c') cur, .int .i64 2] W (Told W D))
    (hR : B = true → ∀ W, Ng W A n L → Tabs W → Calls Tryd.prog 34 #[treeV (.slice A n c) cur, .int .i64 2] W (Told W D))
    (hD : B = false → D = wr0 1) (hk : ∀ W : World, Calls Tryd.prog 21 #[.int .i64 a.sq, .int .i64 10] W fun r W' => r = .returned (.int .i64 6) ∧ W' = W) :
    Calls Tryd.prog 16 #[treeV (.slice A n c) cur, actV a] w (ToldS A n c cur w D) := by
  have HXX := Lib.hid hX
  have HRR := Lib.hid hR
  have HDD := Lib.hid hD
  have HWI := Lib.hid hk
  have HAN := Lib.hid hAN
  have hDn' := hDn
  clear hX hR hD hk hAN
  have hl := hA.len
  have hk0 : Kept (fun _ => False) w (((w.alloc (treeO (.slice A n c) cur)).alloc (actO a)).alloc nilT) := (((Kept.refl _ w).alloc _).alloc _).alloc _
  have HS0 : Hid (Sv A n c L cur a w.heap.size (((w.alloc (treeO (.slice A n c) cur)).alloc (actO a)).alloc nilT)) := by
    refine ⟨hT.kept hk0 id id, hT.two, hA.kept hk0 (fun _ _ => id), ?_, ?_, ?_, hAl⟩
    · exact (((Kept.refl (fun _ => False) ((w.alloc (treeO (.slice A n c) cur)).alloc (actO a))).alloc nilT).block _ (by simp <;> omega) id).trans (heap_two1 w _ _)
    · exact (((Kept.refl (fun _ => False) ((w.alloc (treeO (.slice A n c) cur)).alloc (actO a))).alloc nilT).block _ (by simp <;> omega) id).trans (heap_two2 w _ _)
    · have h := heap_two2 (w.alloc (treeO (.slice A n c) cur)) (actO a) nilT
      rwa [show (w.alloc (treeO (.slice A n c) cur)).heap.size + 1 = w.heap.size + 1 + 1 by simp] at h
  have HK0 := Lib.hid hk0
  obtain ⟨pb, hpb⟩ : ∃ pb, w.heap.size = pb := ⟨_, rfl⟩
  have HPB := Lib.hid hpb
  rw [hpb] at HS0
  have HHL := Lib.hid hl
  have hnn : n ≤ 100000 := by omega
  have HTR := Lib.hid hTr
  obtain ⟨dl, dc, ds, da, de⟩ := D
  obtain ⟨aD, aA, aM, s⟩ := a
  clear hpb hA hT hl hk0 hAl hTr
  go_enter Tryd.func16, Tryd.ntmps16
  go_upto_region 1 with fail
  simp only [HPB.out]
  simp only [treeO, nilT, actO] at HS0 HK0
  generalize ((w.alloc _).alloc _).alloc _ = w0 at *
  obtain ⟨t0, t1, _⟩ := tree_facts HS0.out.tb
  have cC := copytree_any A n c L cur w0 HS0.out.ng hnn
  go_upto_region 2 with (go_at_call 6; refine cC.mono ?_; rintro r w1 ⟨⟨v1, rfl, hO⟩, hk1⟩; obtain ⟨A1, c1, rfl, _, hc1, _⟩ := hO.slice; have HO1 := Lib.hid hO; have HC1 := Lib.hid hc1; have HK1 := Lib.hid (HK0.out.trans hk1); have HS1 := Lib.hid (HS0.out.kept hk1); clear hk1 hO hc1 t0 t1 cC)
  rw [HHL.out] at HO1 HC1 ⊢
  have hk2 : Kept (fun _ => False) w1 (w1.alloc (treeO (.slice A1 n c1) cur)) := (Kept.refl _ w1).alloc _
  have HS2 := Lib.hid (HS1.out.kept hk2)
  have HK2 := Lib.hid (HK1.out.trans hk2)
  have HN0 : Hid (pb + 1 + 1 < w0.heap.size) := heap_lt HS0.out.rb
  have HN1 : Hid (pb + 1 + 1 < w1.heap.size) := heap_lt HS1.out.rb
  have HI2 : Hid (Si L cur pb w1.heap.size (.slice A1 n c1) (w1.alloc (treeO (.slice A1 n c1) cur))) := ⟨heap_alloc_new w1 _, (HO1.out.kept hk2).mono (by have := HN0.out; omega), fun q hq => (HO1.out.own q hq).2, HN1.out⟩
  clear hk2
  simp only [treeO] at HS2 HK2 HI2
  generalize w1.alloc _ = w2 at *
  generalize w1.heap.size = ib at *
  clear HO1 HS1 HK1
  obtain ⟨t0, t1, _⟩ := tree_facts HS2.out.tb
  have cT := HTR.out w2 HS2.out.ng HS2.out.tabs
  go_upto_region 3 with (go_at_call 9; refine cT.mono ?_; rintro r w3 ⟨rfl, hk3⟩; have HK3 := Lib.hid (HK2.out.trans hk3); have HS3 := Lib.hid (HS2.out.kept hk3); have HI3 := Lib.hid (HI2.out.kept hk3); clear hk3 t0 t1 cT)
  have hk4 : Kept (fun _ => False) w3 ((w3.alloc nilT).alloc nilT) := ((Kept.refl _ w3).alloc _).alloc _
  have HX4 := Lib.hid (heap_two1 w3 nilT nilT)
  have HY4 := Lib.hid (heap_two2 w3 nilT nilT)
  have HS4 := Lib.hid (HS3.out.kept hk4)
  have HI4 := Lib.hid (HI3.out.kept hk4)
  have HK4 := Lib.hid (HK3.out.trans hk4)
  have HXI : Hid (ib < w3.heap.size) := heap_lt HI3.out.bx
  clear hk4
  go_upto_region 4 with fail
  simp only [nilT, treeO] at HX4 HY4 HS4 HI4 HK4
  generalize (w3.alloc _).alloc _ = w4 at *
  generalize w3.heap.size = xb at *
  have HYX : Hid (xb + 1 < w4.heap.size) := heap_lt HY4.out
  obtain ⟨a0, _, _, _⟩ := HS4.out.act
  go_upto_region 8 with (go_at_call 21; refine (HWI.out w4).mono ?_; rintro r w' ⟨rfl, hw⟩; have hw2 := hw.symm; subst hw2)
  clear a0 HWI
  go_upto_block 0 with fail
  go_cut [10, 11, 12, 13, 14, 15] from 26 to 122 (fun v10 v11 v12 v13 v14 v15 wx => v10 = .int .i64 de ∧ v11 = .string ds ∧ v12 = .int .i64 da ∧ v13 = .string ds ∧ v14 = .int .i64 da ∧ v15 = .int .i64 de ∧ ∃ vx vw, Jx ⟨dl, dc, ds, da, de⟩ xb vx vw wx ∧ Sv A n c L cur ⟨aD, aA, aM, s⟩ pb wx ∧ Si L cur pb ib (.slice A1 n c1) wx ∧ Kept (fun _ => False) w wx)
  case first =>
    obtain ⟨i0, i1, _⟩ := tree_facts HI4.out.bx
    have cX := HXX.out A1 c1 w4 (by have h2 := HI4.out.on.slice; obtain ⟨A9, c9, e9, h9, _⟩ := h2; rw [HHL.out] at e9 h9; injection e9 with e1 e2 e3; subst e1 e3; exact h9) HC1.out HS4.out.tabs
    go_upto_region 16 with fail
    go_upto_region 17 with (go_at_call 33; refine cX.mono ?_; rintro r w5 ⟨⟨vx, rfl, hO⟩, hk5⟩; obtain ⟨Ax, nx, cx, rfl, _⟩ := hO.sn; have HO5 := Lib.hid hO; have HS5 := Lib.hid (HS4.out.kept hk5); have HI5 := Lib.hid (HI4.out.kept hk5); have HK5 := Lib.hid (HK4.out.trans hk5); have HX5 := Lib.hid ((hk5.block _ (heap_lt HX4.out) id).trans HX4.out); have HY5 := Lib.hid ((hk5.block _ (heap_lt HY4.out) id).trans HY4.out); have HZ5 : Hid (w4.heap.size ≤ w5.heap.size) := hk5.size; clear hk5 hO cX i0 i1; obtain ⟨x0, x1, x2, x3⟩ := tree_facts HX5.out)
    have hks : Kept (fun q => q = xb) w5 ((w5.setCell ⟨xb, 0, none⟩ (.slice Ax nx cx)).setCell ⟨xb, 1, none⟩ (.int .i64 dc)) := Kept.tree (g := xb) (S := fun q => q = xb) (Kept.refl (fun q => q = xb) w5) rfl _ _
    have HX6 := Lib.hid (tree_set HX5.out (.slice Ax nx cx) dc)
    have HY6 := Lib.hid ((hks.block _ (heap_lt HY5.out) (by show ¬ xb + 1 = xb; omega)).trans HY5.out)
    have HO6 := Lib.hid (HO5.out.keptO hks (fun q hq h => by have := (HO5.out.own q hq).1; have := HYX.out; omega))
    have HS6 := Lib.hid (HS5.out.keptS hks (fun q h1 h2 => by have := HXI.out; have := HI5.out.pi; omega))
    have HI6 := Lib.hid (HI5.out.keptS hks (fun q h1 h2 => by have := HXI.out; omega))
    have HK6 := Lib.hid (HK5.out.fresh hks (fun q h1 h2 => by have := HXI.out; have := HI5.out.pi; have := HPB.out; omega))
    have HL6 : Hid (∀ q, (Value.slice Ax nx cx).ownBlock = some q → w4.heap.size ≤ q ∧ q < w5.heap.size) := HO5.out.own
    have HZ6 : Hid (w5.heap.size ≤ ((w5.setCell ⟨xb, 0, none⟩ (.slice Ax nx cx)).setCell ⟨xb, 1, none⟩ (.int .i64 dc)).heap.size) := hks.size
    clear hks
    generalize (w5.setCell ⟨xb, 0, none⟩ (.slice Ax nx cx)).setCell ⟨xb, 1, none⟩ (.int .i64 dc) = w6 at *
    clear x0 x1 x2 x3 HX5 HY5 HS5 HI5 HK5 HO5
    cases B with
    | false =>
      have hd := HDD.out rfl
      injection hd with e1 e2 e3 e4 e5
      subst e1 e2 e3 e4 e5
      go_wp2_with fail
      go_meet
      refine ⟨rfl, rfl, rfl, rfl, rfl, rfl, _, .slice none 0 0, ⟨HX6.out, HO6.out.mono (by have := HYX.out; omega), HY6.out, on_nil _ _, fun q hq => ⟨by have := (HL6.out q hq).1; have := HYX.out; omega, fun h => by cases h⟩⟩, HS6.out, HI6.out, HK6.out⟩
    | true =>
      have cW := HRR.out rfl w6 HS6.out.ng HS6.out.tabs
      obtain ⟨t0, t1, _⟩ := tree_facts HS6.out.tb
      go_wp2_with (go_at_call 34; refine cW.mono ?_; rintro r w7 ⟨⟨vw, rfl, hO⟩, hk7⟩; obtain ⟨Aw, nw, cw, rfl, _⟩ := hO.sn; have HW7 := Lib.hid hO; have HO7 := Lib.hid (HO6.out.kept hk7); have HS7 := Lib.hid (HS6.out.kept hk7); have HI7 := Lib.hid (HI6.out.kept hk7); have HK7 := Lib.hid (HK6.out.trans hk7); have HX7 := Lib.hid ((hk7.block _ (heap_lt HX6.out) id).trans HX6.out); have HY7 := Lib.hid ((hk7.block _ (heap_lt HY6.out) id).trans HY6.out); clear hk7 hO cW t0 t1; obtain ⟨y0, y1, y2, y3⟩ := tree_facts HY7.out)
      have hks7 : Kept (fun q => q = xb + 1) w7 ((w7.setCell ⟨xb + 1, 0, none⟩ (.slice Aw nw cw)).setCell ⟨xb + 1, 1, none⟩ (.int .i64 dc)) := Kept.tree (g := xb + 1) (S := fun q => q = xb + 1) (Kept.refl (fun q => q = xb + 1) w7) rfl _ _
      go_meet
      refine ⟨rfl, rfl, rfl, rfl, rfl, rfl, _, _, ⟨(hks7.block _ (heap_lt HX7.out) (by show ¬ xb = xb + 1; omega)).trans HX7.out, (HO7.out.keptO hks7 (fun q hq h => by have := (HL6.out q hq).1; have := HYX.out; omega)).mono (by have := HYX.out; omega), tree_set HY7.out _ _, (HW7.out.keptO hks7 (fun q hq h => by have := (HW7.out.own q hq).1; have := HYX.out; have := HZ5.out; have := HZ6.out; omega)).mono (by have := HYX.out; have := HZ5.out; have := HZ6.out; omega), fun q hq => ⟨by have := (HL6.out q hq).1; have := HYX.out; omega, fun h => by have := (HW7.out.own q h).1; have := (HL6.out q hq).2; have := HZ6.out; omega⟩⟩, HS7.out.keptS hks7 (fun q h1 h2 => by have := HXI.out; have := HI7.out.pi; omega), HI7.out.keptS hks7 (fun q h1 h2 => by have := HXI.out; omega), HK7.out.fresh hks7 (fun q h1 h2 => by have := HXI.out; have := HI7.out.pi; have := HPB.out; omega)⟩
  case rest =>
    obtain ⟨rfl, rfl, rfl, rfl, rfl, rfl, vx, vw, hJ, hS, hI, hK⟩ := hcut
    obtain ⟨w5, hw5⟩ : ∃ w5, w5 = wc := ⟨_, rfl⟩
    subst hw5
    have HJ5 := Lib.hid hJ
    have HS5 := Lib.hid hS
    have HI5 := Lib.hid hI
    have HK5 := Lib.hid hK
    obtain ⟨Ax, cx, rfl, _, _, _⟩ := hJ.xo.slice
    obtain ⟨Aw, cw, rfl, hwn, _, _⟩ := hJ.wo.slice
    clear hJ hS hI hK hwn HS4 HI4 HK4 HX4 HY4 HS3 HI3 HK3 HS2 HI2 HK2 HS0
    have cE1 := fun W (h : Jx ⟨dl, dc, ds, da, de⟩ xb (.slice Ax dl.length cx) (.slice Aw dl.length cw) W) => eqtree_yes _ _ dl dc W h.xo.sn h.wo.sn hDn
    have cE2 := fun W (h : Si L cur pb ib (.slice A1 n c1) W) (h2 : Sv A n c L cur ⟨aD, aA, aM, s⟩ pb W) => eqtree_yes (.slice A1 n c1) (.slice A n c) L cur W h.on.sn ⟨A, n, c, rfl, h2.ng, hnc, HAN.out⟩ hn
    have HE1 := Lib.hid cE1
    have HE2 := Lib.hid cE2
    have HSP := Lib.hid (fun W (h : Jx ⟨dl, dc, ds, da, de⟩ xb (.slice Ax dl.length cx) (.slice Aw dl.length cw) W) => spoil_tree _ _ dl dc W h.xo hDn)
    have HCP := Lib.hid (fun W (h : Jx ⟨dl, dc, ds, da, de⟩ xb (.slice Ax dl.length cx) (.slice Aw dl.length cw) W) => copytree_any Aw dl.length cw dl dc W (by have h2 := h.wo.slice; obtain ⟨A9, c9, e9, h9, _⟩ := h2; injection e9 with e1 e2 e3; subst e1 e3; exact h9) hDn)
    clear cE1 cE2
    obtain ⟨x0, x1, _⟩ := tree_facts HJ5.out.xbb
    obtain ⟨y0, y1, _⟩ := tree_facts HJ5.out.wbb
    try simp only at x1 y1
    obtain ⟨dn, hdn⟩ : ∃ dn, dl.length = dn := ⟨_, rfl⟩
    rw [hdn] at HJ5 HE1 HSP HCP x0 y0
    have HDN := Lib.hid hdn
    have cE1 := HE1.out w5 HJ5.out
    clear hdn
    go_upto_region 29 with (first
      | (go_at_call 7; refine (unum_any _ _).mono ?_; rintro e w' ⟨rfl, hw⟩; have hw2 := hw.symm; subst hw2)
      | (go_at_call 14; refine cE1.mono ?_; rintro r w6 ⟨rfl, hk6⟩; clear cE1 x0 x1 y0 y1; have HJ6 := Lib.hid (HJ5.out.kept hk6); have HS6 := Lib.hid (HS5.out.kept hk6); have HI6 := Lib.hid (HI5.out.kept hk6); have HK6 := Lib.hid (HK5.out.trans hk6); clear hk6; obtain ⟨i0, i1, _⟩ := tree_facts HI6.out.bx; obtain ⟨t0, t1, _⟩ := tree_facts HS6.out.tb; have cE2 := HE2.out w6 HI6.out HS6.out)
      | (go_at_call 14; refine cE2.mono ?_; rintro r w7 ⟨rfl, hk7⟩; clear cE2 i0 i1 t0 t1; have HJ7 := Lib.hid (HJ6.out.kept hk7); have HS7 := Lib.hid (HS6.out.kept hk7); have HI7 := Lib.hid (HI6.out.kept hk7); have HK7 := Lib.hid (HK6.out.trans hk7); clear hk7))
    obtain ⟨x0, x1, _⟩ := tree_facts HJ7.out.xbb
    try simp only at x1
    have cS := HSP.out w7 HJ7.out
    go_upto_region 30 with (go_at_call 36; refine cS.mono ?_; rintro r w8 ⟨rfl, hk8⟩; have HK78 := Lib.hid hk8; clear cS hk8 x0 x1)
    have HXB : Hid (∀ q, (Value.slice Ax dn cx).ownBlock = some q → xb + 1 < q ∧ (Value.slice Aw dn cw).ownBlock ≠ some q) := HJ7.out.xl
    have HS8 := Lib.hid (HS7.out.keptS HK78.out (fun q h1 h2 => by have := (HXB.out q h2).1; have := HXI.out; have := HI7.out.pi; omega))
    have HI8 := Lib.hid (HI7.out.keptS HK78.out (fun q h1 h2 => by have := (HXB.out q h2).1; have := HXI.out; omega))
    have HW8 := Lib.hid ((HK78.out.block _ (heap_lt HJ7.out.wbb) (fun h => by have := (HXB.out _ h).1; omega)).trans HJ7.out.wbb)
    have HO8 := Lib.hid (HJ7.out.wo.keptO HK78.out (fun q hq h => (HXB.out q h).2 hq))
    have HK8 := Lib.hid (HK7.out.fresh HK78.out (fun q h1 h2 => by have := (HXB.out q h2).1; have := HXI.out; have := HI7.out.pi; have := HPB.out; omega))
    clear HJ5 HJ6 HS5 HS6 HI5 HI6 HK5 HK6
    obtain ⟨i0, i1, _⟩ := tree_facts HI8.out.bx
    obtain ⟨t0, t1, _⟩ := tree_facts HS8.out.tb
    have cE3 := HE2.out w8 HI8.out HS8.out
    go_upto_region 32 with (go_at_call 14; refine cE3.mono ?_; rintro r w9 ⟨rfl, hk9⟩; have HS9 := Lib.hid (HS8.out.kept hk9); have HK9 := Lib.hid (HK8.out.trans hk9); have HW9 := Lib.hid ((hk9.block _ (heap_lt HW8.out) id).trans HW8.out); have HO9 := Lib.hid (HO8.out.kept hk9); clear hk9 cE3 i0 i1 t0 t1)
    by_cases hde : de = 0
    · have q4 : (de != 0) = false := by simp [hde]
      have HDE := Lib.hid hde
      clear hde
      obtain ⟨y0, y1, _⟩ := tree_facts HW9.out
      try simp only at y1
      have cC := copytree_any Aw dn cw dl dc w9 (by have h2 := HO9.out.slice; obtain ⟨A9, c9, e9, h9, _⟩ := h2; rw [HDN.out] at e9 h9; injection e9 with e1 e2 e3; subst e1 e3; exact h9) (by rw [← HDN.out]; exact hDn')
      obtain ⟨r0, r1, r2, r3⟩ := tree_facts HS9.out.rb
      go_wp2_with (go_at_call 6; refine cC.mono ?_; rintro r w10 ⟨⟨v3, rfl, hO⟩, hk10⟩; obtain ⟨A3, n3, c3, rfl, _⟩ := hO.sn; have HO10 := Lib.hid hO; have HS10 := Lib.hid (HS9.out.kept hk10); have HK10 := Lib.hid (HK9.out.trans hk10); clear hk10 hO cC y0 y1 r0 r1 r2 r3; obtain ⟨r0, r1, r2, r3⟩ := tree_facts HS10.out.rb)
      refine bodyPost_ret (res_t1 rfl _ _ (pb + 1 + 1) _ dc rfl rfl (tree_set HS10.out.rb _ _)) rfl ⟨.inl ⟨HDE.out, _, rfl, ?ho⟩, ?hk⟩
      case ho =>
        have h1 := HO10.out.keptS (Kept.tree (g := pb + 1 + 1) (S := fun q => q = pb + 1 + 1) (Kept.refl (fun q => q = pb + 1 + 1) w10) rfl (.slice A3 n3 c3) (.int .i64 dc)) (fun q h1 h => by have h1 := heap_lt HS9.out.rb; omega)
        exact h1.mono (by have h1 := heap_lt HS9.out.rb; have := HPB.out; omega)
      case hk => exact HK10.out.fresh (Kept.tree (g := pb + 1 + 1) (S := fun q => q = pb + 1 + 1) (Kept.refl (fun q => q = pb + 1 + 1) w10) rfl _ _) (fun b hb h => by have := HPB.out; omega)
    · have q4 : (de != 0) = true := by simp [hde]
      have HDE := Lib.hid hde
      clear hde
      obtain ⟨t0, t1, _⟩ := tree_facts HS9.out.tb
      obtain ⟨r0, r1, r2, r3⟩ := tree_facts HS9.out.rb
      go_wp2_with fail
      refine bodyPost_ret (res_t1 rfl _ _ (pb + 1 + 1) _ cur rfl rfl (tree_set HS9.out.rb _ _)) rfl ⟨.inr ⟨HDE.out, rfl⟩, ?_⟩
      exact HK9.out.fresh (Kept.tree (g := pb + 1 + 1) (S := fun q => q = pb + 1 + 1) (Kept.refl (fun q => q = pb + 1 + 1) w9) rfl _ _) (fun b hb h => by have := HPB.out; omega)
set_option maxRecDepth 100000 in
set_option maxHeartbeats 8000000 in
theorem step_w3 (A : Option Addr) (n c : Nat) (L : List NodeS) (cur : Int) (a : NodeS) (w : World) (hA : Ng w A n L) (hnc : n ≤ c) (hAl : ∀ ad, A = some ad → ad.block < w.heap.size) (hT : Tabs w) (hn : L.length ≤ 100000) (B : Bool) (D : WR) (hDn : D.ns.length ≤ 100000) (hTr : ∀ W, Ng W A n L → Tabs W → Calls Tryd.prog 9 #[treeV (.slice A n c) cur] W fun r W' => r = .returned (.bool B) ∧ Kept (fun _ => False) W W') (hAN : A = none → n = 0 ∧ c = 0)
    (hX : ∀ A' c' W, Ng W A' n L → n ≤ c' → Tabs W → Calls Tryd.prog 33 #[treeV (.slice A' n c') cur, .int .i64 3] W (Told W D))
    (hR : B = true → ∀ W, Ng W A n L → Tabs W → Calls Tryd.prog 34 #[treeV (.slice A n c) cur, .int .i64 3] W (Told W D))
    (hD : B = false → D = wr0 1) (hk : ∀ W : World, Calls Tryd.prog 21 #[.int .i64 a.sq, .int .i64 10] W fun r W' => r = .returned (.int .i64 7) ∧ W' = W) :
    Calls Tryd.prog 16 #[treeV (.slice A n c) cur, actV a] w (ToldS A n c cur w D) := by
  have HXX := Lib.hid hX
  have HRR := Lib.hid hR
  have HDD := Lib.hid hD
  have HWI := Lib.hid hk
  have HAN := Lib.hid hAN
  have hDn' := hDn
  clear hX hR hD hk hAN
  have hl := hA.len
  have hk0 : Kept (fun _ => False) w (((w.alloc (treeO (.slice A n c) cur)).alloc (actO a)).alloc nilT) := (((Kept.refl _ w).alloc _).alloc _).alloc _
  have HS0 : Hid (Sv A n c L cur a w.heap.size (((w.alloc (treeO (.slice A n c) cur)).alloc (actO a)).alloc nilT)) := by
    refine ⟨hT.kept hk0 id id, hT.two, hA.kept hk0 (fun _ _ => id), ?_, ?_, ?_, hAl⟩
    · exact (((Kept.refl (fun _ => False) ((w.alloc (treeO (.slice A n c) cur)).alloc (actO a))).alloc nilT).block _ (by simp <;> omega) id).trans (heap_two1 w _ _)
    · exact (((Kept.refl (fun _ => False) ((w.alloc (treeO (.slice A n c) cur)).alloc (actO a))).alloc nilT).block _ (by simp <;> omega) id).trans (heap_two2 w _ _)
    · have h := heap_two2 (w.alloc (treeO (.slice A n c) cur)) (actO a) nilT
      rwa [show (w.alloc (treeO (.slice A n c) cur)).heap.size + 1 = w.heap.size + 1 + 1 by simp] at h
  have HK0 := Lib.hid hk0
  obtain ⟨pb, hpb⟩ : ∃ pb, w.heap.size = pb := ⟨_, rfl⟩
  have HPB := Lib.hid hpb
  rw [hpb] at HS0
  have HHL := Lib.hid hl
  have hnn : n ≤ 100000 := by omega
  have HTR := Lib.hid hTr
  obtain ⟨dl, dc, ds, da, de⟩ := D
  obtain ⟨aD, aA, aM, s⟩ := a
  clear hpb hA hT hl hk0 hAl hTr
  go_enter Tryd.func16, Tryd.ntmps16
  go_upto_region 1 with fail
  simp only [HPB.out]
  simp only [treeO, nilT, actO] at HS0 HK0
  generalize ((w.alloc _).alloc _).alloc _ = w0 at *
  obtain ⟨t0, t1, _⟩ := tree_facts HS0.out.tb
  have cC := copytree_any A n c L cur w0 HS0.out.ng hnn
  go_upto_region 2 with (go_at_call 6; refine cC.mono ?_; rintro r w1 ⟨⟨v1, rfl, hO⟩, hk1⟩; obtain ⟨A1, c1, rfl, _, hc1, _⟩ := hO.slice; have HO1 := Lib.hid hO; have HC1 := Lib.hid hc1; have HK1 := Lib.hid (HK0.out.trans hk1); have HS1 := Lib.hid (HS0.out.kept hk1); clear hk1 hO hc1 t0 t1 cC)
  rw [HHL.out] at HO1 HC1 ⊢
  have hk2 : Kept (fun _ => False) w1 (w1.alloc (treeO (.slice A1 n c1) cur)) := (Kept.refl _ w1).alloc _
  have HS2 := Lib.hid (HS1.out.kept hk2)
  have HK2 := Lib.hid (HK1.out.trans hk2)
  have HN0 : Hid (pb + 1 + 1 < w0.heap.size) := heap_lt HS0.out.rb
  have HN1 : Hid (pb + 1 + 1 < w1.heap.size) := heap_lt HS1.out.rb
  have HI2 : Hid (Si L cur pb w1.heap.size (.slice A1 n c1) (w1.alloc (treeO (.slice A1 n c1) cur))) := ⟨heap_alloc_new w1 _, (HO1.out.kept hk2).mono (by have := HN0.out; omega), fun q hq => (HO1.out.own q hq).2, HN1.out⟩
  clear hk2
  simp only [treeO] at HS2 HK2 HI2
  generalize w1.alloc _ = w2 at *
  generalize w1.heap.size = ib at *
  clear HO1 HS1 HK1
  obtain ⟨t0, t1, _⟩ := tree_facts HS2.out.tb
  have cT := HTR.out w2 HS2.out.ng HS2.out.tabs
  go_upto_region 3 with (go_at_call 9; refine cT.mono ?_; rintro r w3 ⟨rfl, hk3⟩; have HK3 := Lib.hid (HK2.out.trans hk3); have HS3 := Lib.hid (HS2.out.kept hk3); have HI3 := Lib.hid (HI2.out.kept hk3); clear hk3 t0 t1 cT)
  have hk4 : Kept (fun _ => False) w3 ((w3.alloc nilT).alloc nilT) := ((Kept.refl _ w3).alloc _).alloc _
  have HX4 := Lib.hid (heap_two1 w3 nilT nilT)
  have HY4 := Lib.hid (heap_two2 w3 nilT nilT)
  have HS4 := Lib.hid (HS3.out.kept hk4)
  have HI4 := Lib.hid (HI3.out.kept hk4)
  have HK4 := Lib.hid (HK3.out.trans hk4)
  have HXI : Hid (ib < w3.heap.size) := heap_lt HI3.out.bx
  clear hk4
  go_upto_region 4 with fail
  simp only [nilT, treeO] at HX4 HY4 HS4 HI4 HK4
  generalize (w3.alloc _).alloc _ = w4 at *
  generalize w3.heap.size = xb at *
  have HYX : Hid (xb + 1 < w4.heap.size) := heap_lt HY4.out
  obtain ⟨a0, _, _, _⟩ := HS4.out.act
  go_upto_region 8 with (go_at_call 21; refine (HWI.out w4).mono ?_; rintro r w' ⟨rfl, hw⟩; have hw2 := hw.symm; subst hw2)
  clear a0 HWI
  go_upto_block 0 with fail
  go_cut [10, 11, 12, 13, 14, 15] from 26 to 122 (fun v10 v11 v12 v13 v14 v15 wx => v10 = .int .i64 de ∧ v11 = .string ds ∧ v12 = .int .i64 da ∧ v13 = .string ds ∧ v14 = .int .i64 da ∧ v15 = .int .i64 de ∧ ∃ vx vw, Jx ⟨dl, dc, ds, da, de⟩ xb vx vw wx ∧ Sv A n c L cur ⟨aD, aA, aM, s⟩ pb wx ∧ Si L cur pb ib (.slice A1 n c1) wx ∧ Kept (fun _ => False) w wx)
  case first =>
    obtain ⟨i0, i1, _⟩ := tree_facts HI4.out.bx
    have cX := HXX.out A1 c1 w4 (by have h2 := HI4.out.on.slice; obtain ⟨A9, c9, e9, h9, _⟩ := h2; rw [HHL.out] at e9 h9; injection e9 with e1 e2 e3; subst e1 e3; exact h9) HC1.out HS4.out.tabs
    go_upto_region 16 with fail
    go_upto_region 17 with (go_at_call 33; refine cX.mono ?_; rintro r w5 ⟨⟨vx, rfl, hO⟩, hk5⟩; obtain ⟨Ax, nx, cx, rfl, _⟩ := hO.sn; have HO5 := Lib.hid hO; have HS5 := Lib.hid (HS4.out.kept hk5); have HI5 := Lib.hid (HI4.out.kept hk5); have HK5 := Lib.hid (HK4.out.trans hk5); have HX5 := Lib.hid ((hk5.block _ (heap_lt HX4.out) id).trans HX4.out); have HY5 := Lib.hid ((hk5.block _ (heap_lt HY4.out) id).trans HY4.out); have HZ5 : Hid (w4.heap.size ≤ w5.heap.size) := hk5.size; clear hk5 hO cX i0 i1; obtain ⟨x0, x1, x2, x3⟩ := tree_facts HX5.out)
    have hks : Kept (fun q => q = xb) w5 ((w5.setCell ⟨xb, 0, none⟩ (.slice Ax nx cx)).setCell ⟨xb, 1, none⟩ (.int .i64 dc)) := Kept.tree (g := xb) (S := fun q => q = xb) (Kept.refl (fun q => q = xb) w5) rfl _ _
    have HX6 := Lib.hid (tree_set HX5.out (.slice Ax nx cx) dc)
    have HY6 := Lib.hid ((hks.block _ (heap_lt HY5.out) (by show ¬ xb + 1 = xb; omega)).trans HY5.out)
    have HO6 := Lib.hid (HO5.out.keptO hks (fun q hq h => by have := (HO5.out.own q hq).1; have := HYX.out; omega))
    have HS6 := Lib.hid (HS5.out.keptS hks (fun q h1 h2 => by have := HXI.out; have := HI5.out.pi; omega))
    have HI6 := Lib.hid (HI5.out.keptS hks (fun q h1 h2 => by have := HXI.out; omega))
    have HK6 := Lib.hid (HK5.out.fresh hks (fun q h1 h2 => by have := HXI.out; have := HI5.out.pi; have := HPB.out; omega))
    have HL6 : Hid (∀ q, (Value.slice Ax nx cx).ownBlock = some q → w4.heap.size ≤ q ∧ q < w5.heap.size) := HO5.out.own
    have HZ6 : Hid (w5.heap.size ≤ ((w5.setCell ⟨xb, 0, none⟩ (.slice Ax nx cx)).setCell ⟨xb, 1, none⟩ (.int .i64 dc)).heap.size) := hks.size
    clear hks
    generalize (w5.setCell ⟨xb, 0, none⟩ (.slice Ax nx cx)).setCell ⟨xb, 1, none⟩ (.int .i64 dc) = w6 at *
    clear x0 x1 x2 x3 HX5 HY5 HS5 HI5 HK5 HO5
    cases B with
    | false =>
      have hd := HDD.out rfl
      injection hd with e1 e2 e3 e4 e5
      subst e1 e2 e3 e4 e5
      go_wp2_with fail
      go_meet
      refine ⟨rfl, rfl, rfl, rfl, rfl, rfl, _, .slice none 0 0, ⟨HX6.out, HO6.out.mono (by have := HYX.out; omega), HY6.out, on_nil _ _, fun q hq => ⟨by have := (HL6.out q hq).1; have := HYX.out; omega, fun h => by cases h⟩⟩, HS6.out, HI6.out, HK6.out⟩
    | true =>
      have cW := HRR.out rfl w6 HS6.out.ng HS6.out.tabs
      obtain ⟨t0, t1, _⟩ := tree_facts HS6.out.tb
      go_wp2_with (go_at_call 34; refine cW.mono ?_; rintro r w7 ⟨⟨vw, rfl, hO⟩, hk7⟩; obtain ⟨Aw, nw, cw, rfl, _⟩ := hO.sn; have HW7 := Lib.hid hO; have HO7 := Lib.hid (HO6.out.kept hk7); have HS7 := Lib.hid (HS6.out.kept hk7); have HI7 := Lib.hid (HI6.out.kept hk7); have HK7 := Lib.hid (HK6.out.trans hk7); have HX7 := Lib.hid ((hk7.block _ (heap_lt HX6.out) id).trans HX6.out); have HY7 := Lib.hid ((hk7.block _ (heap_lt HY6.out) id).trans HY6.out); clear hk7 hO cW t0 t1; obtain ⟨y0, y1, y2, y3⟩ := tree_facts HY7.out)
      have hks7 : Kept (fun q => q = xb + 1) w7 ((w7.setCell ⟨xb + 1, 0, none⟩ (.slice Aw nw cw)).setCell ⟨xb + 1, 1, none⟩ (.int .i64 dc)) := Kept.tree (g := xb + 1) (S := fun q => q = xb + 1) (Kept.refl (fun q => q = xb + 1) w7) rfl _ _
      go_meet
      refine ⟨rfl, rfl, rfl, rfl, rfl, rfl, _, _, ⟨(hks7.block _ (heap_lt HX7.out) (by show ¬ xb = xb + 1; omega)).trans HX7.out, (HO7.out.keptO hks7 (fun q hq h => by have := (HL6.out q hq).1; have := HYX.out; omega)).mono (by have := HYX.out; omega), tree_set HY7.out _ _, (HW7.out.keptO hks7 (fun q hq h => by have := (HW7.out.own q hq).1; have := HYX.out; have := HZ5.out; have := HZ6.out; omega)).mono (by have := HYX.out; have := HZ5.out; have := HZ6.out; omega), fun q hq => ⟨by have := (HL6.out q hq).1; have := HYX.out; omega, fun h => by have := (HW7.out.own q h).1; have := (HL6.out q hq).2; have := HZ6.out; omega⟩⟩, HS7.out.keptS hks7 (fun q h1 h2 => by have := HXI.out; have := HI7.out.pi; omega), HI7.out.keptS hks7 (fun q h1 h2 => by have := HXI.out; omega), HK7.out.fresh hks7 (fun q h1 h2 => by have := HXI.out; have := HI7.out.pi; have := HPB.out; omega)⟩
  case rest =>
    obtain ⟨rfl, rfl, rfl, rfl, rfl, rfl, vx, vw, hJ, hS, hI, hK⟩ := hcut
    obtain ⟨w5, hw5⟩ : ∃ w5, w5 = wc := ⟨_, rfl⟩
    subst hw5
    have HJ5 := Lib.hid hJ
    have HS5 := Lib.hid hS
    have HI5 := Lib.hid hI
    have HK5 := Lib.hid hK
    obtain ⟨Ax, cx, rfl, _, _, _⟩ := hJ.xo.slice
    obtain ⟨Aw, cw, rfl, hwn, _, _⟩ := hJ.wo.slice
    clear hJ hS hI hK hwn HS4 HI4 HK4 HX4 HY4 HS3 HI3 HK3 HS2 HI2 HK2 HS0
    have cE1 := fun W (h : Jx ⟨dl, dc, ds, da, de⟩ xb (.slice Ax dl.length cx) (.slice Aw dl.length cw) W) => eqtree_yes _ _ dl dc W h.xo.sn h.wo.sn hDn
    have cE2 := fun W (h : Si L cur pb ib (.slice A1 n c1) W) (h2 : Sv A n c L cur ⟨aD, aA, aM, s⟩ pb W) => eqtree_yes (.slice A1 n c1) (.slice A n c) L cur W h.on.sn ⟨A, n, c, rfl, h2.ng, hnc, HAN.out⟩ hn
    have HE1 := Lib.hid cE1
    have HE2 := Lib.hid cE2
    have HSP := Lib.hid (fun W (h : Jx ⟨dl, dc, ds, da, de⟩ xb (.slice Ax dl.length cx) (.slice Aw dl.length cw) W) => spoil_tree _ _ dl dc W h.xo hDn)
    have HCP := Lib.hid (fun W (h : Jx ⟨dl, dc, ds, da, de⟩ xb (.slice Ax dl.length cx) (.slice Aw dl.length cw) W) => copytree_any Aw dl.length cw dl dc W (by have h2 := h.wo.slice; obtain ⟨A9, c9, e9, h9, _⟩ := h2; injection e9 with e1 e2 e3; subst e1 e3; exact h9) hDn)
    clear cE1 cE2
    obtain ⟨x0, x1, _⟩ := tree_facts HJ5.out.xbb
    obtain ⟨y0, y1, _⟩ := tree_facts HJ5.out.wbb
    try simp only at x1 y1
    obtain ⟨dn, hdn⟩ : ∃ dn, dl.length = dn := ⟨_, rfl⟩
    rw [hdn] at HJ5 HE1 HSP HCP x0 y0
    have HDN := Lib.hid hdn
    have cE1 := HE1.out w5 HJ5.out
    clear hdn
    go_upto_region 29 with (first
      | (go_at_call 7; refine (unum_any _ _).mono ?_; rintro e w' ⟨rfl, hw⟩; have hw2 := hw.symm; subst hw2)
      | (go_at_call 14; refine cE1.mono ?_; rintro r w6 ⟨rfl, hk6⟩; clear cE1 x0 x1 y0 y1; have HJ6 := Lib.hid (HJ5.out.kept hk6); have HS6 := Lib.hid (HS5.out.kept hk6); have HI6 := Lib.hid (HI5.out.kept hk6); have HK6 := Lib.hid (HK5.out.trans hk6); clear hk6; obtain ⟨i0, i1, _⟩ := tree_facts HI6.out.bx; obtain ⟨t0, t1, _⟩ := tree_facts HS6.out.tb; have cE2 := HE2.out w6 HI6.out HS6.out)
      | (go_at_call 14; refine cE2.mono ?_; rintro r w7 ⟨rfl, hk7⟩; clear cE2 i0 i1 t0 t1; have HJ7 := Lib.hid (HJ6.out.kept hk7); have HS7 := Lib.hid (HS6.out.kept hk7); have HI7 := Lib.hid (HI6.out.kept hk7); have HK7 := Lib.hid (HK6.out.trans hk7); clear hk7))
    obtain ⟨x0, x1, _⟩ := tree_facts HJ7.out.xbb
    try simp only at x1
    have cS := HSP.out w7 HJ7.out
    go_upto_region 30 with (go_at_call 36; refine cS.mono ?_; rintro r w8 ⟨rfl, hk8⟩; have HK78 := Lib.hid hk8; clear cS hk8 x0 x1)
    have HXB : Hid (∀ q, (Value.slice Ax dn cx).ownBlock = some q → xb + 1 < q ∧ (Value.slice Aw dn cw).ownBlock ≠ some q) := HJ7.out.xl
    have HS8 := Lib.hid (HS7.out.keptS HK78.out (fun q h1 h2 => by have := (HXB.out q h2).1; have := HXI.out; have := HI7.out.pi; omega))
    have HI8 := Lib.hid (HI7.out.keptS HK78.out (fun q h1 h2 => by have := (HXB.out q h2).1; have := HXI.out; omega))
    have HW8 := Lib.hid ((HK78.out.block _ (heap_lt HJ7.out.wbb) (fun h => by have := (HXB.out _ h).1; omega)).trans HJ7.out.wbb)
    have HO8 := Lib.hid (HJ7.out.wo.keptO HK78.out (fun q hq h => (HXB.out q h).2 hq))
    have HK8 := Lib.hid (HK7.out.fresh HK78.out (fun q h1 h2 => by have := (HXB.out q h2).1; have := HXI.out; have := HI7.out.pi; have := HPB.out; omega))
    clear HJ5 HJ6 HS5 HS6 HI5 HI6 HK5 HK6
    obtain ⟨i0, i1, _⟩ := tree_facts HI8.out.bx
    obtain ⟨t0, t1, _⟩ := tree_facts HS8.out.tb
    have cE3 := HE2.out w8 HI8.out HS8.out
    go_upto_region 32 with (go_at_call 14; refine cE3.mono ?_; rintro r w9 ⟨rfl, hk9⟩; have HS9 := Lib.hid (HS8.out.kept hk9); have HK9 := Lib.hid (HK8.out.trans hk9); have HW9 := Lib.hid ((hk9.block _ (heap_lt HW8.out) id).trans HW8.out); have HO9 := Lib.hid (HO8.out.kept hk9); clear hk9 cE3 i0 i1 t0 t1)
    by_cases hde : de = 0
    · have q4 : (de != 0) = false := by simp [hde]
      have HDE := Lib.hid hde
      clear hde
      obtain ⟨y0, y1, _⟩ := tree_facts HW9.out
      try simp only at y1
      have cC := copytree_any Aw dn cw dl dc w9 (by have h2 := HO9.out.slice; obtain ⟨A9, c9, e9, h9, _⟩ := h2; rw [HDN.out] at e9 h9; injection e9 with e1 e2 e3; subst e1 e3; exact h9) (by rw [← HDN.out]; exact hDn')
      obtain ⟨r0, r1, r2, r3⟩ := tree_facts HS9.out.rb
      go_wp2_with (go_at_call 6; refine cC.mono ?_; rintro r w10 ⟨⟨v3, rfl, hO⟩, hk10⟩; obtain ⟨A3, n3, c3, rfl, _⟩ := hO.sn; have HO10 := Lib.hid hO; have HS10 := Lib.hid (HS9.out.kept hk10); have HK10 := Lib.hid (HK9.out.trans hk10); clear hk10 hO cC y0 y1 r0 r1 r2 r3; obtain ⟨r0, r1, r2, r3⟩ := tree_facts HS10.out.rb)
      refine bodyPost_ret (res_t1 rfl _ _ (pb + 1 + 1) _ dc rfl rfl (tree_set HS10.out.rb _ _)) rfl ⟨.inl ⟨HDE.out, _, rfl, ?ho⟩, ?hk⟩
      case ho =>
        have h1 := HO10.out.keptS (Kept.tree (g := pb + 1 + 1) (S := fun q => q = pb + 1 + 1) (Kept.refl (fun q => q = pb + 1 + 1) w10) rfl (.slice A3 n3 c3) (.int .i64 dc)) (fun q h1 h => by have h1 := heap_lt HS9.out.rb; omega)
        exact h1.mono (by have h1 := heap_lt HS9.out.rb; have := HPB.out; omega)
      case hk => exact HK10.out.fresh (Kept.tree (g := pb + 1 + 1) (S := fun q => q = pb + 1 + 1) (Kept.refl (fun q => q = pb + 1 + 1) w10) rfl _ _) (fun b hb h => by have := HPB.out; omega)
    · have q4 : (de != 0) = true := by simp [hde]
      have HDE := Lib.hid hde
      clear hde
      obtain ⟨t0, t1, _⟩ := tree_facts HS9.out.tb
      obtain ⟨r0, r1, r2, r3⟩ := tree_facts HS9.out.rb
      go_wp2_with fail
      refine bodyPost_ret (res_t1 rfl _ _ (pb + 1 + 1) _ cur rfl rfl (tree_set HS9.out.rb _ _)) rfl ⟨.inr ⟨HDE.out, rfl⟩, ?_⟩
      exact HK9.out.fresh (Kept.tree (g := pb + 1 + 1) (S := fun q => q = pb + 1 + 1) (Kept.refl (fun q => q = pb + 1 + 1) w9) rfl _ _) (fun b hb h => by have := HPB.out; omega)
set_option maxRecDepth 100000 in
set_option maxHeartbeats 8000000 in
theorem step_w4 (A : Option Addr) (n c : Nat) (L : List NodeS) (cur : Int) (a : NodeS) (w : World) (hA : Ng w A n L) (hnc : n ≤ c) (hAl : ∀ ad, A = some ad → ad.block < w.heap.size) (hT : Tabs w) (hn : L.length ≤ 100000) (B : Bool) (D : WR) (hDn : D.ns.length ≤ 100000) (hTr : ∀ W, Ng W A n L → Tabs W → Calls Tryd.prog 9 #[treeV (.slice A n c) cur] W fun r W' => r = .returned (.bool B) ∧ Kept (fun _ => False) W W') (hAN : A = none → n = 0 ∧ c = 0)
    (hX : ∀ A' c' W, Ng W A' n L → n ≤ c' → Tabs W → Calls Tryd.prog 33 #[treeV (.slice A' n c') cur, .int .i64 4] W (Told W D))
    (hR : B = true → ∀ W, Ng W A n L → Tabs W → Calls Tryd.prog 34 #[treeV (.slice A n c) cur, .int .i64 4] W (Told W D))
    (hD : B = false → D = wr0 1) (hk : ∀ W : World, Calls Tryd.prog 21 #[.int .i64 a.sq, .int .i64 10] W fun r W' => r = .returned (.int .i64 8) ∧ W' = W) :
    Calls Tryd.prog 16 #[treeV (.slice A n c) cur, actV a] w (ToldS A n c cur w D) := by
  have HXX := Lib.hid hX
  have HRR := Lib.hid hR
  have HDD := Lib.hid hD
  have HWI := Lib.hid hk
  have HAN := Lib.hid hAN
  have hDn' := hDn
  clear hX hR hD hk hAN
  have hl := hA.len
  have hk0 : Kept (fun _ => False) w (((w.alloc (treeO (.slice A n c) cur)).alloc (actO a)).alloc nilT) := (((Kept.refl _ w).alloc _).alloc _).alloc _
  have HS0 : Hid (Sv A n c L cur a w.heap.size (((w.alloc (treeO (.slice A n c) cur)).alloc (actO a)).alloc nilT)) := by
    refine ⟨hT.kept hk0 id id, hT.two, hA.kept hk0 (fun _ _ => id), ?_, ?_, ?_, hAl⟩
    · exact (((Kept.refl (fun _ => False) ((w.alloc (treeO (.slice A n c) cur)).alloc (actO a))).alloc nilT).block _ (by simp <;> omega) id).trans (heap_two1 w _ _)
    · exact (((Kept.refl (fun _ => False) ((w.alloc (treeO (.slice A n c) cur)).alloc (actO a))).alloc nilT).block _ (by simp <;> omega) id).trans (heap_two2 w _ _)
    · have h := heap_two2 (w.alloc (treeO (.slice A n c) cur)) (actO a) nilT
      rwa [show (w.alloc (treeO (.slice A n c) cur)).heap.size + 1 = w.heap.size + 1 + 1 by simp] at h
  have HK0 := Lib.hid hk0
  obtain ⟨pb, hpb⟩ : ∃ pb, w.heap.size = pb := ⟨_, rfl⟩
  have HPB := Lib.hid hpb
  rw [hpb] at HS0
  have HHL := Lib.hid hl
  have hnn : n ≤ 100000 := by omega
  have HTR := Lib.hid hTr
  obtain ⟨dl, dc, ds, da, de⟩ := D
  obtain ⟨aD, aA, aM, s⟩ := a
  clear hpb hA hT hl hk0 hAl hTr
  go_enter Tryd.func16, Tryd.ntmps16
  go_upto_region 1 with fail
  simp only [HPB.out]
  simp only [treeO, nilT, actO] at HS0 HK0
  generalize ((w.alloc _).alloc _).alloc _ = w0 at *
  obtain ⟨t0, t1, _⟩ := tree_facts HS0.out.tb
  have cC := copytree_any A n c L cur w0 HS0.out.ng hnn
  go_upto_region 2 with (go_at_call 6; refine cC.mono ?_; rintro r w1 ⟨⟨v1, rfl, hO⟩, hk1⟩; obtain ⟨A1, c1, rfl, _, hc1, _⟩ := hO.slice; have HO1 := Lib.hid hO; have HC1 := Lib.hid hc1; have HK1 := Lib.hid (HK0.out.trans hk1); have HS1 := Lib.hid (HS0.out.kept hk1); clear hk1 hO hc1 t0 t1 cC)
  rw [HHL.out] at HO1 HC1 ⊢
  have hk2 : Kept (fun _ => False) w1 (w1.alloc (treeO (.slice A1 n c1) cur)) := (Kept.refl _ w1).alloc _
  have HS2 := Lib.hid (HS1.out.kept hk2)
  have HK2 := Lib.hid (HK1.out.trans hk2)
  have HN0 : Hid (pb + 1 + 1 < w0.heap.size) := heap_lt HS0.out.rb
  have HN1 : Hid (pb + 1 + 1 < w1.heap.size) := heap_lt HS1.out.rb
  have HI2 : Hid (Si L cur pb w1.heap.size (.slice A1 n c1) (w1.alloc (treeO (.slice A1 n c1) cur))) := ⟨heap_alloc_new w1 _, (HO1.out.kept hk2).mono (by have := HN0.out; omega), fun q hq => (HO1.out.own q hq).2, HN1.out⟩
  clear hk2
  simp only [treeO] at HS2 HK2 HI2
  generalize w1.alloc _ = w2 at *
  generalize w1.heap.size = ib at *
  clear HO1 HS1 HK1
  obtain ⟨t0, t1, _⟩ := tree_facts HS2.out.tb
  have cT := HTR.out w2 HS2.out.ng HS2.out.tabs
  go_upto_region 3 with (go_at_call 9; refine cT.mono ?_; rintro r w3 ⟨rfl, hk3⟩; have HK3 := Lib.hid (HK2.out.trans hk3); have HS3 := Lib.hid (HS2.out.kept hk3); have HI3 := Lib.hid (HI2.out.kept hk3); clear hk3 t0 t1 cT)
  have hk4 : Kept (fun _ => False) w3 ((w3.alloc nilT).alloc nilT) := ((Kept.refl _ w3).alloc _).alloc _
  have HX4 := Lib.hid (heap_two1 w3 nilT nilT)
  have HY4 := Lib.hid (heap_two2 w3 nilT nilT)
  have HS4 := Lib.hid (HS3.out.kept hk4)
  have HI4 := Lib.hid (HI3.out.kept hk4)
  have HK4 := Lib.hid (HK3.out.trans hk4)
  have HXI : Hid (ib < w3.heap.size) := heap_lt HI3.out.bx
  clear hk4
  go_upto_region 4 with fail
  simp only [nilT, treeO] at HX4 HY4 HS4 HI4 HK4
  generalize (w3.alloc _).alloc _ = w4 at *
  generalize w3.heap.size = xb at *
  have HYX : Hid (xb + 1 < w4.heap.size) := heap_lt HY4.out
  obtain ⟨a0, _, _, _⟩ := HS4.out.act
  go_upto_region 8 with (go_at_call 21; refine (HWI.out w4).mono ?_; rintro r w' ⟨rfl, hw⟩; have hw2 := hw.symm; subst hw2)
  clear a0 HWI
  go_upto_block 0 with fail
  go_cut [10, 11, 12, 13, 14, 15] from 26 to 122 (fun v10 v11 v12 v13 v14 v15 wx => v10 = .int .i64 de ∧ v11 = .string ds ∧ v12 = .int .i64 da ∧ v13 = .string ds ∧ v14 = .int .i64 da ∧ v15 = .int .i64 de ∧ ∃ vx vw, Jx ⟨dl, dc, ds, da, de⟩ xb vx vw wx ∧ Sv A n c L cur ⟨aD, aA, aM, s⟩ pb wx ∧ Si L cur pb ib (.slice A1 n c1) wx ∧ Kept (fun _ => False) w wx)
  case first =>
    obtain ⟨i0, i1, _⟩ := tree_facts HI4.out.bx
    have cX := HXX.out A1 c1 w4 (by have h2 := HI4.out.on.slice; obtain ⟨A9, c9, e9, h9, _⟩ := h2; rw [HHL.out] at e9 h9; injection e9 with e1 e2 e3; subst e1 e3; exact h9) HC1.out HS4.out.tabs
    go_upto_region 16 with fail
    go_upto_region 17 with (go_at_call 33; refine cX.mono ?_; rintro r w5 ⟨⟨vx, rfl, hO⟩, hk5⟩; obtain ⟨Ax, nx, cx, rfl, _⟩ := hO.sn; have HO5 := Lib.hid hO; have HS5 := Lib.hid (HS4.out.kept hk5); have HI5 := Lib.hid (HI4.out.kept hk5); have HK5 := Lib.hid (HK4.out.trans hk5); have HX5 := Lib.hid ((hk5.block _ (heap_lt HX4.out) id).trans HX4.out); have HY5 := Lib.hid ((hk5.block _ (heap_lt HY4.out) id).trans HY4.out); have HZ5 : Hid (w4.heap.size ≤ w5.heap.size) := hk5.size; clear hk5 hO cX i0 i1; obtain ⟨x0, x1, x2, x3⟩ := tree_facts HX5.out)
    have hks : Kept (fun q => q = xb) w5 ((w5.setCell ⟨xb, 0, none⟩ (.slice Ax nx cx)).setCell ⟨xb, 1, none⟩ (.int .i64 dc)) := Kept.tree (g := xb) (S := fun q => q = xb) (Kept.refl (fun q => q = xb) w5) rfl _ _
    have HX6 := Lib.hid (tree_set HX5.out (.slice Ax nx cx) dc)
    have HY6 := Lib.hid ((hks.block _ (heap_lt HY5.out) (by show ¬ xb + 1 = xb; omega)).trans HY5.out)
    have HO6 := Lib.hid (HO5.out.keptO hks (fun q hq h => by have := (HO5.out.own q hq).1; have := HYX.out; omega))
    have HS6 := Lib.hid (HS5.out.keptS hks (fun q h1 h2 => by have := HXI.out; have := HI5.out.pi; omega))
    have HI6 := Lib.hid (HI5.out.keptS hks (fun q h1 h2 => by have := HXI.out; omega))
    have HK6 := Lib.hid (HK5.out.fresh hks (fun q h1 h2 => by have := HXI.out; have := HI5.out.pi; have := HPB.out; omega))
    have HL6 : Hid (∀ q, (Value.slice Ax nx cx).ownBlock = some q → w4.heap.size ≤ q ∧ q < w5.heap.size) := HO5.out.own
    have HZ6 : Hid (w5.heap.size ≤ ((w5.setCell ⟨xb, 0, none⟩ (.slice Ax nx cx)).setCell ⟨xb, 1, none⟩ (.int .i64 dc)).heap.size) := hks.size
    clear hks
    generalize (w5.setCell ⟨xb, 0, none⟩ (.slice Ax nx cx)).setCell ⟨xb, 1, none⟩ (.int .i64 dc) = w6 at *
    clear x0 x1 x2 x3 HX5 HY5 HS5 HI5 HK5 HO5
    cases B with
    | false =>
      have hd := HDD.out rfl
      injection hd with e1 e2 e3 e4 e5
      subst e1 e2 e3 e4 e5
      go_wp2_with fail
      go_meet
      refine ⟨rfl, rfl, rfl, rfl, rfl, rfl, _, .slice none 0 0, ⟨HX6.out, HO6.out.mono (by have := HYX.out; omega), HY6.out, on_nil _ _, fun q hq => ⟨by have := (HL6.out q hq).1; have := HYX.out; omega, fun h => by cases h⟩⟩, HS6.out, HI6.out, HK6.out⟩
    | true =>
      have cW := HRR.out rfl w6 HS6.out.ng HS6.out.tabs
      obtain ⟨t0, t1, _⟩ := tree_facts HS6.out.tb
      go_wp2_with (go_at_call 34; refine cW.mono ?_; rintro r w7 ⟨⟨vw, rfl, hO⟩, hk7⟩; obtain ⟨Aw, nw, cw, rfl, _⟩ := hO.sn; have HW7 := Lib.hid hO; have HO7 := Lib.hid (HO6.out.kept hk7); have HS7 := Lib.hid (HS6.out.kept hk7); have HI7 := Lib.hid (HI6.out.kept hk7); have HK7 := Lib.hid (HK6.out.trans hk7); have HX7 := Lib.hid ((hk7.block _ (heap_lt HX6.out) id).trans HX6.out); have HY7 := Lib.hid ((hk7.block _ (heap_lt HY6.out) id).trans HY6.out); clear hk7 hO cW t0 t1; obtain ⟨y0, y1, y2, y3⟩ := tree_facts HY7.out)
      have hks7 : Kept (fun q => q = xb + 1) w7 ((w7.setCell ⟨xb + 1, 0, none⟩ (.slice Aw nw cw)).setCell ⟨xb + 1, 1, none⟩ (.int .i64 dc)) := Kept.tree (g := xb + 1) (S := fun q => q = xb + 1) (Kept.refl (fun q => q = xb + 1) w7) rfl _ _
      go_meet
      refine ⟨rfl, rfl, rfl, rfl, rfl, rfl, _, _, ⟨(hks7.block _ (heap_lt HX7.out) (by show ¬ xb = xb + 1; omega)).trans HX7.out, (HO7.out.keptO hks7 (fun q hq h => by have := (HL6.out q hq).1; have := HYX.out; omega)).mono (by have := HYX.out; omega), tree_set HY7.out _ _, (HW7.out.keptO hks7 (fun q hq h => by have := (HW7.out.own q hq).1; have := HYX.out; have := HZ5.out; have := HZ6.out; omega)).mono (by have := HYX.out; have := HZ5.out; have := HZ6.out; omega), fun q hq => ⟨by have := (HL6.out q hq).1; have := HYX.out; omega, fun h => by have := (HW7.out.own q h).1; have := (HL6.out q hq).2; have := HZ6.out; omega⟩⟩, HS7.out.keptS hks7 (fun q h1 h2 => by have := HXI.out; have := HI7.out.pi; omega), HI7.out.keptS hks7 (fun q h1 h2 => by have := HXI.out; omega), HK7.out.fresh hks7 (fun q h1 h2 => by have := HXI.out; have := HI7.out.pi; have := HPB.out; omega)⟩
  case rest =>
    obtain ⟨rfl, rfl, rfl, rfl, rfl, rfl, vx, vw, hJ, hS, hI, hK⟩ := hcut
    obtain ⟨w5, hw5⟩ : ∃ w5, w5 = wc := ⟨_, rfl⟩
    subst hw5
    have HJ5 := Lib.hid hJ
    have HS5 := Lib.hid hS
    have HI5 := Lib.hid hI
    have HK5 := Lib.hid hK
    obtain ⟨Ax, cx, rfl, _, _, _⟩ := hJ.xo.slice
    obtain ⟨Aw, cw, rfl, hwn, _, _⟩ := hJ.wo.slice
    clear hJ hS hI hK hwn HS4 HI4 HK4 HX4 HY4 HS3 HI3 HK3 HS2 HI2 HK2 HS0
    have cE1 := fun W (h : Jx ⟨dl, dc, ds, da, de⟩ xb (.slice Ax dl.length cx) (.slice Aw dl.length cw) W) => eqtree_yes _ _ dl dc W h.xo.sn h.wo.sn hDn
    have cE2 := fun W (h : Si L cur pb ib (.slice A1 n c1) W) (h2 : Sv A n c L cur ⟨aD, aA, aM, s⟩ pb W) => eqtree_yes (.slice A1 n c1) (.slice A n c) L cur W h.on.sn ⟨A, n, c, rfl, h2.ng, hnc, HAN.out⟩ hn
    have HE1 := Lib.hid cE1
    have HE2 := Lib.hid cE2
    have HSP := Lib.hid (fun W (h : Jx ⟨dl, dc, ds, da, de⟩ xb (.slice Ax dl.length cx) (.slice Aw dl.length cw) W) => spoil_tree _ _ dl dc W h.xo hDn)
    have HCP := Lib.hid (fun W (h : Jx ⟨dl, dc, ds, da, de⟩ xb (.slice Ax dl.length cx) (.slice Aw dl.length cw) W) => copytree_any Aw dl.length cw dl dc W (by have h2 := h.wo.slice; obtain ⟨A9, c9, e9, h9, _⟩ := h2; injection e9 with e1 e2 e3; subst e1 e3; exact h9) hDn)
    clear cE1 cE2
    obtain ⟨x0, x1, _⟩ := tree_facts HJ5.out.xbb
    obtain ⟨y0, y1, _⟩ := tree_facts HJ5.out.wbb
    try simp only at x1 y1
    obtain ⟨dn, hdn⟩ : ∃ dn, dl.length = dn := ⟨_, rfl⟩
    rw [hdn] at HJ5 HE1 HSP HCP x0 y0
    have HDN := Lib.hid hdn
    have cE1 := HE1.out w5 HJ5.out
    clear hdn
    go_upto_region 29 with (first
      | (go_at_call 7; refine (unum_any _ _).mono ?_; rintro e w' ⟨rfl, hw⟩; have hw2 := hw.symm; subst hw2)
      | (go_at_call 14; refine cE1.mono ?_; rintro r w6 ⟨rfl, hk6⟩; clear cE1 x0 x1 y0 y1; have HJ6 := Lib.hid (HJ5.out.kept hk6); have HS6 := Lib.hid (HS5.out.kept hk6); have HI6 := Lib.hid (HI5.out.kept hk6); have HK6 := Lib.hid (HK5.out.trans hk6); clear hk6; obtain ⟨i0, i1, _⟩ := tree_facts HI6.out.bx; obtain ⟨t0, t1, _⟩ := tree_facts HS6.out.tb; have cE2 := HE2.out w6 HI6.out HS6.out)
      | (go_at_call 14; refine cE2.mono ?_; rintro r w7 ⟨rfl, hk7⟩; clear cE2 i0 i1 t0 t1; have HJ7 := Lib.hid (HJ6.out.kept hk7); have HS7 := Lib.hid (HS6.out.kept hk7); have HI7 := Lib.hid (HI6.out.kept hk7); have HK7 := Lib.hid (HK6.out.trans hk7); clear hk7))
    obtain ⟨x0, x1, _⟩ := tree_facts HJ7.out.xbb
    try simp only at x1
    have cS := HSP.out w7 HJ7.out
    go_upto_region 30 with (go_at_call 36; refine cS.mono ?_; rintro r w8 ⟨rfl, hk8⟩; have HK78 := Lib.hid hk8; clear cS hk8 x0 x1)
    have HXB : Hid (∀ q, (Value.slice Ax dn cx).ownBlock = some q → xb + 1 < q ∧ (Value.slice Aw dn cw).ownBlock ≠ some q) := HJ7.out.xl
    have HS8 := Lib.hid (HS7.out.keptS HK78.out (fun q h1 h2 => by have := (HXB.out q h2).1; have := HXI.out; have := HI7.out.pi; omega))
    have HI8 := Lib.hid (HI7.out.keptS HK78.out (fun q h1 h2 => by have := (HXB.out q h2).1; have := HXI.out; omega))
    have HW8 := Lib.hid ((HK78.out.block _ (heap_lt HJ7.out.wbb) (fun h => by have := (HXB.out _ h).1; omega)).trans HJ7.out.wbb)
    have HO8 := Lib.hid (HJ7.out.wo.keptO HK78.out (fun q hq h => (HXB.out q h).2 hq))
    have HK8 := Lib.hid (HK7.out.fresh HK78.out (fun q h1 h2 => by have := (HXB.out q h2).1; have := HXI.out; have := HI7.out.pi; have := HPB.out; omega))
    clear HJ5 HJ6 HS5 HS6 HI5 HI6 HK5 HK6
    obtain ⟨i0, i1, _⟩ := tree_facts HI8.out.bx
    obtain ⟨t0, t1, _⟩ := tree_facts HS8.out.tb
    have cE3 := HE2.out w8 HI8.out HS8.out
    go_upto_region 32 with (go_at_call 14; refine cE3.mono ?_; rintro r w9 ⟨rfl, hk9⟩; have HS9 := Lib.hid (HS8.out.kept hk9); have HK9 := Lib.hid (HK8.out.trans hk9); have HW9 := Lib.hid ((hk9.block _ (heap_lt HW8.out) id).trans HW8.out); have HO9 := Lib.hid (HO8.out.kept hk9); clear hk9 cE3 i0 i1 t0 t1)
    by_cases hde : de = 0
    · have q4 : (de != 0) = false := by simp [hde]
      have HDE := Lib.hid hde
      clear hde
      obtain ⟨y0, y1, _⟩ := tree_facts HW9.out
      try simp only at y1
      have cC := copytree_any Aw dn cw dl dc w9 (by have h2 := HO9.out.slice; obtain ⟨A9, c9, e9, h9, _⟩ := h2; rw [HDN.out] at e9 h9; injection e9 with e1 e2 e3; subst e1 e3; exact h9) (by rw [← HDN.out]; exact hDn')
      obtain ⟨r0, r1, r2, r3⟩ := tree_facts HS9.out.rb
      go_wp2_with (go_at_call 6; refine cC.mono ?_; rintro r w10 ⟨⟨v3, rfl, hO⟩, hk10⟩; obtain ⟨A3, n3, c3, rfl, _⟩ := hO.sn; have HO10 := Lib.hid hO; have HS10 := Lib.hid (HS9.out.kept hk10); have HK10 := Lib.hid (HK9.out.trans hk10); clear hk10 hO cC y0 y1 r0 r1 r2 r3; obtain ⟨r0, r1, r2, r3⟩ := tree_facts HS10.out.rb)
      refine bodyPost_ret (res_t1 rfl _ _ (pb + 1 + 1) _ dc rfl rfl (tree_set HS10.out.rb _ _)) rfl ⟨.inl ⟨HDE.out, _, rfl, ?ho⟩, ?hk⟩
      case ho =>
        have h1 := HO10.out.keptS (Kept.tree (g := pb + 1 + 1) (S := fun q => q = pb + 1 + 1) (Kept.refl (fun q => q = pb + 1 + 1) w10) rfl (.slice A3 n3 c3) (.int .i64 dc)) (fun q h1 h => by have h1 := heap_lt HS9.out.rb; omega)
        exact h1.mono (by have h1 := heap_lt HS9.out.rb; have := HPB.out; omega)
      case hk => exact HK10.out.fresh (Kept.tree (g := pb + 1 + 1) (S := fun q => q = pb + 1 + 1) (Kept.refl (fun q => q = pb + 1 + 1) w10) rfl _ _) (fun b hb h => by have := HPB.out; omega)
    · have q4 : (de != 0) = true := by simp [hde]
      have HDE := Lib.hid hde
      clear hde
      obtain ⟨t0, t1, _⟩ := tree_facts HS9.out.tb
      obtain ⟨r0, r1, r2, r3⟩ := tree_facts HS9.out.rb
      go_wp2_with fail
      refine bodyPost_ret (res_t1 rfl _ _ (pb + 1 + 1) _ cur rfl rfl (tree_set HS9.out.rb _ _)) rfl ⟨.inr ⟨HDE.out, rfl⟩, ?_⟩
      exact HK9.out.fresh (Kept.tree (g := pb + 1 + 1) (S := fun q => q = pb + 1 + 1) (Kept.refl (fun q => q = pb + 1 + 1) w9) rfl _ _) (fun b hb h => by have := HPB.out; omega)
set_option maxRecDepth 100000 in
set_option maxHeartbeats 8000000 in
theorem step_c (A : Option Addr) (n c : Nat) (L : List NodeS) (cur : Int) (a : NodeS) (w : World) (hA : Ng w A n L) (hnc : n ≤ c) (hAl : ∀ ad, A = some ad → ad.block < w.heap.size) (hT : Tabs w) (hn : L.length ≤ 100000) (B : Bool) (D : WR) (hDn : D.ns.length ≤ 100000) (hTr : ∀ W, Ng W A n L → Tabs W → Calls Tryd.prog 9 #[treeV (.slice A n c) cur] W fun r W' => r = .returned (.bool B) ∧ Kept (fun _ => False) W W') (hAN : A = none → n = 0 ∧ c = 0) (k : Nat) (hk4 : k ≤ 4) (hDt : D.tx = ⟨#[]⟩) (hDa : D.at_ = 0) (hsz : a.tx.size ≤ 140737488351232)
    (hX : ∀ A' c' W, Ng W A' n L → n ≤ c' → Tabs W → Calls Tryd.prog 18 #[treeV (.slice A' n c') cur, .string a.tx, .int .i64 a.pa, .int .i64 a.at_] W (ToldC W D))
    (hR : B = true → mayB a.tx = true → decide (0 ≤ a.pa ∧ a.pa ≤ 4000) = true → decide (2 ≤ a.at_ ∧ a.at_ ≤ 64) = true → ∀ W, Ng W A n L → Tabs W → Calls Tryd.prog 35 #[treeV (.slice A n c) cur, .string a.tx, .int .i64 a.pa, .int .i64 a.at_] W (ToldC W D))
    (hD : ¬ (B = true ∧ mayB a.tx = true ∧ decide (0 ≤ a.pa ∧ a.pa ≤ 4000) = true ∧ decide (2 ≤ a.at_ ∧ a.at_ ≤ 64) = true) → D = wr0 1) (hk : ∀ W : World, Calls Tryd.prog 21 #[.int .i64 a.sq, .int .i64 10] W fun r W' => r = .returned (.int .i64 k) ∧ W' = W) :
    Calls Tryd.prog 16 #[treeV (.slice A n c) cur, actV a] w (ToldS A n c cur w D) := by
  have HXX := Lib.hid hX
  have HRR := Lib.hid hR
  have HDD := Lib.hid hD
  have HWI := Lib.hid hk
  have HAN := Lib.hid hAN
  have HMY := Lib.hid (fun W (h : Tabs W) => rmay_any a.tx W hsz h)
  have HNM := Lib.hid (fun W => mnum_any a.pa 4000 W)
  have HBT := Lib.hid (fun W => mbtw_any a.at_ 2 64 W)
  obtain ⟨M, hM⟩ : ∃ M, mayB a.tx = M := ⟨_, rfl⟩
  obtain ⟨N1, hN1⟩ : ∃ N1, decide (0 ≤ a.pa ∧ a.pa ≤ 4000) = N1 := ⟨_, rfl⟩
  obtain ⟨N2, hN2⟩ : ∃ N2, decide (2 ≤ a.at_ ∧ a.at_ ≤ 64) = N2 := ⟨_, rfl⟩
  rw [hM, hN1, hN2] at HRR HDD
  rw [hM] at HMY
  rw [hN1] at HNM
  rw [hN2] at HBT
  have hDn' := hDn
  have k5 : ((k : Int) == 5) = false := by rw [beq_eq_false_iff_ne]; omega
  have k6 : ((k : Int) == 6) = false := by rw [beq_eq_false_iff_ne]; omega
  have k7 : ((k : Int) == 7) = false := by rw [beq_eq_false_iff_ne]; omega
  have k8 : ((k : Int) == 8) = false := by rw [beq_eq_false_iff_ne]; omega
  have k9 : ((k : Int) == 9) = false := by rw [beq_eq_false_iff_ne]; omega
  clear hX hR hD hk hAN hM hN1 hN2
  have hl := hA.len
  have hk0 : Kept (fun _ => False) w (((w.alloc (treeO (.slice A n c) cur)).alloc (actO a)).alloc nilT) := (((Kept.refl _ w).alloc _).alloc _).alloc _
  have HS0 : Hid (Sv A n c L cur a w.heap.size (((w.alloc (treeO (.slice A n c) cur)).alloc (actO a)).alloc nilT)) := by
    refine ⟨hT.kept hk0 id id, hT.two, hA.kept hk0 (fun _ _ => id), ?_, ?_, ?_, hAl⟩
    · exact (((Kept.refl (fun _ => False) ((w.alloc (treeO (.slice A n c) cur)).alloc (actO a))).alloc nilT).block _ (by simp <;> omega) id).trans (heap_two1 w _ _)
    · exact (((Kept.refl (fun _ => False) ((w.alloc (treeO (.slice A n c) cur)).alloc (actO a))).alloc nilT).block _ (by simp <;> omega) id).trans (heap_two2 w _ _)
    · have h := heap_two2 (w.alloc (treeO (.slice A n c) cur)) (actO a) nilT
      rwa [show (w.alloc (treeO (.slice A n c) cur)).heap.size + 1 = w.heap.size + 1 + 1 by simp] at h
  have HK0 := Lib.hid hk0
  obtain ⟨pb, hpb⟩ : ∃ pb, w.heap.size = pb := ⟨_, rfl⟩
  have HPB := Lib.hid hpb
  rw [hpb] at HS0
  have HHL := Lib.hid hl
  have hnn : n ≤ 100000 := by omega
  have HTR := Lib.hid hTr
  obtain ⟨dl, dc, ds, da, de⟩ := D
  simp only at hDt hDa
  subst hDt hDa
  obtain ⟨aD, aA, aM, s⟩ := a
  clear hpb hA hT hl hk0 hAl hTr
  simp only at HXX HRR HMY HNM HBT HWI
  go_enter Tryd.func16, Tryd.ntmps16
  go_upto_region 1 with fail
  simp only [HPB.out]
  simp only [treeO, nilT, actO] at HS0 HK0
  generalize ((w.alloc _).alloc _).alloc _ = w0 at *
  obtain ⟨t0, t1, _⟩ := tree_facts HS0.out.tb
  have cC := copytree_any A n c L cur w0 HS0.out.ng hnn
  go_upto_region 2 with (go_at_call 6; refine cC.mono ?_; rintro r w1 ⟨⟨v1, rfl, hO⟩, hk1⟩; obtain ⟨A1, c1, rfl, _, hc1, _⟩ := hO.slice; have HO1 := Lib.hid hO; have HC1 := Lib.hid hc1; have HK1 := Lib.hid (HK0.out.trans hk1); have HS1 := Lib.hid (HS0.out.kept hk1); clear hk1 hO hc1 t0 t1 cC)
  rw [HHL.out] at HO1 HC1 ⊢
  have hk2 : Kept (fun _ => False) w1 (w1.alloc (treeO (.slice A1 n c1) cur)) := (Kept.refl _ w1).alloc _
  have HS2 := Lib.hid (HS1.out.kept hk2)
  have HK2 := Lib.hid (HK1.out.trans hk2)
  have HN0 : Hid (pb + 1 + 1 < w0.heap.size) := heap_lt HS0.out.rb
  have HN1 : Hid (pb + 1 + 1 < w1.heap.size) := heap_lt HS1.out.rb
  have HI2 : Hid (Si L cur pb w1.heap.size (.slice A1 n c1) (w1.alloc (treeO (.slice A1 n c1) cur))) := ⟨heap_alloc_new w1 _, (HO1.out.kept hk2).mono (by have := HN0.out; omega), fun q hq => (HO1.out.own q hq).2, HN1.out⟩
  clear hk2
  simp only [treeO] at HS2 HK2 HI2
  generalize w1.alloc _ = w2 at *
  generalize w1.heap.size = ib at *
  clear HO1 HS1 HK1
  obtain ⟨t0, t1, _⟩ := tree_facts HS2.out.tb
  have cT := HTR.out w2 HS2.out.ng HS2.out.tabs
  go_upto_region 3 with (go_at_call 9; refine cT.mono ?_; rintro r w3 ⟨rfl, hk3⟩; have HK3 := Lib.hid (HK2.out.trans hk3); have HS3 := Lib.hid (HS2.out.kept hk3); have HI3 := Lib.hid (HI2.out.kept hk3); clear hk3 t0 t1 cT)
  have hk4 : Kept (fun _ => False) w3 ((w3.alloc nilT).alloc nilT) := ((Kept.refl _ w3).alloc _).alloc _
  have HX4 := Lib.hid (heap_two1 w3 nilT nilT)
  have HY4 := Lib.hid (heap_two2 w3 nilT nilT)
  have HS4 := Lib.hid (HS3.out.kept hk4)
  have HI4 := Lib.hid (HI3.out.kept hk4)
  have HK4 := Lib.hid (HK3.out.trans hk4)
  have HXI : Hid (ib < w3.heap.size) := heap_lt HI3.out.bx
  clear hk4
  go_upto_region 4 with fail
  simp only [nilT, treeO] at HX4 HY4 HS4 HI4 HK4
  generalize (w3.alloc _).alloc _ = w4 at *
  generalize w3.heap.size = xb at *
  have HYX : Hid (xb + 1 < w4.heap.size) := heap_lt HY4.out
  obtain ⟨a0, _, _, _⟩ := HS4.out.act
  go_upto_region 8 with (go_at_call 21; refine (HWI.out w4).mono ?_; rintro r w' ⟨rfl, hw⟩; have hw2 := hw.symm; subst hw2)
  clear a0 HWI
  go_upto_block 0 with fail
  go_cut [10, 11, 12, 13, 14, 15] from 26 to 122 (fun v10 v11 v12 v13 v14 v15 wx => v10 = .int .i64 de ∧ v11 = .string (⟨#[]⟩ : ByteArray) ∧ v12 = .int .i64 0 ∧ v13 = .string (⟨#[]⟩ : ByteArray) ∧ v14 = .int .i64 0 ∧ v15 = .int .i64 de ∧ ∃ vx vw, Jx ⟨dl, dc, (⟨#[]⟩ : ByteArray), 0, de⟩ xb vx vw wx ∧ Sv A n c L cur ⟨aD, aA, aM, s⟩ pb wx ∧ Si L cur pb ib (.slice A1 n c1) wx ∧ Kept (fun _ => False) w wx)
  case first =>
    obtain ⟨i0, i1, _⟩ := tree_facts HI4.out.bx
    have cX := HXX.out A1 c1 w4 (by have h2 := HI4.out.on.slice; obtain ⟨A9, c9, e9, h9, _⟩ := h2; rw [HHL.out] at e9 h9; injection e9 with e1 e2 e3; subst e1 e3; exact h9) HC1.out HS4.out.tabs
    obtain ⟨_, a1, a2, a3⟩ := HS4.out.act
    go_upto_region 9 with fail
    clear k5 k6 k7 k8 k9
    go_upto_region 10 with (go_at_call 18; refine cX.mono ?_; rintro r w5 ⟨⟨vx, rfl, hO⟩, hk5⟩; obtain ⟨Ax, nx, cx, rfl, _⟩ := hO.sn; have HO5 := Lib.hid hO; have HS5 := Lib.hid (HS4.out.kept hk5); have HI5 := Lib.hid (HI4.out.kept hk5); have HK5 := Lib.hid (HK4.out.trans hk5); have HX5 := Lib.hid ((hk5.block _ (heap_lt HX4.out) id).trans HX4.out); have HY5 := Lib.hid ((hk5.block _ (heap_lt HY4.out) id).trans HY4.out); have HZ5 : Hid (w4.heap.size ≤ w5.heap.size) := hk5.size; clear hk5 hO cX i0 i1 a1 a2 a3; obtain ⟨x0, x1, x2, x3⟩ := tree_facts HX5.out)
    have hks : Kept (fun q => q = xb) w5 ((w5.setCell ⟨xb, 0, none⟩ (.slice Ax nx cx)).setCell ⟨xb, 1, none⟩ (.int .i64 dc)) := Kept.tree (g := xb) (S := fun q => q = xb) (Kept.refl (fun q => q = xb) w5) rfl _ _
    have HX6 := Lib.hid (tree_set HX5.out (.slice Ax nx cx) dc)
    have HY6 := Lib.hid ((hks.block _ (heap_lt HY5.out) (by show ¬ xb + 1 = xb; omega)).trans HY5.out)
    have HO6 := Lib.hid (HO5.out.keptO hks (fun q hq h => by have := (HO5.out.own q hq).1; have := HYX.out; omega))
    have HS6 := Lib.hid (HS5.out.keptS hks (fun q h1 h2 => by have := HXI.out; have := HI5.out.pi; omega))
    have HI6 := Lib.hid (HI5.out.keptS hks (fun q h1 h2 => by have := HXI.out; omega))
    have HK6 := Lib.hid (HK5.out.fresh hks (fun q h1 h2 => by have := HXI.out; have := HI5.out.pi; have := HPB.out; omega))
    have HL6 : Hid (∀ q, (Value.slice Ax nx cx).ownBlock = some q → w4.heap.size ≤ q ∧ q < w5.heap.size) := HO5.out.own
    have HZ6 : Hid (w5.heap.size ≤ ((w5.setCell ⟨xb, 0, none⟩ (.slice Ax nx cx)).setCell ⟨xb, 1, none⟩ (.int .i64 dc)).heap.size) := hks.size
    clear hks
    generalize (w5.setCell ⟨xb, 0, none⟩ (.slice Ax nx cx)).setCell ⟨xb, 1, none⟩ (.int .i64 dc) = w6 at *
    clear x0 x1 x2 x3 HX5 HY5 HS5 HI5 HK5 HO5
    obtain ⟨_, a1, a2, a3⟩ := HS6.out.act
    cases B with
    | false =>
      have hd := HDD.out (by rintro ⟨h1, h2, h3, h4⟩; cases h1)
      injection hd with e1 e2 e3 e4 e5
      subst e1 e2 e5
      go_wp2_with (first
        | (go_at_call 13; refine (HMY.out w6 HS6.out.tabs).mono ?_; rintro r w65 ⟨rfl, hk65⟩; have HK65 := Lib.hid (HK6.out.trans hk65); have HO65 := Lib.hid (HO6.out.kept hk65); have HS65 := Lib.hid (HS6.out.kept hk65); have HI65 := Lib.hid (HI6.out.kept hk65); have HX65 := Lib.hid ((hk65.block _ (heap_lt HX6.out) id).trans HX6.out); have HY65 := Lib.hid ((hk65.block _ (heap_lt HY6.out) id).trans HY6.out); have HZ65 : Hid (w5.heap.size ≤ w65.heap.size) := (Nat.le_trans HZ6.out hk65.size); clear hk65 a1 a2 a3; obtain ⟨_, a1, a2, a3⟩ := HS65.out.act; obtain ⟨t0, t1, _⟩ := tree_facts HS65.out.tb)
        | (go_at_call 29; refine (HNM.out _).mono ?_; rintro r w' ⟨rfl, hw⟩; have hw2 := hw.symm; subst hw2)
        | (go_at_call 28; refine (HBT.out _).mono ?_; rintro r w' ⟨rfl, hw⟩; have hw2 := hw.symm; subst hw2))
      go_meet
      refine ⟨rfl, rfl, rfl, rfl, rfl, rfl, _, .slice none 0 0, ⟨HX6.out, HO6.out.mono (by have := HYX.out; omega), HY6.out, on_nil _ _, fun q hq => ⟨by have := (HL6.out q hq).1; have := HYX.out; omega, fun h => by cases h⟩⟩, HS6.out, HI6.out, HK6.out⟩
    | true =>
      cases M with
      | false =>
        have hd := HDD.out (by rintro ⟨h1, h2, h3, h4⟩; cases h2)
        injection hd with e1 e2 e3 e4 e5
        subst e1 e2 e5
        go_wp2_with (first
          | (go_at_call 13; refine (HMY.out w6 HS6.out.tabs).mono ?_; rintro r w65 ⟨rfl, hk65⟩; have HK65 := Lib.hid (HK6.out.trans hk65); have HO65 := Lib.hid (HO6.out.kept hk65); have HS65 := Lib.hid (HS6.out.kept hk65); have HI65 := Lib.hid (HI6.out.kept hk65); have HX65 := Lib.hid ((hk65.block _ (heap_lt HX6.out) id).trans HX6.out); have HY65 := Lib.hid ((hk65.block _ (heap_lt HY6.out) id).trans HY6.out); have HZ65 : Hid (w5.heap.size ≤ w65.heap.size) := (Nat.le_trans HZ6.out hk65.size); clear hk65 a1 a2 a3; obtain ⟨_, a1, a2, a3⟩ := HS65.out.act; obtain ⟨t0, t1, _⟩ := tree_facts HS65.out.tb)
          | (go_at_call 29; refine (HNM.out _).mono ?_; rintro r w' ⟨rfl, hw⟩; have hw2 := hw.symm; subst hw2)
          | (go_at_call 28; refine (HBT.out _).mono ?_; rintro r w' ⟨rfl, hw⟩; have hw2 := hw.symm; subst hw2))
        go_meet
        refine ⟨rfl, rfl, rfl, rfl, rfl, rfl, _, .slice none 0 0, ⟨HX65.out, HO65.out.mono (by have := HYX.out; omega), HY65.out, on_nil _ _, fun q hq => ⟨by have := (HL6.out q hq).1; have := HYX.out; omega, fun h => by cases h⟩⟩, HS65.out, HI65.out, HK65.out⟩
      | true =>
        cases N1 with
        | false =>
          have hd := HDD.out (by rintro ⟨h1, h2, h3, h4⟩; cases h3)
          injection hd with e1 e2 e3 e4 e5
          subst e1 e2 e5
          go_wp2_with (first
            | (go_at_call 13; refine (HMY.out w6 HS6.out.tabs).mono ?_; rintro r w65 ⟨rfl, hk65⟩; have HK65 := Lib.hid (HK6.out.trans hk65); have HO65 := Lib.hid (HO6.out.kept hk65); have HS65 := Lib.hid (HS6.out.kept hk65); have HI65 := Lib.hid (HI6.out.kept hk65); have HX65 := Lib.hid ((hk65.block _ (heap_lt HX6.out) id).trans HX6.out); have HY65 := Lib.hid ((hk65.block _ (heap_lt HY6.out) id).trans HY6.out); have HZ65 : Hid (w5.heap.size ≤ w65.heap.size) := (Nat.le_trans HZ6.out hk65.size); clear hk65 a1 a2 a3; obtain ⟨_, a1, a2, a3⟩ := HS65.out.act; obtain ⟨t0, t1, _⟩ := tree_facts HS65.out.tb)
            | (go_at_call 29; refine (HNM.out _).mono ?_; rintro r w' ⟨rfl, hw⟩; have hw2 := hw.symm; subst hw2)
            | (go_at_call 28; refine (HBT.out _).mono ?_; rintro r w' ⟨rfl, hw⟩; have hw2 := hw.symm; subst hw2))
          go_meet
          refine ⟨rfl, rfl, rfl, rfl, rfl, rfl, _, .slice none 0 0, ⟨HX65.out, HO65.out.mono (by have := HYX.out; omega), HY65.out, on_nil _ _, fun q hq => ⟨by have := (HL6.out q hq).1; have := HYX.out; omega, fun h => by cases h⟩⟩, HS65.out, HI65.out, HK65.out⟩
        | true =>
          cases N2 with
          | false =>
            have hd := HDD.out (by rintro ⟨h1, h2, h3, h4⟩; cases h4)
            injection hd with e1 e2 e3 e4 e5
            subst e1 e2 e5
            go_wp2_with (first
              | (go_at_call 13; refine (HMY.out w6 HS6.out.tabs).mono ?_; rintro r w65 ⟨rfl, hk65⟩; have HK65 := Lib.hid (HK6.out.trans hk65); have HO65 := Lib.hid (HO6.out.kept hk65); have HS65 := Lib.hid (HS6.out.kept hk65); have HI65 := Lib.hid (HI6.out.kept hk65); have HX65 := Lib.hid ((hk65.block _ (heap_lt HX6.out) id).trans HX6.out); have HY65 := Lib.hid ((hk65.block _ (heap_lt HY6.out) id).trans HY6.out); have HZ65 : Hid (w5.heap.size ≤ w65.heap.size) := (Nat.le_trans HZ6.out hk65.size); clear hk65 a1 a2 a3; obtain ⟨_, a1, a2, a3⟩ := HS65.out.act; obtain ⟨t0, t1, _⟩ := tree_facts HS65.out.tb)
              | (go_at_call 29; refine (HNM.out _).mono ?_; rintro r w' ⟨rfl, hw⟩; have hw2 := hw.symm; subst hw2)
              | (go_at_call 28; refine (HBT.out _).mono ?_; rintro r w' ⟨rfl, hw⟩; have hw2 := hw.symm; subst hw2))
            go_meet
            refine ⟨rfl, rfl, rfl, rfl, rfl, rfl, _, .slice none 0 0, ⟨HX65.out, HO65.out.mono (by have := HYX.out; omega), HY65.out, on_nil _ _, fun q hq => ⟨by have := (HL6.out q hq).1; have := HYX.out; omega, fun h => by cases h⟩⟩, HS65.out, HI65.out, HK65.out⟩
          | true =>
            go_upto_region 11 with (first
              | (go_at_call 13; refine (HMY.out w6 HS6.out.tabs).mono ?_; rintro r w65 ⟨rfl, hk65⟩; have HK65 := Lib.hid (HK6.out.trans hk65); have HO65 := Lib.hid (HO6.out.kept hk65); have HS65 := Lib.hid (HS6.out.kept hk65); have HI65 := Lib.hid (HI6.out.kept hk65); have HX65 := Lib.hid ((hk65.block _ (heap_lt HX6.out) id).trans HX6.out); have HY65 := Lib.hid ((hk65.block _ (heap_lt HY6.out) id).trans HY6.out); have HZ65 : Hid (w5.heap.size ≤ w65.heap.size) := (Nat.le_trans HZ6.out hk65.size); clear hk65 a1 a2 a3; obtain ⟨_, a1, a2, a3⟩ := HS65.out.act; obtain ⟨t0, t1, _⟩ := tree_facts HS65.out.tb)
              | (go_at_call 29; refine (HNM.out _).mono ?_; rintro r w' ⟨rfl, hw⟩; have hw2 := hw.symm; subst hw2)
              | (go_at_call 28; refine (HBT.out _).mono ?_; rintro r w' ⟨rfl, hw⟩; have hw2 := hw.symm; subst hw2))
            have cW := HRR.out (by simp) (by simp) (by simp) (by simp) w65 HS65.out.ng HS65.out.tabs
            go_wp2_with (go_at_call 35; refine cW.mono ?_; rintro r w7 ⟨⟨vw, rfl, hO⟩, hk7⟩; obtain ⟨Aw, nw, cw, rfl, _⟩ := hO.sn; have HW7 := Lib.hid hO; have HO7 := Lib.hid (HO65.out.kept hk7); have HS7 := Lib.hid (HS65.out.kept hk7); have HI7 := Lib.hid (HI65.out.kept hk7); have HK7 := Lib.hid (HK65.out.trans hk7); have HX7 := Lib.hid ((hk7.block _ (heap_lt HX65.out) id).trans HX65.out); have HY7 := Lib.hid ((hk7.block _ (heap_lt HY65.out) id).trans HY65.out); clear hk7 hO cW a1 a2 a3 t0 t1; obtain ⟨y0, y1, y2, y3⟩ := tree_facts HY7.out)
            have hks7 : Kept (fun q => q = xb + 1) w7 ((w7.setCell ⟨xb + 1, 0, none⟩ (.slice Aw nw cw)).setCell ⟨xb + 1, 1, none⟩ (.int .i64 dc)) := Kept.tree (g := xb + 1) (S := fun q => q = xb + 1) (Kept.refl (fun q => q = xb + 1) w7) rfl _ _
            go_meet
            refine ⟨rfl, rfl, rfl, rfl, rfl, rfl, _, _, ⟨(hks7.block _ (heap_lt HX7.out) (by show ¬ xb = xb + 1; omega)).trans HX7.out, (HO7.out.keptO hks7 (fun q hq h => by have := (HL6.out q hq).1; have := HYX.out; omega)).mono (by have := HYX.out; omega), tree_set HY7.out _ _, (HW7.out.keptO hks7 (fun q hq h => by have := (HW7.out.own q hq).1; have := HYX.out; have := HZ5.out; have := HZ65.out; omega)).mono (by have := HYX.out; have := HZ5.out; have := HZ65.out; omega), fun q hq => ⟨by have := (HL6.out q hq).1; have := HYX.out; omega, fun h => by have := (HW7.out.own q h).1; have := (HL6.out q hq).2; have := HZ65.out; omega⟩⟩, HS7.out.keptS hks7 (fun q h1 h2 => by have := HXI.out; have := HI7.out.pi; omega), HI7.out.keptS hks7 (fun q h1 h2 => by have := HXI.out; omega), HK7.out.fresh hks7 (fun q h1 h2 => by have := HXI.out; have := HI7.out.pi; have := HPB.out; omega)⟩
  case rest =>
    obtain ⟨rfl, rfl, rfl, rfl, rfl, rfl, vx, vw, hJ, hS, hI, hK⟩ := hcut
    obtain ⟨w5, hw5⟩ : ∃ w5, w5 = wc := ⟨_, rfl⟩
    subst hw5
    have HJ5 := Lib.hid hJ
    have HS5 := Lib.hid hS
    have HI5 := Lib.hid hI
    have HK5 := Lib.hid hK
    obtain ⟨Ax, cx, rfl, _, _, _⟩ := hJ.xo.slice
    obtain ⟨Aw, cw, rfl, hwn, _, _⟩ := hJ.wo.slice
    clear hJ hS hI hK hwn HS4 HI4 HK4 HX4 HY4 HS3 HI3 HK3 HS2 HI2 HK2 HS0
    have cE1 := fun W (h : Jx ⟨dl, dc, ⟨#[]⟩, 0, de⟩ xb (.slice Ax dl.length cx) (.slice Aw dl.length cw) W) => eqtree_yes _ _ dl dc W h.xo.sn h.wo.sn hDn
    have cE2 := fun W (h : Si L cur pb ib (.slice A1 n c1) W) (h2 : Sv A n c L cur ⟨aD, aA, aM, s⟩ pb W) => eqtree_yes (.slice A1 n c1) (.slice A n c) L cur W h.on.sn ⟨A, n, c, rfl, h2.ng, hnc, HAN.out⟩ hn
    have HE1 := Lib.hid cE1
    have HE2 := Lib.hid cE2
    have HSP := Lib.hid (fun W (h : Jx ⟨dl, dc, ⟨#[]⟩, 0, de⟩ xb (.slice Ax dl.length cx) (.slice Aw dl.length cw) W) => spoil_tree _ _ dl dc W h.xo hDn)
    have HCP := Lib.hid (fun W (h : Jx ⟨dl, dc, ⟨#[]⟩, 0, de⟩ xb (.slice Ax dl.length cx) (.slice Aw dl.length cw) W) => copytree_any Aw dl.length cw dl dc W (by have h2 := h.wo.slice; obtain ⟨A9, c9, e9, h9, _⟩ := h2; injection e9 with e1 e2 e3; subst e1 e3; exact h9) hDn)
    clear cE1 cE2
    obtain ⟨x0, x1, _⟩ := tree_facts HJ5.out.xbb
    obtain ⟨y0, y1, _⟩ := tree_facts HJ5.out.wbb
    try simp only at x1 y1
    obtain ⟨dn, hdn⟩ : ∃ dn, dl.length = dn := ⟨_, rfl⟩
    rw [hdn] at HJ5 HE1 HSP HCP x0 y0
    have HDN := Lib.hid hdn
    have cE1 := HE1.out w5 HJ5.out
    clear hdn
    go_upto_region 29 with (first
      | (go_at_call 7; refine (unum_any _ _).mono ?_; rintro e w' ⟨rfl, hw⟩; have hw2 := hw.symm; subst hw2)
      | (go_at_call 14; refine cE1.mono ?_; rintro r w6 ⟨rfl, hk6⟩; clear cE1 x0 x1 y0 y1; have HJ6 := Lib.hid (HJ5.out.kept hk6); have HS6 := Lib.hid (HS5.out.kept hk6); have HI6 := Lib.hid (HI5.out.kept hk6); have HK6 := Lib.hid (HK5.out.trans hk6); clear hk6; obtain ⟨i0, i1, _⟩ := tree_facts HI6.out.bx; obtain ⟨t0, t1, _⟩ := tree_facts HS6.out.tb; have cE2 := HE2.out w6 HI6.out HS6.out)
      | (go_at_call 14; refine cE2.mono ?_; rintro r w7 ⟨rfl, hk7⟩; clear cE2 i0 i1 t0 t1; have HJ7 := Lib.hid (HJ6.out.kept hk7); have HS7 := Lib.hid (HS6.out.kept hk7); have HI7 := Lib.hid (HI6.out.kept hk7); have HK7 := Lib.hid (HK6.out.trans hk7); clear hk7))
    obtain ⟨x0, x1, _⟩ := tree_facts HJ7.out.xbb
    try simp only at x1
    have cS := HSP.out w7 HJ7.out
    go_upto_region 30 with (go_at_call 36; refine cS.mono ?_; rintro r w8 ⟨rfl, hk8⟩; have HK78 := Lib.hid hk8; clear cS hk8 x0 x1)
    have HXB : Hid (∀ q, (Value.slice Ax dn cx).ownBlock = some q → xb + 1 < q ∧ (Value.slice Aw dn cw).ownBlock ≠ some q) := HJ7.out.xl
    have HS8 := Lib.hid (HS7.out.keptS HK78.out (fun q h1 h2 => by have := (HXB.out q h2).1; have := HXI.out; have := HI7.out.pi; omega))
    have HI8 := Lib.hid (HI7.out.keptS HK78.out (fun q h1 h2 => by have := (HXB.out q h2).1; have := HXI.out; omega))
    have HW8 := Lib.hid ((HK78.out.block _ (heap_lt HJ7.out.wbb) (fun h => by have := (HXB.out _ h).1; omega)).trans HJ7.out.wbb)
    have HO8 := Lib.hid (HJ7.out.wo.keptO HK78.out (fun q hq h => (HXB.out q h).2 hq))
    have HK8 := Lib.hid (HK7.out.fresh HK78.out (fun q h1 h2 => by have := (HXB.out q h2).1; have := HXI.out; have := HI7.out.pi; have := HPB.out; omega))
    clear HJ5 HJ6 HS5 HS6 HI5 HI6 HK5 HK6
    obtain ⟨i0, i1, _⟩ := tree_facts HI8.out.bx
    obtain ⟨t0, t1, _⟩ := tree_facts HS8.out.tb
    have cE3 := HE2.out w8 HI8.out HS8.out
    go_upto_region 32 with (go_at_call 14; refine cE3.mono ?_; rintro r w9 ⟨rfl, hk9⟩; have HS9 := Lib.hid (HS8.out.kept hk9); have HK9 := Lib.hid (HK8.out.trans hk9); have HW9 := Lib.hid ((hk9.block _ (heap_lt HW8.out) id).trans HW8.out); have HO9 := Lib.hid (HO8.out.kept hk9); clear hk9 cE3 i0 i1 t0 t1)
    by_cases hde : de = 0
    · have q4 : (de != 0) = false := by simp [hde]
      have HDE := Lib.hid hde
      clear hde
      obtain ⟨y0, y1, _⟩ := tree_facts HW9.out
      try simp only at y1
      have cC := copytree_any Aw dn cw dl dc w9 (by have h2 := HO9.out.slice; obtain ⟨A9, c9, e9, h9, _⟩ := h2; rw [HDN.out] at e9 h9; injection e9 with e1 e2 e3; subst e1 e3; exact h9) (by rw [← HDN.out]; exact hDn')
      obtain ⟨r0, r1, r2, r3⟩ := tree_facts HS9.out.rb
      go_wp2_with (go_at_call 6; refine cC.mono ?_; rintro r w10 ⟨⟨v3, rfl, hO⟩, hk10⟩; obtain ⟨A3, n3, c3, rfl, _⟩ := hO.sn; have HO10 := Lib.hid hO; have HS10 := Lib.hid (HS9.out.kept hk10); have HK10 := Lib.hid (HK9.out.trans hk10); clear hk10 hO cC y0 y1 r0 r1 r2 r3; obtain ⟨r0, r1, r2, r3⟩ := tree_facts HS10.out.rb)
      refine bodyPost_ret (res_t1 rfl _ _ (pb + 1 + 1) _ dc rfl rfl (tree_set HS10.out.rb _ _)) rfl ⟨.inl ⟨HDE.out, _, rfl, ?ho⟩, ?hk⟩
      case ho =>
        have h1 := HO10.out.keptS (Kept.tree (g := pb + 1 + 1) (S := fun q => q = pb + 1 + 1) (Kept.refl (fun q => q = pb + 1 + 1) w10) rfl (.slice A3 n3 c3) (.int .i64 dc)) (fun q h1 h => by have h1 := heap_lt HS9.out.rb; omega)
        exact h1.mono (by have h1 := heap_lt HS9.out.rb; have := HPB.out; omega)
      case hk => exact HK10.out.fresh (Kept.tree (g := pb + 1 + 1) (S := fun q => q = pb + 1 + 1) (Kept.refl (fun q => q = pb + 1 + 1) w10) rfl _ _) (fun b hb h => by have := HPB.out; omega)
    · have q4 : (de != 0) = true := by simp [hde]
      have HDE := Lib.hid hde
      clear hde
      obtain ⟨t0, t1, _⟩ := tree_facts HS9.out.tb
      obtain ⟨r0, r1, r2, r3⟩ := tree_facts HS9.out.rb
      go_wp2_with fail
      refine bodyPost_ret (res_t1 rfl _ _ (pb + 1 + 1) _ cur rfl rfl (tree_set HS9.out.rb _ _)) rfl ⟨.inr ⟨HDE.out, rfl⟩, ?_⟩
      exact HK9.out.fresh (Kept.tree (g := pb + 1 + 1) (S := fun q => q = pb + 1 + 1) (Kept.refl (fun q => q = pb + 1 + 1) w9) rfl _ _) (fun b hb h => by have := HPB.out; omega)
set_option maxRecDepth 100000 in
set_option maxHeartbeats 8000000 in
theorem step_j (A : Option Addr) (n c : Nat) (L : List NodeS) (cur : Int) (a : NodeS) (w : World) (hA : Ng w A n L) (hnc : n ≤ c) (hAl : ∀ ad, A = some ad → ad.block < w.heap.size) (hT : Tabs w) (hn : L.length ≤ 100000) (B : Bool) (D : WR) (hDn : D.ns.length ≤ 100000) (hTr : ∀ W, Ng W A n L → Tabs W → Calls Tryd.prog 9 #[treeV (.slice A n c) cur] W fun r W' => r = .returned (.bool B) ∧ Kept (fun _ => False) W W') (hAN : A = none → n = 0 ∧ c = 0)
    (hX : ∀ A' c' W, Ng W A' n L → n ≤ c' → Tabs W → Calls Tryd.prog 22 #[treeV (.slice A' n c') cur, .int .i64 a.pa] W (Told W D))
    (hD : B = false → D = wr0 1) (hD2 : B = true → idx L a.pa < 0 → D = wr0 3) (hD3 : B = true → ∀ (p : Nat) (ep : NodeS), idx L a.pa = (p : Nat) → L[p]? = some ep → D = ⟨L, a.pa, ep.tx, ep.at_, 0⟩)
    (hk : ∀ W : World, Calls Tryd.prog 21 #[.int .i64 a.sq, .int .i64 10] W fun r W' => r = .returned (.int .i64 9) ∧ W' = W) :
    Calls Tryd.prog 16 #[treeV (.slice A n c) cur, actV a] w (ToldS A n c cur w D) := by
  have HXX := Lib.hid hX
  have HDD := Lib.hid hD
  have HD2 := Lib.hid hD2
  have HD3 := Lib.hid hD3
  have HWI := Lib.hid hk
  have HAN := Lib.hid hAN
  have hDn' := hDn
  clear hX hD hD2 hD3 hk hAN
  have hl := hA.len
  have hk0 : Kept (fun _ => False) w (((w.alloc (treeO (.slice A n c) cur)).alloc (actO a)).alloc nilT) := (((Kept.refl _ w).alloc _).alloc _).alloc _
  have HS0 : Hid (Sv A n c L cur a w.heap.size (((w.alloc (treeO (.slice A n c) cur)).alloc (actO a)).alloc nilT)) := by
    refine ⟨hT.kept hk0 id id, hT.two, hA.kept hk0 (fun _ _ => id), ?_, ?_, ?_, hAl⟩
    · exact (((Kept.refl (fun _ => False) ((w.alloc (treeO (.slice A n c) cur)).alloc (actO a))).alloc nilT).block _ (by simp <;> omega) id).trans (heap_two1 w _ _)
    · exact (((Kept.refl (fun _ => False) ((w.alloc (treeO (.slice A n c) cur)).alloc (actO a))).alloc nilT).block _ (by simp <;> omega) id).trans (heap_two2 w _ _)
    · have h := heap_two2 (w.alloc (treeO (.slice A n c) cur)) (actO a) nilT
      rwa [show (w.alloc (treeO (.slice A n c) cur)).heap.size + 1 = w.heap.size + 1 + 1 by simp] at h
  have HK0 := Lib.hid hk0
  obtain ⟨pb, hpb⟩ : ∃ pb, w.heap.size = pb := ⟨_, rfl⟩
  have HPB := Lib.hid hpb
  rw [hpb] at HS0
  have HHL := Lib.hid hl
  have hnn : n ≤ 100000 := by omega
  have HTR := Lib.hid hTr
  obtain ⟨dl, dc, ds, da, de⟩ := D
  obtain ⟨aD, aA, aM, s⟩ := a
  clear hpb hA hT hl hk0 hAl hTr
  simp only at HXX HWI HD2 HD3
  go_enter Tryd.func16, Tryd.ntmps16
  go_upto_region 1 with fail
  simp only [HPB.out]
  simp only [treeO, nilT, actO] at HS0 HK0
  generalize ((w.alloc _).alloc _).alloc _ = w0 at *
  obtain ⟨t0, t1, _⟩ := tree_facts HS0.out.tb
  have cC := copytree_any A n c L cur w0 HS0.out.ng hnn
  go_upto_region 2 with (go_at_call 6; refine cC.mono ?_; rintro r w1 ⟨⟨v1, rfl, hO⟩, hk1⟩; obtain ⟨A1, c1, rfl, _, hc1, _⟩ := hO.slice; have HO1 := Lib.hid hO; have HC1 := Lib.hid hc1; have HK1 := Lib.hid (HK0.out.trans hk1); have HS1 := Lib.hid (HS0.out.kept hk1); clear hk1 hO hc1 t0 t1 cC)
  rw [HHL.out] at HO1 HC1 ⊢
  have hk2 : Kept (fun _ => False) w1 (w1.alloc (treeO (.slice A1 n c1) cur)) := (Kept.refl _ w1).alloc _
  have HS2 := Lib.hid (HS1.out.kept hk2)
  have HK2 := Lib.hid (HK1.out.trans hk2)
  have HN0 : Hid (pb + 1 + 1 < w0.heap.size) := heap_lt HS0.out.rb
  have HN1 : Hid (pb + 1 + 1 < w1.heap.size) := heap_lt HS1.out.rb
  have HI2 : Hid (Si L cur pb w1.heap.size (.slice A1 n c1) (w1.alloc (treeO (.slice A1 n c1) cur))) := ⟨heap_alloc_new w1 _, (HO1.out.kept hk2).mono (by have := HN0.out; omega), fun q hq => (HO1.out.own q hq).2, HN1.out⟩
  clear hk2
  simp only [treeO] at HS2 HK2 HI2
  generalize w1.alloc _ = w2 at *
  generalize w1.heap.size = ib at *
  clear HO1 HS1 HK1
  obtain ⟨t0, t1, _⟩ := tree_facts HS2.out.tb
  have cT := HTR.out w2 HS2.out.ng HS2.out.tabs
  go_upto_region 3 with (go_at_call 9; refine cT.mono ?_; rintro r w3 ⟨rfl, hk3⟩; have HK3 := Lib.hid (HK2.out.trans hk3); have HS3 := Lib.hid (HS2.out.kept hk3); have HI3 := Lib.hid (HI2.out.kept hk3); clear hk3 t0 t1 cT)
  have hk4 : Kept (fun _ => False) w3 ((w3.alloc nilT).alloc nilT) := ((Kept.refl _ w3).alloc _).alloc _
  have HX4 := Lib.hid (heap_two1 w3 nilT nilT)
  have HY4 := Lib.hid (heap_two2 w3 nilT nilT)
  have HS4 := Lib.hid (HS3.out.kept hk4)
  have HI4 := Lib.hid (HI3.out.kept hk4)
  have HK4 := Lib.hid (HK3.out.trans hk4)
  have HXI : Hid (ib < w3.heap.size) := heap_lt HI3.out.bx
  clear hk4
  go_upto_region 4 with fail
  simp only [nilT, treeO] at HX4 HY4 HS4 HI4 HK4
  generalize (w3.alloc _).alloc _ = w4 at *
  generalize w3.heap.size = xb at *
  have HYX : Hid (xb + 1 < w4.heap.size) := heap_lt HY4.out
  obtain ⟨a0, _, _, _⟩ := HS4.out.act
  go_upto_region 8 with (go_at_call 21; refine (HWI.out w4).mono ?_; rintro r w' ⟨rfl, hw⟩; have hw2 := hw.symm; subst hw2)
  clear a0 HWI
  go_upto_block 0 with fail
  go_cut [10, 11, 12, 13, 14, 15] from 26 to 122 (fun v10 v11 v12 v13 v14 v15 wx => v10 = .int .i64 de ∧ v11 = .string ds ∧ v12 = .int .i64 da ∧ v13 = .string ds ∧ v14 = .int .i64 da ∧ v15 = .int .i64 de ∧ ∃ vx vw, Jx ⟨dl, dc, ds, da, de⟩ xb vx vw wx ∧ Sv A n c L cur ⟨aD, aA, aM, s⟩ pb wx ∧ Si L cur pb ib (.slice A1 n c1) wx ∧ Kept (fun _ => False) w wx)
  case first =>
    obtain ⟨i0, i1, _⟩ := tree_facts HI4.out.bx
    have cX := HXX.out A1 c1 w4 (by have h2 := HI4.out.on.slice; obtain ⟨A9, c9, e9, h9, _⟩ := h2; rw [HHL.out] at e9 h9; injection e9 with e1 e2 e3; subst e1 e3; exact h9) HC1.out HS4.out.tabs
    obtain ⟨_, a1, _, _⟩ := HS4.out.act
    go_upto_region 20 with fail
    go_upto_region 21 with (go_at_call 22; refine cX.mono ?_; rintro r w5 ⟨⟨vx, rfl, hO⟩, hk5⟩; obtain ⟨Ax, nx, cx, rfl, _⟩ := hO.sn; have HO5 := Lib.hid hO; have HS5 := Lib.hid (HS4.out.kept hk5); have HI5 := Lib.hid (HI4.out.kept hk5); have HK5 := Lib.hid (HK4.out.trans hk5); have HX5 := Lib.hid ((hk5.block _ (heap_lt HX4.out) id).trans HX4.out); have HY5 := Lib.hid ((hk5.block _ (heap_lt HY4.out) id).trans HY4.out); have HZ5 : Hid (w4.heap.size ≤ w5.heap.size) := hk5.size; clear hk5 hO cX i0 i1 a1; obtain ⟨x0, x1, x2, x3⟩ := tree_facts HX5.out)
    have hks : Kept (fun q => q = xb) w5 ((w5.setCell ⟨xb, 0, none⟩ (.slice Ax nx cx)).setCell ⟨xb, 1, none⟩ (.int .i64 dc)) := Kept.tree (g := xb) (S := fun q => q = xb) (Kept.refl (fun q => q = xb) w5) rfl _ _
    have HX6 := Lib.hid (tree_set HX5.out (.slice Ax nx cx) dc)
    have HY6 := Lib.hid ((hks.block _ (heap_lt HY5.out) (by show ¬ xb + 1 = xb; omega)).trans HY5.out)
    have HO6 := Lib.hid (HO5.out.keptO hks (fun q hq h => by have := (HO5.out.own q hq).1; have := HYX.out; omega))
    have HS6 := Lib.hid (HS5.out.keptS hks (fun q h1 h2 => by have := HXI.out; have := HI5.out.pi; omega))
    have HI6 := Lib.hid (HI5.out.keptS hks (fun q h1 h2 => by have := HXI.out; omega))
    have HK6 := Lib.hid (HK5.out.fresh hks (fun q h1 h2 => by have := HXI.out; have := HI5.out.pi; have := HPB.out; omega))
    have HL6 : Hid (∀ q, (Value.slice Ax nx cx).ownBlock = some q → w4.heap.size ≤ q ∧ q < w5.heap.size) := HO5.out.own
    have HZ6 : Hid (w5.heap.size ≤ ((w5.setCell ⟨xb, 0, none⟩ (.slice Ax nx cx)).setCell ⟨xb, 1, none⟩ (.int .i64 dc)).heap.size) := hks.size
    clear hks
    generalize (w5.setCell ⟨xb, 0, none⟩ (.slice Ax nx cx)).setCell ⟨xb, 1, none⟩ (.int .i64 dc) = w6 at *
    clear x0 x1 x2 x3 HX5 HY5 HS5 HI5 HK5 HO5
    cases B with
    | false =>
      have hd := HDD.out rfl
      injection hd with e1 e2 e3 e4 e5
      subst e1 e2 e3 e4 e5
      go_wp2_with fail
      go_meet
      refine ⟨rfl, rfl, rfl, rfl, rfl, rfl, _, .slice none 0 0, ⟨HX6.out, HO6.out.mono (by have := HYX.out; omega), HY6.out, on_nil _ _, fun q hq => ⟨by have := (HL6.out q hq).1; have := HYX.out; omega, fun h => by cases h⟩⟩, HS6.out, HI6.out, HK6.out⟩
    | true =>
      obtain ⟨_, a1, _, _⟩ := HS6.out.act
      obtain ⟨t0, t1, _⟩ := tree_facts HS6.out.tb
      have cN := rnode_any A n c L cur aA w6 HS6.out.ng hnn
      have HN6 := HS6
      have hn6 : n ≤ 100000 := hnn
      obtain ⟨z, hz⟩ : ∃ z, idx L aA = z := ⟨_, rfl⟩
      have HIDX := Lib.hid hz
      rw [hz] at cN
      clear hz
      by_cases hz0 : z < 0
      · have hd := HD2.out rfl (by rw [HIDX.out]; exact hz0)
        injection hd with e1 e2 e3 e4 e5
        subst e1 e2 e3 e4 e5
        have b1 : decide (0 ≤ z) = false := decide_eq_false (by omega)
        go_wp2_with (go_at_call 30; refine cN.mono ?_; rintro r w65 ⟨rfl, hk65⟩; have HK65 := Lib.hid (HK6.out.trans hk65); have HO65 := Lib.hid (HO6.out.kept hk65); have HS65 := Lib.hid (HS6.out.kept hk65); have HI65 := Lib.hid (HI6.out.kept hk65); have HX65 := Lib.hid ((hk65.block _ (heap_lt HX6.out) id).trans HX6.out); have HY65 := Lib.hid ((hk65.block _ (heap_lt HY6.out) id).trans HY6.out); clear hk65 cN)
        go_meet
        refine ⟨rfl, rfl, rfl, rfl, rfl, rfl, _, .slice none 0 0, ⟨HX65.out, HO65.out.mono (by have := HYX.out; omega), HY65.out, on_nil _ _, fun q hq => ⟨by have := (HL6.out q hq).1; have := HYX.out; omega, fun h => by cases h⟩⟩, HS65.out, HI65.out, HK65.out⟩
      · obtain ⟨p, rfl⟩ : ∃ p : Nat, z = (p : Int) := ⟨z.toNat, by omega⟩
        obtain ⟨p', ep, q1, q2, q3⟩ := idx_some (show 0 ≤ idx L aA by rw [HIDX.out]; omega)
        rw [HIDX.out] at q1
        obtain rfl : p = p' := by omega
        have hd := HD3.out rfl p ep HIDX.out q2
        injection hd with e1 e2 e3 e4 e5
        obtain rfl : L = dl := e1.symm
        obtain rfl : aA = dc := e2.symm
        subst e3 e4 e5
        obtain ⟨ad, hAe, _⟩ := HS6.out.ng.at' p ep q2
        subst hAe
        have hpn := (HS6.out.ng.nd q2).1
        have HEP := Lib.hid q2
        have b1 : decide (0 ≤ (p : Int)) = true := decide_eq_true (by omega)
        have b2 : (0 : Int) ≤ (p : Int) := by omega
        have b3 : (p : Int) < (n : Int) := by omega
        clear q1 q2 q3 hz0
        go_upto_region 25 with (go_at_call 30; refine cN.mono ?_; rintro r w65 ⟨rfl, hk65⟩; have HK65 := Lib.hid (HK6.out.trans hk65); have HO65 := Lib.hid (HO6.out.kept hk65); have HS65 := Lib.hid (HS6.out.kept hk65); have HI65 := Lib.hid (HI6.out.kept hk65); have HX65 := Lib.hid ((hk65.block _ (heap_lt HX6.out) id).trans HX6.out); have HY65 := Lib.hid ((hk65.block _ (heap_lt HY6.out) id).trans HY6.out); have HZ65 : Hid (w5.heap.size ≤ w65.heap.size) := (Nat.le_trans HZ6.out hk65.size); clear hk65 cN a1 t0 t1)
        clear b1
        obtain ⟨y0, y1, y2, y3⟩ := tree_facts HY65.out
        have KF : Hid (∀ W, Kept (fun q => q = xb + 1) w65 W → W.cell? ⟨pb, 0, none⟩ = some (.slice (some ad) n c) ∧ W.cell? ⟨pb, 1, none⟩ = some (.int .i64 cur) ∧ W.cell? ⟨(ad.add (p * 4)).block, (ad.add (p * 4)).off + 3, none⟩ = some (.string ep.tx) ∧ W.cell? ⟨(ad.add (p * 4)).block, (ad.add (p * 4)).off + 2, none⟩ = some (.int .i64 ep.at_)) := by
          show ∀ W, _
          intro W hk
          have h1 := tree_facts HS65.out.tb
          have h2 := (HS65.out.ng.nd HEP.out).2
          have hb : (ad.add (p * 4)).block = ad.block := by unfold Addr.add; split <;> rfl
          have h3 := HS65.out.lt ad rfl
          have h4 := HXI.out
          have h5 := HI65.out.pi
          exact ⟨cell_kept hk h1.1 (by show ¬ pb = xb + 1; omega), cell_kept hk h1.2.1 (by show ¬ pb = xb + 1; omega), cell_kept hk h2.c3 (by show ¬ (ad.add (p * 4)).block = xb + 1; omega), cell_kept hk h2.c2 (by show ¬ (ad.add (p * 4)).block = xb + 1; omega)⟩
        have KA := KF.out w65.drew (Kept.refl _ w65).drew
        have hce := copytree_any (some ad) n c L cur w65.drew (HS65.out.kept (Kept.refl (fun _ => False) w65).drew).ng hn6
        go_region_held3 (fun (W : World) => W.cell? ⟨pb, 0, none⟩ = some (.slice (some ad) n c) ∧ W.cell? ⟨pb, 1, none⟩ = some (.int .i64 cur) ∧ W.cell? ⟨(ad.add (p * 4)).block, (ad.add (p * 4)).off + 3, none⟩ = some (.string ep.tx) ∧ W.cell? ⟨(ad.add (p * 4)).block, (ad.add (p * 4)).off + 2, none⟩ = some (.int .i64 ep.at_))
          (first | with_reducible exact HKD.out _ _ | with_reducible exact KB | with_reducible exact KA)
          (first | (go_at_call 6; refine hce.mono ?_; rintro r w7 ⟨⟨vw, rfl, hO⟩, hk7'⟩; have hk7 : Kept (fun _ => False) w65 w7 := ((Kept.refl (fun _ => False) w65).drew.trans hk7'); obtain ⟨Aw, nw, cw, rfl, _⟩ := hO.sn; have HW7 : Hid (On w7 w65.heap.size (.slice Aw nw cw) L) := hO; have HO7 := Lib.hid (HO65.out.kept hk7); have HS7 := Lib.hid (HS65.out.kept hk7); have HI7 := Lib.hid (HI65.out.kept hk7); have HK7 := Lib.hid (HK65.out.trans hk7); have HX7 := Lib.hid ((hk7.block _ (heap_lt HX65.out) id).trans HX65.out); have HY7 := Lib.hid ((hk7.block _ (heap_lt HY65.out) id).trans HY65.out); have KB := KF.out w7 (hk7.any (S := fun q => q = xb + 1)); have HKD := Lib.hid (fun v0 v1 => KF.out _ (Kept.tree (g := xb + 1) (S := fun q => q = xb + 1) (hk7.any (S := fun q => q = xb + 1)) rfl v0 v1)); clear hk7 hk7' hO hce y0 y1 y2 y3; obtain ⟨y0, y1, y2, y3⟩ := tree_facts HY7.out))
        all_goals
          clear y0 y1 y2 y3 KA KB
          have hks7 : Kept (fun q => q = xb + 1) w7 ((w7.setCell ⟨xb + 1, 0, none⟩ (.slice Aw nw cw)).setCell ⟨xb + 1, 1, none⟩ (.int .i64 cur)) := Kept.tree (g := xb + 1) (S := fun q => q = xb + 1) (Kept.refl (fun q => q = xb + 1) w7) rfl _ _
          have HY8 := Lib.hid (tree_set HY7.out (.slice Aw nw cw) cur)
          have HS8 := Lib.hid (HS7.out.keptS hks7 (fun q h1 h2 => by have := HXI.out; have := HI7.out.pi; omega))
          have HK8 := Lib.hid hks7
          obtain ⟨_, a1, _, _⟩ := HS8.out.act
          obtain ⟨y0, y1, y2, y3⟩ := tree_facts HY8.out
          clear hks7
          generalize (w7.setCell ⟨xb + 1, 0, none⟩ (.slice Aw nw cw)).setCell ⟨xb + 1, 1, none⟩ (.int .i64 cur) = w8 at *
          go_wp2_with fail
          have hks7 : Kept (fun q => q = xb + 1) w7 (w8.setCell ⟨xb + 1, 1, none⟩ (.int .i64 aA)) := HK8.out.setCell (p := ⟨xb + 1, 1, none⟩) rfl _
          have hyf : (w8.setCell ⟨xb + 1, 1, none⟩ (.int .i64 aA)).heap[xb + 1]? = some (treeO (.slice Aw nw cw) aA) := (heap_set HY8.out _).trans rfl
          go_meet
          refine ⟨rfl, rfl, rfl, rfl, rfl, rfl, _, _, ⟨(hks7.block _ (heap_lt HX7.out) (by show ¬ xb = xb + 1; omega)).trans HX7.out, (HO7.out.keptO hks7 (fun q hq h => by have := (HL6.out q hq).1; have := HYX.out; omega)).mono (by have := HYX.out; omega), hyf, (HW7.out.keptO hks7 (fun q hq h => by have := (HW7.out.own q hq).1; have := HYX.out; have := HZ5.out; have := HZ65.out; omega)).mono (by have := HYX.out; have := HZ5.out; have := HZ65.out; omega), fun q hq => ⟨by have := (HL6.out q hq).1; have := HYX.out; omega, fun h => by have := (HW7.out.own q h).1; have := (HL6.out q hq).2; have := HZ65.out; omega⟩⟩, HS7.out.keptS hks7 (fun q h1 h2 => by have := HXI.out; have := HI7.out.pi; omega), HI7.out.keptS hks7 (fun q h1 h2 => by have := HXI.out; omega), HK7.out.fresh hks7 (fun q h1 h2 => by have := HXI.out; have := HI7.out.pi; have := HPB.out; omega)⟩
  case rest =>
    obtain ⟨rfl, rfl, rfl, rfl, rfl, rfl, vx, vw, hJ, hS, hI, hK⟩ := hcut
    obtain ⟨w5, hw5⟩ : ∃ w5, w5 = wc := ⟨_, rfl⟩
    subst hw5
    have HJ5 := Lib.hid hJ
    have HS5 := Lib.hid hS
    have HI5 := Lib.hid hI
    have HK5 := Lib.hid hK
    obtain ⟨Ax, cx, rfl, _, _, _⟩ := hJ.xo.slice
    obtain ⟨Aw, cw, rfl, hwn, _, _⟩ := hJ.wo.slice
    clear hJ hS hI hK hwn HS4 HI4 HK4 HX4 HY4 HS3 HI3 HK3 HS2 HI2 HK2 HS0
    have cE1 := fun W (h : Jx ⟨dl, dc, ds, da, de⟩ xb (.slice Ax dl.length cx) (.slice Aw dl.length cw) W) => eqtree_yes _ _ dl dc W h.xo.sn h.wo.sn hDn
    have cE2 := fun W (h : Si L cur pb ib (.slice A1 n c1) W) (h2 : Sv A n c L cur ⟨aD, aA, aM, s⟩ pb W) => eqtree_yes (.slice A1 n c1) (.slice A n c) L cur W h.on.sn ⟨A, n, c, rfl, h2.ng, hnc, HAN.out⟩ hn
    have HE1 := Lib.hid cE1
    have HE2 := Lib.hid cE2
    have HSP := Lib.hid (fun W (h : Jx ⟨dl, dc, ds, da, de⟩ xb (.slice Ax dl.length cx) (.slice Aw dl.length cw) W) => spoil_tree _ _ dl dc W h.xo hDn)
    have HCP := Lib.hid (fun W (h : Jx ⟨dl, dc, ds, da, de⟩ xb (.slice Ax dl.length cx) (.slice Aw dl.length cw) W) => copytree_any Aw dl.length cw dl dc W (by have h2 := h.wo.slice; obtain ⟨A9, c9, e9, h9, _⟩ := h2; injection e9 with e1 e2 e3; subst e1 e3; exact h9) hDn)
    clear cE1 cE2
    obtain ⟨x0, x1, _⟩ := tree_facts HJ5.out.xbb
    obtain ⟨y0, y1, _⟩ := tree_facts HJ5.out.wbb
    try simp only at x1 y1
    obtain ⟨dn, hdn⟩ : ∃ dn, dl.length = dn := ⟨_, rfl⟩
    rw [hdn] at HJ5 HE1 HSP HCP x0 y0
    have HDN := Lib.hid hdn
    have cE1 := HE1.out w5 HJ5.out
    clear hdn
    go_upto_region 29 with (first
      | (go_at_call 7; refine (unum_any _ _).mono ?_; rintro e w' ⟨rfl, hw⟩; have hw2 := hw.symm; subst hw2)
      | (go_at_call 14; refine cE1.mono ?_; rintro r w6 ⟨rfl, hk6⟩; clear cE1 x0 x1 y0 y1; have HJ6 := Lib.hid (HJ5.out.kept hk6); have HS6 := Lib.hid (HS5.out.kept hk6); have HI6 := Lib.hid (HI5.out.kept hk6); have HK6 := Lib.hid (HK5.out.trans hk6); clear hk6; obtain ⟨i0, i1, _⟩ := tree_facts HI6.out.bx; obtain ⟨t0, t1, _⟩ := tree_facts HS6.out.tb; have cE2 := HE2.out w6 HI6.out HS6.out)
      | (go_at_call 14; refine cE2.mono ?_; rintro r w7 ⟨rfl, hk7⟩; clear cE2 i0 i1 t0 t1; have HJ7 := Lib.hid (HJ6.out.kept hk7); have HS7 := Lib.hid (HS6.out.kept hk7); have HI7 := Lib.hid (HI6.out.kept hk7); have HK7 := Lib.hid (HK6.out.trans hk7); clear hk7))
    obtain ⟨x0, x1, _⟩ := tree_facts HJ7.out.xbb
    try simp only at x1
    have cS := HSP.out w7 HJ7.out
    go_upto_region 30 with (go_at_call 36; refine cS.mono ?_; rintro r w8 ⟨rfl, hk8⟩; have HK78 := Lib.hid hk8; clear cS hk8 x0 x1)
    have HXB : Hid (∀ q, (Value.slice Ax dn cx).ownBlock = some q → xb + 1 < q ∧ (Value.slice Aw dn cw).ownBlock ≠ some q) := HJ7.out.xl
    have HS8 := Lib.hid (HS7.out.keptS HK78.out (fun q h1 h2 => by have := (HXB.out q h2).1; have := HXI.out; have := HI7.out.pi; omega))
    have HI8 := Lib.hid (HI7.out.keptS HK78.out (fun q h1 h2 => by have := (HXB.out q h2).1; have := HXI.out; omega))
    have HW8 := Lib.hid ((HK78.out.block _ (heap_lt HJ7.out.wbb) (fun h => by have := (HXB.out _ h).1; omega)).trans HJ7.out.wbb)
    have HO8 := Lib.hid (HJ7.out.wo.keptO HK78.out (fun q hq h => (HXB.out q h).2 hq))
    have HK8 := Lib.hid (HK7.out.fresh HK78.out (fun q h1 h2 => by have := (HXB.out q h2).1; have := HXI.out; have := HI7.out.pi; have := HPB.out; omega))
    clear HJ5 HJ6 HS5 HS6 HI5 HI6 HK5 HK6
    obtain ⟨i0, i1, _⟩ := tree_facts HI8.out.bx
    obtain ⟨t0, t1, _⟩ := tree_facts HS8.out.tb
    have cE3 := HE2.out w8 HI8.out HS8.out
    go_upto_region 32 with (go_at_call 14; refine cE3.mono ?_; rintro r w9 ⟨rfl, hk9⟩; have HS9 := Lib.hid (HS8.out.kept hk9); have HK9 := Lib.hid (HK8.out.trans hk9); have HW9 := Lib.hid ((hk9.block _ (heap_lt HW8.out) id).trans HW8.out); have HO9 := Lib.hid (HO8.out.kept hk9); clear hk9 cE3 i0 i1 t0 t1)
    by_cases hde : de = 0
    · have q4 : (de != 0) = false := by simp [hde]
      have HDE := Lib.hid hde
      clear hde
      obtain ⟨y0, y1, _⟩ := tree_facts HW9.out
      try simp only at y1
      have cC := copytree_any Aw dn cw dl dc w9 (by have h2 := HO9.out.slice; obtain ⟨A9, c9, e9, h9, _⟩ := h2; rw [HDN.out] at e9 h9; injection e9 with e1 e2 e3; subst e1 e3; exact h9) (by rw [← HDN.out]; exact hDn')
      obtain ⟨r0, r1, r2, r3⟩ := tree_facts HS9.out.rb
      go_wp2_with (go_at_call 6; refine cC.mono ?_; rintro r w10 ⟨⟨v3, rfl, hO⟩, hk10⟩; obtain ⟨A3, n3, c3, rfl, _⟩ := hO.sn; have HO10 := Lib.hid hO; have HS10 := Lib.hid (HS9.out.kept hk10); have HK10 := Lib.hid (HK9.out.trans hk10); clear hk10 hO cC y0 y1 r0 r1 r2 r3; obtain ⟨r0, r1, r2, r3⟩ := tree_facts HS10.out.rb)
      refine bodyPost_ret (res_t1 rfl _ _ (pb + 1 + 1) _ dc rfl rfl (tree_set HS10.out.rb _ _)) rfl ⟨.inl ⟨HDE.out, _, rfl, ?ho⟩, ?hk⟩
      case ho =>
        have h1 := HO10.out.keptS (Kept.tree (g := pb + 1 + 1) (S := fun q => q = pb + 1 + 1) (Kept.refl (fun q => q = pb + 1 + 1) w10) rfl (.slice A3 n3 c3) (.int .i64 dc)) (fun q h1 h => by have h1 := heap_lt HS9.out.rb; omega)
        exact h1.mono (by have h1 := heap_lt HS9.out.rb; have := HPB.out; omega)
      case hk => exact HK10.out.fresh (Kept.tree (g := pb + 1 + 1) (S := fun q => q = pb + 1 + 1) (Kept.refl (fun q => q = pb + 1 + 1) w10) rfl _ _) (fun b hb h => by have := HPB.out; omega)
    · have q4 : (de != 0) = true := by simp [hde]
      have HDE := Lib.hid hde
      clear hde
      obtain ⟨t0, t1, _⟩ := tree_facts HS9.out.tb
      obtain ⟨r0, r1, r2, r3⟩ := tree_facts HS9.out.rb
      go_wp2_with fail
      refine bodyPost_ret (res_t1 rfl _ _ (pb + 1 + 1) _ cur rfl rfl (tree_set HS9.out.rb _ _)) rfl ⟨.inr ⟨HDE.out, rfl⟩, ?_⟩
      exact HK9.out.fresh (Kept.tree (g := pb + 1 + 1) (S := fun q => q = pb + 1 + 1) (Kept.refl (fun q => q = pb + 1 + 1) w9) rfl _ _) (fun b hb h => by have := HPB.out; omega)
end Go.Proofs.YtgehjkbcgcpbnaaDoor
