/-
  UndoExact: the law's walk.
-/
import Derived.Test.YtgehjkbcgcpbnaaDoorUoC
import Derived.Test.YtgehjkbcgcpbnaaDoorUnL
set_option linter.unusedVariables false
namespace Go.Proofs.YtgehjkbcgcpbnaaDoor
open Go Go.RowKit

theorem uw_mk7 {w W : World} {pb : Nat} {p : ScrU} (hp : ScrUOk w p) (hT : Tabs w) (hkp : Kept (fun _ => False) w W) (hpar : PSu W pb p) : Uw w pb p W := ⟨hpar, hp.kept hkp, hT.kept hkp id id, hkp⟩
theorem On.alt {w : World} {B n c : Nat} {A : Option Addr} {L : List NodeS} (h : On w B (.slice A n c) L) : ∀ ad, A = some ad → ad.block < w.heap.size := by
  intro ad hA
  rcases h.2 with ⟨hn, _⟩ | ⟨g, cap, cur, e, hb, hg, rest⟩
  · injection hn with e1; rw [e1] at hA; cases hA
  · injection e with e1
    rw [e1] at hA
    injection hA with hA
    subst hA
    exact heap_lt hg
/-- The tree that the law goes on with. -/
structure Ts7 (tb : Nat) (L : List NodeS) (cur : Int) (v : Value) (W : World) : Prop where
  bx : W.heap[tb]? = some (treeO v cur)
  on : On W 0 v L
  ne : ∀ q, v.ownBlock = some q → q ≠ tb
  sz : OkS L
theorem Ts7.kept {tb : Nat} {L : List NodeS} {cur : Int} {v : Value} {W W' : World} (h : Ts7 tb L cur v W) (hk : Kept (fun _ => False) W W') : Ts7 tb L cur v W' := ⟨(hk.block _ (heap_lt h.bx) id).trans h.bx, h.on.kept hk, h.ne, h.sz⟩
/-- What Check, Here, and their references tell of a tree. -/
theorem chk_all (A : Option Addr) (n c : Nat) (L : List NodeS) (cur : Int) (hg : OkS L) (hnc : n ≤ c) : ∃ (E : Int) (B : Bool) (S : ByteArray), (E == 0) = B ∧
    (∀ W, Ng W A n L → Tabs W → Calls Tryd.prog 8 #[treeV (.slice A n c) cur] W fun r w' => r = .returned (.int .i64 E) ∧ Kept (fun _ => False) W w') ∧
    (∀ W, Ng W A n L → Tabs W → Calls Tryd.prog 9 #[treeV (.slice A n c) cur] W fun r w' => r = .returned (.bool B) ∧ Kept (fun _ => False) W w') ∧
    (∀ W, Ng W A n L → Tabs W → Calls Tryd.prog 10 #[treeV (.slice A n c) cur] W fun r w' => r = .returned (.tuple #[.string S, .int .i64 E]) ∧ Kept (fun _ => False) W w') ∧
    (B = true → E = 0 ∧ ∀ W, Ng W A n L → Tabs W → Calls Tryd.prog 11 #[treeV (.slice A n c) cur] W fun r w' => r = .returned (.string S) ∧ Kept (fun _ => False) W w') ∧
    (B = false → E = 1 ∧ S = ⟨#[]⟩) := by
  by_cases hM : MayT L cur
  · obtain ⟨i, ei, hi, hei, _, _⟩ := may_cur hM
    refine ⟨0, true, ei.tx, rfl, fun W hN hT => tcheck_ok A n c L cur W hN hnc hT hM, tr_yes hg hM hnc, fun W hN hT => ?_, fun _ => ⟨rfl, fun W hN hT => ?_⟩, fun h => by cases h⟩
    · obtain ⟨ad, rfl⟩ := may_some hN hM
      exact here_any ad n c L cur W hN hnc hT hM i ei hi hei
    · obtain ⟨ad, rfl⟩ := may_some hN hM
      exact rhere_any ad n c L cur W hN (by have := hM.le; have := hN.len; omega) hT i ei hi hei
  · exact ⟨1, false, ⟨#[]⟩, rfl, fun W hN hT => tcheck_bad A n c L cur W hN hnc hT hg.2 hM, tr_no hg hM hnc, fun W hN hT => here_no A n c L cur W hN hnc hT hg.2 hM, (fun h => by cases h), fun _ => ⟨rfl, rfl⟩⟩
/-- A step's result, in one way. -/
theorem told_open {A : Option Addr} {n c : Nat} {L : List NodeS} {cur : Int} {W w' : World} {D : WR} {r : Ending} {tb H0 : Nat} (h : ToldS A n c cur W D r w') (hO : On W 0 (.slice A n c) L) (hL : OkS L) (hD : OkS D.ns) (hne : ∀ q, (Value.slice A n c).ownBlock = some q → q ≠ tb ∧ q < H0) (htb : tb < W.heap.size) :
    ∃ (A2 : Option Addr) (n2 c2 : Nat) (cy : Int) (Ly : List NodeS), r = .returned (.tuple #[treeV (.slice A2 n2 c2) cy, .bool true]) ∧ On w' 0 (.slice A2 n2 c2) Ly ∧ OkS Ly ∧ (∀ q, (Value.slice A2 n2 c2).ownBlock = some q → q ≠ tb ∧ (q < H0 ∨ W.heap.size ≤ q)) ∧ Kept (fun _ => False) W w' := by
  obtain ⟨⟨h0, v, rfl, hon⟩ | ⟨h0, rfl⟩, hk⟩ := h
  · obtain ⟨A2, n2, c2, rfl, _⟩ := hon.sn
    exact ⟨A2, n2, c2, D.cu, D.ns, rfl, hon.mono (Nat.zero_le _), hD, fun q hq => ⟨by have := (hon.own q hq).1; omega, .inr (hon.own q hq).1⟩, hk⟩
  · exact ⟨A, n, c, cur, L, rfl, hO.kept hk, hL, fun q hq => ⟨(hne q hq).1, .inl (hne q hq).2⟩, hk⟩
/-- Behind a step. -/
def J18 (w wr : World) (tb : Nat) (v11 v12 : Value) (wx : World) : Prop := ∃ (yb : Nat) (A2 : Option Addr) (n2 c2 : Nat) (cy : Int) (Ly : List NodeS), v11 = .pointer (some ⟨yb, 0, none⟩) ∧ v12 = .bool true ∧ wx.heap[yb]? = some (treeO (.slice A2 n2 c2) cy) ∧ On wx 0 (.slice A2 n2 c2) Ly ∧ OkS Ly ∧ (∀ q, (Value.slice A2 n2 c2).ownBlock = some q → q ≠ tb) ∧ Kept (fun _ => False) wr wx
set_option linter.unusedSimpArgs false in
set_option maxRecDepth 100000 in
set_option maxHeartbeats 16000000 in
theorem undoExact_any (p : ScrU) (w : World) (hp : ScrUOk w p) (hT : Tabs w) : Calls Tryd.prog 3 #[.agg p.cells] w fun e w' => e = .returned (.bool true) ∧ Kept (fun _ => False) w w' := by
  have hk0 : Kept (fun _ => False) w (w.alloc (.cells p.cells 27)) := (Kept.refl _ w).alloc _
  have HU0 : Hid (Uw w w.heap.size p (w.alloc (.cells p.cells 27))) := ⟨heap_alloc_new w _, hp.kept hk0, hT.kept hk0 id id, hk0⟩
  have cH := heavy7_any p _ (hp.kept hk0)
  have HTW := Lib.hid hT.two
  have HAG := Lib.hid hp.agood
  have HNGD := Lib.hid hp.ngood
  have HPW := Lib.hid hp
  have HTT := Lib.hid hT
  have hrc := hp.rc
  clear hk0 hp hT
  obtain ⟨R, rn, rc, nodes, cur0, LA, ln, lc, acts⟩ := p
  unfold ScrU.cells at *
  simp only at *
  have p0 := HU0.out.par.c 0
  have p1 := HU0.out.par.c 1
  have p2 := HU0.out.par.c 2
  simp only [ScrU.cells] at p0 p1 p2
  obtain ⟨pb, hpb⟩ : ∃ pb, w.heap.size = pb := ⟨_, rfl⟩
  have HPB := Lib.hid hpb
  simp only [hpb] at HU0 p0 p1 p2
  clear hpb
  go_enter Tryd.func3, Tryd.ntmps3
  go_upto_region 1 with fail
  simp only [HPB.out]
  generalize w.alloc (.cells #[.slice R rn rc, .int .i64 cur0, .slice LA ln lc] 27) = w0 at *
  have q0 : w0.cell? ⟨pb, 0, none⟩ = some (.slice R rn rc) := p0
  have q1 : w0.cell? ⟨pb, 1, none⟩ = some (.int .i64 cur0) := p1
  have q2 : w0.cell? ⟨pb, 2, none⟩ = some (.slice LA ln lc) := p2
  clear p0 p1 p2
  go_wp2_with (go_at_call 5; refine cH.mono ?_; rintro e w1 ⟨⟨hv, rfl, hb⟩, hk1⟩; have HU1 := Lib.hid (HU0.out.kept hk1); have HHV := Lib.hid hb; have s0 := cell_kept hk1 q0 id; have s1 := cell_kept hk1 q1 id; clear hk1 cH q0 q1 q2 hb)
  · exact bodyPost_ret (results_tmp rfl _ _ _) rfl ⟨rfl, HU1.out.kp⟩
  have hv0 : hv = false := by assumption
  subst hv0
  have hrn : rn ≤ 20000 := HHV.out rfl
  have cC := copytree_any R rn rc nodes cur0 w1 HU1.out.ok.nodes (by omega)
  refine cC.mono ?_
  rintro e w2 ⟨⟨v, rfl, hO⟩, hk2⟩
  obtain ⟨A, c, rfl, hng, hnc, hAN⟩ := hO.slice
  have hnl : nodes.length = rn := HPW.out.nodes.len
  rw [hnl] at hO hng hnc hAN ⊢
  have hos : OkS nodes := ⟨by omega, fun e he => (HNGD.out e he).2.2.2⟩
  have HU2 := Lib.hid (HU1.out.kept hk2)
  have hk3 : Kept (fun _ => False) w2 (w2.alloc (treeO (.slice A rn c) cur0)) := (Kept.refl _ w2).alloc _
  have HZ3 : Hid (Ts7 w2.heap.size nodes cur0 (.slice A rn c) (w2.alloc (treeO (.slice A rn c) cur0))) := ⟨heap_alloc_new w2 _, (hO.kept hk3).mono (Nat.zero_le _), fun q hq => by have := (hO.own q hq).2; omega, hos⟩
  have HU3 := Lib.hid (HU2.out.kept hk3)
  have HPX : Hid (w.heap.size ≤ w2.heap.size) := HU2.out.kp.size
  have HPT : Hid (pb < w2.heap.size) := heap_lt HU2.out.par
  have HNG3 := Lib.hid ((hng.kept hk3 (fun _ _ => id)))
  have HNL := Lib.hid hnl
  have HAN := Lib.hid hAN
  clear hk2 hk3 hO cC s0 s1 hos hnl hng hAN
  go_upto_region 4 with fail
  simp only [treeO] at HZ3 HU3 HNG3
  generalize w2.alloc _ = w3 at *
  generalize w2.heap.size = tb at *
  have HTBX : Hid (tb < w3.heap.size) := heap_lt HZ3.out.bx
  obtain ⟨E, B, S, hEB, cK, cT, _, _, _⟩ := chk_all A rn c nodes cur0 HZ3.out.sz hnc
  have HCK := Lib.hid cK
  have HCT := Lib.hid cT
  have KF : Hid (∀ W, Kept (fun _ => False) w3 W → W.cell? ⟨tb, 0, none⟩ = some (.slice A rn c) ∧ W.cell? ⟨tb, 1, none⟩ = some (.int .i64 cur0)) := fun W h => ⟨(tree_facts (HZ3.out.kept h).bx).1, (tree_facts (HZ3.out.kept h).bx).2.1⟩
  have KA := KF.out w3.drew (Kept.refl _ w3).drew
  clear cK cT
  go_cut [24] from 18 to 24 (fun v wx => v = .bool false ∧ Kept (fun _ => False) w3 wx)
  case first =>
    have cK1 := HCK.out w3.drew (HNG3.out.kept (Kept.refl (fun _ => False) w3).drew (fun _ _ => id)) (HU3.out.kept (Kept.refl (fun _ => False) w3).drew).tabs
    have cT1 := HCT.out w3.drew (HNG3.out.kept (Kept.refl (fun _ => False) w3).drew (fun _ _ => id)) (HU3.out.kept (Kept.refl (fun _ => False) w3).drew).tabs
    have HEB := Lib.hid hEB
    clear hEB
    have HDR : Hid (Kept (fun _ => False) w3 w3.drew) := (Kept.refl _ w3).drew
    go_region_held3 (fun (W : World) => W.cell? ⟨tb, 0, none⟩ = some (.slice A rn c) ∧ W.cell? ⟨tb, 1, none⟩ = some (.int .i64 cur0))
      (first | with_reducible exact KC | with_reducible exact KB | with_reducible exact KA)
      (first
        | (go_at_call 7; refine (unum_any _ _).mono ?_; rintro e w' ⟨rfl, hw⟩; have hw2 := hw.symm; subst hw2)
        | (go_at_call 8; refine cK1.mono ?_; rintro r w4 ⟨rfl, hk4⟩; have HK4 := Lib.hid (HDR.out.trans hk4); have KB := KF.out w4 HK4.out; clear hk4 cK1; have cT1 := HCT.out w4 (HNG3.out.kept HK4.out (fun _ _ => id)) (HU3.out.kept HK4.out).tabs)
        | (go_at_call 9; refine cT1.mono ?_; rintro r w5 ⟨rfl, hk5⟩; have HK5 := Lib.hid ((by first | exact HK4.out | exact HDR.out : Kept (fun _ => False) w3 _).trans hk5); have KC := KF.out w5 HK5.out; clear hk5 cT1; have cK1 := HCK.out w5 (HNG3.out.kept HK5.out (fun _ _ => id)) (HU3.out.kept HK5.out).tabs)
        | (go_at_call 8; refine cK1.mono ?_; rintro r w4 ⟨rfl, hk4⟩; have HK4 := Lib.hid (HK5.out.trans hk4); have KB := KF.out w4 HK4.out; clear hk4 cK1))
    all_goals
      have hEB := HEB.out
      go_wp2_with fail
      go_meet
      first
        | exact ⟨by rw [hEB]; simp, HK5.out⟩
        | exact ⟨by rw [hEB]; simp, HK4.out⟩
        | exact ⟨by simp [hEB], HK5.out⟩
        | exact ⟨by simp [hEB], HK4.out⟩
  case rest =>
    obtain ⟨rfl, hk6⟩ := hcut
    have HZ6 := Lib.hid (HZ3.out.kept hk6)
    have HU6 := Lib.hid (HU3.out.kept hk6)
    clear hk6 KA KF HCK HCT HZ3 HU3 HNG3 hEB
    obtain ⟨w6, hw6⟩ : ∃ w6, w6 = wc := ⟨_, rfl⟩
    subst hw6
    go_wp2_with fail
    have hi64 : True := trivial
    go_loopw [4] (fun v wr => ∃ (i : Nat) (L : List NodeS) (cur : Int) (tv : Value), i ≤ ln ∧ i ≤ 14 ∧ v = .int .i64 i ∧ Ts7 tb L cur tv wr ∧ Uw w pb ⟨R, rn, rc, nodes, cur0, LA, ln, lc, acts⟩ wr) (fun v _ => ln - (intOf v).toNat)
    case atStart => exact ⟨0, _, _, _, Nat.zero_le _, Nat.zero_le _, rfl, HZ6.out, HU6.out⟩
    case round =>
      obtain ⟨i, L, cur, tv, hi, hi14, rfl, hz, hu⟩ := hrel
      clear HZ6 HU6
      have HU := Lib.hid hu
      have p2 : wr.cell? ⟨pb, 2, none⟩ = some (.slice LA ln lc) := hu.par.c 2
      by_cases hgo : i < ln ∧ i < 14
      · obtain ⟨g1, g2⟩ := hgo
        have b1 : decide (i < ln) = true := decide_eq_true g1
        have b2 : decide ((i : Int) < (ln : Int)) = true := decide_eq_true (by omega)
        have b3 : decide (i < 14) = true := decide_eq_true g2
        have b4 : decide ((i : Int) < 14) = true := decide_eq_true (by omega)
        obtain ⟨aad, act, rfl, hact, h4⟩ := HPW.out.acts.at_ g1
        have hgd := HAG.out act (List.mem_of_getElem? hact)
        have hsz : act.tx.size ≤ 140737488351232 := hgd.2.2.2
        have t1_ : (0 : Int) ≤ (i : Int) := by omega
        have t2_ : (i : Int) < (ln : Int) := by omega
        obtain ⟨A, c, rfl, hng, hnc, hAN⟩ := hz.on.slice
        obtain ⟨m, hm⟩ : ∃ m, L.length = m := ⟨_, rfl⟩
        rw [hm] at hz hng hnc hAN
        obtain ⟨E, B, S, hEB, _, cT, cH, hY, hN⟩ := chk_all A m c L cur hz.sz hnc
        obtain ⟨D, hDs, hSt⟩ := stepd_any L cur act hz.sz hsz
        obtain ⟨aDo, aAt, aMost, s⟩ := act
        simp only at hsz
        have H4 : Hid (∀ W, Kept (fun _ => False) w W → W.cell? (aad.add (i * 4)) = some (.int .i64 aDo) ∧ W.cell? ⟨(aad.add (i * 4)).block, (aad.add (i * 4)).off + 1, none⟩ = some (.int .i64 aAt) ∧ W.cell? ⟨(aad.add (i * 4)).block, (aad.add (i * 4)).off + 2, none⟩ = some (.int .i64 aMost) ∧ W.cell? ⟨(aad.add (i * 4)).block, (aad.add (i * 4)).off + 3, none⟩ = some (.string s)) := fun W h => ⟨(h4.kept h id).c0, (h4.kept h id).c1, (h4.kept h id).c2, (h4.kept h id).c3⟩
        obtain ⟨t0, t1, _⟩ := tree_facts hz.bx
        have HZ := Lib.hid hz
        have HNG := Lib.hid hng
        have HNC := Lib.hid hnc
        have HANr := Lib.hid hAN
        have HCT := Lib.hid cT
        have HCH := Lib.hid cH
        have HY := Lib.hid hY
        have HNo := Lib.hid hN
        have HDS := Lib.hid hDs
        have HST := Lib.hid hSt
        have HEB := Lib.hid hEB
        clear hact h4 hgd hz hng hnc hAN cT cH hY hN hDs hSt hEB hu hm
        have cH := HCH.out wr HNG.out HU.out.tabs
        have HXT : Hid (tb < wr.heap.size) := heap_lt HZ.out.bx
        cases B with
        | false =>
          obtain ⟨rfl, rfl⟩ := HNo.out (by simp)
          go_upto_region 11 with (go_at_call 10; refine cH.mono ?_; rintro e w5 ⟨rfl, hk5⟩; have HU5 := Lib.hid (HU.out.kept hk5); have HZ5 := Lib.hid (HZ.out.kept hk5); have HN5 := Lib.hid (HNG.out.kept hk5 (fun _ _ => id)); clear hk5 cH t0 t1 p2; obtain ⟨t0, t1, _⟩ := tree_facts HZ5.out.bx; have cT := HCT.out w5 HN5.out HU5.out.tabs)
          go_upto_region 15 with (first
            | (go_at_call 7; refine (unum_any _ _).mono ?_; rintro e w' ⟨rfl, hw⟩; have hw2 := hw.symm; subst hw2)
            | (go_at_call 9; refine cT.mono ?_; rintro e w7 ⟨rfl, hk7⟩; have HU7 := Lib.hid (HU5.out.kept hk7); have HZ7 := Lib.hid (HZ5.out.kept hk7); have HN7 := Lib.hid (HN5.out.kept hk7 (fun _ _ => id)); clear hk7 cT t0 t1))
          have p2 : w7.cell? ⟨pb, 2, none⟩ = some (.slice (some aad) ln lc) := HU7.out.par.c 2
          have f3 := (H4.out w7 HU7.out.kp).2.2.2
          clear b1 b2 b3 b4
          cases hms : mayB s with
          | false =>
            have cN := new_no s w7 HU7.out.tabs hsz hms
            go_upto_region 16 with (go_at_call 12; refine cN.mono ?_; rintro e w8 ⟨rfl, hk8⟩; have HK8 := Lib.hid hk8; clear hk8 cN p2 f3)
            have HK79 : Hid (Kept (fun _ => False) w7 (w8.alloc (treeO (.slice none 0 0) 0))) := HK8.out.alloc _
            simp only [treeO] at HK79
            generalize w8.alloc _ = w9 at *
            have cMy := rmay_any s w9.drew hsz (HU7.out.kept (HK79.out.trans (Kept.refl (fun _ => False) w9).drew)).tabs
            rw [hms] at cMy
            have KF : Hid (∀ W, Kept (fun _ => False) w9 W → W.cell? ⟨pb, 2, none⟩ = some (.slice (some aad) ln lc) ∧ W.cell? ⟨(aad.add (i * 4)).block, (aad.add (i * 4)).off + 3, none⟩ = some (.string s)) := fun W hk => ⟨(HU7.out.kept (HK79.out.trans hk)).par.c 2, (H4.out W (HU7.out.kept (HK79.out.trans hk)).kp).2.2.2⟩
            have KA := KF.out w9.drew (Kept.refl _ w9).drew
            clear hms
            go_cut [91] from 64 to 91 (fun v wx => v = .bool false ∧ Kept (fun _ => False) w9 wx)
            case first =>
              refine wp_region_noPanic ?_
              refine wp_region_held_drew (S := (fun (W : World) => W.cell? ⟨pb, 2, none⟩ = some (.slice (some aad) ln lc) ∧ W.cell? ⟨(aad.add (i * 4)).block, (aad.add (i * 4)).off + 3, none⟩ = some (.string s))) (by kernel_rfl) KA (fun hHeld => ?_)
              refine wpAnyH_take (i := 0) (oi := _) (v := .pointer (some ⟨pb, 2, none⟩)) rfl (by kernel_rfl) (by kernel_rfl) (by kernel_rfl) (fun _ _ _ h => h) (Or.inl ⟨by rfl, fun w hSw => by go_simp⟩) (by assumption) ?_
              try simp only [List.getElem_toArray, List.getElem_cons_succ, List.getElem_cons_zero, Act.put, List.setIfInBounds_toArray, List.set_cons_zero, List.set_cons_succ]
              refine wpAnyH_take (i := 1) (oi := _) (v := .slice (some aad) ln lc) rfl (by kernel_rfl) (by kernel_rfl) (by kernel_rfl) (fun _ _ _ h => h) (Or.inl ⟨by rfl, fun w hSw => by go_simp⟩) (by assumption) ?_
              try simp only [List.getElem_toArray, List.getElem_cons_succ, List.getElem_cons_zero, Act.put, List.setIfInBounds_toArray, List.set_cons_zero, List.set_cons_succ]
              refine wpAnyH_take (i := 2) (oi := _) (v := .int .i64 i) rfl (by kernel_rfl) (by kernel_rfl) (by kernel_rfl) (fun _ _ _ h => h) (Or.inl ⟨by rfl, fun w hSw => by go_simp⟩) (by assumption) ?_
              try simp only [List.getElem_toArray, List.getElem_cons_succ, List.getElem_cons_zero, Act.put, List.setIfInBounds_toArray, List.set_cons_zero, List.set_cons_succ]
              refine wpAnyH_take (i := 3) (oi := _) (v := .pointer (some (aad.add (i * 4)))) rfl (by kernel_rfl) (by kernel_rfl) (by kernel_rfl) (fun _ _ _ h => h) (Or.inl ⟨by rfl, fun w hSw => by go_simp⟩) (by assumption) ?_
              try simp only [List.getElem_toArray, List.getElem_cons_succ, List.getElem_cons_zero, Act.put, List.setIfInBounds_toArray, List.set_cons_zero, List.set_cons_succ]
              refine wpAnyH_take (i := 4) (oi := _) (v := .pointer (some ⟨(aad.add (i * 4)).block, (aad.add (i * 4)).off + 3, none⟩)) rfl (by kernel_rfl) (by kernel_rfl) (by kernel_rfl) (fun _ _ _ h => h) (Or.inl ⟨by rfl, fun w hSw => by go_simp⟩) (by assumption) ?_
              try simp only [List.getElem_toArray, List.getElem_cons_succ, List.getElem_cons_zero, Act.put, List.setIfInBounds_toArray, List.set_cons_zero, List.set_cons_succ]
              refine wpAnyH_take (i := 5) (oi := _) (v := .string s) rfl (by kernel_rfl) (by kernel_rfl) (by kernel_rfl) (fun _ _ _ h => h) (Or.inl ⟨by rfl, fun w hSw => by go_simp⟩) (by assumption) ?_
              try simp only [List.getElem_toArray, List.getElem_cons_succ, List.getElem_cons_zero, Act.put, List.setIfInBounds_toArray, List.set_cons_zero, List.set_cons_succ]
              refine wpAnyH_take (i := 7) (oi := _) (v := .int .i64 1) rfl (by kernel_rfl) (by kernel_rfl) (by kernel_rfl) (fun _ _ _ h => h) (Or.inl ⟨by rfl, fun w hSw => by go_simp⟩) (by assumption) ?_
              try simp only [List.getElem_toArray, List.getElem_cons_succ, List.getElem_cons_zero, Act.put, List.setIfInBounds_toArray, List.set_cons_zero, List.set_cons_succ]
              refine wpAnyH_ready (rs := [6]) (by kernel_rfl) (by simp) ?_
              refine AllReadyH.cons rfl (fun K hK => ?_) AllReadyH.nil
              go_simp
              refine cMy.mono ?_
              rintro r w11 ⟨rfl, hk11⟩
              have HK11 := Lib.hid ((Kept.refl (fun _ => False) w9).drew.trans hk11)
              have KB := KF.out w11 HK11.out
              refine hK.out _ _ KB (fun hHeld2 => ?_)
              clear hK K hk11
              refine wpAnyH_ready (rs := [8]) (by kernel_rfl) (by simp) ?_
              refine AllReadyH.cons rfl (fun K hK => ?_) AllReadyH.nil
              go_simp
              refine (unum_any _ _).mono ?_
              rintro e w' ⟨rfl, hw⟩
              have hw2 := hw.symm
              subst hw2
              refine hK.out _ _ KB (fun hHeld3 => ?_)
              clear hK K
              refine wpAnyH_take (i := 9) (oi := _) (v := .bool false) rfl (by kernel_rfl) (by kernel_rfl) (by kernel_rfl) (fun _ _ _ h => h) (Or.inl ⟨by rfl, fun w hSw => by go_simp⟩) (by assumption) ?_
              try simp only [List.getElem_toArray, List.getElem_cons_succ, List.getElem_cons_zero, Act.put, List.setIfInBounds_toArray, List.set_cons_zero, List.set_cons_succ]
              refine wpAnyH_take (i := 10) (oi := _) (v := .bool false) rfl (by kernel_rfl) (by kernel_rfl) (by kernel_rfl) (fun _ _ _ h => h) (Or.inl ⟨by rfl, fun w hSw => by go_simp⟩) (by assumption) ?_
              try simp only [List.getElem_toArray, List.getElem_cons_succ, List.getElem_cons_zero, Act.put, List.setIfInBounds_toArray, List.set_cons_zero, List.set_cons_succ]
              refine wpAnyH_take (i := 11) (oi := _) (v := .bool false) rfl (by kernel_rfl) (by kernel_rfl) (by kernel_rfl) (fun _ _ _ h => h) (Or.inl ⟨by rfl, fun w hSw => by go_simp⟩) (by assumption) ?_
              try simp only [List.getElem_toArray, List.getElem_cons_succ, List.getElem_cons_zero, Act.put, List.setIfInBounds_toArray, List.set_cons_zero, List.set_cons_succ]
              refine wpAnyH_take (i := 12) (oi := _) (v := .int .i64 1) rfl (by kernel_rfl) (by kernel_rfl) (by kernel_rfl) (fun _ _ _ h => h) (Or.inl ⟨by rfl, fun w hSw => by go_simp⟩) (by assumption) ?_
              try simp only [List.getElem_toArray, List.getElem_cons_succ, List.getElem_cons_zero, Act.put, List.setIfInBounds_toArray, List.set_cons_zero, List.set_cons_succ]
              refine wpAnyH_ready (rs := [13]) (by kernel_rfl) (by simp) ?_
              refine AllReadyH.cons rfl (fun K hK => ?_) AllReadyH.nil
              go_simp
              refine (unum_any _ _).mono ?_
              rintro e w' ⟨rfl, hw⟩
              have hw2 := hw.symm
              subst hw2
              refine hK.out _ _ KB (fun hHeld4 => ?_)
              clear hK K
              refine wpAnyH_take (i := 14) (oi := _) (v := .bool false) rfl (by kernel_rfl) (by kernel_rfl) (by kernel_rfl) (fun _ _ _ h => h) (Or.inl ⟨by rfl, fun w hSw => by go_simp⟩) (by assumption) ?_
              try simp only [List.getElem_toArray, List.getElem_cons_succ, List.getElem_cons_zero, Act.put, List.setIfInBounds_toArray, List.set_cons_zero, List.set_cons_succ]
              refine wpAnyH_take (i := 15) (oi := _) (v := .bool false) rfl (by kernel_rfl) (by kernel_rfl) (by kernel_rfl) (fun _ _ _ h => h) (Or.inl ⟨by rfl, fun w hSw => by go_simp⟩) (by assumption) ?_
              try simp only [List.getElem_toArray, List.getElem_cons_succ, List.getElem_cons_zero, Act.put, List.setIfInBounds_toArray, List.set_cons_zero, List.set_cons_succ]
              refine wpAnyH_take (i := 16) (oi := _) (v := undef) rfl (by kernel_rfl) (by kernel_rfl) (by kernel_rfl) (fun _ _ _ h => h) (Or.inr ⟨by kernel_rfl, rfl⟩) (by assumption) ?_
              try simp only [List.getElem_toArray, List.getElem_cons_succ, List.getElem_cons_zero, Act.put, List.setIfInBounds_toArray, List.set_cons_zero, List.set_cons_succ]
              refine wpAnyH_take (i := 17) (oi := _) (v := undef) rfl (by kernel_rfl) (by kernel_rfl) (by kernel_rfl) (fun _ _ _ h => h) (Or.inr ⟨by kernel_rfl, rfl⟩) (by assumption) ?_
              try simp only [List.getElem_toArray, List.getElem_cons_succ, List.getElem_cons_zero, Act.put, List.setIfInBounds_toArray, List.set_cons_zero, List.set_cons_succ]
              refine wpAnyH_take (i := 18) (oi := _) (v := undef) rfl (by kernel_rfl) (by kernel_rfl) (by kernel_rfl) (fun _ _ _ h => h) (Or.inr ⟨by kernel_rfl, rfl⟩) (by assumption) ?_
              try simp only [List.getElem_toArray, List.getElem_cons_succ, List.getElem_cons_zero, Act.put, List.setIfInBounds_toArray, List.set_cons_zero, List.set_cons_succ]
              refine wpAnyH_take (i := 19) (oi := _) (v := undef) rfl (by kernel_rfl) (by kernel_rfl) (by kernel_rfl) (fun _ _ _ h => h) (Or.inr ⟨by kernel_rfl, rfl⟩) (by assumption) ?_
              try simp only [List.getElem_toArray, List.getElem_cons_succ, List.getElem_cons_zero, Act.put, List.setIfInBounds_toArray, List.set_cons_zero, List.set_cons_succ]
              refine wpAnyH_take (i := 20) (oi := _) (v := undef) rfl (by kernel_rfl) (by kernel_rfl) (by kernel_rfl) (fun _ _ _ h => h) (Or.inr ⟨by kernel_rfl, rfl⟩) (by assumption) ?_
              try simp only [List.getElem_toArray, List.getElem_cons_succ, List.getElem_cons_zero, Act.put, List.setIfInBounds_toArray, List.set_cons_zero, List.set_cons_succ]
              refine wpAnyH_take (i := 21) (oi := _) (v := undef) rfl (by kernel_rfl) (by kernel_rfl) (by kernel_rfl) (fun _ _ _ h => h) (Or.inr ⟨by kernel_rfl, rfl⟩) (by assumption) ?_
              try simp only [List.getElem_toArray, List.getElem_cons_succ, List.getElem_cons_zero, Act.put, List.setIfInBounds_toArray, List.set_cons_zero, List.set_cons_succ]
              refine wpAnyH_take (i := 22) (oi := _) (v := undef) rfl (by kernel_rfl) (by kernel_rfl) (by kernel_rfl) (fun _ _ _ h => h) (Or.inr ⟨by kernel_rfl, rfl⟩) (by assumption) ?_
              try simp only [List.getElem_toArray, List.getElem_cons_succ, List.getElem_cons_zero, Act.put, List.setIfInBounds_toArray, List.set_cons_zero, List.set_cons_succ]
              refine wpAnyH_take (i := 23) (oi := _) (v := undef) rfl (by kernel_rfl) (by kernel_rfl) (by kernel_rfl) (fun _ _ _ h => h) (Or.inr ⟨by kernel_rfl, rfl⟩) (by assumption) ?_
              try simp only [List.getElem_toArray, List.getElem_cons_succ, List.getElem_cons_zero, Act.put, List.setIfInBounds_toArray, List.set_cons_zero, List.set_cons_succ]
              refine wpAnyH_take (i := 24) (oi := _) (v := undef) rfl (by kernel_rfl) (by kernel_rfl) (by kernel_rfl) (fun _ _ _ h => h) (Or.inr ⟨by kernel_rfl, rfl⟩) (by assumption) ?_
              try simp only [List.getElem_toArray, List.getElem_cons_succ, List.getElem_cons_zero, Act.put, List.setIfInBounds_toArray, List.set_cons_zero, List.set_cons_succ]
              refine wpAnyH_take (i := 25) (oi := _) (v := undef) rfl (by kernel_rfl) (by kernel_rfl) (by kernel_rfl) (fun _ _ _ h => h) (Or.inr ⟨by kernel_rfl, rfl⟩) (by assumption) ?_
              try simp only [List.getElem_toArray, List.getElem_cons_succ, List.getElem_cons_zero, Act.put, List.setIfInBounds_toArray, List.set_cons_zero, List.set_cons_succ]
              refine wpAnyH_take (i := 26) (oi := _) (v := .bool false) rfl (by kernel_rfl) (by kernel_rfl) (by kernel_rfl) (fun _ _ _ h => h) (Or.inl ⟨by rfl, fun w hSw => by go_simp⟩) (by assumption) ?_
              try simp only [List.getElem_toArray, List.getElem_cons_succ, List.getElem_cons_zero, Act.put, List.setIfInBounds_toArray, List.set_cons_zero, List.set_cons_succ]
              refine wpAnyH_take (i := 27) (oi := _) (v := .bool false) rfl (by kernel_rfl) (by kernel_rfl) (by kernel_rfl) (fun _ _ _ h => h) (Or.inl ⟨by rfl, fun w hSw => by go_simp⟩) (by assumption) ?_
              try simp only [List.getElem_toArray, List.getElem_cons_succ, List.getElem_cons_zero, Act.put, List.setIfInBounds_toArray, List.set_cons_zero, List.set_cons_succ]
              refine wpAnyH_done (by kernel_rfl) ?_ _
              refine NoPanic.normal ?_
              try simp only [List.getElem_toArray, List.getElem_cons_succ, List.getElem_cons_zero, Act.put, List.setIfInBounds_toArray, List.set_cons_zero, List.set_cons_succ]
              go_wp2_with fail
              go_meet
              exact ⟨rfl, HK11.out⟩
            case rest =>
              obtain ⟨rfl, hk10⟩ := hcut
              have HK10 := Lib.hid (HK79.out.trans hk10)
              clear hk10 KA KF cMy
              obtain ⟨w10, hw10⟩ : ∃ w10, w10 = wc := ⟨_, rfl⟩
              subst hw10
              have HU10 := Lib.hid (HU7.out.kept HK10.out)
              have HZ10 := Lib.hid (HZ7.out.kept HK10.out)
              have HN10 := Lib.hid (HN7.out.kept HK10.out (fun _ _ => id))
              clear HK10 HU7 HZ7 HN7
              have HXT2 : Hid (tb < w10.heap.size) := heap_lt HZ10.out.bx
              have KF : Hid (∀ W, Kept (fun _ => False) w10 W → W.cell? ⟨tb, 0, none⟩ = some (.slice A m c) ∧ W.cell? ⟨tb, 1, none⟩ = some (.int .i64 cur) ∧ W.cell? ⟨pb, 2, none⟩ = some (.slice (some aad) ln lc) ∧ W.cell? (aad.add (i * 4)) = some (.int .i64 aDo) ∧ W.cell? ⟨(aad.add (i * 4)).block, (aad.add (i * 4)).off + 1, none⟩ = some (.int .i64 aAt) ∧ W.cell? ⟨(aad.add (i * 4)).block, (aad.add (i * 4)).off + 2, none⟩ = some (.int .i64 aMost) ∧ W.cell? ⟨(aad.add (i * 4)).block, (aad.add (i * 4)).off + 3, none⟩ = some (.string s)) := by
                show ∀ W, _
                intro W hk
                have h9 := tree_facts (HZ10.out.kept hk).bx
                exact ⟨h9.1, h9.2.1, (HU10.out.kept hk).par.c 2, H4.out W (HU10.out.kept hk).kp⟩
              have KFS : Hid (∀ (yb : Nat) W, w10.heap.size ≤ yb → Kept (fun q => q = yb) w10 W → W.cell? ⟨tb, 0, none⟩ = some (.slice A m c) ∧ W.cell? ⟨tb, 1, none⟩ = some (.int .i64 cur) ∧ W.cell? ⟨pb, 2, none⟩ = some (.slice (some aad) ln lc) ∧ W.cell? (aad.add (i * 4)) = some (.int .i64 aDo) ∧ W.cell? ⟨(aad.add (i * 4)).block, (aad.add (i * 4)).off + 1, none⟩ = some (.int .i64 aAt) ∧ W.cell? ⟨(aad.add (i * 4)).block, (aad.add (i * 4)).off + 2, none⟩ = some (.int .i64 aMost) ∧ W.cell? ⟨(aad.add (i * 4)).block, (aad.add (i * 4)).off + 3, none⟩ = some (.string s)) := by
                show ∀ (yb : Nat) W, _
                intro yb W hy hk
                obtain ⟨h1, h2, h3, h5, h6, h7, h8⟩ := KF.out w10 (Kept.refl _ w10)
                have k1 := heap_lt HU10.out.par
                have k2 := heap_lt HZ10.out.bx
                have k3 := World.block_lt_of_cell? w10 _ h5
                exact ⟨cell_kept hk h1 (by show ¬ tb = yb; omega), cell_kept hk h2 (by show ¬ tb = yb; omega), cell_kept hk h3 (by show ¬ pb = yb; omega), cell_kept hk h5 (by omega), cell_kept hk h6 (by show ¬ (aad.add (i * 4)).block = yb; omega), cell_kept hk h7 (by show ¬ (aad.add (i * 4)).block = yb; omega), cell_kept hk h8 (by show ¬ (aad.add (i * 4)).block = yb; omega)⟩
              have HDR : Hid (Kept (fun _ => False) w10 w10.drew) := (Kept.refl _ w10).drew
              have HDA : Hid (Kept (fun _ => False) w10 (w10.alloc nilT).drew) := ((Kept.refl _ w10).alloc _).drew
              have HCS : Hid (∀ W, Kept (fun _ => False) w10 W → Calls Tryd.prog 16 #[treeV (.slice A m c) cur, .agg #[.int .i64 aDo, .int .i64 aAt, .int .i64 aMost, .string s]] W (ToldS A m c cur W D)) := by
                show ∀ W, _
                intro W hk
                exact HST.out A m c W (HN10.out.kept hk (fun _ _ => id)) HNC.out (HZ10.out.kept hk).on.alt (HU10.out.kept hk).tabs HANr.out
              have HOP : Hid (∀ W r w', Kept (fun _ => False) w10 W → ToldS A m c cur W D r w' → ∃ (A2 : Option Addr) (n2 c2 : Nat) (cy : Int) (Ly : List NodeS), r = .returned (.tuple #[treeV (.slice A2 n2 c2) cy, .bool true]) ∧ On w' 0 (.slice A2 n2 c2) Ly ∧ OkS Ly ∧ (∀ q, (Value.slice A2 n2 c2).ownBlock = some q → q ≠ tb ∧ (q < w10.heap.size ∨ W.heap.size ≤ q)) ∧ Kept (fun _ => False) W w') := by
                show ∀ W, _
                intro W r w' hk h
                exact told_open h (HZ10.out.kept hk).on HZ10.out.sz HDS.out (fun q hq => ⟨HZ10.out.ne q hq, (HZ10.out.on.own q hq).2⟩) (heap_lt (HZ10.out.kept hk).bx)
              have KA := KF.out w10.drew HDR.out
              have KA2 := KF.out (w10.alloc nilT).drew HDA.out
              go_upto_region 18 with fail
              go_cut [11, 12] from 92 to 101 (fun v11 v12 wx => J18 w w10 tb v11 v12 wx)
              case first =>
                have cS1 := HCS.out _ HDR.out
                have cS2 := HCS.out _ HDA.out
                simp only [nilT, treeO] at cS2 KA2 HDA
                go_region_held3 (fun (W : World) => W.cell? ⟨tb, 0, none⟩ = some (.slice A m c) ∧ W.cell? ⟨tb, 1, none⟩ = some (.int .i64 cur) ∧ W.cell? ⟨pb, 2, none⟩ = some (.slice (some aad) ln lc) ∧ W.cell? (aad.add (i * 4)) = some (.int .i64 aDo) ∧ W.cell? ⟨(aad.add (i * 4)).block, (aad.add (i * 4)).off + 1, none⟩ = some (.int .i64 aAt) ∧ W.cell? ⟨(aad.add (i * 4)).block, (aad.add (i * 4)).off + 2, none⟩ = some (.int .i64 aMost) ∧ W.cell? ⟨(aad.add (i * 4)).block, (aad.add (i * 4)).off + 3, none⟩ = some (.string s))
                  (first | with_reducible exact KE.out _ _ | with_reducible exact KD.out _ | with_reducible exact KB | with_reducible exact KA2 | with_reducible exact KA)
                  (first
                    | (go_at_call 16; refine cS1.mono ?_; rintro r w11 hts; obtain ⟨A2, n2, c2, cy, Ly, rfl, hon, hoks, hne, hk11⟩ := HOP.out _ _ _ HDR.out hts; have HK11 := Lib.hid (HDR.out.trans hk11); have HON := Lib.hid hon; have HOKS := Lib.hid hoks; have HNE := Lib.hid hne; have KB := KF.out w11 HK11.out; have KD := Lib.hid (fun o => KF.out (w11.alloc o) (HK11.out.alloc o)); have KE := Lib.hid (fun v0 v1 => KFS.out w11.heap.size _ HK11.out.size (Kept.tree (g := w11.heap.size) (S := fun q => q = w11.heap.size) ((HK11.out.alloc (.cells #[.slice none 0 0, .int .i64 0] 24)).any (S := fun q => q = w11.heap.size)) rfl v0 v1)); clear hts hon hoks hne hk11 cS1 cS2)
                    | (go_at_call 16; refine cS2.mono ?_; rintro r w11 hts; obtain ⟨A2, n2, c2, cy, Ly, rfl, hon, hoks, hne, hk11⟩ := HOP.out _ _ _ HDA.out hts; have HK11 := Lib.hid (HDA.out.trans hk11); have HON := Lib.hid hon; have HOKS := Lib.hid hoks; have HNE := Lib.hid hne; have KB := KF.out w11 HK11.out; have HYB : Hid (w11.heap[w10.heap.size]? = some nilT) := ((hk11.block _ (by show w10.heap.size < (w10.alloc _).heap.size; simp) id).trans (heap_alloc_new w10 _)); obtain ⟨y0, y1, y2, y3⟩ := tree_facts HYB.out; have KE := Lib.hid (fun v0 v1 => KFS.out w10.heap.size _ (Nat.le_refl _) (Kept.tree (g := w10.heap.size) (S := fun q => q = w10.heap.size) (HK11.out.any (S := fun q => q = w10.heap.size)) rfl v0 v1)); clear hts hon hoks hne hk11 cS1 cS2))
                all_goals
                  go_wp2_with fail
                  go_meet
                  first
                    | (exact ⟨w11.heap.size, A2, n2, c2, cy, Ly, rfl, rfl, heap_alloc_new w11 _, HON.out.kept ((Kept.refl (fun _ => False) w11).alloc _), HOKS.out, (fun q hq => (HNE.out q hq).1), HK11.out.alloc _⟩)
                    | (exact ⟨w10.heap.size, A2, n2, c2, cy, Ly, rfl, rfl, tree_set HYB.out _ _, HON.out.keptO (Kept.tree (g := w10.heap.size) (S := fun q => q = w10.heap.size) (Kept.refl (fun q => q = w10.heap.size) w11) rfl _ _) (fun q hq h => by
                        rcases (HNE.out q hq).2 with h3 | h3
                        · omega
                        · have h4 : (w10.alloc (.cells #[.slice none 0 0, .int .i64 0] 24)).heap.size ≤ q := h3
                          simp at h4
                          omega), HOKS.out, (fun q hq => (HNE.out q hq).1), HK11.out.fresh (Kept.tree (g := w10.heap.size) (S := fun q => q = w10.heap.size) (Kept.refl (fun q => q = w10.heap.size) w11) rfl _ _) (fun q h1 h2 => by omega)⟩)
              case rest =>
                obtain ⟨yb, A2, n2, c2, cy, Ly, rfl, rfl, hyb, hon, hoks, hne, hk⟩ := hcut
                obtain ⟨w11, hw11⟩ : ∃ w11, w11 = wc := ⟨_, rfl⟩
                subst hw11
                have HU11 := Lib.hid (HU10.out.kept hk)
                have HZ11 := Lib.hid (HZ10.out.kept hk)
                have HON := Lib.hid hon
                have HOKS := Lib.hid hoks
                have HNE := Lib.hid hne
                obtain ⟨y0, y1, _⟩ := tree_facts hyb
                obtain ⟨t0, t1, t2, t3⟩ := tree_facts HZ11.out.bx
                clear hk hon hoks hne KA KA2 KF KFS HDR HDA HCS HOP hyb
                go_wp2_with fail
                have hks : Kept (fun q => q = tb) w11 ((w11.setCell ⟨tb, 0, none⟩ (.slice A2 n2 c2)).setCell ⟨tb, 1, none⟩ (.int .i64 cy)) := Kept.tree (g := tb) (S := fun q => q = tb) (Kept.refl (fun q => q = tb) w11) rfl _ _
                go_roundw
                case rel => exact ⟨i + 1, Ly, cy, _, by omega, by omega, by go_num, ⟨tree_set HZ11.out.bx _ _, HON.out.keptO hks (fun q hq h => HNE.out q hq h), HNE.out, HOKS.out⟩, uw_mk7 HPW.out HTT.out (HU11.out.kp.fresh hks (fun q h1 h2 => by have := HPX.out; omega)) (HU11.out.par.kept hks (by have := HPT.out; show ¬ pb = tb; omega))⟩
                case measure => simp [intOf]; omega
          | true =>
            have cN := new_any s w7 HU7.out.tabs hms
            go_upto_region 16 with (go_at_call 12; refine cN.mono ?_; rintro e w8 ⟨⟨vx, rfl, hO⟩, hk8⟩; obtain ⟨Ax, nx, cx, rfl, _⟩ := hO.sn; have HO8 := Lib.hid hO; have HK8 := Lib.hid hk8; clear hk8 hO cN p2 f3)
            have HK79 : Hid (Kept (fun _ => False) w7 (w8.alloc (treeO (.slice Ax nx cx) 0))) := HK8.out.alloc _
            have HX9 : Hid ((w8.alloc (treeO (.slice Ax nx cx) 0)).heap[w8.heap.size]? = some (treeO (.slice Ax nx cx) 0)) := heap_alloc_new w8 _
            have HO9 := Lib.hid (HO8.out.kept ((Kept.refl (fun _ => False) w8).alloc (treeO (.slice Ax nx cx) 0)))
            simp only [treeO] at HK79 HX9 HO9
            generalize w8.alloc _ = w9 at *
            generalize w8.heap.size = xb at *
            have cMy := rmay_any s w9.drew hsz (HU7.out.kept (HK79.out.trans (Kept.refl (fun _ => False) w9).drew)).tabs
            rw [hms] at cMy
            have KF : Hid (∀ W, Kept (fun _ => False) w9 W → W.cell? ⟨pb, 2, none⟩ = some (.slice (some aad) ln lc) ∧ W.cell? ⟨(aad.add (i * 4)).block, (aad.add (i * 4)).off + 3, none⟩ = some (.string s) ∧ W.cell? ⟨xb, 0, none⟩ = some (.slice Ax nx cx) ∧ W.cell? ⟨xb, 1, none⟩ = some (.int .i64 0)) := by
              show ∀ W, _
              intro W hk
              have h9 := tree_facts ((hk.block _ (heap_lt HX9.out) id).trans HX9.out)
              exact ⟨(HU7.out.kept (HK79.out.trans hk)).par.c 2, (H4.out W (HU7.out.kept (HK79.out.trans hk)).kp).2.2.2, h9.1, h9.2.1⟩
            have KA := KF.out w9.drew (Kept.refl _ w9).drew
            clear hms
            go_cut [91] from 64 to 91 (fun v wx => v = .bool false ∧ Kept (fun _ => False) w9 wx)
            case first =>
              go_region_held3 (fun (W : World) => W.cell? ⟨pb, 2, none⟩ = some (.slice (some aad) ln lc) ∧ W.cell? ⟨(aad.add (i * 4)).block, (aad.add (i * 4)).off + 3, none⟩ = some (.string s) ∧ W.cell? ⟨xb, 0, none⟩ = some (.slice Ax nx cx) ∧ W.cell? ⟨xb, 1, none⟩ = some (.int .i64 0))
                (first | with_reducible exact KD | with_reducible exact KC | with_reducible exact KB | with_reducible exact KA)
                (first
                  | (go_at_call 7; refine (unum_any _ _).mono ?_; rintro e w' ⟨rfl, hw⟩; have hw2 := hw.symm; subst hw2)
                  | (go_at_call 13; refine cMy.mono ?_; rintro r w11 ⟨rfl, hk11⟩; have HK11 := Lib.hid ((Kept.refl (fun _ => False) w9).drew.trans hk11); have KB := KF.out w11 HK11.out; have cRt := rroot_any s w11; clear hk11 cMy)
                  | (go_at_call 15; refine cRt.mono ?_; rintro r w12 ⟨⟨vr, rfl, hO⟩, hk12⟩; have HR12 := Lib.hid hO; have HK12 := Lib.hid (HK11.out.trans hk12); have KC := KF.out w12 HK12.out; have cE := eqtree_yes (.slice Ax nx cx) vr [⟨0, -1, 0, s⟩] 0 w12 (HO9.out.kept HK12.out).sn hO.sn (by simp); clear hk12 hO cRt)
                  | (go_at_call 14; refine cE.mono ?_; rintro r w13 ⟨rfl, hk13⟩; have HK13 := Lib.hid (HK12.out.trans hk13); have KD := KF.out w13 HK13.out; clear hk13 cE))
              all_goals
                go_wp2_with fail
                go_meet
                exact ⟨rfl, HK13.out⟩
            case rest =>
              obtain ⟨rfl, hk10⟩ := hcut
              have HK10 := Lib.hid (HK79.out.trans hk10)
              clear hk10 KA KF cMy
              obtain ⟨w10, hw10⟩ : ∃ w10, w10 = wc := ⟨_, rfl⟩
              subst hw10
              have HU10 := Lib.hid (HU7.out.kept HK10.out)
              have HZ10 := Lib.hid (HZ7.out.kept HK10.out)
              have HN10 := Lib.hid (HN7.out.kept HK10.out (fun _ _ => id))
              clear HK10 HU7 HZ7 HN7
              have HXT2 : Hid (tb < w10.heap.size) := heap_lt HZ10.out.bx
              have KF : Hid (∀ W, Kept (fun _ => False) w10 W → W.cell? ⟨tb, 0, none⟩ = some (.slice A m c) ∧ W.cell? ⟨tb, 1, none⟩ = some (.int .i64 cur) ∧ W.cell? ⟨pb, 2, none⟩ = some (.slice (some aad) ln lc) ∧ W.cell? (aad.add (i * 4)) = some (.int .i64 aDo) ∧ W.cell? ⟨(aad.add (i * 4)).block, (aad.add (i * 4)).off + 1, none⟩ = some (.int .i64 aAt) ∧ W.cell? ⟨(aad.add (i * 4)).block, (aad.add (i * 4)).off + 2, none⟩ = some (.int .i64 aMost) ∧ W.cell? ⟨(aad.add (i * 4)).block, (aad.add (i * 4)).off + 3, none⟩ = some (.string s)) := by
                show ∀ W, _
                intro W hk
                have h9 := tree_facts (HZ10.out.kept hk).bx
                exact ⟨h9.1, h9.2.1, (HU10.out.kept hk).par.c 2, H4.out W (HU10.out.kept hk).kp⟩
              have KFS : Hid (∀ (yb : Nat) W, w10.heap.size ≤ yb → Kept (fun q => q = yb) w10 W → W.cell? ⟨tb, 0, none⟩ = some (.slice A m c) ∧ W.cell? ⟨tb, 1, none⟩ = some (.int .i64 cur) ∧ W.cell? ⟨pb, 2, none⟩ = some (.slice (some aad) ln lc) ∧ W.cell? (aad.add (i * 4)) = some (.int .i64 aDo) ∧ W.cell? ⟨(aad.add (i * 4)).block, (aad.add (i * 4)).off + 1, none⟩ = some (.int .i64 aAt) ∧ W.cell? ⟨(aad.add (i * 4)).block, (aad.add (i * 4)).off + 2, none⟩ = some (.int .i64 aMost) ∧ W.cell? ⟨(aad.add (i * 4)).block, (aad.add (i * 4)).off + 3, none⟩ = some (.string s)) := by
                show ∀ (yb : Nat) W, _
                intro yb W hy hk
                obtain ⟨h1, h2, h3, h5, h6, h7, h8⟩ := KF.out w10 (Kept.refl _ w10)
                have k1 := heap_lt HU10.out.par
                have k2 := heap_lt HZ10.out.bx
                have k3 := World.block_lt_of_cell? w10 _ h5
                exact ⟨cell_kept hk h1 (by show ¬ tb = yb; omega), cell_kept hk h2 (by show ¬ tb = yb; omega), cell_kept hk h3 (by show ¬ pb = yb; omega), cell_kept hk h5 (by omega), cell_kept hk h6 (by show ¬ (aad.add (i * 4)).block = yb; omega), cell_kept hk h7 (by show ¬ (aad.add (i * 4)).block = yb; omega), cell_kept hk h8 (by show ¬ (aad.add (i * 4)).block = yb; omega)⟩
              have HDR : Hid (Kept (fun _ => False) w10 w10.drew) := (Kept.refl _ w10).drew
              have HDA : Hid (Kept (fun _ => False) w10 (w10.alloc nilT).drew) := ((Kept.refl _ w10).alloc _).drew
              have HCS : Hid (∀ W, Kept (fun _ => False) w10 W → Calls Tryd.prog 16 #[treeV (.slice A m c) cur, .agg #[.int .i64 aDo, .int .i64 aAt, .int .i64 aMost, .string s]] W (ToldS A m c cur W D)) := by
                show ∀ W, _
                intro W hk
                exact HST.out A m c W (HN10.out.kept hk (fun _ _ => id)) HNC.out (HZ10.out.kept hk).on.alt (HU10.out.kept hk).tabs HANr.out
              have HOP : Hid (∀ W r w', Kept (fun _ => False) w10 W → ToldS A m c cur W D r w' → ∃ (A2 : Option Addr) (n2 c2 : Nat) (cy : Int) (Ly : List NodeS), r = .returned (.tuple #[treeV (.slice A2 n2 c2) cy, .bool true]) ∧ On w' 0 (.slice A2 n2 c2) Ly ∧ OkS Ly ∧ (∀ q, (Value.slice A2 n2 c2).ownBlock = some q → q ≠ tb ∧ (q < w10.heap.size ∨ W.heap.size ≤ q)) ∧ Kept (fun _ => False) W w') := by
                show ∀ W, _
                intro W r w' hk h
                exact told_open h (HZ10.out.kept hk).on HZ10.out.sz HDS.out (fun q hq => ⟨HZ10.out.ne q hq, (HZ10.out.on.own q hq).2⟩) (heap_lt (HZ10.out.kept hk).bx)
              have KA := KF.out w10.drew HDR.out
              have KA2 := KF.out (w10.alloc nilT).drew HDA.out
              go_upto_region 18 with fail
              go_cut [11, 12] from 92 to 101 (fun v11 v12 wx => J18 w w10 tb v11 v12 wx)
              case first =>
                have cS1 := HCS.out _ HDR.out
                have cS2 := HCS.out _ HDA.out
                simp only [nilT, treeO] at cS2 KA2 HDA
                go_region_held3 (fun (W : World) => W.cell? ⟨tb, 0, none⟩ = some (.slice A m c) ∧ W.cell? ⟨tb, 1, none⟩ = some (.int .i64 cur) ∧ W.cell? ⟨pb, 2, none⟩ = some (.slice (some aad) ln lc) ∧ W.cell? (aad.add (i * 4)) = some (.int .i64 aDo) ∧ W.cell? ⟨(aad.add (i * 4)).block, (aad.add (i * 4)).off + 1, none⟩ = some (.int .i64 aAt) ∧ W.cell? ⟨(aad.add (i * 4)).block, (aad.add (i * 4)).off + 2, none⟩ = some (.int .i64 aMost) ∧ W.cell? ⟨(aad.add (i * 4)).block, (aad.add (i * 4)).off + 3, none⟩ = some (.string s))
                  (first | with_reducible exact KE.out _ _ | with_reducible exact KD.out _ | with_reducible exact KB | with_reducible exact KA2 | with_reducible exact KA)
                  (first
                    | (go_at_call 16; refine cS1.mono ?_; rintro r w11 hts; obtain ⟨A2, n2, c2, cy, Ly, rfl, hon, hoks, hne, hk11⟩ := HOP.out _ _ _ HDR.out hts; have HK11 := Lib.hid (HDR.out.trans hk11); have HON := Lib.hid hon; have HOKS := Lib.hid hoks; have HNE := Lib.hid hne; have KB := KF.out w11 HK11.out; have KD := Lib.hid (fun o => KF.out (w11.alloc o) (HK11.out.alloc o)); have KE := Lib.hid (fun v0 v1 => KFS.out w11.heap.size _ HK11.out.size (Kept.tree (g := w11.heap.size) (S := fun q => q = w11.heap.size) ((HK11.out.alloc (.cells #[.slice none 0 0, .int .i64 0] 24)).any (S := fun q => q = w11.heap.size)) rfl v0 v1)); clear hts hon hoks hne hk11 cS1 cS2)
                    | (go_at_call 16; refine cS2.mono ?_; rintro r w11 hts; obtain ⟨A2, n2, c2, cy, Ly, rfl, hon, hoks, hne, hk11⟩ := HOP.out _ _ _ HDA.out hts; have HK11 := Lib.hid (HDA.out.trans hk11); have HON := Lib.hid hon; have HOKS := Lib.hid hoks; have HNE := Lib.hid hne; have KB := KF.out w11 HK11.out; have HYB : Hid (w11.heap[w10.heap.size]? = some nilT) := ((hk11.block _ (by show w10.heap.size < (w10.alloc _).heap.size; simp) id).trans (heap_alloc_new w10 _)); obtain ⟨y0, y1, y2, y3⟩ := tree_facts HYB.out; have KE := Lib.hid (fun v0 v1 => KFS.out w10.heap.size _ (Nat.le_refl _) (Kept.tree (g := w10.heap.size) (S := fun q => q = w10.heap.size) (HK11.out.any (S := fun q => q = w10.heap.size)) rfl v0 v1)); clear hts hon hoks hne hk11 cS1 cS2))
                all_goals
                  go_wp2_with fail
                  go_meet
                  first
                    | (exact ⟨w11.heap.size, A2, n2, c2, cy, Ly, rfl, rfl, heap_alloc_new w11 _, HON.out.kept ((Kept.refl (fun _ => False) w11).alloc _), HOKS.out, (fun q hq => (HNE.out q hq).1), HK11.out.alloc _⟩)
                    | (exact ⟨w10.heap.size, A2, n2, c2, cy, Ly, rfl, rfl, tree_set HYB.out _ _, HON.out.keptO (Kept.tree (g := w10.heap.size) (S := fun q => q = w10.heap.size) (Kept.refl (fun q => q = w10.heap.size) w11) rfl _ _) (fun q hq h => by
                        rcases (HNE.out q hq).2 with h3 | h3
                        · omega
                        · have h4 : (w10.alloc (.cells #[.slice none 0 0, .int .i64 0] 24)).heap.size ≤ q := h3
                          simp at h4
                          omega), HOKS.out, (fun q hq => (HNE.out q hq).1), HK11.out.fresh (Kept.tree (g := w10.heap.size) (S := fun q => q = w10.heap.size) (Kept.refl (fun q => q = w10.heap.size) w11) rfl _ _) (fun q h1 h2 => by omega)⟩)
              case rest =>
                obtain ⟨yb, A2, n2, c2, cy, Ly, rfl, rfl, hyb, hon, hoks, hne, hk⟩ := hcut
                obtain ⟨w11, hw11⟩ : ∃ w11, w11 = wc := ⟨_, rfl⟩
                subst hw11
                have HU11 := Lib.hid (HU10.out.kept hk)
                have HZ11 := Lib.hid (HZ10.out.kept hk)
                have HON := Lib.hid hon
                have HOKS := Lib.hid hoks
                have HNE := Lib.hid hne
                obtain ⟨y0, y1, _⟩ := tree_facts hyb
                obtain ⟨t0, t1, t2, t3⟩ := tree_facts HZ11.out.bx
                clear hk hon hoks hne KA KA2 KF KFS HDR HDA HCS HOP hyb
                go_wp2_with fail
                have hks : Kept (fun q => q = tb) w11 ((w11.setCell ⟨tb, 0, none⟩ (.slice A2 n2 c2)).setCell ⟨tb, 1, none⟩ (.int .i64 cy)) := Kept.tree (g := tb) (S := fun q => q = tb) (Kept.refl (fun q => q = tb) w11) rfl _ _
                go_roundw
                case rel => exact ⟨i + 1, Ly, cy, _, by omega, by omega, by go_num, ⟨tree_set HZ11.out.bx _ _, HON.out.keptO hks (fun q hq h => HNE.out q hq h), HNE.out, HOKS.out⟩, uw_mk7 HPW.out HTT.out (HU11.out.kp.fresh hks (fun q h1 h2 => by have := HPX.out; omega)) (HU11.out.par.kept hks (by have := HPT.out; show ¬ pb = tb; omega))⟩
                case measure => simp [intOf]; omega
        | true =>
          obtain ⟨rfl, cR⟩ := HY.out (by simp)
          have HCR := Lib.hid cR
          clear cR
          go_upto_region 11 with (go_at_call 10; refine cH.mono ?_; rintro e w5 ⟨rfl, hk5⟩; have HU5 := Lib.hid (HU.out.kept hk5); have HZ5 := Lib.hid (HZ.out.kept hk5); have HN5 := Lib.hid (HNG.out.kept hk5 (fun _ _ => id)); clear hk5 cH t0 t1 p2; obtain ⟨t0, t1, _⟩ := tree_facts HZ5.out.bx; have cT := HCT.out w5 HN5.out HU5.out.tabs)
          go_upto_region 15 with (first
            | (go_at_call 7; refine (unum_any _ _).mono ?_; rintro e w' ⟨rfl, hw⟩; have hw2 := hw.symm; subst hw2)
            | (go_at_call 9; refine cT.mono ?_; rintro e w6 ⟨rfl, hk6⟩; have HU6 := Lib.hid (HU5.out.kept hk6); have HZ6 := Lib.hid (HZ5.out.kept hk6); have HN6 := Lib.hid (HN5.out.kept hk6 (fun _ _ => id)); clear hk6 cT t0 t1; obtain ⟨t0, t1, _⟩ := tree_facts HZ6.out.bx; have cR := HCR.out w6 HN6.out HU6.out.tabs)
            | (go_at_call 11; refine cR.mono ?_; rintro e w7 ⟨rfl, hk7⟩; have HU7 := Lib.hid (HU6.out.kept hk7); have HZ7 := Lib.hid (HZ6.out.kept hk7); have HN7 := Lib.hid (HN6.out.kept hk7 (fun _ _ => id)); clear hk7 cR t0 t1))
          have p2 : w7.cell? ⟨pb, 2, none⟩ = some (.slice (some aad) ln lc) := HU7.out.par.c 2
          have f3 := (H4.out w7 HU7.out.kp).2.2.2
          clear b1 b2 b3 b4
          cases hms : mayB s with
          | false =>
            have cN := new_no s w7 HU7.out.tabs hsz hms
            go_upto_region 16 with (go_at_call 12; refine cN.mono ?_; rintro e w8 ⟨rfl, hk8⟩; have HK8 := Lib.hid hk8; clear hk8 cN p2 f3)
            have HK79 : Hid (Kept (fun _ => False) w7 (w8.alloc (treeO (.slice none 0 0) 0))) := HK8.out.alloc _
            simp only [treeO] at HK79
            generalize w8.alloc _ = w9 at *
            have cMy := rmay_any s w9.drew hsz (HU7.out.kept (HK79.out.trans (Kept.refl (fun _ => False) w9).drew)).tabs
            rw [hms] at cMy
            have KF : Hid (∀ W, Kept (fun _ => False) w9 W → W.cell? ⟨pb, 2, none⟩ = some (.slice (some aad) ln lc) ∧ W.cell? ⟨(aad.add (i * 4)).block, (aad.add (i * 4)).off + 3, none⟩ = some (.string s)) := fun W hk => ⟨(HU7.out.kept (HK79.out.trans hk)).par.c 2, (H4.out W (HU7.out.kept (HK79.out.trans hk)).kp).2.2.2⟩
            have KA := KF.out w9.drew (Kept.refl _ w9).drew
            clear hms
            go_cut [91] from 64 to 91 (fun v wx => v = .bool false ∧ Kept (fun _ => False) w9 wx)
            case first =>
              refine wp_region_noPanic ?_
              refine wp_region_held_drew (S := (fun (W : World) => W.cell? ⟨pb, 2, none⟩ = some (.slice (some aad) ln lc) ∧ W.cell? ⟨(aad.add (i * 4)).block, (aad.add (i * 4)).off + 3, none⟩ = some (.string s))) (by kernel_rfl) KA (fun hHeld => ?_)
              refine wpAnyH_take (i := 0) (oi := _) (v := .pointer (some ⟨pb, 2, none⟩)) rfl (by kernel_rfl) (by kernel_rfl) (by kernel_rfl) (fun _ _ _ h => h) (Or.inl ⟨by rfl, fun w hSw => by go_simp⟩) (by assumption) ?_
              try simp only [List.getElem_toArray, List.getElem_cons_succ, List.getElem_cons_zero, Act.put, List.setIfInBounds_toArray, List.set_cons_zero, List.set_cons_succ]
              refine wpAnyH_take (i := 1) (oi := _) (v := .slice (some aad) ln lc) rfl (by kernel_rfl) (by kernel_rfl) (by kernel_rfl) (fun _ _ _ h => h) (Or.inl ⟨by rfl, fun w hSw => by go_simp⟩) (by assumption) ?_
              try simp only [List.getElem_toArray, List.getElem_cons_succ, List.getElem_cons_zero, Act.put, List.setIfInBounds_toArray, List.set_cons_zero, List.set_cons_succ]
              refine wpAnyH_take (i := 2) (oi := _) (v := .int .i64 i) rfl (by kernel_rfl) (by kernel_rfl) (by kernel_rfl) (fun _ _ _ h => h) (Or.inl ⟨by rfl, fun w hSw => by go_simp⟩) (by assumption) ?_
              try simp only [List.getElem_toArray, List.getElem_cons_succ, List.getElem_cons_zero, Act.put, List.setIfInBounds_toArray, List.set_cons_zero, List.set_cons_succ]
              refine wpAnyH_take (i := 3) (oi := _) (v := .pointer (some (aad.add (i * 4)))) rfl (by kernel_rfl) (by kernel_rfl) (by kernel_rfl) (fun _ _ _ h => h) (Or.inl ⟨by rfl, fun w hSw => by go_simp⟩) (by assumption) ?_
              try simp only [List.getElem_toArray, List.getElem_cons_succ, List.getElem_cons_zero, Act.put, List.setIfInBounds_toArray, List.set_cons_zero, List.set_cons_succ]
              refine wpAnyH_take (i := 4) (oi := _) (v := .pointer (some ⟨(aad.add (i * 4)).block, (aad.add (i * 4)).off + 3, none⟩)) rfl (by kernel_rfl) (by kernel_rfl) (by kernel_rfl) (fun _ _ _ h => h) (Or.inl ⟨by rfl, fun w hSw => by go_simp⟩) (by assumption) ?_
              try simp only [List.getElem_toArray, List.getElem_cons_succ, List.getElem_cons_zero, Act.put, List.setIfInBounds_toArray, List.set_cons_zero, List.set_cons_succ]
              refine wpAnyH_take (i := 5) (oi := _) (v := .string s) rfl (by kernel_rfl) (by kernel_rfl) (by kernel_rfl) (fun _ _ _ h => h) (Or.inl ⟨by rfl, fun w hSw => by go_simp⟩) (by assumption) ?_
              try simp only [List.getElem_toArray, List.getElem_cons_succ, List.getElem_cons_zero, Act.put, List.setIfInBounds_toArray, List.set_cons_zero, List.set_cons_succ]
              refine wpAnyH_take (i := 7) (oi := _) (v := .int .i64 1) rfl (by kernel_rfl) (by kernel_rfl) (by kernel_rfl) (fun _ _ _ h => h) (Or.inl ⟨by rfl, fun w hSw => by go_simp⟩) (by assumption) ?_
              try simp only [List.getElem_toArray, List.getElem_cons_succ, List.getElem_cons_zero, Act.put, List.setIfInBounds_toArray, List.set_cons_zero, List.set_cons_succ]
              refine wpAnyH_ready (rs := [6]) (by kernel_rfl) (by simp) ?_
              refine AllReadyH.cons rfl (fun K hK => ?_) AllReadyH.nil
              go_simp
              refine cMy.mono ?_
              rintro r w11 ⟨rfl, hk11⟩
              have HK11 := Lib.hid ((Kept.refl (fun _ => False) w9).drew.trans hk11)
              have KB := KF.out w11 HK11.out
              refine hK.out _ _ KB (fun hHeld2 => ?_)
              clear hK K hk11
              refine wpAnyH_ready (rs := [8]) (by kernel_rfl) (by simp) ?_
              refine AllReadyH.cons rfl (fun K hK => ?_) AllReadyH.nil
              go_simp
              refine (unum_any _ _).mono ?_
              rintro e w' ⟨rfl, hw⟩
              have hw2 := hw.symm
              subst hw2
              refine hK.out _ _ KB (fun hHeld3 => ?_)
              clear hK K
              refine wpAnyH_take (i := 9) (oi := _) (v := .bool false) rfl (by kernel_rfl) (by kernel_rfl) (by kernel_rfl) (fun _ _ _ h => h) (Or.inl ⟨by rfl, fun w hSw => by go_simp⟩) (by assumption) ?_
              try simp only [List.getElem_toArray, List.getElem_cons_succ, List.getElem_cons_zero, Act.put, List.setIfInBounds_toArray, List.set_cons_zero, List.set_cons_succ]
              refine wpAnyH_take (i := 10) (oi := _) (v := .bool false) rfl (by kernel_rfl) (by kernel_rfl) (by kernel_rfl) (fun _ _ _ h => h) (Or.inl ⟨by rfl, fun w hSw => by go_simp⟩) (by assumption) ?_
              try simp only [List.getElem_toArray, List.getElem_cons_succ, List.getElem_cons_zero, Act.put, List.setIfInBounds_toArray, List.set_cons_zero, List.set_cons_succ]
              refine wpAnyH_take (i := 11) (oi := _) (v := .bool false) rfl (by kernel_rfl) (by kernel_rfl) (by kernel_rfl) (fun _ _ _ h => h) (Or.inl ⟨by rfl, fun w hSw => by go_simp⟩) (by assumption) ?_
              try simp only [List.getElem_toArray, List.getElem_cons_succ, List.getElem_cons_zero, Act.put, List.setIfInBounds_toArray, List.set_cons_zero, List.set_cons_succ]
              refine wpAnyH_take (i := 12) (oi := _) (v := .int .i64 1) rfl (by kernel_rfl) (by kernel_rfl) (by kernel_rfl) (fun _ _ _ h => h) (Or.inl ⟨by rfl, fun w hSw => by go_simp⟩) (by assumption) ?_
              try simp only [List.getElem_toArray, List.getElem_cons_succ, List.getElem_cons_zero, Act.put, List.setIfInBounds_toArray, List.set_cons_zero, List.set_cons_succ]
              refine wpAnyH_ready (rs := [13]) (by kernel_rfl) (by simp) ?_
              refine AllReadyH.cons rfl (fun K hK => ?_) AllReadyH.nil
              go_simp
              refine (unum_any _ _).mono ?_
              rintro e w' ⟨rfl, hw⟩
              have hw2 := hw.symm
              subst hw2
              refine hK.out _ _ KB (fun hHeld4 => ?_)
              clear hK K
              refine wpAnyH_take (i := 14) (oi := _) (v := .bool false) rfl (by kernel_rfl) (by kernel_rfl) (by kernel_rfl) (fun _ _ _ h => h) (Or.inl ⟨by rfl, fun w hSw => by go_simp⟩) (by assumption) ?_
              try simp only [List.getElem_toArray, List.getElem_cons_succ, List.getElem_cons_zero, Act.put, List.setIfInBounds_toArray, List.set_cons_zero, List.set_cons_succ]
              refine wpAnyH_take (i := 15) (oi := _) (v := .bool false) rfl (by kernel_rfl) (by kernel_rfl) (by kernel_rfl) (fun _ _ _ h => h) (Or.inl ⟨by rfl, fun w hSw => by go_simp⟩) (by assumption) ?_
              try simp only [List.getElem_toArray, List.getElem_cons_succ, List.getElem_cons_zero, Act.put, List.setIfInBounds_toArray, List.set_cons_zero, List.set_cons_succ]
              refine wpAnyH_take (i := 16) (oi := _) (v := undef) rfl (by kernel_rfl) (by kernel_rfl) (by kernel_rfl) (fun _ _ _ h => h) (Or.inr ⟨by kernel_rfl, rfl⟩) (by assumption) ?_
              try simp only [List.getElem_toArray, List.getElem_cons_succ, List.getElem_cons_zero, Act.put, List.setIfInBounds_toArray, List.set_cons_zero, List.set_cons_succ]
              refine wpAnyH_take (i := 17) (oi := _) (v := undef) rfl (by kernel_rfl) (by kernel_rfl) (by kernel_rfl) (fun _ _ _ h => h) (Or.inr ⟨by kernel_rfl, rfl⟩) (by assumption) ?_
              try simp only [List.getElem_toArray, List.getElem_cons_succ, List.getElem_cons_zero, Act.put, List.setIfInBounds_toArray, List.set_cons_zero, List.set_cons_succ]
              refine wpAnyH_take (i := 18) (oi := _) (v := undef) rfl (by kernel_rfl) (by kernel_rfl) (by kernel_rfl) (fun _ _ _ h => h) (Or.inr ⟨by kernel_rfl, rfl⟩) (by assumption) ?_
              try simp only [List.getElem_toArray, List.getElem_cons_succ, List.getElem_cons_zero, Act.put, List.setIfInBounds_toArray, List.set_cons_zero, List.set_cons_succ]
              refine wpAnyH_take (i := 19) (oi := _) (v := undef) rfl (by kernel_rfl) (by kernel_rfl) (by kernel_rfl) (fun _ _ _ h => h) (Or.inr ⟨by kernel_rfl, rfl⟩) (by assumption) ?_
              try simp only [List.getElem_toArray, List.getElem_cons_succ, List.getElem_cons_zero, Act.put, List.setIfInBounds_toArray, List.set_cons_zero, List.set_cons_succ]
              refine wpAnyH_take (i := 20) (oi := _) (v := undef) rfl (by kernel_rfl) (by kernel_rfl) (by kernel_rfl) (fun _ _ _ h => h) (Or.inr ⟨by kernel_rfl, rfl⟩) (by assumption) ?_
              try simp only [List.getElem_toArray, List.getElem_cons_succ, List.getElem_cons_zero, Act.put, List.setIfInBounds_toArray, List.set_cons_zero, List.set_cons_succ]
              refine wpAnyH_take (i := 21) (oi := _) (v := undef) rfl (by kernel_rfl) (by kernel_rfl) (by kernel_rfl) (fun _ _ _ h => h) (Or.inr ⟨by kernel_rfl, rfl⟩) (by assumption) ?_
              try simp only [List.getElem_toArray, List.getElem_cons_succ, List.getElem_cons_zero, Act.put, List.setIfInBounds_toArray, List.set_cons_zero, List.set_cons_succ]
              refine wpAnyH_take (i := 22) (oi := _) (v := undef) rfl (by kernel_rfl) (by kernel_rfl) (by kernel_rfl) (fun _ _ _ h => h) (Or.inr ⟨by kernel_rfl, rfl⟩) (by assumption) ?_
              try simp only [List.getElem_toArray, List.getElem_cons_succ, List.getElem_cons_zero, Act.put, List.setIfInBounds_toArray, List.set_cons_zero, List.set_cons_succ]
              refine wpAnyH_take (i := 23) (oi := _) (v := undef) rfl (by kernel_rfl) (by kernel_rfl) (by kernel_rfl) (fun _ _ _ h => h) (Or.inr ⟨by kernel_rfl, rfl⟩) (by assumption) ?_
              try simp only [List.getElem_toArray, List.getElem_cons_succ, List.getElem_cons_zero, Act.put, List.setIfInBounds_toArray, List.set_cons_zero, List.set_cons_succ]
              refine wpAnyH_take (i := 24) (oi := _) (v := undef) rfl (by kernel_rfl) (by kernel_rfl) (by kernel_rfl) (fun _ _ _ h => h) (Or.inr ⟨by kernel_rfl, rfl⟩) (by assumption) ?_
              try simp only [List.getElem_toArray, List.getElem_cons_succ, List.getElem_cons_zero, Act.put, List.setIfInBounds_toArray, List.set_cons_zero, List.set_cons_succ]
              refine wpAnyH_take (i := 25) (oi := _) (v := undef) rfl (by kernel_rfl) (by kernel_rfl) (by kernel_rfl) (fun _ _ _ h => h) (Or.inr ⟨by kernel_rfl, rfl⟩) (by assumption) ?_
              try simp only [List.getElem_toArray, List.getElem_cons_succ, List.getElem_cons_zero, Act.put, List.setIfInBounds_toArray, List.set_cons_zero, List.set_cons_succ]
              refine wpAnyH_take (i := 26) (oi := _) (v := .bool false) rfl (by kernel_rfl) (by kernel_rfl) (by kernel_rfl) (fun _ _ _ h => h) (Or.inl ⟨by rfl, fun w hSw => by go_simp⟩) (by assumption) ?_
              try simp only [List.getElem_toArray, List.getElem_cons_succ, List.getElem_cons_zero, Act.put, List.setIfInBounds_toArray, List.set_cons_zero, List.set_cons_succ]
              refine wpAnyH_take (i := 27) (oi := _) (v := .bool false) rfl (by kernel_rfl) (by kernel_rfl) (by kernel_rfl) (fun _ _ _ h => h) (Or.inl ⟨by rfl, fun w hSw => by go_simp⟩) (by assumption) ?_
              try simp only [List.getElem_toArray, List.getElem_cons_succ, List.getElem_cons_zero, Act.put, List.setIfInBounds_toArray, List.set_cons_zero, List.set_cons_succ]
              refine wpAnyH_done (by kernel_rfl) ?_ _
              refine NoPanic.normal ?_
              try simp only [List.getElem_toArray, List.getElem_cons_succ, List.getElem_cons_zero, Act.put, List.setIfInBounds_toArray, List.set_cons_zero, List.set_cons_succ]
              go_wp2_with fail
              go_meet
              exact ⟨rfl, HK11.out⟩
            case rest =>
              obtain ⟨rfl, hk10⟩ := hcut
              have HK10 := Lib.hid (HK79.out.trans hk10)
              clear hk10 KA KF cMy
              obtain ⟨w10, hw10⟩ : ∃ w10, w10 = wc := ⟨_, rfl⟩
              subst hw10
              have HU10 := Lib.hid (HU7.out.kept HK10.out)
              have HZ10 := Lib.hid (HZ7.out.kept HK10.out)
              have HN10 := Lib.hid (HN7.out.kept HK10.out (fun _ _ => id))
              clear HK10 HU7 HZ7 HN7
              have HXT2 : Hid (tb < w10.heap.size) := heap_lt HZ10.out.bx
              have KF : Hid (∀ W, Kept (fun _ => False) w10 W → W.cell? ⟨tb, 0, none⟩ = some (.slice A m c) ∧ W.cell? ⟨tb, 1, none⟩ = some (.int .i64 cur) ∧ W.cell? ⟨pb, 2, none⟩ = some (.slice (some aad) ln lc) ∧ W.cell? (aad.add (i * 4)) = some (.int .i64 aDo) ∧ W.cell? ⟨(aad.add (i * 4)).block, (aad.add (i * 4)).off + 1, none⟩ = some (.int .i64 aAt) ∧ W.cell? ⟨(aad.add (i * 4)).block, (aad.add (i * 4)).off + 2, none⟩ = some (.int .i64 aMost) ∧ W.cell? ⟨(aad.add (i * 4)).block, (aad.add (i * 4)).off + 3, none⟩ = some (.string s)) := by
                show ∀ W, _
                intro W hk
                have h9 := tree_facts (HZ10.out.kept hk).bx
                exact ⟨h9.1, h9.2.1, (HU10.out.kept hk).par.c 2, H4.out W (HU10.out.kept hk).kp⟩
              have KFS : Hid (∀ (yb : Nat) W, w10.heap.size ≤ yb → Kept (fun q => q = yb) w10 W → W.cell? ⟨tb, 0, none⟩ = some (.slice A m c) ∧ W.cell? ⟨tb, 1, none⟩ = some (.int .i64 cur) ∧ W.cell? ⟨pb, 2, none⟩ = some (.slice (some aad) ln lc) ∧ W.cell? (aad.add (i * 4)) = some (.int .i64 aDo) ∧ W.cell? ⟨(aad.add (i * 4)).block, (aad.add (i * 4)).off + 1, none⟩ = some (.int .i64 aAt) ∧ W.cell? ⟨(aad.add (i * 4)).block, (aad.add (i * 4)).off + 2, none⟩ = some (.int .i64 aMost) ∧ W.cell? ⟨(aad.add (i * 4)).block, (aad.add (i * 4)).off + 3, none⟩ = some (.string s)) := by
                show ∀ (yb : Nat) W, _
                intro yb W hy hk
                obtain ⟨h1, h2, h3, h5, h6, h7, h8⟩ := KF.out w10 (Kept.refl _ w10)
                have k1 := heap_lt HU10.out.par
                have k2 := heap_lt HZ10.out.bx
                have k3 := World.block_lt_of_cell? w10 _ h5
                exact ⟨cell_kept hk h1 (by show ¬ tb = yb; omega), cell_kept hk h2 (by show ¬ tb = yb; omega), cell_kept hk h3 (by show ¬ pb = yb; omega), cell_kept hk h5 (by omega), cell_kept hk h6 (by show ¬ (aad.add (i * 4)).block = yb; omega), cell_kept hk h7 (by show ¬ (aad.add (i * 4)).block = yb; omega), cell_kept hk h8 (by show ¬ (aad.add (i * 4)).block = yb; omega)⟩
              have HDR : Hid (Kept (fun _ => False) w10 w10.drew) := (Kept.refl _ w10).drew
              have HDA : Hid (Kept (fun _ => False) w10 (w10.alloc nilT).drew) := ((Kept.refl _ w10).alloc _).drew
              have HCS : Hid (∀ W, Kept (fun _ => False) w10 W → Calls Tryd.prog 16 #[treeV (.slice A m c) cur, .agg #[.int .i64 aDo, .int .i64 aAt, .int .i64 aMost, .string s]] W (ToldS A m c cur W D)) := by
                show ∀ W, _
                intro W hk
                exact HST.out A m c W (HN10.out.kept hk (fun _ _ => id)) HNC.out (HZ10.out.kept hk).on.alt (HU10.out.kept hk).tabs HANr.out
              have HOP : Hid (∀ W r w', Kept (fun _ => False) w10 W → ToldS A m c cur W D r w' → ∃ (A2 : Option Addr) (n2 c2 : Nat) (cy : Int) (Ly : List NodeS), r = .returned (.tuple #[treeV (.slice A2 n2 c2) cy, .bool true]) ∧ On w' 0 (.slice A2 n2 c2) Ly ∧ OkS Ly ∧ (∀ q, (Value.slice A2 n2 c2).ownBlock = some q → q ≠ tb ∧ (q < w10.heap.size ∨ W.heap.size ≤ q)) ∧ Kept (fun _ => False) W w') := by
                show ∀ W, _
                intro W r w' hk h
                exact told_open h (HZ10.out.kept hk).on HZ10.out.sz HDS.out (fun q hq => ⟨HZ10.out.ne q hq, (HZ10.out.on.own q hq).2⟩) (heap_lt (HZ10.out.kept hk).bx)
              have KA := KF.out w10.drew HDR.out
              have KA2 := KF.out (w10.alloc nilT).drew HDA.out
              go_upto_region 18 with fail
              go_cut [11, 12] from 92 to 101 (fun v11 v12 wx => J18 w w10 tb v11 v12 wx)
              case first =>
                have cS1 := HCS.out _ HDR.out
                have cS2 := HCS.out _ HDA.out
                simp only [nilT, treeO] at cS2 KA2 HDA
                go_region_held3 (fun (W : World) => W.cell? ⟨tb, 0, none⟩ = some (.slice A m c) ∧ W.cell? ⟨tb, 1, none⟩ = some (.int .i64 cur) ∧ W.cell? ⟨pb, 2, none⟩ = some (.slice (some aad) ln lc) ∧ W.cell? (aad.add (i * 4)) = some (.int .i64 aDo) ∧ W.cell? ⟨(aad.add (i * 4)).block, (aad.add (i * 4)).off + 1, none⟩ = some (.int .i64 aAt) ∧ W.cell? ⟨(aad.add (i * 4)).block, (aad.add (i * 4)).off + 2, none⟩ = some (.int .i64 aMost) ∧ W.cell? ⟨(aad.add (i * 4)).block, (aad.add (i * 4)).off + 3, none⟩ = some (.string s))
                  (first | with_reducible exact KE.out _ _ | with_reducible exact KD.out _ | with_reducible exact KB | with_reducible exact KA2 | with_reducible exact KA)
                  (first
                    | (go_at_call 16; refine cS1.mono ?_; rintro r w11 hts; obtain ⟨A2, n2, c2, cy, Ly, rfl, hon, hoks, hne, hk11⟩ := HOP.out _ _ _ HDR.out hts; have HK11 := Lib.hid (HDR.out.trans hk11); have HON := Lib.hid hon; have HOKS := Lib.hid hoks; have HNE := Lib.hid hne; have KB := KF.out w11 HK11.out; have KD := Lib.hid (fun o => KF.out (w11.alloc o) (HK11.out.alloc o)); have KE := Lib.hid (fun v0 v1 => KFS.out w11.heap.size _ HK11.out.size (Kept.tree (g := w11.heap.size) (S := fun q => q = w11.heap.size) ((HK11.out.alloc (.cells #[.slice none 0 0, .int .i64 0] 24)).any (S := fun q => q = w11.heap.size)) rfl v0 v1)); clear hts hon hoks hne hk11 cS1 cS2)
                    | (go_at_call 16; refine cS2.mono ?_; rintro r w11 hts; obtain ⟨A2, n2, c2, cy, Ly, rfl, hon, hoks, hne, hk11⟩ := HOP.out _ _ _ HDA.out hts; have HK11 := Lib.hid (HDA.out.trans hk11); have HON := Lib.hid hon; have HOKS := Lib.hid hoks; have HNE := Lib.hid hne; have KB := KF.out w11 HK11.out; have HYB : Hid (w11.heap[w10.heap.size]? = some nilT) := ((hk11.block _ (by show w10.heap.size < (w10.alloc _).heap.size; simp) id).trans (heap_alloc_new w10 _)); obtain ⟨y0, y1, y2, y3⟩ := tree_facts HYB.out; have KE := Lib.hid (fun v0 v1 => KFS.out w10.heap.size _ (Nat.le_refl _) (Kept.tree (g := w10.heap.size) (S := fun q => q = w10.heap.size) (HK11.out.any (S := fun q => q = w10.heap.size)) rfl v0 v1)); clear hts hon hoks hne hk11 cS1 cS2))
                all_goals
                  go_wp2_with fail
                  go_meet
                  first
                    | (exact ⟨w11.heap.size, A2, n2, c2, cy, Ly, rfl, rfl, heap_alloc_new w11 _, HON.out.kept ((Kept.refl (fun _ => False) w11).alloc _), HOKS.out, (fun q hq => (HNE.out q hq).1), HK11.out.alloc _⟩)
                    | (exact ⟨w10.heap.size, A2, n2, c2, cy, Ly, rfl, rfl, tree_set HYB.out _ _, HON.out.keptO (Kept.tree (g := w10.heap.size) (S := fun q => q = w10.heap.size) (Kept.refl (fun q => q = w10.heap.size) w11) rfl _ _) (fun q hq h => by
                        rcases (HNE.out q hq).2 with h3 | h3
                        · omega
                        · have h4 : (w10.alloc (.cells #[.slice none 0 0, .int .i64 0] 24)).heap.size ≤ q := h3
                          simp at h4
                          omega), HOKS.out, (fun q hq => (HNE.out q hq).1), HK11.out.fresh (Kept.tree (g := w10.heap.size) (S := fun q => q = w10.heap.size) (Kept.refl (fun q => q = w10.heap.size) w11) rfl _ _) (fun q h1 h2 => by omega)⟩)
              case rest =>
                obtain ⟨yb, A2, n2, c2, cy, Ly, rfl, rfl, hyb, hon, hoks, hne, hk⟩ := hcut
                obtain ⟨w11, hw11⟩ : ∃ w11, w11 = wc := ⟨_, rfl⟩
                subst hw11
                have HU11 := Lib.hid (HU10.out.kept hk)
                have HZ11 := Lib.hid (HZ10.out.kept hk)
                have HON := Lib.hid hon
                have HOKS := Lib.hid hoks
                have HNE := Lib.hid hne
                obtain ⟨y0, y1, _⟩ := tree_facts hyb
                obtain ⟨t0, t1, t2, t3⟩ := tree_facts HZ11.out.bx
                clear hk hon hoks hne KA KA2 KF KFS HDR HDA HCS HOP hyb
                go_wp2_with fail
                have hks : Kept (fun q => q = tb) w11 ((w11.setCell ⟨tb, 0, none⟩ (.slice A2 n2 c2)).setCell ⟨tb, 1, none⟩ (.int .i64 cy)) := Kept.tree (g := tb) (S := fun q => q = tb) (Kept.refl (fun q => q = tb) w11) rfl _ _
                go_roundw
                case rel => exact ⟨i + 1, Ly, cy, _, by omega, by omega, by go_num, ⟨tree_set HZ11.out.bx _ _, HON.out.keptO hks (fun q hq h => HNE.out q hq h), HNE.out, HOKS.out⟩, uw_mk7 HPW.out HTT.out (HU11.out.kp.fresh hks (fun q h1 h2 => by have := HPX.out; omega)) (HU11.out.par.kept hks (by have := HPT.out; show ¬ pb = tb; omega))⟩
                case measure => simp [intOf]; omega
          | true =>
            have cN := new_any s w7 HU7.out.tabs hms
            go_upto_region 16 with (go_at_call 12; refine cN.mono ?_; rintro e w8 ⟨⟨vx, rfl, hO⟩, hk8⟩; obtain ⟨Ax, nx, cx, rfl, _⟩ := hO.sn; have HO8 := Lib.hid hO; have HK8 := Lib.hid hk8; clear hk8 hO cN p2 f3)
            have HK79 : Hid (Kept (fun _ => False) w7 (w8.alloc (treeO (.slice Ax nx cx) 0))) := HK8.out.alloc _
            have HX9 : Hid ((w8.alloc (treeO (.slice Ax nx cx) 0)).heap[w8.heap.size]? = some (treeO (.slice Ax nx cx) 0)) := heap_alloc_new w8 _
            have HO9 := Lib.hid (HO8.out.kept ((Kept.refl (fun _ => False) w8).alloc (treeO (.slice Ax nx cx) 0)))
            simp only [treeO] at HK79 HX9 HO9
            generalize w8.alloc _ = w9 at *
            generalize w8.heap.size = xb at *
            have cMy := rmay_any s w9.drew hsz (HU7.out.kept (HK79.out.trans (Kept.refl (fun _ => False) w9).drew)).tabs
            rw [hms] at cMy
            have KF : Hid (∀ W, Kept (fun _ => False) w9 W → W.cell? ⟨pb, 2, none⟩ = some (.slice (some aad) ln lc) ∧ W.cell? ⟨(aad.add (i * 4)).block, (aad.add (i * 4)).off + 3, none⟩ = some (.string s) ∧ W.cell? ⟨xb, 0, none⟩ = some (.slice Ax nx cx) ∧ W.cell? ⟨xb, 1, none⟩ = some (.int .i64 0)) := by
              show ∀ W, _
              intro W hk
              have h9 := tree_facts ((hk.block _ (heap_lt HX9.out) id).trans HX9.out)
              exact ⟨(HU7.out.kept (HK79.out.trans hk)).par.c 2, (H4.out W (HU7.out.kept (HK79.out.trans hk)).kp).2.2.2, h9.1, h9.2.1⟩
            have KA := KF.out w9.drew (Kept.refl _ w9).drew
            clear hms
            go_cut [91] from 64 to 91 (fun v wx => v = .bool false ∧ Kept (fun _ => False) w9 wx)
            case first =>
              go_region_held3 (fun (W : World) => W.cell? ⟨pb, 2, none⟩ = some (.slice (some aad) ln lc) ∧ W.cell? ⟨(aad.add (i * 4)).block, (aad.add (i * 4)).off + 3, none⟩ = some (.string s) ∧ W.cell? ⟨xb, 0, none⟩ = some (.slice Ax nx cx) ∧ W.cell? ⟨xb, 1, none⟩ = some (.int .i64 0))
                (first | with_reducible exact KD | with_reducible exact KC | with_reducible exact KB | with_reducible exact KA)
                (first
                  | (go_at_call 7; refine (unum_any _ _).mono ?_; rintro e w' ⟨rfl, hw⟩; have hw2 := hw.symm; subst hw2)
                  | (go_at_call 13; refine cMy.mono ?_; rintro r w11 ⟨rfl, hk11⟩; have HK11 := Lib.hid ((Kept.refl (fun _ => False) w9).drew.trans hk11); have KB := KF.out w11 HK11.out; have cRt := rroot_any s w11; clear hk11 cMy)
                  | (go_at_call 15; refine cRt.mono ?_; rintro r w12 ⟨⟨vr, rfl, hO⟩, hk12⟩; have HR12 := Lib.hid hO; have HK12 := Lib.hid (HK11.out.trans hk12); have KC := KF.out w12 HK12.out; have cE := eqtree_yes (.slice Ax nx cx) vr [⟨0, -1, 0, s⟩] 0 w12 (HO9.out.kept HK12.out).sn hO.sn (by simp); clear hk12 hO cRt)
                  | (go_at_call 14; refine cE.mono ?_; rintro r w13 ⟨rfl, hk13⟩; have HK13 := Lib.hid (HK12.out.trans hk13); have KD := KF.out w13 HK13.out; clear hk13 cE))
              all_goals
                go_wp2_with fail
                go_meet
                exact ⟨rfl, HK13.out⟩
            case rest =>
              obtain ⟨rfl, hk10⟩ := hcut
              have HK10 := Lib.hid (HK79.out.trans hk10)
              clear hk10 KA KF cMy
              obtain ⟨w10, hw10⟩ : ∃ w10, w10 = wc := ⟨_, rfl⟩
              subst hw10
              have HU10 := Lib.hid (HU7.out.kept HK10.out)
              have HZ10 := Lib.hid (HZ7.out.kept HK10.out)
              have HN10 := Lib.hid (HN7.out.kept HK10.out (fun _ _ => id))
              clear HK10 HU7 HZ7 HN7
              have HXT2 : Hid (tb < w10.heap.size) := heap_lt HZ10.out.bx
              have KF : Hid (∀ W, Kept (fun _ => False) w10 W → W.cell? ⟨tb, 0, none⟩ = some (.slice A m c) ∧ W.cell? ⟨tb, 1, none⟩ = some (.int .i64 cur) ∧ W.cell? ⟨pb, 2, none⟩ = some (.slice (some aad) ln lc) ∧ W.cell? (aad.add (i * 4)) = some (.int .i64 aDo) ∧ W.cell? ⟨(aad.add (i * 4)).block, (aad.add (i * 4)).off + 1, none⟩ = some (.int .i64 aAt) ∧ W.cell? ⟨(aad.add (i * 4)).block, (aad.add (i * 4)).off + 2, none⟩ = some (.int .i64 aMost) ∧ W.cell? ⟨(aad.add (i * 4)).block, (aad.add (i * 4)).off + 3, none⟩ = some (.string s)) := by
                show ∀ W, _
                intro W hk
                have h9 := tree_facts (HZ10.out.kept hk).bx
                exact ⟨h9.1, h9.2.1, (HU10.out.kept hk).par.c 2, H4.out W (HU10.out.kept hk).kp⟩
              have KFS : Hid (∀ (yb : Nat) W, w10.heap.size ≤ yb → Kept (fun q => q = yb) w10 W → W.cell? ⟨tb, 0, none⟩ = some (.slice A m c) ∧ W.cell? ⟨tb, 1, none⟩ = some (.int .i64 cur) ∧ W.cell? ⟨pb, 2, none⟩ = some (.slice (some aad) ln lc) ∧ W.cell? (aad.add (i * 4)) = some (.int .i64 aDo) ∧ W.cell? ⟨(aad.add (i * 4)).block, (aad.add (i * 4)).off + 1, none⟩ = some (.int .i64 aAt) ∧ W.cell? ⟨(aad.add (i * 4)).block, (aad.add (i * 4)).off + 2, none⟩ = some (.int .i64 aMost) ∧ W.cell? ⟨(aad.add (i * 4)).block, (aad.add (i * 4)).off + 3, none⟩ = some (.string s)) := by
                show ∀ (yb : Nat) W, _
                intro yb W hy hk
                obtain ⟨h1, h2, h3, h5, h6, h7, h8⟩ := KF.out w10 (Kept.refl _ w10)
                have k1 := heap_lt HU10.out.par
                have k2 := heap_lt HZ10.out.bx
                have k3 := World.block_lt_of_cell? w10 _ h5
                exact ⟨cell_kept hk h1 (by show ¬ tb = yb; omega), cell_kept hk h2 (by show ¬ tb = yb; omega), cell_kept hk h3 (by show ¬ pb = yb; omega), cell_kept hk h5 (by omega), cell_kept hk h6 (by show ¬ (aad.add (i * 4)).block = yb; omega), cell_kept hk h7 (by show ¬ (aad.add (i * 4)).block = yb; omega), cell_kept hk h8 (by show ¬ (aad.add (i * 4)).block = yb; omega)⟩
              have HDR : Hid (Kept (fun _ => False) w10 w10.drew) := (Kept.refl _ w10).drew
              have HDA : Hid (Kept (fun _ => False) w10 (w10.alloc nilT).drew) := ((Kept.refl _ w10).alloc _).drew
              have HCS : Hid (∀ W, Kept (fun _ => False) w10 W → Calls Tryd.prog 16 #[treeV (.slice A m c) cur, .agg #[.int .i64 aDo, .int .i64 aAt, .int .i64 aMost, .string s]] W (ToldS A m c cur W D)) := by
                show ∀ W, _
                intro W hk
                exact HST.out A m c W (HN10.out.kept hk (fun _ _ => id)) HNC.out (HZ10.out.kept hk).on.alt (HU10.out.kept hk).tabs HANr.out
              have HOP : Hid (∀ W r w', Kept (fun _ => False) w10 W → ToldS A m c cur W D r w' → ∃ (A2 : Option Addr) (n2 c2 : Nat) (cy : Int) (Ly : List NodeS), r = .returned (.tuple #[treeV (.slice A2 n2 c2) cy, .bool true]) ∧ On w' 0 (.slice A2 n2 c2) Ly ∧ OkS Ly ∧ (∀ q, (Value.slice A2 n2 c2).ownBlock = some q → q ≠ tb ∧ (q < w10.heap.size ∨ W.heap.size ≤ q)) ∧ Kept (fun _ => False) W w') := by
                show ∀ W, _
                intro W r w' hk h
                exact told_open h (HZ10.out.kept hk).on HZ10.out.sz HDS.out (fun q hq => ⟨HZ10.out.ne q hq, (HZ10.out.on.own q hq).2⟩) (heap_lt (HZ10.out.kept hk).bx)
              have KA := KF.out w10.drew HDR.out
              have KA2 := KF.out (w10.alloc nilT).drew HDA.out
              go_upto_region 18 with fail
              go_cut [11, 12] from 92 to 101 (fun v11 v12 wx => J18 w w10 tb v11 v12 wx)
              case first =>
                have cS1 := HCS.out _ HDR.out
                have cS2 := HCS.out _ HDA.out
                simp only [nilT, treeO] at cS2 KA2 HDA
                go_region_held3 (fun (W : World) => W.cell? ⟨tb, 0, none⟩ = some (.slice A m c) ∧ W.cell? ⟨tb, 1, none⟩ = some (.int .i64 cur) ∧ W.cell? ⟨pb, 2, none⟩ = some (.slice (some aad) ln lc) ∧ W.cell? (aad.add (i * 4)) = some (.int .i64 aDo) ∧ W.cell? ⟨(aad.add (i * 4)).block, (aad.add (i * 4)).off + 1, none⟩ = some (.int .i64 aAt) ∧ W.cell? ⟨(aad.add (i * 4)).block, (aad.add (i * 4)).off + 2, none⟩ = some (.int .i64 aMost) ∧ W.cell? ⟨(aad.add (i * 4)).block, (aad.add (i * 4)).off + 3, none⟩ = some (.string s))
                  (first | with_reducible exact KE.out _ _ | with_reducible exact KD.out _ | with_reducible exact KB | with_reducible exact KA2 | with_reducible exact KA)
                  (first
                    | (go_at_call 16; refine cS1.mono ?_; rintro r w11 hts; obtain ⟨A2, n2, c2, cy, Ly, rfl, hon, hoks, hne, hk11⟩ := HOP.out _ _ _ HDR.out hts; have HK11 := Lib.hid (HDR.out.trans hk11); have HON := Lib.hid hon; have HOKS := Lib.hid hoks; have HNE := Lib.hid hne; have KB := KF.out w11 HK11.out; have KD := Lib.hid (fun o => KF.out (w11.alloc o) (HK11.out.alloc o)); have KE := Lib.hid (fun v0 v1 => KFS.out w11.heap.size _ HK11.out.size (Kept.tree (g := w11.heap.size) (S := fun q => q = w11.heap.size) ((HK11.out.alloc (.cells #[.slice none 0 0, .int .i64 0] 24)).any (S := fun q => q = w11.heap.size)) rfl v0 v1)); clear hts hon hoks hne hk11 cS1 cS2)
                    | (go_at_call 16; refine cS2.mono ?_; rintro r w11 hts; obtain ⟨A2, n2, c2, cy, Ly, rfl, hon, hoks, hne, hk11⟩ := HOP.out _ _ _ HDA.out hts; have HK11 := Lib.hid (HDA.out.trans hk11); have HON := Lib.hid hon; have HOKS := Lib.hid hoks; have HNE := Lib.hid hne; have KB := KF.out w11 HK11.out; have HYB : Hid (w11.heap[w10.heap.size]? = some nilT) := ((hk11.block _ (by show w10.heap.size < (w10.alloc _).heap.size; simp) id).trans (heap_alloc_new w10 _)); obtain ⟨y0, y1, y2, y3⟩ := tree_facts HYB.out; have KE := Lib.hid (fun v0 v1 => KFS.out w10.heap.size _ (Nat.le_refl _) (Kept.tree (g := w10.heap.size) (S := fun q => q = w10.heap.size) (HK11.out.any (S := fun q => q = w10.heap.size)) rfl v0 v1)); clear hts hon hoks hne hk11 cS1 cS2))
                all_goals
                  go_wp2_with fail
                  go_meet
                  first
                    | (exact ⟨w11.heap.size, A2, n2, c2, cy, Ly, rfl, rfl, heap_alloc_new w11 _, HON.out.kept ((Kept.refl (fun _ => False) w11).alloc _), HOKS.out, (fun q hq => (HNE.out q hq).1), HK11.out.alloc _⟩)
                    | (exact ⟨w10.heap.size, A2, n2, c2, cy, Ly, rfl, rfl, tree_set HYB.out _ _, HON.out.keptO (Kept.tree (g := w10.heap.size) (S := fun q => q = w10.heap.size) (Kept.refl (fun q => q = w10.heap.size) w11) rfl _ _) (fun q hq h => by
                        rcases (HNE.out q hq).2 with h3 | h3
                        · omega
                        · have h4 : (w10.alloc (.cells #[.slice none 0 0, .int .i64 0] 24)).heap.size ≤ q := h3
                          simp at h4
                          omega), HOKS.out, (fun q hq => (HNE.out q hq).1), HK11.out.fresh (Kept.tree (g := w10.heap.size) (S := fun q => q = w10.heap.size) (Kept.refl (fun q => q = w10.heap.size) w11) rfl _ _) (fun q h1 h2 => by omega)⟩)
              case rest =>
                obtain ⟨yb, A2, n2, c2, cy, Ly, rfl, rfl, hyb, hon, hoks, hne, hk⟩ := hcut
                obtain ⟨w11, hw11⟩ : ∃ w11, w11 = wc := ⟨_, rfl⟩
                subst hw11
                have HU11 := Lib.hid (HU10.out.kept hk)
                have HZ11 := Lib.hid (HZ10.out.kept hk)
                have HON := Lib.hid hon
                have HOKS := Lib.hid hoks
                have HNE := Lib.hid hne
                obtain ⟨y0, y1, _⟩ := tree_facts hyb
                obtain ⟨t0, t1, t2, t3⟩ := tree_facts HZ11.out.bx
                clear hk hon hoks hne KA KA2 KF KFS HDR HDA HCS HOP hyb
                go_wp2_with fail
                have hks : Kept (fun q => q = tb) w11 ((w11.setCell ⟨tb, 0, none⟩ (.slice A2 n2 c2)).setCell ⟨tb, 1, none⟩ (.int .i64 cy)) := Kept.tree (g := tb) (S := fun q => q = tb) (Kept.refl (fun q => q = tb) w11) rfl _ _
                go_roundw
                case rel => exact ⟨i + 1, Ly, cy, _, by omega, by omega, by go_num, ⟨tree_set HZ11.out.bx _ _, HON.out.keptO hks (fun q hq h => HNE.out q hq h), HNE.out, HOKS.out⟩, uw_mk7 HPW.out HTT.out (HU11.out.kp.fresh hks (fun q h1 h2 => by have := HPX.out; omega)) (HU11.out.par.kept hks (by have := HPT.out; show ¬ pb = tb; omega))⟩
                case measure => simp [intOf]; omega
      · have p3 := p2
        have hng : ¬ (i < ln ∧ i < 14) := hgo
        have cW := uwakes_any wr HU.out.tabs
        by_cases h1 : i < ln
        · have b1 : decide (i < ln) = true := decide_eq_true h1
          have b2 : decide ((i : Int) < (ln : Int)) = true := decide_eq_true (by omega)
          have b3 : decide (i < 14) = false := decide_eq_false (by omega)
          have b4 : decide ((i : Int) < 14) = false := decide_eq_false (by omega)
          go_wp2_with (go_at_call 17; refine cW.mono ?_; rintro e w5 ⟨rfl, hk5⟩)
          exact bodyPost_ret (results_tmp rfl _ _ _) rfl ⟨rfl, HU.out.kp.trans hk5⟩
        · have b1 : decide (i < ln) = false := decide_eq_false h1
          have b2 : decide ((i : Int) < (ln : Int)) = false := decide_eq_false (by omega)
          go_wp2_with (go_at_call 17; refine cW.mono ?_; rintro e w5 ⟨rfl, hk5⟩)
          exact bodyPost_ret (results_tmp rfl _ _ _) rfl ⟨rfl, HU.out.kp.trans hk5⟩
end Go.Proofs.YtgehjkbcgcpbnaaDoor
