/-
  THE REFERENCE's Walk, in each of its four ways.
-/
import Derived.Test.YthbfmdnibijapaaDoorUnW
set_option linter.unusedVariables false
namespace Go.Proofs.YthbfmdnibijapaaDoor
open Go Go.RowKit

/-- Whether a node is where the way leads (so far it leads to `tt`). -/
def wkc (way : Nat) (cur par : Int) (e : NodeS) (tt : Int) : Bool :=
  if way = 1 then e.sq == par else if way = 2 then e.pa == cur else if way = 3 then decide (e.sq < cur) else (decide (cur < e.sq) && decide (tt < 0))
/-- Where a way leads, by the first `k` nodes. -/
def wki (way : Nat) (cur par : Int) (L : List NodeS) : Nat → Int
  | 0 => -1
  | k + 1 => match L[k]? with
    | some e => if wkc way cur par e (wki way cur par L k) = true then (k : Int) else wki way cur par L k
    | none => wki way cur par L k
theorem wki_lt {way : Nat} {cur par : Int} {L : List NodeS} : ∀ (k : Nat), wki way cur par L k < (k : Nat) ∧ -1 ≤ wki way cur par L k
  | 0 => ⟨by show (-1 : Int) < 0; omega, by show (-1 : Int) ≤ -1; omega⟩
  | k + 1 => by
    have ih := wki_lt (way := way) (cur := cur) (par := par) (L := L) k
    unfold wki
    split
    · split <;> omega
    · omega
theorem wki_yes {way : Nat} {cur par : Int} {L : List NodeS} {k : Nat} {e : NodeS} (he : L[k]? = some e) (h : wkc way cur par e (wki way cur par L k) = true) : wki way cur par L (k + 1) = (k : Int) := by
  rw [wki, he]; simp only; rw [if_pos h]
theorem wki_no {way : Nat} {cur par : Int} {L : List NodeS} {k : Nat} {e : NodeS} (he : L[k]? = some e) (h : wkc way cur par e (wki way cur par L k) = false) : wki way cur par L (k + 1) = wki way cur par L k := by
  rw [wki, he]; simp only; rw [if_neg (by rw [h]; decide)]
theorem On.keptL {S : Nat → Prop} {w w' : World} {B : Nat} {v : Value} {L : List NodeS} (h : On w B v L) (hk : Kept S w w') (hs : ∀ k, k < w.heap.size → B ≤ k → ¬ S k) : On w' B v L := by
  refine ⟨h.1, ?_⟩
  rcases h.2 with hn | ⟨g, cap, cur, e, hb, hg, rest⟩
  · exact .inl hn
  · exact .inr ⟨g, cap, cur, e, hb, (hk.block g (heap_lt hg) (hs g (heap_lt hg) hb)).trans hg, rest⟩
theorem TrI.keptS {S : Nat → Prop} {ad : Addr} {n c : Nat} {L : List NodeS} {cur : Int} {tb : Nat} {W W' : World} (h : TrI ad n c L cur tb W) (hk : Kept S W W') (hs : ∀ q, q ≤ tb + 1 → ¬ S q) : TrI ad n c L cur tb W' :=
  ⟨h.tabs.kept hk (hs 0 (by omega)) (hs 1 (by omega)), h.ng.kept hk (fun a ha => by injection ha with ha; subst ha; exact hs _ (by have := h.lt; omega)), (hk.block _ (heap_lt h.box) (hs _ (by omega))).trans h.box, (hk.block _ (heap_lt h.res) (hs _ (by omega))).trans h.res, h.lt⟩
/-- What a walk tells: the nodes, Cur, the text, the place, the error. -/
structure WR where
  ns : List NodeS
  cu : Int
  tx : ByteArray
  at_ : Int
  er : Int
abbrev wr0 (er : Int) : WR := ⟨[], 0, ⟨#[]⟩, 0, er⟩
def wkR (way : Nat) (L : List NodeS) (cur : Int) (ei : NodeS) : WR :=
  match L[(wki way cur ei.pa L L.length).toNat]? with
  | some e => if wki way cur ei.pa L L.length < 0 then wr0 6 else ⟨L, e.sq, e.tx, if way = 1 then ei.at_ else e.at_, 0⟩
  | none => wr0 6
/-- A call told so. -/
def Told (w : World) (D : WR) (r : Ending) (w' : World) : Prop := (∃ v, r = .returned (.tuple #[treeV v D.cu, .string D.tx, .int .i64 D.at_, .int .i64 D.er]) ∧ On w' w.heap.size v D.ns) ∧ Kept (fun _ => False) w w'
theorem told0 {w w' : World} {r : Ending} {er : Int} (h : r = .returned (.tuple #[treeV (.slice none 0 0) 0, .string ⟨#[]⟩, .int .i64 0, .int .i64 er]) ∧ Kept (fun _ => False) w w') : Told w (wr0 er) r w' := ⟨⟨_, h.1, on_nil _ _⟩, h.2⟩
set_option maxRecDepth 100000 in
set_option maxHeartbeats 8000000 in
theorem rwalk1_any (ad : Addr) (n c : Nat) (L : List NodeS) (cur : Int) (w : World) (hA : Ng w (some ad) n L) (hn1 : 1 ≤ n) (hn : n ≤ 64) (hT : Tabs w) (i : Nat) (ei : NodeS) (hi : idx L cur = (i : Nat)) (hei : L[i]? = some ei) :
    Calls Tryd.prog 12 #[treeV (.slice (some ad) n c) cur, .int .i64 1] w (Told w (wkR 1 L cur ei)) := by
  obtain ⟨D, hD⟩ : ∃ D, wkR 1 L cur ei = D := ⟨_, rfl⟩
  rw [hD]
  have HD := Lib.hid hD
  have hl := hA.len
  have HK0 : Hid (Kept (fun _ => False) w ((w.alloc (treeO (.slice (some ad) n c) cur)).alloc nilT)) := ((Kept.refl _ w).alloc _).alloc _
  have HI0 := Lib.hid (tri_new (c := c) (cur := cur) hT hA hn1)
  obtain ⟨tb, htb⟩ : ∃ tb, w.heap.size = tb := ⟨_, rfl⟩
  have HTB := Lib.hid htb
  rw [htb] at HI0
  have HHL := Lib.hid hl
  have HEI := Lib.hid hei
  have hin : i < n := (hA.nd hei).1
  have cN := fun W (h : TrI ad n c L cur tb W) => rnode_any (some ad) n c L cur cur W h.ng (by omega)
  rw [hi] at cN
  have i1 : (0 : Int) ≤ (i : Int) := by omega
  have i2 : (i : Int) < (n : Int) := by omega
  clear htb hA hT hi hl hei hD
  go_enter Tryd.func12, Tryd.ntmps12
  go_upto_region 1 with fail
  simp only [HTB.out]
  simp only [treeO, nilT] at HI0 HK0
  generalize (w.alloc _).alloc _ = w0 at *
  obtain ⟨t0, t1⟩ := HI0.out.cells
  have cN0 := cN w0 HI0.out
  go_upto_region 4 with (go_at_call 13; refine cN0.mono ?_; rintro r w1 ⟨rfl, hk1⟩; have HK1 := Lib.hid (HK0.out.trans hk1); have HI1 := Lib.hid (HI0.out.kept hk1); clear hk1 t0 t1 cN0 cN)
  go_loopw [9, 10] (fun v kk wr => ∃ k : Nat, k ≤ n ∧ kk = .int .i64 k ∧ v = .int .i64 (wki 1 cur ei.pa L k) ∧ TrI ad n c L cur tb wr ∧ Kept (fun _ => False) w wr) (fun _ kk _ => n - (intOf kk).toNat)
  case atStart => exact ⟨0, Nat.zero_le _, rfl, rfl, HI1.out, HK1.out⟩
  case round =>
    obtain ⟨k, hk, rfl, rfl, hir, hkr⟩ := hrel
    have HI := Lib.hid hir
    have HK := Lib.hid hkr
    clear hir hkr
    obtain ⟨t0, t1⟩ := HI.out.cells
    by_cases hlt : k < n
    · obtain ⟨e, he⟩ : ∃ e, L[k]? = some e := ⟨_, List.getElem?_eq_getElem (by rw [HHL.out]; exact hlt)⟩
      have HE := Lib.hid he
      have h4 := (HI.out.ng.nd he).2
      have f0 := h4.c0
      have f1 := h4.c1
      have f2 := h4.c2
      have f3 := h4.c3
      have HN : Hid (Nd4 (wr.alloc (nodeO e)) ⟨wr.heap.size, 0, none⟩ e) := nd4_new
      have hk1 : Kept (fun _ => False) wr (wr.alloc (nodeO e)) := (Kept.refl _ wr).alloc _
      have HI2 := Lib.hid (HI.out.kept hk1)
      have HK2 := Lib.hid (HK.out.trans hk1)
      have b1 : decide ((k : Int) < (n : Int)) = true := decide_eq_true (by omega)
      have b2 : decide (k < n) = true := decide_eq_true hlt
      have u1 : (0 : Int) ≤ (k : Int) := by omega
      have u2 : (k : Int) < (n : Int) := by omega
      obtain ⟨Z, hZ⟩ : ∃ Z, wki 1 cur ei.pa L k = Z := ⟨_, rfl⟩
      have HZ := Lib.hid hZ
      rw [hZ]
      clear h4 hk1 he hZ
      go_upto_region 7 with fail
      clear f0 f1 f2 f3 b1 b2 t0 t1 HI HK
      simp only [nodeO] at HN HK2 HI2
      generalize wr.alloc _ = w1 at *
      generalize wr.heap.size = nb at *
      obtain ⟨c0, c1, c2, c3⟩ := HN.out.cs
      obtain ⟨t0, t1⟩ := HI2.out.cells
      have h5 := (HI2.out.ng.nd HEI.out).2
      have g1 := h5.c1
      clear h5
      go_upto_region 11 with fail
      go_quiet (fail)
      by_cases hb : (e.sq == ei.pa) = true
      · have hb2 := hb
        have HZ2 : Hid (wki 1 cur ei.pa L (k + 1) = (k : Int)) := wki_yes HE.out (by rw [HZ.out]; exact hb2)
        clear hb2 c0 c1 c2 c3 t0 t1 g1
        go_wp2_with fail
        go_roundw
        case rel => exact ⟨k + 1, by omega, by go_num, by rw [HZ2.out], HI2.out.kept ((Kept.refl (fun _ => False) w1).drewN _), HK2.out.drewN _⟩
        case measure => simp [intOf]; omega
      · have hb2 : (e.sq == ei.pa) = false := by simpa using hb
        have HZ2 : Hid (wki 1 cur ei.pa L (k + 1) = Z) := (wki_no HE.out (by rw [HZ.out]; exact hb2)).trans HZ.out
        clear hb c0 c1 c2 c3 t0 t1 g1
        go_wp2_with fail
        go_roundw
        case rel => exact ⟨k + 1, by omega, by go_num, by rw [HZ2.out], HI2.out.kept ((Kept.refl (fun _ => False) w1).drewN _), HK2.out.drewN _⟩
        case measure => simp [intOf]; omega
    · obtain rfl : k = n := by omega
      have b1 : decide ((k : Int) < (k : Int)) = false := by simp
      have b2 : decide (k < k) = false := by simp
      have hwl := wki_lt (way := 1) (cur := cur) (par := ei.pa) (L := L) k
      obtain ⟨Z, hZ⟩ : ∃ Z, wki 1 cur ei.pa L k = Z := ⟨_, rfl⟩
      rw [hZ] at hwl
      have hd := HD.out
      unfold wkR at hd
      rw [HHL.out, hZ] at hd
      rw [hZ]
      clear hZ
      by_cases hz : Z < 0
      · have p1 : decide (Z < 0) = true := decide_eq_true hz
        have HDE : Hid (D = wr0 6) := by show _ = _; rw [← hd]; split; · rw [if_pos hz]
                                         · rfl
        clear hd hz hwl
        obtain ⟨r0, r1, r2, r3⟩ := tree_facts HI.out.res
        go_wp2_with fail
        refine bodyPost_ret (res_t4 rfl _ _ (tb + 1) (.slice none 0 0) 0 rfl rfl (tree_set HI.out.res _ _)) rfl ?_
        rw [HDE.out]
        refine told0 ⟨rfl, ?_⟩
        exact HK.out.fresh (Kept.tree (g := tb + 1) (S := fun q => q = tb + 1) (Kept.refl (fun q => q = tb + 1) wr) rfl _ _) (fun b hb h => by have := HTB.out; omega)
      · obtain ⟨p, rfl⟩ : ∃ p : Nat, Z = (p : Int) := ⟨Z.toNat, by omega⟩
        have p1 : decide ((p : Int) < 0) = false := decide_eq_false hz
        have hpk : p < k := by omega
        obtain ⟨ep, hep⟩ : ∃ ep, L[p]? = some ep := ⟨_, List.getElem?_eq_getElem (by rw [HHL.out]; exact hpk)⟩
        have HDE : Hid (D = ⟨L, ep.sq, ep.tx, ei.at_, 0⟩) := by
          show _ = _
          rw [← hd, show ((p : Int)).toNat = p from rfl, hep]
          simp only
          rw [if_neg hz]
          rfl
        have cC := copytree_any (some ad) k c L cur wr HI.out.ng (by omega)
        have v1 : (0 : Int) ≤ (p : Int) := by omega
        have v2 : (p : Int) < (k : Int) := by omega
        have HEP := Lib.hid hep
        clear hd hz hwl hep
        go_upto_region 22 with (go_at_call 14; refine cC.mono ?_; rintro r w3 ⟨⟨v, rfl, hO⟩, hk3⟩; obtain ⟨A', c', rfl, _⟩ := hO.slice; have HO := Lib.hid hO; have HK03 := Lib.hid hk3; have HK3 := Lib.hid (HK.out.trans hk3); have HI3 := Lib.hid (HI.out.kept hk3); clear hk3 hO t0 t1 cC)
        rw [HHL.out] at *
        have hk4 : Kept (fun _ => False) w3 (w3.alloc (treeO (.slice A' k c') cur)) := (Kept.refl _ w3).alloc _
        have HI4 := Lib.hid (HI3.out.kept hk4)
        have HK34 := Lib.hid hk4
        have HLR : Hid (tb + 1 < wr.heap.size) := heap_lt HI.out.res
        have HK4 := Lib.hid (HK3.out.trans hk4)
        have HZ4 : Hid ((w3.alloc (treeO (.slice A' k c') cur)).heap[w3.heap.size]? = some (treeO (.slice A' k c') cur)) := heap_alloc_new w3 _
        have HS3 : Hid (tb + 1 < w3.heap.size) := heap_lt HI3.out.res
        simp only [treeO] at HI4 HK34 HK4 HZ4
        clear hk4
        generalize w3.alloc _ = w4 at *
        obtain ⟨zb, hzb⟩ : ∃ zb, w3.heap.size = zb := ⟨_, rfl⟩
        rw [hzb] at HZ4 HS3 ⊢
        have HZB := Lib.hid hzb
        obtain ⟨t0, t1⟩ := HI4.out.cells
        obtain ⟨z0, z1, z2, z3⟩ := tree_facts HZ4.out
        have h4 := (HI4.out.ng.nd HEP.out).2
        have f0 := h4.c0
        clear h4 hzb
        go_upto_region 23 with fail
        have hks : Kept (fun q => q = zb) w3 (w4.setCell ⟨zb, 1, none⟩ (.int .i64 ep.sq)) := (HK34.out.any (S := fun q => q = zb)).setCell (p := ⟨zb, 1, none⟩) rfl _
        have hks4 : Kept (fun q => q = zb) w4 (w4.setCell ⟨zb, 1, none⟩ (.int .i64 ep.sq)) := (Kept.refl (fun q => q = zb) w4).setCell (p := ⟨zb, 1, none⟩) rfl _
        have HO5 := Lib.hid (HO.out.keptL hks (fun q h1 h2 h3 => by have := HZB.out; omega))
        have HI5 := Lib.hid (HI4.out.keptS hks4 (fun q h1 h3 => by have := HS3.out; omega))
        have HZ5 : Hid ((w4.setCell ⟨zb, 1, none⟩ (.int .i64 ep.sq)).heap[zb]? = some (treeO (.slice A' k c') ep.sq)) := (heap_set HZ4.out _).trans rfl
        have HK5 := Lib.hid (HK4.out.fresh hks4 (fun q h1 h3 => by have := HS3.out; have := HTB.out; omega))
        clear hks hks4 t0 t1 z0 z1 z2 z3 f0
        generalize w4.setCell ⟨zb, 1, none⟩ (.int .i64 ep.sq) = w5 at *
        obtain ⟨t0, t1⟩ := HI5.out.cells
        have h4 := (HI5.out.ng.nd HEP.out).2
        have f2 := h4.c2
        have f3 := h4.c3
        have h5 := (HI5.out.ng.nd HEI.out).2
        have g2 := h5.c2
        clear h4 h5
        have hba : ∀ q : Nat, (ad.add (q * 4)).block = ad.block := fun q => by unfold Addr.add; split <;> rfl
        have KF : Hid (∀ W, Kept (fun q => q = tb + 1) w5 W → W.cell? ⟨tb, 0, none⟩ = some (.slice (some ad) k c) ∧ W.cell? ⟨(ad.add (p * 4)).block, (ad.add (p * 4)).off + 3, none⟩ = some (.string ep.tx) ∧ W.cell? ⟨zb, 0, none⟩ = some (.slice A' k c') ∧ W.cell? ⟨zb, 1, none⟩ = some (.int .i64 ep.sq)) := by
          show ∀ W, _
          intro W hk
          have h1 := HI5.out.lt
          have h2 := HS3.out
          have h3 := hba p
          exact ⟨cell_kept hk t0 (by show ¬ tb = tb + 1; omega), cell_kept hk f3 (by show ¬ (ad.add (p * 4)).block = tb + 1; omega), cell_kept hk (tree_facts HZ5.out).1 (by show ¬ zb = tb + 1; omega), cell_kept hk (tree_facts HZ5.out).2.1 (by show ¬ zb = tb + 1; omega)⟩
        have KA := KF.out w5.drew (Kept.refl _ w5).drew
        have HY6 := Lib.hid (heap_drew' (tree_set HI5.out.res (.slice A' k c') ep.sq))
        have HK6 : Hid (Kept (fun q => q = tb + 1) w5 ((w5.setCell ⟨tb + 1, 0, none⟩ (.slice A' k c')).setCell ⟨tb + 1, 1, none⟩ (.int .i64 ep.sq)).drew) := (Kept.tree (g := tb + 1) (S := fun q => q = tb + 1) (Kept.refl (fun q => q = tb + 1) w5) rfl _ _).drew
        have KG := KF.out _ HK6.out
        obtain ⟨r0, r1, r2, r3⟩ := tree_facts HI5.out.res
        clear hba f3
        go_upto_region 26 with fail
        clear f2 g2 t1
        have r4 : w5.drew.frozen? ⟨tb + 1, 0, none⟩ = false := r2
        have r5 : w5.drew.frozen? ⟨tb + 1, 1, none⟩ = false := r3
        have r6 : w5.drew.cell? ⟨tb + 1, 0, none⟩ = some (.slice none 0 0) := r0
        have r7 : w5.drew.cell? ⟨tb + 1, 1, none⟩ = some (.int .i64 0) := r1
        go_region_held3 (fun (W : World) => W.cell? ⟨tb, 0, none⟩ = some (.slice (some ad) k c) ∧ W.cell? ⟨(ad.add (p * 4)).block, (ad.add (p * 4)).off + 3, none⟩ = some (.string ep.tx) ∧ W.cell? ⟨zb, 0, none⟩ = some (.slice A' k c') ∧ W.cell? ⟨zb, 1, none⟩ = some (.int .i64 ep.sq))
          (first | with_reducible exact KG | with_reducible exact KA) (fail)
        all_goals
          go_wp2_with fail
          refine bodyPost_ret (res_t4 rfl _ _ (tb + 1) _ ep.sq rfl rfl HY6.out) rfl ?_
          rw [HDE.out]
          refine ⟨⟨_, rfl, ?ho⟩, ?hk⟩
          case ho =>
            have h1 := HO5.out.keptS HK6.out (fun q h1 h3 => by have := HS3.out; have := HLR.out; omega)
            exact h1.mono (by have := HTB.out; have := HLR.out; omega)
          case hk => exact HK5.out.fresh HK6.out (fun q h1 h3 => by have := HTB.out; omega)
set_option maxRecDepth 100000 in
set_option maxHeartbeats 8000000 in
theorem rwalk2_any (ad : Addr) (n c : Nat) (L : List NodeS) (cur : Int) (w : World) (hA : Ng w (some ad) n L) (hn1 : 1 ≤ n) (hn : n ≤ 64) (hT : Tabs w) (i : Nat) (ei : NodeS) (hi : idx L cur = (i : Nat)) (hei : L[i]? = some ei) :
    Calls Tryd.prog 12 #[treeV (.slice (some ad) n c) cur, .int .i64 2] w (Told w (wkR 2 L cur ei)) := by
  obtain ⟨D, hD⟩ : ∃ D, wkR 2 L cur ei = D := ⟨_, rfl⟩
  rw [hD]
  have HD := Lib.hid hD
  have hl := hA.len
  have HK0 : Hid (Kept (fun _ => False) w ((w.alloc (treeO (.slice (some ad) n c) cur)).alloc nilT)) := ((Kept.refl _ w).alloc _).alloc _
  have HI0 := Lib.hid (tri_new (c := c) (cur := cur) hT hA hn1)
  obtain ⟨tb, htb⟩ : ∃ tb, w.heap.size = tb := ⟨_, rfl⟩
  have HTB := Lib.hid htb
  rw [htb] at HI0
  have HHL := Lib.hid hl
  have HEI := Lib.hid hei
  have hin : i < n := (hA.nd hei).1
  have cN := fun W (h : TrI ad n c L cur tb W) => rnode_any (some ad) n c L cur cur W h.ng (by omega)
  rw [hi] at cN
  have i1 : (0 : Int) ≤ (i : Int) := by omega
  have i2 : (i : Int) < (n : Int) := by omega
  clear htb hA hT hi hl hei hD
  go_enter Tryd.func12, Tryd.ntmps12
  go_upto_region 1 with fail
  simp only [HTB.out]
  simp only [treeO, nilT] at HI0 HK0
  generalize (w.alloc _).alloc _ = w0 at *
  obtain ⟨t0, t1⟩ := HI0.out.cells
  have cN0 := cN w0 HI0.out
  go_upto_region 4 with (go_at_call 13; refine cN0.mono ?_; rintro r w1 ⟨rfl, hk1⟩; have HK1 := Lib.hid (HK0.out.trans hk1); have HI1 := Lib.hid (HI0.out.kept hk1); clear hk1 t0 t1 cN0 cN)
  go_loopw [9, 10] (fun v kk wr => ∃ k : Nat, k ≤ n ∧ kk = .int .i64 k ∧ v = .int .i64 (wki 2 cur ei.pa L k) ∧ TrI ad n c L cur tb wr ∧ Kept (fun _ => False) w wr) (fun _ kk _ => n - (intOf kk).toNat)
  case atStart => exact ⟨0, Nat.zero_le _, rfl, rfl, HI1.out, HK1.out⟩
  case round =>
    obtain ⟨k, hk, rfl, rfl, hir, hkr⟩ := hrel
    have HI := Lib.hid hir
    have HK := Lib.hid hkr
    clear hir hkr
    obtain ⟨t0, t1⟩ := HI.out.cells
    by_cases hlt : k < n
    · obtain ⟨e, he⟩ : ∃ e, L[k]? = some e := ⟨_, List.getElem?_eq_getElem (by rw [HHL.out]; exact hlt)⟩
      have HE := Lib.hid he
      have h4 := (HI.out.ng.nd he).2
      have f0 := h4.c0
      have f1 := h4.c1
      have f2 := h4.c2
      have f3 := h4.c3
      have HN : Hid (Nd4 (wr.alloc (nodeO e)) ⟨wr.heap.size, 0, none⟩ e) := nd4_new
      have hk1 : Kept (fun _ => False) wr (wr.alloc (nodeO e)) := (Kept.refl _ wr).alloc _
      have HI2 := Lib.hid (HI.out.kept hk1)
      have HK2 := Lib.hid (HK.out.trans hk1)
      have b1 : decide ((k : Int) < (n : Int)) = true := decide_eq_true (by omega)
      have b2 : decide (k < n) = true := decide_eq_true hlt
      have u1 : (0 : Int) ≤ (k : Int) := by omega
      have u2 : (k : Int) < (n : Int) := by omega
      obtain ⟨Z, hZ⟩ : ∃ Z, wki 2 cur ei.pa L k = Z := ⟨_, rfl⟩
      have HZ := Lib.hid hZ
      rw [hZ]
      clear h4 hk1 he hZ
      go_upto_region 7 with fail
      clear f0 f1 f2 f3 b1 b2 t0 t1 HI HK
      simp only [nodeO] at HN HK2 HI2
      generalize wr.alloc _ = w1 at *
      generalize wr.heap.size = nb at *
      obtain ⟨c0, c1, c2, c3⟩ := HN.out.cs
      obtain ⟨t0, t1⟩ := HI2.out.cells
      by_cases hb : (e.pa == cur) = true
      · have hb2 := hb
        have HZ2 : Hid (wki 2 cur ei.pa L (k + 1) = (k : Int)) := wki_yes HE.out (by rw [HZ.out]; exact hb2)
        clear hb2
        go_wp2_with fail
        go_roundw
        case rel => exact ⟨k + 1, by omega, by go_num, by rw [HZ2.out], HI2.out, HK2.out⟩
        case measure => simp [intOf]; omega
      · have hb2 : (e.pa == cur) = false := by simpa using hb
        have HZ2 : Hid (wki 2 cur ei.pa L (k + 1) = Z) := (wki_no HE.out (by rw [HZ.out]; exact hb2)).trans HZ.out
        clear hb
        go_wp2_with fail
        go_roundw
        case rel => exact ⟨k + 1, by omega, by go_num, by rw [HZ2.out], HI2.out, HK2.out⟩
        case measure => simp [intOf]; omega
    · obtain rfl : k = n := by omega
      have b1 : decide ((k : Int) < (k : Int)) = false := by simp
      have b2 : decide (k < k) = false := by simp
      have hwl := wki_lt (way := 2) (cur := cur) (par := ei.pa) (L := L) k
      obtain ⟨Z, hZ⟩ : ∃ Z, wki 2 cur ei.pa L k = Z := ⟨_, rfl⟩
      rw [hZ] at hwl
      have hd := HD.out
      unfold wkR at hd
      rw [HHL.out, hZ] at hd
      rw [hZ]
      clear hZ
      by_cases hz : Z < 0
      · have p1 : decide (Z < 0) = true := decide_eq_true hz
        have HDE : Hid (D = wr0 6) := by show _ = _; rw [← hd]; split; · rw [if_pos hz]
                                         · rfl
        clear hd hz hwl
        obtain ⟨r0, r1, r2, r3⟩ := tree_facts HI.out.res
        go_wp2_with fail
        refine bodyPost_ret (res_t4 rfl _ _ (tb + 1) (.slice none 0 0) 0 rfl rfl (tree_set HI.out.res _ _)) rfl ?_
        rw [HDE.out]
        refine told0 ⟨rfl, ?_⟩
        exact HK.out.fresh (Kept.tree (g := tb + 1) (S := fun q => q = tb + 1) (Kept.refl (fun q => q = tb + 1) wr) rfl _ _) (fun b hb h => by have := HTB.out; omega)
      · obtain ⟨p, rfl⟩ : ∃ p : Nat, Z = (p : Int) := ⟨Z.toNat, by omega⟩
        have p1 : decide ((p : Int) < 0) = false := decide_eq_false hz
        have hpk : p < k := by omega
        obtain ⟨ep, hep⟩ : ∃ ep, L[p]? = some ep := ⟨_, List.getElem?_eq_getElem (by rw [HHL.out]; exact hpk)⟩
        have HDE : Hid (D = ⟨L, ep.sq, ep.tx, ep.at_, 0⟩) := by
          show _ = _
          rw [← hd, show ((p : Int)).toNat = p from rfl, hep]
          simp only
          rw [if_neg hz]
          rfl
        have cC := copytree_any (some ad) k c L cur wr HI.out.ng (by omega)
        have v1 : (0 : Int) ≤ (p : Int) := by omega
        have v2 : (p : Int) < (k : Int) := by omega
        have HEP := Lib.hid hep
        clear hd hz hwl hep
        go_upto_region 22 with (go_at_call 14; refine cC.mono ?_; rintro r w3 ⟨⟨v, rfl, hO⟩, hk3⟩; obtain ⟨A', c', rfl, _⟩ := hO.slice; have HO := Lib.hid hO; have HK03 := Lib.hid hk3; have HK3 := Lib.hid (HK.out.trans hk3); have HI3 := Lib.hid (HI.out.kept hk3); clear hk3 hO t0 t1 cC)
        rw [HHL.out] at *
        have hk4 : Kept (fun _ => False) w3 (w3.alloc (treeO (.slice A' k c') cur)) := (Kept.refl _ w3).alloc _
        have HI4 := Lib.hid (HI3.out.kept hk4)
        have HK34 := Lib.hid hk4
        have HLR : Hid (tb + 1 < wr.heap.size) := heap_lt HI.out.res
        have HK4 := Lib.hid (HK3.out.trans hk4)
        have HZ4 : Hid ((w3.alloc (treeO (.slice A' k c') cur)).heap[w3.heap.size]? = some (treeO (.slice A' k c') cur)) := heap_alloc_new w3 _
        have HS3 : Hid (tb + 1 < w3.heap.size) := heap_lt HI3.out.res
        simp only [treeO] at HI4 HK34 HK4 HZ4
        clear hk4
        generalize w3.alloc _ = w4 at *
        obtain ⟨zb, hzb⟩ : ∃ zb, w3.heap.size = zb := ⟨_, rfl⟩
        rw [hzb] at HZ4 HS3 ⊢
        have HZB := Lib.hid hzb
        obtain ⟨t0, t1⟩ := HI4.out.cells
        obtain ⟨z0, z1, z2, z3⟩ := tree_facts HZ4.out
        have h4 := (HI4.out.ng.nd HEP.out).2
        have f0 := h4.c0
        clear h4 hzb
        go_upto_region 23 with fail
        have hks : Kept (fun q => q = zb) w3 (w4.setCell ⟨zb, 1, none⟩ (.int .i64 ep.sq)) := (HK34.out.any (S := fun q => q = zb)).setCell (p := ⟨zb, 1, none⟩) rfl _
        have hks4 : Kept (fun q => q = zb) w4 (w4.setCell ⟨zb, 1, none⟩ (.int .i64 ep.sq)) := (Kept.refl (fun q => q = zb) w4).setCell (p := ⟨zb, 1, none⟩) rfl _
        have HO5 := Lib.hid (HO.out.keptL hks (fun q h1 h2 h3 => by have := HZB.out; omega))
        have HI5 := Lib.hid (HI4.out.keptS hks4 (fun q h1 h3 => by have := HS3.out; omega))
        have HZ5 : Hid ((w4.setCell ⟨zb, 1, none⟩ (.int .i64 ep.sq)).heap[zb]? = some (treeO (.slice A' k c') ep.sq)) := (heap_set HZ4.out _).trans rfl
        have HK5 := Lib.hid (HK4.out.fresh hks4 (fun q h1 h3 => by have := HS3.out; have := HTB.out; omega))
        clear hks hks4 t0 t1 z0 z1 z2 z3 f0
        generalize w4.setCell ⟨zb, 1, none⟩ (.int .i64 ep.sq) = w5 at *
        obtain ⟨t0, t1⟩ := HI5.out.cells
        have h4 := (HI5.out.ng.nd HEP.out).2
        have f2 := h4.c2
        have f3 := h4.c3
        have h5 := (HI5.out.ng.nd HEI.out).2
        have g2 := h5.c2
        clear h4 h5
        have hba : ∀ q : Nat, (ad.add (q * 4)).block = ad.block := fun q => by unfold Addr.add; split <;> rfl
        have KF : Hid (∀ W, Kept (fun q => q = tb + 1) w5 W → W.cell? ⟨tb, 0, none⟩ = some (.slice (some ad) k c) ∧ W.cell? ⟨(ad.add (p * 4)).block, (ad.add (p * 4)).off + 3, none⟩ = some (.string ep.tx) ∧ W.cell? ⟨zb, 0, none⟩ = some (.slice A' k c') ∧ W.cell? ⟨zb, 1, none⟩ = some (.int .i64 ep.sq)) := by
          show ∀ W, _
          intro W hk
          have h1 := HI5.out.lt
          have h2 := HS3.out
          have h3 := hba p
          exact ⟨cell_kept hk t0 (by show ¬ tb = tb + 1; omega), cell_kept hk f3 (by show ¬ (ad.add (p * 4)).block = tb + 1; omega), cell_kept hk (tree_facts HZ5.out).1 (by show ¬ zb = tb + 1; omega), cell_kept hk (tree_facts HZ5.out).2.1 (by show ¬ zb = tb + 1; omega)⟩
        have KA := KF.out w5.drew (Kept.refl _ w5).drew
        have HY6 := Lib.hid (heap_drew' (tree_set HI5.out.res (.slice A' k c') ep.sq))
        have HK6 : Hid (Kept (fun q => q = tb + 1) w5 ((w5.setCell ⟨tb + 1, 0, none⟩ (.slice A' k c')).setCell ⟨tb + 1, 1, none⟩ (.int .i64 ep.sq)).drew) := (Kept.tree (g := tb + 1) (S := fun q => q = tb + 1) (Kept.refl (fun q => q = tb + 1) w5) rfl _ _).drew
        have KG := KF.out _ HK6.out
        obtain ⟨r0, r1, r2, r3⟩ := tree_facts HI5.out.res
        clear hba f3
        go_upto_region 26 with fail
        clear f2 g2 t1
        have r4 : w5.drew.frozen? ⟨tb + 1, 0, none⟩ = false := r2
        have r5 : w5.drew.frozen? ⟨tb + 1, 1, none⟩ = false := r3
        have r6 : w5.drew.cell? ⟨tb + 1, 0, none⟩ = some (.slice none 0 0) := r0
        have r7 : w5.drew.cell? ⟨tb + 1, 1, none⟩ = some (.int .i64 0) := r1
        go_region_held3 (fun (W : World) => W.cell? ⟨tb, 0, none⟩ = some (.slice (some ad) k c) ∧ W.cell? ⟨(ad.add (p * 4)).block, (ad.add (p * 4)).off + 3, none⟩ = some (.string ep.tx) ∧ W.cell? ⟨zb, 0, none⟩ = some (.slice A' k c') ∧ W.cell? ⟨zb, 1, none⟩ = some (.int .i64 ep.sq))
          (first | with_reducible exact KG | with_reducible exact KA) (fail)
        all_goals
          go_wp2_with fail
          refine bodyPost_ret (res_t4 rfl _ _ (tb + 1) _ ep.sq rfl rfl HY6.out) rfl ?_
          rw [HDE.out]
          refine ⟨⟨_, rfl, ?ho⟩, ?hk⟩
          case ho =>
            have h1 := HO5.out.keptS HK6.out (fun q h1 h3 => by have := HS3.out; have := HLR.out; omega)
            exact h1.mono (by have := HTB.out; have := HLR.out; omega)
          case hk => exact HK5.out.fresh HK6.out (fun q h1 h3 => by have := HTB.out; omega)
set_option maxRecDepth 100000 in
set_option maxHeartbeats 8000000 in
theorem rwalk3_any (ad : Addr) (n c : Nat) (L : List NodeS) (cur : Int) (w : World) (hA : Ng w (some ad) n L) (hn1 : 1 ≤ n) (hn : n ≤ 64) (hT : Tabs w) (i : Nat) (ei : NodeS) (hi : idx L cur = (i : Nat)) (hei : L[i]? = some ei) :
    Calls Tryd.prog 12 #[treeV (.slice (some ad) n c) cur, .int .i64 3] w (Told w (wkR 3 L cur ei)) := by
  obtain ⟨D, hD⟩ : ∃ D, wkR 3 L cur ei = D := ⟨_, rfl⟩
  rw [hD]
  have HD := Lib.hid hD
  have hl := hA.len
  have HK0 : Hid (Kept (fun _ => False) w ((w.alloc (treeO (.slice (some ad) n c) cur)).alloc nilT)) := ((Kept.refl _ w).alloc _).alloc _
  have HI0 := Lib.hid (tri_new (c := c) (cur := cur) hT hA hn1)
  obtain ⟨tb, htb⟩ : ∃ tb, w.heap.size = tb := ⟨_, rfl⟩
  have HTB := Lib.hid htb
  rw [htb] at HI0
  have HHL := Lib.hid hl
  have HEI := Lib.hid hei
  have hin : i < n := (hA.nd hei).1
  have cN := fun W (h : TrI ad n c L cur tb W) => rnode_any (some ad) n c L cur cur W h.ng (by omega)
  rw [hi] at cN
  have i1 : (0 : Int) ≤ (i : Int) := by omega
  have i2 : (i : Int) < (n : Int) := by omega
  clear htb hA hT hi hl hei hD
  go_enter Tryd.func12, Tryd.ntmps12
  go_upto_region 1 with fail
  simp only [HTB.out]
  simp only [treeO, nilT] at HI0 HK0
  generalize (w.alloc _).alloc _ = w0 at *
  obtain ⟨t0, t1⟩ := HI0.out.cells
  have cN0 := cN w0 HI0.out
  go_upto_region 4 with (go_at_call 13; refine cN0.mono ?_; rintro r w1 ⟨rfl, hk1⟩; have HK1 := Lib.hid (HK0.out.trans hk1); have HI1 := Lib.hid (HI0.out.kept hk1); clear hk1 t0 t1 cN0 cN)
  go_loopw [9, 10] (fun v kk wr => ∃ k : Nat, k ≤ n ∧ kk = .int .i64 k ∧ v = .int .i64 (wki 3 cur ei.pa L k) ∧ TrI ad n c L cur tb wr ∧ Kept (fun _ => False) w wr) (fun _ kk _ => n - (intOf kk).toNat)
  case atStart => exact ⟨0, Nat.zero_le _, rfl, rfl, HI1.out, HK1.out⟩
  case round =>
    obtain ⟨k, hk, rfl, rfl, hir, hkr⟩ := hrel
    have HI := Lib.hid hir
    have HK := Lib.hid hkr
    clear hir hkr
    obtain ⟨t0, t1⟩ := HI.out.cells
    by_cases hlt : k < n
    · obtain ⟨e, he⟩ : ∃ e, L[k]? = some e := ⟨_, List.getElem?_eq_getElem (by rw [HHL.out]; exact hlt)⟩
      have HE := Lib.hid he
      have h4 := (HI.out.ng.nd he).2
      have f0 := h4.c0
      have f1 := h4.c1
      have f2 := h4.c2
      have f3 := h4.c3
      have HN : Hid (Nd4 (wr.alloc (nodeO e)) ⟨wr.heap.size, 0, none⟩ e) := nd4_new
      have hk1 : Kept (fun _ => False) wr (wr.alloc (nodeO e)) := (Kept.refl _ wr).alloc _
      have HI2 := Lib.hid (HI.out.kept hk1)
      have HK2 := Lib.hid (HK.out.trans hk1)
      have b1 : decide ((k : Int) < (n : Int)) = true := decide_eq_true (by omega)
      have b2 : decide (k < n) = true := decide_eq_true hlt
      have u1 : (0 : Int) ≤ (k : Int) := by omega
      have u2 : (k : Int) < (n : Int) := by omega
      obtain ⟨Z, hZ⟩ : ∃ Z, wki 3 cur ei.pa L k = Z := ⟨_, rfl⟩
      have HZ := Lib.hid hZ
      rw [hZ]
      clear h4 hk1 he hZ
      go_upto_region 7 with fail
      clear f0 f1 f2 f3 b1 b2 t0 t1 HI HK
      simp only [nodeO] at HN HK2 HI2
      generalize wr.alloc _ = w1 at *
      generalize wr.heap.size = nb at *
      obtain ⟨c0, c1, c2, c3⟩ := HN.out.cs
      obtain ⟨t0, t1⟩ := HI2.out.cells
      by_cases hb : decide (e.sq < cur) = true
      · have hb2 := hb
        have HZ2 : Hid (wki 3 cur ei.pa L (k + 1) = (k : Int)) := wki_yes HE.out (by rw [HZ.out]; exact hb2)
        clear hb2
        go_wp2_with fail
        go_roundw
        case rel => exact ⟨k + 1, by omega, by go_num, by rw [HZ2.out], HI2.out, HK2.out⟩
        case measure => simp [intOf]; omega
      · have hb2 : decide (e.sq < cur) = false := by simpa using hb
        have HZ2 : Hid (wki 3 cur ei.pa L (k + 1) = Z) := (wki_no HE.out (by rw [HZ.out]; exact hb2)).trans HZ.out
        clear hb
        go_wp2_with fail
        go_roundw
        case rel => exact ⟨k + 1, by omega, by go_num, by rw [HZ2.out], HI2.out, HK2.out⟩
        case measure => simp [intOf]; omega
    · obtain rfl : k = n := by omega
      have b1 : decide ((k : Int) < (k : Int)) = false := by simp
      have b2 : decide (k < k) = false := by simp
      have hwl := wki_lt (way := 3) (cur := cur) (par := ei.pa) (L := L) k
      obtain ⟨Z, hZ⟩ : ∃ Z, wki 3 cur ei.pa L k = Z := ⟨_, rfl⟩
      rw [hZ] at hwl
      have hd := HD.out
      unfold wkR at hd
      rw [HHL.out, hZ] at hd
      rw [hZ]
      clear hZ
      by_cases hz : Z < 0
      · have p1 : decide (Z < 0) = true := decide_eq_true hz
        have HDE : Hid (D = wr0 6) := by show _ = _; rw [← hd]; split; · rw [if_pos hz]
                                         · rfl
        clear hd hz hwl
        obtain ⟨r0, r1, r2, r3⟩ := tree_facts HI.out.res
        go_wp2_with fail
        refine bodyPost_ret (res_t4 rfl _ _ (tb + 1) (.slice none 0 0) 0 rfl rfl (tree_set HI.out.res _ _)) rfl ?_
        rw [HDE.out]
        refine told0 ⟨rfl, ?_⟩
        exact HK.out.fresh (Kept.tree (g := tb + 1) (S := fun q => q = tb + 1) (Kept.refl (fun q => q = tb + 1) wr) rfl _ _) (fun b hb h => by have := HTB.out; omega)
      · obtain ⟨p, rfl⟩ : ∃ p : Nat, Z = (p : Int) := ⟨Z.toNat, by omega⟩
        have p1 : decide ((p : Int) < 0) = false := decide_eq_false hz
        have hpk : p < k := by omega
        obtain ⟨ep, hep⟩ : ∃ ep, L[p]? = some ep := ⟨_, List.getElem?_eq_getElem (by rw [HHL.out]; exact hpk)⟩
        have HDE : Hid (D = ⟨L, ep.sq, ep.tx, ep.at_, 0⟩) := by
          show _ = _
          rw [← hd, show ((p : Int)).toNat = p from rfl, hep]
          simp only
          rw [if_neg hz]
          rfl
        have cC := copytree_any (some ad) k c L cur wr HI.out.ng (by omega)
        have v1 : (0 : Int) ≤ (p : Int) := by omega
        have v2 : (p : Int) < (k : Int) := by omega
        have HEP := Lib.hid hep
        clear hd hz hwl hep
        go_upto_region 22 with (go_at_call 14; refine cC.mono ?_; rintro r w3 ⟨⟨v, rfl, hO⟩, hk3⟩; obtain ⟨A', c', rfl, _⟩ := hO.slice; have HO := Lib.hid hO; have HK03 := Lib.hid hk3; have HK3 := Lib.hid (HK.out.trans hk3); have HI3 := Lib.hid (HI.out.kept hk3); clear hk3 hO t0 t1 cC)
        rw [HHL.out] at *
        have hk4 : Kept (fun _ => False) w3 (w3.alloc (treeO (.slice A' k c') cur)) := (Kept.refl _ w3).alloc _
        have HI4 := Lib.hid (HI3.out.kept hk4)
        have HK34 := Lib.hid hk4
        have HLR : Hid (tb + 1 < wr.heap.size) := heap_lt HI.out.res
        have HK4 := Lib.hid (HK3.out.trans hk4)
        have HZ4 : Hid ((w3.alloc (treeO (.slice A' k c') cur)).heap[w3.heap.size]? = some (treeO (.slice A' k c') cur)) := heap_alloc_new w3 _
        have HS3 : Hid (tb + 1 < w3.heap.size) := heap_lt HI3.out.res
        simp only [treeO] at HI4 HK34 HK4 HZ4
        clear hk4
        generalize w3.alloc _ = w4 at *
        obtain ⟨zb, hzb⟩ : ∃ zb, w3.heap.size = zb := ⟨_, rfl⟩
        rw [hzb] at HZ4 HS3 ⊢
        have HZB := Lib.hid hzb
        obtain ⟨t0, t1⟩ := HI4.out.cells
        obtain ⟨z0, z1, z2, z3⟩ := tree_facts HZ4.out
        have h4 := (HI4.out.ng.nd HEP.out).2
        have f0 := h4.c0
        clear h4 hzb
        go_upto_region 23 with fail
        have hks : Kept (fun q => q = zb) w3 (w4.setCell ⟨zb, 1, none⟩ (.int .i64 ep.sq)) := (HK34.out.any (S := fun q => q = zb)).setCell (p := ⟨zb, 1, none⟩) rfl _
        have hks4 : Kept (fun q => q = zb) w4 (w4.setCell ⟨zb, 1, none⟩ (.int .i64 ep.sq)) := (Kept.refl (fun q => q = zb) w4).setCell (p := ⟨zb, 1, none⟩) rfl _
        have HO5 := Lib.hid (HO.out.keptL hks (fun q h1 h2 h3 => by have := HZB.out; omega))
        have HI5 := Lib.hid (HI4.out.keptS hks4 (fun q h1 h3 => by have := HS3.out; omega))
        have HZ5 : Hid ((w4.setCell ⟨zb, 1, none⟩ (.int .i64 ep.sq)).heap[zb]? = some (treeO (.slice A' k c') ep.sq)) := (heap_set HZ4.out _).trans rfl
        have HK5 := Lib.hid (HK4.out.fresh hks4 (fun q h1 h3 => by have := HS3.out; have := HTB.out; omega))
        clear hks hks4 t0 t1 z0 z1 z2 z3 f0
        generalize w4.setCell ⟨zb, 1, none⟩ (.int .i64 ep.sq) = w5 at *
        obtain ⟨t0, t1⟩ := HI5.out.cells
        have h4 := (HI5.out.ng.nd HEP.out).2
        have f2 := h4.c2
        have f3 := h4.c3
        have h5 := (HI5.out.ng.nd HEI.out).2
        have g2 := h5.c2
        clear h4 h5
        have hba : ∀ q : Nat, (ad.add (q * 4)).block = ad.block := fun q => by unfold Addr.add; split <;> rfl
        have KF : Hid (∀ W, Kept (fun q => q = tb + 1) w5 W → W.cell? ⟨tb, 0, none⟩ = some (.slice (some ad) k c) ∧ W.cell? ⟨(ad.add (p * 4)).block, (ad.add (p * 4)).off + 3, none⟩ = some (.string ep.tx) ∧ W.cell? ⟨zb, 0, none⟩ = some (.slice A' k c') ∧ W.cell? ⟨zb, 1, none⟩ = some (.int .i64 ep.sq)) := by
          show ∀ W, _
          intro W hk
          have h1 := HI5.out.lt
          have h2 := HS3.out
          have h3 := hba p
          exact ⟨cell_kept hk t0 (by show ¬ tb = tb + 1; omega), cell_kept hk f3 (by show ¬ (ad.add (p * 4)).block = tb + 1; omega), cell_kept hk (tree_facts HZ5.out).1 (by show ¬ zb = tb + 1; omega), cell_kept hk (tree_facts HZ5.out).2.1 (by show ¬ zb = tb + 1; omega)⟩
        have KA := KF.out w5.drew (Kept.refl _ w5).drew
        have HY6 := Lib.hid (heap_drew' (tree_set HI5.out.res (.slice A' k c') ep.sq))
        have HK6 : Hid (Kept (fun q => q = tb + 1) w5 ((w5.setCell ⟨tb + 1, 0, none⟩ (.slice A' k c')).setCell ⟨tb + 1, 1, none⟩ (.int .i64 ep.sq)).drew) := (Kept.tree (g := tb + 1) (S := fun q => q = tb + 1) (Kept.refl (fun q => q = tb + 1) w5) rfl _ _).drew
        have KG := KF.out _ HK6.out
        obtain ⟨r0, r1, r2, r3⟩ := tree_facts HI5.out.res
        clear hba f3
        go_upto_region 26 with fail
        clear f2 g2 t1
        have r4 : w5.drew.frozen? ⟨tb + 1, 0, none⟩ = false := r2
        have r5 : w5.drew.frozen? ⟨tb + 1, 1, none⟩ = false := r3
        have r6 : w5.drew.cell? ⟨tb + 1, 0, none⟩ = some (.slice none 0 0) := r0
        have r7 : w5.drew.cell? ⟨tb + 1, 1, none⟩ = some (.int .i64 0) := r1
        go_region_held3 (fun (W : World) => W.cell? ⟨tb, 0, none⟩ = some (.slice (some ad) k c) ∧ W.cell? ⟨(ad.add (p * 4)).block, (ad.add (p * 4)).off + 3, none⟩ = some (.string ep.tx) ∧ W.cell? ⟨zb, 0, none⟩ = some (.slice A' k c') ∧ W.cell? ⟨zb, 1, none⟩ = some (.int .i64 ep.sq))
          (first | with_reducible exact KG | with_reducible exact KA) (fail)
        all_goals
          go_wp2_with fail
          refine bodyPost_ret (res_t4 rfl _ _ (tb + 1) _ ep.sq rfl rfl HY6.out) rfl ?_
          rw [HDE.out]
          refine ⟨⟨_, rfl, ?ho⟩, ?hk⟩
          case ho =>
            have h1 := HO5.out.keptS HK6.out (fun q h1 h3 => by have := HS3.out; have := HLR.out; omega)
            exact h1.mono (by have := HTB.out; have := HLR.out; omega)
          case hk => exact HK5.out.fresh HK6.out (fun q h1 h3 => by have := HTB.out; omega)
set_option maxRecDepth 100000 in
set_option maxHeartbeats 8000000 in
theorem rwalk4_any (ad : Addr) (n c : Nat) (L : List NodeS) (cur : Int) (w : World) (hA : Ng w (some ad) n L) (hn1 : 1 ≤ n) (hn : n ≤ 64) (hT : Tabs w) (i : Nat) (ei : NodeS) (hi : idx L cur = (i : Nat)) (hei : L[i]? = some ei) :
    Calls Tryd.prog 12 #[treeV (.slice (some ad) n c) cur, .int .i64 4] w (Told w (wkR 4 L cur ei)) := by
  obtain ⟨D, hD⟩ : ∃ D, wkR 4 L cur ei = D := ⟨_, rfl⟩
  rw [hD]
  have HD := Lib.hid hD
  have hl := hA.len
  have HK0 : Hid (Kept (fun _ => False) w ((w.alloc (treeO (.slice (some ad) n c) cur)).alloc nilT)) := ((Kept.refl _ w).alloc _).alloc _
  have HI0 := Lib.hid (tri_new (c := c) (cur := cur) hT hA hn1)
  obtain ⟨tb, htb⟩ : ∃ tb, w.heap.size = tb := ⟨_, rfl⟩
  have HTB := Lib.hid htb
  rw [htb] at HI0
  have HHL := Lib.hid hl
  have HEI := Lib.hid hei
  have hin : i < n := (hA.nd hei).1
  have cN := fun W (h : TrI ad n c L cur tb W) => rnode_any (some ad) n c L cur cur W h.ng (by omega)
  rw [hi] at cN
  have i1 : (0 : Int) ≤ (i : Int) := by omega
  have i2 : (i : Int) < (n : Int) := by omega
  clear htb hA hT hi hl hei hD
  go_enter Tryd.func12, Tryd.ntmps12
  go_upto_region 1 with fail
  simp only [HTB.out]
  simp only [treeO, nilT] at HI0 HK0
  generalize (w.alloc _).alloc _ = w0 at *
  obtain ⟨t0, t1⟩ := HI0.out.cells
  have cN0 := cN w0 HI0.out
  go_upto_region 4 with (go_at_call 13; refine cN0.mono ?_; rintro r w1 ⟨rfl, hk1⟩; have HK1 := Lib.hid (HK0.out.trans hk1); have HI1 := Lib.hid (HI0.out.kept hk1); clear hk1 t0 t1 cN0 cN)
  go_loopw [9, 10] (fun v kk wr => ∃ k : Nat, k ≤ n ∧ kk = .int .i64 k ∧ v = .int .i64 (wki 4 cur ei.pa L k) ∧ TrI ad n c L cur tb wr ∧ Kept (fun _ => False) w wr) (fun _ kk _ => n - (intOf kk).toNat)
  case atStart => exact ⟨0, Nat.zero_le _, rfl, rfl, HI1.out, HK1.out⟩
  case round =>
    obtain ⟨k, hk, rfl, rfl, hir, hkr⟩ := hrel
    have HI := Lib.hid hir
    have HK := Lib.hid hkr
    clear hir hkr
    obtain ⟨t0, t1⟩ := HI.out.cells
    by_cases hlt : k < n
    · obtain ⟨e, he⟩ : ∃ e, L[k]? = some e := ⟨_, List.getElem?_eq_getElem (by rw [HHL.out]; exact hlt)⟩
      have HE := Lib.hid he
      have h4 := (HI.out.ng.nd he).2
      have f0 := h4.c0
      have f1 := h4.c1
      have f2 := h4.c2
      have f3 := h4.c3
      have HN : Hid (Nd4 (wr.alloc (nodeO e)) ⟨wr.heap.size, 0, none⟩ e) := nd4_new
      have hk1 : Kept (fun _ => False) wr (wr.alloc (nodeO e)) := (Kept.refl _ wr).alloc _
      have HI2 := Lib.hid (HI.out.kept hk1)
      have HK2 := Lib.hid (HK.out.trans hk1)
      have b1 : decide ((k : Int) < (n : Int)) = true := decide_eq_true (by omega)
      have b2 : decide (k < n) = true := decide_eq_true hlt
      have u1 : (0 : Int) ≤ (k : Int) := by omega
      have u2 : (k : Int) < (n : Int) := by omega
      obtain ⟨Z, hZ⟩ : ∃ Z, wki 4 cur ei.pa L k = Z := ⟨_, rfl⟩
      have HZ := Lib.hid hZ
      rw [hZ]
      clear h4 hk1 he hZ
      go_upto_region 7 with fail
      clear f0 f1 f2 f3 b1 b2 t0 t1 HI HK
      simp only [nodeO] at HN HK2 HI2
      generalize wr.alloc _ = w1 at *
      generalize wr.heap.size = nb at *
      obtain ⟨c0, c1, c2, c3⟩ := HN.out.cs
      obtain ⟨t0, t1⟩ := HI2.out.cells
      by_cases hb : cur < e.sq
      · have p1 : decide (cur < e.sq) = true := decide_eq_true hb
        by_cases hz : Z < 0
        · have p2 : decide (Z < 0) = true := decide_eq_true hz
          have HZ2 : Hid (wki 4 cur ei.pa L (k + 1) = (k : Int)) := wki_yes HE.out (by rw [HZ.out]; show (decide (cur < e.sq) && decide (Z < 0)) = true; rw [p1, p2]; rfl)
          clear hb hz
          go_wp2_with fail
          go_roundw
          case rel => exact ⟨k + 1, by omega, by go_num, by rw [HZ2.out], HI2.out, HK2.out⟩
          case measure => simp [intOf]; omega
        · have p2 : decide (Z < 0) = false := decide_eq_false hz
          have HZ2 : Hid (wki 4 cur ei.pa L (k + 1) = Z) := (wki_no HE.out (by rw [HZ.out]; show (decide (cur < e.sq) && decide (Z < 0)) = false; rw [p1, p2]; rfl)).trans HZ.out
          clear hb hz
          go_wp2_with fail
          go_roundw
          case rel => exact ⟨k + 1, by omega, by go_num, by rw [HZ2.out], HI2.out, HK2.out⟩
          case measure => simp [intOf]; omega
      · have p1 : decide (cur < e.sq) = false := decide_eq_false hb
        have HZ2 : Hid (wki 4 cur ei.pa L (k + 1) = Z) := (wki_no HE.out (by rw [HZ.out]; show (decide (cur < e.sq) && decide (Z < 0)) = false; rw [p1]; rfl)).trans HZ.out
        clear hb
        go_wp2_with fail
        go_roundw
        case rel => exact ⟨k + 1, by omega, by go_num, by rw [HZ2.out], HI2.out, HK2.out⟩
        case measure => simp [intOf]; omega
    · obtain rfl : k = n := by omega
      have b1 : decide ((k : Int) < (k : Int)) = false := by simp
      have b2 : decide (k < k) = false := by simp
      have hwl := wki_lt (way := 4) (cur := cur) (par := ei.pa) (L := L) k
      obtain ⟨Z, hZ⟩ : ∃ Z, wki 4 cur ei.pa L k = Z := ⟨_, rfl⟩
      rw [hZ] at hwl
      have hd := HD.out
      unfold wkR at hd
      rw [HHL.out, hZ] at hd
      rw [hZ]
      clear hZ
      by_cases hz : Z < 0
      · have p1 : decide (Z < 0) = true := decide_eq_true hz
        have HDE : Hid (D = wr0 6) := by show _ = _; rw [← hd]; split; · rw [if_pos hz]
                                         · rfl
        clear hd hz hwl
        obtain ⟨r0, r1, r2, r3⟩ := tree_facts HI.out.res
        go_wp2_with fail
        refine bodyPost_ret (res_t4 rfl _ _ (tb + 1) (.slice none 0 0) 0 rfl rfl (tree_set HI.out.res _ _)) rfl ?_
        rw [HDE.out]
        refine told0 ⟨rfl, ?_⟩
        exact HK.out.fresh (Kept.tree (g := tb + 1) (S := fun q => q = tb + 1) (Kept.refl (fun q => q = tb + 1) wr) rfl _ _) (fun b hb h => by have := HTB.out; omega)
      · obtain ⟨p, rfl⟩ : ∃ p : Nat, Z = (p : Int) := ⟨Z.toNat, by omega⟩
        have p1 : decide ((p : Int) < 0) = false := decide_eq_false hz
        have hpk : p < k := by omega
        obtain ⟨ep, hep⟩ : ∃ ep, L[p]? = some ep := ⟨_, List.getElem?_eq_getElem (by rw [HHL.out]; exact hpk)⟩
        have HDE : Hid (D = ⟨L, ep.sq, ep.tx, ep.at_, 0⟩) := by
          show _ = _
          rw [← hd, show ((p : Int)).toNat = p from rfl, hep]
          simp only
          rw [if_neg hz]
          rfl
        have cC := copytree_any (some ad) k c L cur wr HI.out.ng (by omega)
        have v1 : (0 : Int) ≤ (p : Int) := by omega
        have v2 : (p : Int) < (k : Int) := by omega
        have HEP := Lib.hid hep
        clear hd hz hwl hep
        go_upto_region 22 with (go_at_call 14; refine cC.mono ?_; rintro r w3 ⟨⟨v, rfl, hO⟩, hk3⟩; obtain ⟨A', c', rfl, _⟩ := hO.slice; have HO := Lib.hid hO; have HK03 := Lib.hid hk3; have HK3 := Lib.hid (HK.out.trans hk3); have HI3 := Lib.hid (HI.out.kept hk3); clear hk3 hO t0 t1 cC)
        rw [HHL.out] at *
        have hk4 : Kept (fun _ => False) w3 (w3.alloc (treeO (.slice A' k c') cur)) := (Kept.refl _ w3).alloc _
        have HI4 := Lib.hid (HI3.out.kept hk4)
        have HK34 := Lib.hid hk4
        have HLR : Hid (tb + 1 < wr.heap.size) := heap_lt HI.out.res
        have HK4 := Lib.hid (HK3.out.trans hk4)
        have HZ4 : Hid ((w3.alloc (treeO (.slice A' k c') cur)).heap[w3.heap.size]? = some (treeO (.slice A' k c') cur)) := heap_alloc_new w3 _
        have HS3 : Hid (tb + 1 < w3.heap.size) := heap_lt HI3.out.res
        simp only [treeO] at HI4 HK34 HK4 HZ4
        clear hk4
        generalize w3.alloc _ = w4 at *
        obtain ⟨zb, hzb⟩ : ∃ zb, w3.heap.size = zb := ⟨_, rfl⟩
        rw [hzb] at HZ4 HS3 ⊢
        have HZB := Lib.hid hzb
        obtain ⟨t0, t1⟩ := HI4.out.cells
        obtain ⟨z0, z1, z2, z3⟩ := tree_facts HZ4.out
        have h4 := (HI4.out.ng.nd HEP.out).2
        have f0 := h4.c0
        clear h4 hzb
        go_upto_region 23 with fail
        have hks : Kept (fun q => q = zb) w3 (w4.setCell ⟨zb, 1, none⟩ (.int .i64 ep.sq)) := (HK34.out.any (S := fun q => q = zb)).setCell (p := ⟨zb, 1, none⟩) rfl _
        have hks4 : Kept (fun q => q = zb) w4 (w4.setCell ⟨zb, 1, none⟩ (.int .i64 ep.sq)) := (Kept.refl (fun q => q = zb) w4).setCell (p := ⟨zb, 1, none⟩) rfl _
        have HO5 := Lib.hid (HO.out.keptL hks (fun q h1 h2 h3 => by have := HZB.out; omega))
        have HI5 := Lib.hid (HI4.out.keptS hks4 (fun q h1 h3 => by have := HS3.out; omega))
        have HZ5 : Hid ((w4.setCell ⟨zb, 1, none⟩ (.int .i64 ep.sq)).heap[zb]? = some (treeO (.slice A' k c') ep.sq)) := (heap_set HZ4.out _).trans rfl
        have HK5 := Lib.hid (HK4.out.fresh hks4 (fun q h1 h3 => by have := HS3.out; have := HTB.out; omega))
        clear hks hks4 t0 t1 z0 z1 z2 z3 f0
        generalize w4.setCell ⟨zb, 1, none⟩ (.int .i64 ep.sq) = w5 at *
        obtain ⟨t0, t1⟩ := HI5.out.cells
        have h4 := (HI5.out.ng.nd HEP.out).2
        have f2 := h4.c2
        have f3 := h4.c3
        have h5 := (HI5.out.ng.nd HEI.out).2
        have g2 := h5.c2
        clear h4 h5
        have hba : ∀ q : Nat, (ad.add (q * 4)).block = ad.block := fun q => by unfold Addr.add; split <;> rfl
        have KF : Hid (∀ W, Kept (fun q => q = tb + 1) w5 W → W.cell? ⟨tb, 0, none⟩ = some (.slice (some ad) k c) ∧ W.cell? ⟨(ad.add (p * 4)).block, (ad.add (p * 4)).off + 3, none⟩ = some (.string ep.tx) ∧ W.cell? ⟨zb, 0, none⟩ = some (.slice A' k c') ∧ W.cell? ⟨zb, 1, none⟩ = some (.int .i64 ep.sq)) := by
          show ∀ W, _
          intro W hk
          have h1 := HI5.out.lt
          have h2 := HS3.out
          have h3 := hba p
          exact ⟨cell_kept hk t0 (by show ¬ tb = tb + 1; omega), cell_kept hk f3 (by show ¬ (ad.add (p * 4)).block = tb + 1; omega), cell_kept hk (tree_facts HZ5.out).1 (by show ¬ zb = tb + 1; omega), cell_kept hk (tree_facts HZ5.out).2.1 (by show ¬ zb = tb + 1; omega)⟩
        have KA := KF.out w5.drew (Kept.refl _ w5).drew
        have HY6 := Lib.hid (heap_drew' (tree_set HI5.out.res (.slice A' k c') ep.sq))
        have HK6 : Hid (Kept (fun q => q = tb + 1) w5 ((w5.setCell ⟨tb + 1, 0, none⟩ (.slice A' k c')).setCell ⟨tb + 1, 1, none⟩ (.int .i64 ep.sq)).drew) := (Kept.tree (g := tb + 1) (S := fun q => q = tb + 1) (Kept.refl (fun q => q = tb + 1) w5) rfl _ _).drew
        have KG := KF.out _ HK6.out
        obtain ⟨r0, r1, r2, r3⟩ := tree_facts HI5.out.res
        clear hba f3
        go_upto_region 26 with fail
        clear f2 g2 t1
        have r4 : w5.drew.frozen? ⟨tb + 1, 0, none⟩ = false := r2
        have r5 : w5.drew.frozen? ⟨tb + 1, 1, none⟩ = false := r3
        have r6 : w5.drew.cell? ⟨tb + 1, 0, none⟩ = some (.slice none 0 0) := r0
        have r7 : w5.drew.cell? ⟨tb + 1, 1, none⟩ = some (.int .i64 0) := r1
        go_region_held3 (fun (W : World) => W.cell? ⟨tb, 0, none⟩ = some (.slice (some ad) k c) ∧ W.cell? ⟨(ad.add (p * 4)).block, (ad.add (p * 4)).off + 3, none⟩ = some (.string ep.tx) ∧ W.cell? ⟨zb, 0, none⟩ = some (.slice A' k c') ∧ W.cell? ⟨zb, 1, none⟩ = some (.int .i64 ep.sq))
          (first | with_reducible exact KG | with_reducible exact KA) (fail)
        all_goals
          go_wp2_with fail
          refine bodyPost_ret (res_t4 rfl _ _ (tb + 1) _ ep.sq rfl rfl HY6.out) rfl ?_
          rw [HDE.out]
          refine ⟨⟨_, rfl, ?ho⟩, ?hk⟩
          case ho =>
            have h1 := HO5.out.keptS HK6.out (fun q h1 h3 => by have := HS3.out; have := HLR.out; omega)
            exact h1.mono (by have := HTB.out; have := HLR.out; omega)
          case hk => exact HK5.out.fresh HK6.out (fun q h1 h3 => by have := HTB.out; omega)
end Go.Proofs.YthbfmdnibijapaaDoor
