/-
  HISTORY: its tree told.
  THE LAW's remainders.
-/
import Derived.Test.YthbfmdnibijapaaDoorHz26
import Derived.Test.YthbfmdnibijapaaDoorUnT
set_option linter.unusedVariables false
namespace Go.Proofs.YthbfmdnibijapaaDoor
open Go Go.RowKit

structure Tw (F : List NodeS) (most : Int) (ad : Addr) (n c : Nat) (cur : Int) (mb hb : Nat) (s : ByteArray) (k : Int) (kv : List (Int × Value)) (tb rb g c' : Nat) (w6 : World) (j : Nat) (W : World) : Prop where
  bx : W.heap[tb]? = some (treeO (.slice (some ⟨g, 0, none⟩) (blank F).length c') cur)
  og : Og W g (blank F).length c' (backK F j)
  hq : Hq most ad n c (blank F) cur mb hb s k kv W
  rs : W.heap[rb]? = some nilT
  kp : Kept (fun q => q = g) w6 W
theorem Tw.kept {F : List NodeS} {most : Int} {ad : Addr} {n c : Nat} {cur : Int} {mb hb : Nat} {s : ByteArray} {k : Int} {kv : List (Int × Value)} {tb rb g c' : Nat} {w6 : World} {j : Nat} {W W' : World} (h : Tw F most ad n c cur mb hb s k kv tb rb g c' w6 j W) (hk : Kept (fun _ => False) W W') : Tw F most ad n c cur mb hb s k kv tb rb g c' w6 j W' :=
  ⟨(hk.block _ (heap_lt h.bx) id).trans h.bx, h.og.kept hk id, h.hq.kept hk, (hk.block _ (heap_lt h.rs) id).trans h.rs, h.kp.trans hk.any⟩
theorem backK_idx (L : List NodeS) (k : Nat) (z : Int) : idx (backK L k) z = idx L z := by
  have e : ∀ M : List NodeS, idx M z = (match (M.map NodeS.sq).findIdx? (fun a => decide (a = z)) with | some i => ((i : Nat) : Int) | none => -1) := by
    intro M
    unfold idx
    rw [List.findIdx?_map]
    rfl
  have h : (backK L k).map NodeS.sq = L.map NodeS.sq := by
    unfold backK blank
    rw [List.map_append, ← List.map_drop, List.map_map]
    show (L.take k).map NodeS.sq ++ (L.drop k).map NodeS.sq = _
    rw [← List.map_append, List.take_append_drop]
  rw [e, e, h]
theorem Tw.step {F : List NodeS} {most : Int} {ad : Addr} {n c : Nat} {cur : Int} {mb hb : Nat} {s : ByteArray} {k : Int} {kv : List (Int × Value)} {tb rb g c' : Nat} {w6 : World} {j : Nat} {W : World} (h : Tw F most ad n c cur mb hb s k kv tb rb g c' w6 j W) {x : NodeS} (hx : F[j]? = some x) (hg : tb ≠ g ∧ rb ≠ g ∧ hb ≠ g ∧ mb ≠ g ∧ ad.block ≠ g ∧ 1 < g) : Tw F most ad n c cur mb hb s k kv tb rb g c' w6 (j + 1) (W.setCell ⟨g, j * 4 + 3, none⟩ (.string x.tx)) := by
  have hk : Kept (fun q => q = g) W (W.setCell ⟨g, j * 4 + 3, none⟩ (.string x.tx)) := (Kept.refl (fun q => q = g) W).setCell (p := ⟨g, j * 4 + 3, none⟩) rfl _
  have hbj : (backK F j)[j]? = some ⟨x.sq, x.pa, x.at_, ⟨#[]⟩⟩ := by rw [backK_hi (Nat.le_refl _)]; exact blank_get hx
  have hog := h.og.setTx hbj x.tx
  have hset : (backK F j).set j ⟨x.sq, x.pa, x.at_, x.tx⟩ = backK F (j + 1) := backK_step hx
  rw [hset] at hog
  exact ⟨(hk.block _ (heap_lt h.bx) hg.1).trans h.bx, hog, ⟨h.hq.tabs.kept hk (by omega) (by omega), (hk.block _ (heap_lt h.hq.box) hg.2.2.1).trans h.hq.box, h.hq.ng.kept hk (fun a ha => by injection ha with ha; subst ha; exact hg.2.2.2.2.1), h.hq.mp.kept hk hg.2.2.2.1, h.hq.lo⟩, (hk.block _ (heap_lt h.rs) hg.2.1).trans h.rs, h.kp.trans hk⟩
theorem Tw.base {F : List NodeS} {most : Int} {ad : Addr} {n c : Nat} {cur : Int} {mb hb : Nat} {s : ByteArray} {k : Int} {kv : List (Int × Value)} {tb rb g c' : Nat} {w6 : World} {j : Nat} {W : World} (h : Tw F most ad n c cur mb hb s k kv tb rb g c' w6 j W) {w' : World} (hk : Kept (fun q => q = g) W w') (hog : Og w' g (blank F).length c' (backK F j)) (hg : tb ≠ g ∧ rb ≠ g ∧ hb ≠ g ∧ mb ≠ g ∧ ad.block ≠ g ∧ 1 < g) : Tw F most ad n c cur mb hb s k kv tb rb g c' w6 j w' :=
  ⟨(hk.block _ (heap_lt h.bx) hg.1).trans h.bx, hog, ⟨h.hq.tabs.kept hk (by omega) (by omega), (hk.block _ (heap_lt h.hq.box) hg.2.2.1).trans h.hq.box, h.hq.ng.kept hk (fun a ha => by injection ha with ha; subst ha; exact hg.2.2.2.2.1), h.hq.mp.kept hk hg.2.2.2.1, h.hq.lo⟩, (hk.block _ (heap_lt h.rs) hg.2.1).trans h.rs, h.kp.trans hk⟩
section
variable {most : Nat} {ad : Addr} {n c : Nat} {cur : Int} {mb hb : Nat} {s : ByteArray} {k : Int} {kv : List (Int × Value)}
set_option maxRecDepth 100000 in
set_option maxHeartbeats 8000000 in
theorem htree0 (F : List NodeS) (w : World) (h : Hq most ad n c (blank F) cur mb hb s k kv w) (hnc : n ≤ c) (hn : n ≤ 64) (hl1 : 1 ≤ (blank F).length) (hTr : Tr8 F) (hG : Good (blank F) kv (treeG F)) (hcur : 0 ≤ idx F cur) (hs : s = txAt F cur) (hroot : ∀ x, F[0]? = some x → x.sq = 0) (hmb : mb < w.heap.size) (hadb : ad.block < w.heap.size) :
    Calls Tryd.prog 19 #[.pointer (some ⟨hb, 0, none⟩)] w fun r w' => (∃ v, r = .returned (treeV v cur) ∧ On w' w.heap.size v F) ∧ Kept (fun _ => False) w w' := by
  have hk0 : Kept (fun _ => False) w (w.alloc nilT) := (Kept.refl _ w).alloc _
  have HQ4 := Lib.hid (h.kept hk0)
  have HK4 := Lib.hid hk0
  have HRB := Lib.hid (heap_alloc_new w nilT)
  have HLL : Hid ((blank F).length = n) := h.ng.len
  have cC := fun W (h : Hq most ad n c (blank F) cur mb hb s k kv W) => nclone_any (some ad) n c (blank F) W h.ng (fun h => by cases h) (by omega)
  have HCC := Lib.hid cC
  have HLO := Lib.hid h.lo
  have HFAR : Hid (hb < w.heap.size ∧ mb < w.heap.size ∧ ad.block < w.heap.size) := ⟨heap_lt h.box, hmb, hadb⟩
  have HTR := Lib.hid hTr
  have HGD := Lib.hid hG
  have HRT := Lib.hid hroot
  obtain ⟨i, e, hi, he, hse⟩ := idx_some hcur
  obtain ⟨x0, hx0⟩ : ∃ x0, F[0]? = some x0 := ⟨_, List.getElem?_eq_getElem (by rw [← blank_len]; exact hl1)⟩
  have hx0s := hroot x0 hx0
  obtain ⟨U, D, Q, hW, hch, hlast, hmay, hql, hle⟩ := way_ex hTr (i + 0) i 0 e x0 rfl he hx0
  have hil : i < 64 := by have := get_lt he; have := hTr.le; omega
  have hes : s = e.tx := by rw [hs, ← hse]; exact txAt_eq hTr he
  have hcur0 : 0 ≤ cur := by rw [← hse]; exact hTr.ord.ge e (List.mem_of_getElem? he)
  rw [hse, hx0s] at hW
  rw [← hes] at hch hlast
  have hmay' : ∀ t ∈ s :: Q, mayB t = true := by
    intro t ht
    rcases List.mem_cons.1 ht with ht | ht
    · rw [ht, hes]; exact hTr.may e (List.mem_of_getElem? he)
    · exact hmay t ht
  have hn2 := hn
  have cP := fun W (h : Hq most ad n c (blank F) cur mb hb s k kv W) => path_gen (treeG F) cur 0 U D W h hn2 hG hW (by omega) (by omega) hcur0 (by omega)
  rw [hch] at cP
  have HCP := Lib.hid cP
  have HCA : Hid (∀ A m cc W, Ps W A m (chain s Q) → Tabs W → Calls Tryd.prog 38 #[.string s, .slice A m cc] W fun e w' => e = .returned (.string x0.tx) ∧ Kept (fun _ => False) W w') := fun A m cc W hP hT => happly_any A m cc s Q W hP hT (by have := hP.len; rw [chain_len] at this; omega) hmay' x0.tx hlast
  have HX0 := Lib.hid hx0
  obtain ⟨N2, hN2⟩ : ∃ N2, (chain s Q).length = N2 := ⟨_, rfl⟩
  have HN2 := Lib.hid hN2
  clear cP hn2 hmay' hN2 hcur0 hes hil hle hql hmay hlast hch hW hx0s hx0 hse he hi hTr hG hcur hs hroot hmb hadb
  obtain ⟨rb, hrb⟩ : ∃ rb, w.heap.size = rb := ⟨_, rfl⟩
  have HRS := Lib.hid hrb
  rw [hrb] at HRB
  clear h hk0 cC hrb
  go_enter Tryd.func19, Tryd.ntmps19
  go_upto_region 1 with fail
  simp only [HRS.out]
  simp only [nilT, treeO] at HQ4 HK4 HRB
  generalize w.alloc _ = w4 at *
  have KF : Hid (∀ W, Kept (fun _ => False) w4 W → W.cell? ⟨hb, 0, none⟩ = some (.int .i64 most) ∧ W.cell? ⟨hb, 1, none⟩ = some (.slice (some ad) n c) ∧ W.cell? ⟨hb, 2, none⟩ = some (.int .i64 cur)) := by
    show ∀ W, _
    intro W hk
    have hb' := (HQ4.out.kept hk).box
    exact ⟨(hist_facts hb').1, (hist_facts hb').2.1, (hist_facts hb').2.2.1⟩
  have KFC : Hid (∀ W, Kept (fun _ => False) w4 W → ∀ o, (W.alloc o).cell? ⟨hb, 0, none⟩ = some (.int .i64 most) ∧ (W.alloc o).cell? ⟨hb, 1, none⟩ = some (.slice (some ad) n c) ∧ (W.alloc o).cell? ⟨hb, 2, none⟩ = some (.int .i64 cur)) := fun W hk o => KF.out _ (hk.alloc o)
  have KFD : Hid (∀ W, Kept (fun _ => False) w4 W → ∀ o v0 v1, (((W.alloc o).setCell ⟨W.heap.size, 0, none⟩ v0).setCell ⟨W.heap.size, 1, none⟩ v1).cell? ⟨hb, 0, none⟩ = some (.int .i64 most) ∧ (((W.alloc o).setCell ⟨W.heap.size, 0, none⟩ v0).setCell ⟨W.heap.size, 1, none⟩ v1).cell? ⟨hb, 1, none⟩ = some (.slice (some ad) n c) ∧ (((W.alloc o).setCell ⟨W.heap.size, 0, none⟩ v0).setCell ⟨W.heap.size, 1, none⟩ v1).cell? ⟨hb, 2, none⟩ = some (.int .i64 cur)) := fun W hk o v0 v1 => KF.out _ (fresh_tree hk o v0 v1)
  have KA := KF.out w4.drew (Kept.refl _ w4).drew
  have HD := Lib.hid (HQ4.out.kept (Kept.refl (fun _ => False) w4).drew)
  have KAC : Hid (∀ o, (w4.alloc o).drew.cell? ⟨hb, 0, none⟩ = some (.int .i64 most) ∧ (w4.alloc o).drew.cell? ⟨hb, 1, none⟩ = some (.slice (some ad) n c) ∧ (w4.alloc o).drew.cell? ⟨hb, 2, none⟩ = some (.int .i64 cur)) := fun o => KF.out _ (((Kept.refl (fun _ => False) w4).alloc o).drew)
  have HDC : Hid (∀ o, Hq most ad n c (blank F) cur mb hb s k kv ((w4.alloc o).drew)) := fun o => HQ4.out.kept (((Kept.refl (fun _ => False) w4).alloc o).drew)
  have HKA : Hid (∀ o, Kept (fun _ => False) w4 ((w4.alloc o).drew)) := fun o => ((Kept.refl (fun _ => False) w4).alloc o).drew
  have KFE : Hid (∀ o W, Kept (fun _ => False) ((w4.alloc o).drew) W → ∀ v0 v1, ((W.setCell ⟨w4.heap.size, 0, none⟩ v0).setCell ⟨w4.heap.size, 1, none⟩ v1).cell? ⟨hb, 0, none⟩ = some (.int .i64 most) ∧ ((W.setCell ⟨w4.heap.size, 0, none⟩ v0).setCell ⟨w4.heap.size, 1, none⟩ v1).cell? ⟨hb, 1, none⟩ = some (.slice (some ad) n c) ∧ ((W.setCell ⟨w4.heap.size, 0, none⟩ v0).setCell ⟨w4.heap.size, 1, none⟩ v1).cell? ⟨hb, 2, none⟩ = some (.int .i64 cur)) := fun o W hk v0 v1 => KF.out _ (((HKA.out o).trans hk).fresh (((Kept.refl (fun q => q = w4.heap.size) W).setCell (p := ⟨w4.heap.size, 0, none⟩) rfl v0).setCell (p := ⟨w4.heap.size, 1, none⟩) rfl v1) (fun q hq e => by omega))
  have KFO : Hid (∀ o W, Kept (fun _ => False) ((w4.alloc o).drew) W → W.heap[w4.heap.size]? = some o) := fun o W hk => (hk.block _ (heap_lt (w := (w4.alloc o).drew) (heap_alloc_new w4 o)) id).trans (heap_alloc_new w4 o)
  go_region_held3 (fun (W : World) => W.cell? ⟨hb, 0, none⟩ = some (.int .i64 most) ∧ W.cell? ⟨hb, 1, none⟩ = some (.slice (some ad) n c) ∧ W.cell? ⟨hb, 2, none⟩ = some (.int .i64 cur))
    (first | with_reducible exact KB | with_reducible exact KA | with_reducible exact KAC.out _ | with_reducible exact KC.out _ | with_reducible exact KD.out _ _ _ | with_reducible exact KE.out _ _ | fail)
    (first
      | (go_at_call 37; refine (HCC.out _ HD.out).mono ?_; rintro r w5 ⟨⟨v, rfl, hO⟩, hk5⟩; obtain ⟨g, c', rfl, hBg, hog⟩ := hO.og' rfl hl1; have HK45 := Lib.hid ((Kept.refl (fun _ => False) w4).drew.trans hk5); have KB := KF.out w5 HK45.out; have KC := Lib.hid (KFC.out w5 HK45.out); have KD := Lib.hid (KFD.out w5 HK45.out); have HE := Lib.hid (c5_a cur HK45.out hog hBg); clear hk5 hO hog hBg)
      | (go_at_call 37; refine (HCC.out _ (HDC.out _)).mono ?_; rintro r w5 ⟨⟨v, rfl, hO⟩, hk5⟩; obtain ⟨g, c', rfl, hBg, hog⟩ := hO.og' rfl hl1; have HK45 := Lib.hid ((HKA.out _).trans hk5); have KB := KF.out w5 HK45.out; have KE := Lib.hid (KFE.out _ w5 hk5); have HT5 := Lib.hid (KFO.out _ w5 hk5); obtain ⟨r0, r1, r2, r3⟩ := tree_facts HT5.out; have HE := Lib.hid (c5_b cur HK45.out hog (by simpa using hBg) HT5.out); clear hk5 hO hog hBg))
  all_goals
    try simp only [treeO] at HE
    first
      | (obtain ⟨tb, htb⟩ : ∃ tb, w5.heap.size = tb := ⟨_, rfl⟩
         simp only [htb] at HE ⊢
         generalize w5.alloc _ = w6 at *)
      | (obtain ⟨tb, htb⟩ : ∃ tb, w4.heap.size = tb := ⟨_, rfl⟩
         simp only [htb] at HE ⊢
         generalize (w5.setCell ⟨tb, 0, none⟩ (.slice (some ⟨g, 0, none⟩) (blank F).length c')).setCell ⟨tb, 1, none⟩ (.int .i64 cur) = w6 at HE ⊢)
    have HTW : Hid (Tw F most ad n c cur mb hb s k kv tb rb g c' w6 0 w6) := ⟨HE.out.ht, HE.out.og, HQ4.out.kept HE.out.hk, (HE.out.hk.block _ (heap_lt HRB.out) id).trans HRB.out, Kept.refl _ _⟩
    obtain ⟨N, hN⟩ : ∃ N, (blank F).length = N := ⟨_, rfl⟩
    have HN := Lib.hid hN
    have hN64 : N ≤ 64 := by have := HLL.out; omega
    obtain ⟨t0, t1, _⟩ := tree_facts HE.out.ht
    have HGG : Hid (tb ≠ g ∧ rb ≠ g ∧ hb ≠ g ∧ mb ≠ g ∧ ad.block ≠ g ∧ 1 < g) := by
      show _ ∧ _
      have h1 := HE.out.lo
      have h2 := HFAR.out
      have h3 := HK4.out.size
      have h4 := heap_lt HRB.out
      have h5 := HLO.out
      have h6 : tb ≠ g := by
        rintro rfl
        have h7 := HE.out.ht
        obtain ⟨cs, h8, _⟩ := HE.out.og.row
        rw [h8] at h7
        injection h7 with h7
        injection h7 with _ h7
        exact absurd h7 (by decide)
      exact ⟨h6, by omega, by omega, by omega, by omega, by omega⟩
    rw [hN] at t0 ⊢
    go_wp2_with fail
    clear t0 t1
    go_loopw [21] (fun v wr => ∃ j : Nat, j ≤ N ∧ v = .int .i64 j ∧ Tw F most ad n c cur mb hb s k kv tb rb g c' w6 j wr) (fun v _ => N - (intOf v).toNat)
    case atStart => exact ⟨0, Nat.zero_le _, rfl, HTW.out⟩
    case round =>
      obtain ⟨j, hj, rfl, ht⟩ := hrel
      have HT := Lib.hid ht
      clear ht
      by_cases hlt : j < N
      · obtain ⟨x, hx⟩ : ∃ x, F[j]? = some x := ⟨_, List.getElem?_eq_getElem (by have := HN.out; have := blank_len F; omega)⟩
        have hbj : (backK F j)[j]? = some ⟨x.sq, x.pa, x.at_, ⟨#[]⟩⟩ := by rw [backK_hi (Nat.le_refl _)]; exact blank_get hx
        have e0 : wr.cell? ⟨g, j * 4, none⟩ = some (.int .i64 x.sq) := HT.out.og.cell (flatN_get hbj (f := 0) rfl)
        have e1 : wr.cell? ⟨g, j * 4 + 1, none⟩ = some (.int .i64 x.pa) := HT.out.og.cell (flatN_get hbj (f := 1) rfl)
        have e2 : wr.cell? ⟨g, j * 4 + 2, none⟩ = some (.int .i64 x.at_) := HT.out.og.cell (flatN_get hbj (f := 2) rfl)
        have e3 : wr.cell? ⟨g, j * 4 + 3, none⟩ = some (.string ⟨#[]⟩) := HT.out.og.cell (flatN_get hbj (f := 3) rfl)
        have b1 : decide (j < N) = true := decide_eq_true hlt
        have b2 : decide ((j : Int) < (N : Int)) = true := decide_eq_true (by omega)
        have y1 : (0 : Int) ≤ (j : Int) := by omega
        have y2 : (j : Int) < (N : Int) := by omega
        have HTa := Lib.hid (HT.out.kept ((Kept.refl (fun _ => False) wr).alloc (nodeO ⟨x.sq, x.pa, x.at_, ⟨#[]⟩⟩)))
        have HNa := Lib.hid (nd4_new (w := wr) (e := ⟨x.sq, x.pa, x.at_, ⟨#[]⟩⟩))
        have HX := Lib.hid hx
        clear hx hbj
        go_upto_region 5 with fail
        clear e0 e1 e2 e3
        obtain ⟨nb, hnb⟩ : ∃ nb, wr.heap.size = nb := ⟨_, rfl⟩
        simp only [nodeO] at HTa HNa
        simp only [hnb] at HNa ⊢
        have HGN : Hid (g < nb) := by
          show _ < _
          rw [← hnb]
          exact HT.out.og.lt
        clear hnb
        generalize wr.alloc _ = wa at *
        by_cases h0 : j = 0
        · have b3 : ((j : Int) == 0) = true := by subst h0; rfl
          have hxx : x = x0 := by
            have h1 := HX.out
            rw [h0, HX0.out] at h1
            injection h1 with h1
            exact h1.symm
          subst hxx
          clear h0
          go_upto_region 6 with fail
          have KT : Hid (∀ jj W, Tw F most ad n c cur mb hb s k kv tb rb g c' w6 jj W → W.cell? ⟨tb, 0, none⟩ = some (.slice (some ⟨g, 0, none⟩) N c') ∧ W.cell? ⟨tb, 1, none⟩ = some (.int .i64 cur) ∧ W.cell? ⟨hb, 4, none⟩ = some (.string s)) := by
            show ∀ jj W, _
            intro jj W hT
            have ⟨u0, u1, _⟩ := tree_facts hT.bx
            rw [HN.out] at u0
            exact ⟨u0, u1, (hist_facts hT.hq.box).2.2.2.2.1⟩
          have KF : Hid (∀ W, Kept (fun _ => False) wa W → W.cell? ⟨tb, 0, none⟩ = some (.slice (some ⟨g, 0, none⟩) N c') ∧ W.cell? ⟨tb, 1, none⟩ = some (.int .i64 cur) ∧ W.cell? ⟨hb, 4, none⟩ = some (.string s)) := fun W hk => KT.out _ _ (HTa.out.kept hk)
          have KS : Hid (∀ W, Kept (fun _ => False) wa W → W.cell? ⟨g, j * 4 + 3, none⟩ = some (.string ⟨#[]⟩) ∧ W.frozen? ⟨g, j * 4 + 3, none⟩ = false) := by
            show ∀ W, _
            intro W hk
            have hT := HTa.out.kept hk
            exact ⟨hT.og.cell (flatN_get (e := ⟨x.sq, x.pa, x.at_, ⟨#[]⟩⟩) (by rw [backK_hi (Nat.le_refl _)]; exact blank_get HX.out) (f := 3) rfl), hT.og.free _⟩
          have KA := KF.out wa.drew (Kept.refl _ wa).drew
          have HD := Lib.hid (HTa.out.kept (Kept.refl (fun _ => False) wa).drew)
          go_region_held3 (fun (W : World) => W.cell? ⟨tb, 0, none⟩ = some (.slice (some ⟨g, 0, none⟩) N c') ∧ W.cell? ⟨tb, 1, none⟩ = some (.int .i64 cur) ∧ W.cell? ⟨hb, 4, none⟩ = some (.string s))
            (first | with_reducible exact KD | with_reducible exact KC | with_reducible exact KB | with_reducible exact KA | fail)
            (first
              | (go_at_call 39; refine (HCP.out _ HD.out.hq).mono ?_; rintro r w2 ⟨⟨v, rfl, hO⟩, hk2⟩; obtain ⟨AP, cP, rfl, hP, _, _, _⟩ := hO.ps; have HK2 := Lib.hid ((Kept.refl (fun _ => False) wa).drew.trans hk2); have KB := KF.out w2 HK2.out; have HQ2 := Lib.hid (HTa.out.kept HK2.out); have HP := Lib.hid hP; clear hk2 hO hP HCP)
              | (go_at_call 38; refine (HCA.out _ _ _ _ HP.out HQ2.out.hq.tabs).mono ?_; rintro r w3 ⟨rfl, hk3⟩; have HK3 := Lib.hid (HK2.out.trans hk3); have KC := KF.out w3 HK3.out; obtain ⟨s0, s1⟩ := KS.out w3 HK3.out; have HT4 := Lib.hid ((HTa.out.kept HK3.out).step HX.out HGG.out); have KD := KT.out _ _ HT4.out; clear hk3 HCA))
          all_goals
            clear KA KB KC KD s0 s1
            generalize w3.setCell _ _ = w5 at *
            go_wp2_with fail
            go_roundw
            case rel => exact ⟨j + 1, by omega, by go_num, HT4.out⟩
            case measure => simp [intOf] <;> omega
        · obtain ⟨jp, p, hp, hpq, hjp⟩ := HTR.out.par' HX.out (by omega)
          have b3 : ((j : Int) == 0) = false := by rw [beq_eq_false_iff_ne]; omega
          obtain ⟨D, hD⟩ : ∃ D, bt p.tx x.tx = D := ⟨_, rfl⟩
          obtain ⟨E, hE⟩ : ∃ E, bt x.tx p.tx = E := ⟨_, rfl⟩
          have hgt := treeG_at HTR.out HX.out (by omega) hp hpq
          obtain ⟨_, _, _, _, _, hlk, hwf⟩ := HGD.out _ _ _ _ hgt
          rw [hD, hE] at hlk
          have hca : ∀ A cc W, Ps W A 1 [D] → Tabs W → Calls Tryd.prog 38 #[.string p.tx, .slice A 1 cc] W fun e w' => e = .returned (.string x.tx) ∧ Kept (fun _ => False) W w' := fun A cc W hP hT => happly_any A 1 cc p.tx [x.tx] W (by rw [show chain p.tx [x.tx] = [D] from by rw [← hD]; rfl]; exact hP) hT (by omega) (by
            intro t ht
            rcases List.mem_cons.1 ht with ht | ht
            · rw [ht]; exact HTR.out.may p (List.mem_of_getElem? hp)
            · rw [List.mem_singleton.1 ht]; exact HTR.out.may x (List.mem_of_getElem? HX.out)) x.tx rfl
          have hidx : idx (backK F j) x.pa = (jp : Nat) := by rw [backK_idx, ← hpq]; exact idx_hit HTR.out.ord.srt hp rfl
          have hcf : ∀ W, Tw F most ad n c cur mb hb s k kv tb rb g c' w6 j W → Calls Tryd.prog 40 #[treeV (.slice (some ⟨g, 0, none⟩) N c') cur, .int .i64 x.pa] W fun e w' => e = .returned (.int .i64 (jp : Nat)) ∧ Kept (fun _ => False) W w' := by
            intro W hT
            have h1 := hT.og.ng
            rw [HN.out] at h1
            have h2 := hfind_any (some ⟨g, 0, none⟩) N c' (backK F j) cur x.pa W h1 (by omega)
            rwa [hidx] at h2
          have hlt2 : jp < N := by omega
          have y3 : (0 : Int) ≤ (jp : Int) := by omega
          have y4 : (jp : Int) < (N : Int) := by omega
          obtain ⟨d0, d1, d2⟩ := D
          have HCA2 := Lib.hid hca
          have HCF := Lib.hid hcf
          have hdn := fun W => lnk_down ⟨d0, d1, d2⟩ E W
          have KX : Hid (∀ jj W, Tw F most ad n c cur mb hb s k kv tb rb g c' w6 jj W → jp < jj → Nd4 W ⟨nb, 0, none⟩ ⟨x.sq, x.pa, x.at_, ⟨#[]⟩⟩ → W.cell? ⟨tb, 0, none⟩ = some (.slice (some ⟨g, 0, none⟩) N c') ∧ W.cell? ⟨tb, 1, none⟩ = some (.int .i64 cur) ∧ W.cell? ⟨hb, 2, none⟩ = some (.int .i64 cur) ∧ W.cell? ⟨hb, 3, none⟩ = some (.map (some mb)) ∧ W.cell? ⟨nb, 0, none⟩ = some (.int .i64 x.sq) ∧ W.cell? ⟨nb, 1, none⟩ = some (.int .i64 x.pa) ∧ W.cell? ⟨g, jp * 4 + 3, none⟩ = some (.string p.tx) ∧ (Instr.lookup 64 (.map (some mb)) (.int .i64 x.sq) false).run Tryd.prog W = .ok (lnkV ⟨d0, d1, d2⟩ E) W) := by
            show ∀ jj W, _
            intro jj W hT hjj hN4
            obtain ⟨u0, u1, _⟩ := tree_facts hT.bx
            rw [HN.out] at u0
            exact ⟨u0, u1, (hist_facts hT.hq.box).2.2.1, (hist_facts hT.hq.box).2.2.2.1, hN4.c0, hN4.c1, hT.og.cell (flatN_get (e := p) (by rw [backK_lo hjj]; exact hp) (f := 3) rfl), MapI.get Tryd.underlying64 Tryd.underlying3 hT.hq.mp hwf hlk⟩
          have KF : Hid (∀ W, Kept (fun _ => False) wa W → W.cell? ⟨tb, 0, none⟩ = some (.slice (some ⟨g, 0, none⟩) N c') ∧ W.cell? ⟨tb, 1, none⟩ = some (.int .i64 cur) ∧ W.cell? ⟨hb, 2, none⟩ = some (.int .i64 cur) ∧ W.cell? ⟨hb, 3, none⟩ = some (.map (some mb)) ∧ W.cell? ⟨nb, 0, none⟩ = some (.int .i64 x.sq) ∧ W.cell? ⟨nb, 1, none⟩ = some (.int .i64 x.pa) ∧ W.cell? ⟨g, jp * 4 + 3, none⟩ = some (.string p.tx) ∧ (Instr.lookup 64 (.map (some mb)) (.int .i64 x.sq) false).run Tryd.prog W = .ok (lnkV ⟨d0, d1, d2⟩ E) W) := fun W hk => KX.out _ _ (HTa.out.kept hk) hjp (HNa.out.kept hk id)
          have KS : Hid (∀ W, Kept (fun _ => False) wa W → W.cell? ⟨g, j * 4 + 3, none⟩ = some (.string ⟨#[]⟩) ∧ W.frozen? ⟨g, j * 4 + 3, none⟩ = false ∧ Tw F most ad n c cur mb hb s k kv tb rb g c' w6 (j + 1) (W.setCell ⟨g, j * 4 + 3, none⟩ (.string x.tx)) ∧ ((W.setCell ⟨g, j * 4 + 3, none⟩ (.string x.tx)).cell? ⟨tb, 0, none⟩ = some (.slice (some ⟨g, 0, none⟩) N c') ∧ (W.setCell ⟨g, j * 4 + 3, none⟩ (.string x.tx)).cell? ⟨tb, 1, none⟩ = some (.int .i64 cur) ∧ (W.setCell ⟨g, j * 4 + 3, none⟩ (.string x.tx)).cell? ⟨hb, 2, none⟩ = some (.int .i64 cur) ∧ (W.setCell ⟨g, j * 4 + 3, none⟩ (.string x.tx)).cell? ⟨hb, 3, none⟩ = some (.map (some mb)) ∧ (W.setCell ⟨g, j * 4 + 3, none⟩ (.string x.tx)).cell? ⟨nb, 0, none⟩ = some (.int .i64 x.sq) ∧ (W.setCell ⟨g, j * 4 + 3, none⟩ (.string x.tx)).cell? ⟨nb, 1, none⟩ = some (.int .i64 x.pa) ∧ (W.setCell ⟨g, j * 4 + 3, none⟩ (.string x.tx)).cell? ⟨g, jp * 4 + 3, none⟩ = some (.string p.tx) ∧ (Instr.lookup 64 (.map (some mb)) (.int .i64 x.sq) false).run Tryd.prog (W.setCell ⟨g, j * 4 + 3, none⟩ (.string x.tx)) = .ok (lnkV ⟨d0, d1, d2⟩ E) (W.setCell ⟨g, j * 4 + 3, none⟩ (.string x.tx)))) := by
            show ∀ W, _
            intro W hk
            have hT := HTa.out.kept hk
            have hS := hT.step HX.out HGG.out
            refine ⟨hT.og.cell (flatN_get (e := ⟨x.sq, x.pa, x.at_, ⟨#[]⟩⟩) (by rw [backK_hi (Nat.le_refl _)]; exact blank_get HX.out) (f := 3) rfl), hT.og.free _, hS, KX.out _ _ hS (by omega) ((HNa.out.kept hk id).kept ((Kept.refl (fun q => q = g) W).setCell (p := ⟨g, j * 4 + 3, none⟩) rfl _) ?_)⟩
            show ¬ nb = g
            have h1 := HGN.out
            omega
          have KA := KF.out wa.drew (Kept.refl _ wa).drew
          have HD := Lib.hid (HTa.out.kept (Kept.refl (fun _ => False) wa).drew)
          have HKA : Hid (∀ o, Kept (fun _ => False) wa ((wa.alloc o).drew)) := fun o => ((Kept.refl (fun _ => False) wa).alloc o).drew
          have KAC : Hid (∀ o, ((wa.alloc o).drew).cell? ⟨tb, 0, none⟩ = some (.slice (some ⟨g, 0, none⟩) N c') ∧ ((wa.alloc o).drew).cell? ⟨tb, 1, none⟩ = some (.int .i64 cur) ∧ ((wa.alloc o).drew).cell? ⟨hb, 2, none⟩ = some (.int .i64 cur) ∧ ((wa.alloc o).drew).cell? ⟨hb, 3, none⟩ = some (.map (some mb)) ∧ ((wa.alloc o).drew).cell? ⟨nb, 0, none⟩ = some (.int .i64 x.sq) ∧ ((wa.alloc o).drew).cell? ⟨nb, 1, none⟩ = some (.int .i64 x.pa) ∧ ((wa.alloc o).drew).cell? ⟨g, jp * 4 + 3, none⟩ = some (.string p.tx) ∧ (Instr.lookup 64 (.map (some mb)) (.int .i64 x.sq) false).run Tryd.prog ((wa.alloc o).drew) = .ok (lnkV ⟨d0, d1, d2⟩ E) ((wa.alloc o).drew)) := fun o => KF.out _ (HKA.out o)
          have HKA0 : Hid (Kept (fun _ => False) wa wa.drew) := (Kept.refl (fun _ => False) wa).drew
          have HDC : Hid (∀ o, Tw F most ad n c cur mb hb s k kv tb rb g c' w6 j ((wa.alloc o).drew)) := fun o => HTa.out.kept (HKA.out o)
          have HTB : Hid (∀ W, Kept (fun _ => False) wa W → Tabs W) := fun W hk => (HTa.out.kept hk).hq.tabs
          have KFC : Hid (∀ W, Kept (fun _ => False) wa W → ∀ o, (W.alloc o).cell? ⟨tb, 0, none⟩ = some (.slice (some ⟨g, 0, none⟩) N c') ∧ (W.alloc o).cell? ⟨tb, 1, none⟩ = some (.int .i64 cur) ∧ (W.alloc o).cell? ⟨hb, 2, none⟩ = some (.int .i64 cur) ∧ (W.alloc o).cell? ⟨hb, 3, none⟩ = some (.map (some mb)) ∧ (W.alloc o).cell? ⟨nb, 0, none⟩ = some (.int .i64 x.sq) ∧ (W.alloc o).cell? ⟨nb, 1, none⟩ = some (.int .i64 x.pa) ∧ (W.alloc o).cell? ⟨g, jp * 4 + 3, none⟩ = some (.string p.tx) ∧ (Instr.lookup 64 (.map (some mb)) (.int .i64 x.sq) false).run Tryd.prog (W.alloc o) = .ok (lnkV ⟨d0, d1, d2⟩ E) (W.alloc o)) := fun W hk o => KF.out _ (hk.alloc o)
          have HPA : Hid (∀ W, Kept (fun _ => False) ((wa.alloc (.cells #[.int .i64 d0, .int .i64 d1, .string d2] 79)).drew) W → Ps W (some ⟨wa.heap.size, 0, none⟩) 1 [⟨d0, d1, d2⟩]) := fun W hk => (ps_built wa ⟨d0, d1, d2⟩).kept ((Kept.refl (fun _ => False) (wa.alloc (.cells #[.int .i64 d0, .int .i64 d1, .string d2] 79))).drew.trans hk) (fun _ _ => id)
          have HPB : Hid (∀ W : World, Ps (W.alloc (.cells #[.int .i64 d0, .int .i64 d1, .string d2] 79)) (some ⟨W.heap.size, 0, none⟩) 1 [⟨d0, d1, d2⟩]) := fun W => ps_built W ⟨d0, d1, d2⟩
          clear hp hpq hjp hD hE hgt hlk hwf hca hidx hcf hlt2 h0
          go_upto_region 7 with fail
          go_region_held3 (fun (W : World) => W.cell? ⟨tb, 0, none⟩ = some (.slice (some ⟨g, 0, none⟩) N c') ∧ W.cell? ⟨tb, 1, none⟩ = some (.int .i64 cur) ∧ W.cell? ⟨hb, 2, none⟩ = some (.int .i64 cur) ∧ W.cell? ⟨hb, 3, none⟩ = some (.map (some mb)) ∧ W.cell? ⟨nb, 0, none⟩ = some (.int .i64 x.sq) ∧ W.cell? ⟨nb, 1, none⟩ = some (.int .i64 x.pa) ∧ W.cell? ⟨g, jp * 4 + 3, none⟩ = some (.string p.tx) ∧ (Instr.lookup 64 (.map (some mb)) (.int .i64 x.sq) false).run Tryd.prog W = .ok (lnkV ⟨d0, d1, d2⟩ E) W)
            (first | with_reducible exact KD | with_reducible exact KE | with_reducible exact KB | with_reducible exact KA | with_reducible exact KAC.out _ | with_reducible exact KC.out _ | fail)
            (first
              | (go_at_call 40; refine (HCF.out _ ?_).mono ?_; (first | with_reducible exact HD.out | with_reducible exact HDC.out _); rintro r w2 ⟨rfl, hk2⟩; (first | with_reducible have HK2 := Lib.hid (HKA0.out.trans hk2) | (with_reducible have HK2 := Lib.hid ((HKA.out _).trans hk2); with_reducible have HPS := Lib.hid (HPA.out w2 hk2))); have KB := KF.out w2 HK2.out; have KC := Lib.hid (KFC.out w2 HK2.out); clear hk2 HCF)
              | (go_at_call 38; refine (HCA2.out _ _ _ ?_ ?_).mono ?_; (first | with_reducible exact HPB.out _ | with_reducible exact HPS.out); (first | with_reducible exact HTB.out _ HK2.out | with_reducible exact HTB.out _ (HK2.out.alloc _)); rintro r w3 ⟨rfl, hk3⟩; (first | with_reducible have HK3 := Lib.hid (HK2.out.trans hk3) | with_reducible have HK3 := Lib.hid ((HK2.out.alloc _).trans hk3)); have KE := KF.out w3 HK3.out; obtain ⟨s0, s1, hT4, KD⟩ := KS.out w3 HK3.out; have HT4 := Lib.hid hT4; clear hk3 hT4 HCA2))
          all_goals
            clear KA KB KE KD s0 s1
            generalize w3.setCell _ _ = w5 at *
            go_wp2_with fail
            go_roundw
            case rel => exact ⟨j + 1, by omega, by go_num, HT4.out⟩
            case measure => simp [intOf] <;> omega
      · obtain rfl : j = N := by omega
        have b1 : decide (j < j) = false := decide_eq_false (by omega)
        have b2 : decide ((j : Int) < (j : Int)) = false := decide_eq_false (by omega)
        obtain ⟨t0, t1, _⟩ := tree_facts HT.out.bx
        obtain ⟨r0', r1', r2', r3'⟩ := tree_facts HT.out.rs
        rw [HN.out] at t0
        go_wp2_with fail
        have hFl := blank_len F
        have hgr : rb < g := by have h1 := HE.out.lo; have h2 := heap_lt HRB.out; omega
        have hkr : Kept (fun q => q = rb) wr ((wr.setCell ⟨rb, 0, none⟩ (.slice (some ⟨g, 0, none⟩) j c')).setCell ⟨rb, 1, none⟩ (.int .i64 cur)) := Kept.tree (g := rb) (S := fun q => q = rb) (Kept.refl (fun q => q = rb) wr) rfl _ _
        have hog := HT.out.og.kept hkr (by omega)
        have hb1 : backK F j = F := by rw [show j = F.length by have := HN.out; omega]; exact backK_all F
        rw [HN.out, hb1] at hog
        have hkw : Kept (fun _ => False) w wr := ((HK4.out.trans HE.out.hk).fresh HT.out.kp (fun q hq e => by have := HRS.out; omega))
        refine bodyPost_ret (res_t0 rfl _ _ rb _ cur rfl (tree_set HT.out.rs _ _)) rfl ⟨⟨_, rfl, hog.on (by have := HRS.out; omega)⟩, hkw.fresh hkr (fun q hq e => by have := HRS.out; omega)⟩
end
end Go.Proofs.YthbfmdnibijapaaDoor
namespace Go.Proofs.YthbfmdnibijapaaDoor
open Go Go.RowKit

theorem within_nat (x : Int) (n : Nat) (hn : 1 ≤ n ∧ n ≤ 100000) : ∃ k : Nat, k < n ∧ ∀ W : World, Calls Tryd.prog 6 #[.int .i64 x, .int .i64 n] W fun r W' => r = .returned (.int .i64 k) ∧ W' = W := by
  obtain ⟨q, hq, hq0⟩ : ∃ q, IntKind.u64.wrap x = q ∧ 0 ≤ q := ⟨_, rfl, by simp [IntKind.wrap, IntKind.bits, IntKind.signed]; omega⟩
  have e2 : q.tmod (n : Int) = q % (n : Int) := by rw [Int.tmod_eq_emod_of_nonneg hq0]
  obtain ⟨k, hk⟩ : ∃ k : Nat, q % (n : Int) = (k : Int) := ⟨(q % (n : Int)).toNat, by have := Int.emod_nonneg q (show (n : Int) ≠ 0 by omega); omega⟩
  have hlt : (k : Int) < n := by rw [← hk]; exact Int.emod_lt_of_pos q (by omega)
  refine ⟨k, by omega, fun w => ?_⟩
  have e1 : IntKind.u64.wrap (n : Int) = n := IntWalk.u64_in _ ⟨by omega, by omega⟩
  have e4 : IntKind.u64.wrap (k : Int) = (k : Int) := IntWalk.u64_in _ ⟨by omega, by omega⟩
  have hn0 : ((n : Int) == 0) = false := by rw [beq_eq_false_iff_ne]; omega
  have HK := Lib.hid hk
  clear hk
  go_enter Tryd.func6, Tryd.ntmps6
  go_wp2
  go_ret
  refine ⟨?_, rfl⟩
  show Ending.returned (.int .i64 (wrap64 (q % (n : Int)))) = _
  rw [HK.out, IntWalk.wrap64_in _ ⟨by omega, by omega⟩]
end Go.Proofs.YthbfmdnibijapaaDoor
