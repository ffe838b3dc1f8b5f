/-
  HISTORY: a text committed.
  HISTORY: a row of texts, one behind another: committed, gone back, gone on.
-/
import Derived.Test.YthbfmdnibijapaaDoorHz15
import Derived.Test.YthbfmdnibijapaaDoorHz17
set_option linter.unusedVariables false
namespace Go.Proofs.YthbfmdnibijapaaDoor
open Go Go.RowKit

theorem fresh_tree {w w5 : World} (hk : Kept (fun _ => False) w w5) (o : Obj) (v0 v1 : Value) : Kept (fun _ => False) w (((w5.alloc o).setCell ⟨w5.heap.size, 0, none⟩ v0).setCell ⟨w5.heap.size, 1, none⟩ v1) := by
  have h1 : Kept (fun q => q = w5.heap.size) w5 (((w5.alloc o).setCell ⟨w5.heap.size, 0, none⟩ v0).setCell ⟨w5.heap.size, 1, none⟩ v1) := (((Kept.refl (fun q => q = w5.heap.size) w5).alloc o).setCell (p := ⟨w5.heap.size, 0, none⟩) rfl v0).setCell (p := ⟨w5.heap.size, 1, none⟩) rfl v1
  exact hk.fresh h1 (fun q hq e => by have := hk.size; omega)
structure C5 (w4 W : World) (tb g c' : Nat) (L' : List NodeS) (cur' : Int) : Prop where
  ht : W.heap[tb]? = some (treeO (.slice (some ⟨g, 0, none⟩) L'.length c') cur')
  hk : Kept (fun _ => False) w4 W
  og : Og W g L'.length c' L'
  lo : w4.heap.size ≤ g
theorem c5_a {w4 w5 : World} {g c' : Nat} {L' : List NodeS} (cur' : Int) (hk : Kept (fun _ => False) w4 w5) (og : Og w5 g L'.length c' L') (lo : w4.heap.size ≤ g) : C5 w4 (w5.alloc (treeO (.slice (some ⟨g, 0, none⟩) L'.length c') cur')) w5.heap.size g c' L' cur' :=
  ⟨heap_alloc_new w5 _, hk.alloc _, og.kept ((Kept.refl (fun _ => False) w5).alloc _) id, lo⟩
theorem c5_b {w4 w5 : World} {g c' : Nat} {L' : List NodeS} (cur' : Int) {v : Value} {x : Int} (hk : Kept (fun _ => False) w4 w5) (og : Og w5 g L'.length c' L') (lo : w4.heap.size + 1 ≤ g) (ht : w5.heap[w4.heap.size]? = some (treeO v x)) : C5 w4 ((w5.setCell ⟨w4.heap.size, 0, none⟩ (.slice (some ⟨g, 0, none⟩) L'.length c')).setCell ⟨w4.heap.size, 1, none⟩ (.int .i64 cur')) w4.heap.size g c' L' cur' := by
  have h1 : Kept (fun q => q = w4.heap.size) w5 ((w5.setCell ⟨w4.heap.size, 0, none⟩ (.slice (some ⟨g, 0, none⟩) L'.length c')).setCell ⟨w4.heap.size, 1, none⟩ (.int .i64 cur')) := Kept.tree (g := w4.heap.size) (S := fun q => q = w4.heap.size) (Kept.refl (fun q => q = w4.heap.size) w5) rfl _ _
  exact ⟨tree_set ht _ _, hk.fresh h1 (fun q hq e => by omega), og.kept h1 (by omega), by omega⟩
section
variable {ad : Addr} {n c : Nat} {L : List NodeS} {cur : Int} {mb hb : Nat} {s : ByteArray} {k : Int} {kv : List (Int × Value)}
set_option maxRecDepth 100000 in
set_option maxHeartbeats 4000000 in
theorem hcommit_bad (most : Int) (t : ByteArray) (at' : Int) (w : World) (h : Hq most ad n c L cur mb hb s k kv w) (hs : s.size ≤ 140737488351232) (ht : t.size ≤ 140737488351232) (hm : mayB t = false) :
    Calls Tryd.prog 25 #[.pointer (some ⟨hb, 0, none⟩), .string t, .int .i64 at'] w fun r w' => r = .returned (.int .i64 1) ∧ Kept (fun _ => False) w w' := by
  obtain ⟨_, _, _, _, f4, _⟩ := hist_facts h.box
  have cB := between_no s t w h.tabs hs ht (fun e => by rw [hm] at e; exact absurd e.2 (by decide))
  have HK : Hid (∀ w1, Kept (fun _ => False) w w1 → Kept (fun _ => False) w (w1.alloc (patO 0 0 ⟨#[]⟩))) := fun w1 hk => hk.alloc _
  simp only [patO] at HK
  clear h hm hs ht
  go_enter Tryd.func25, Tryd.ntmps25
  go_wp2_with (go_at_call 42; refine cB.mono ?_; rintro e w1 ⟨rfl, hk1⟩; have HK1 := Lib.hid hk1; clear hk1 cB f4)
  go_ret
  exact ⟨rfl, HK.out _ HK1.out⟩
set_option maxRecDepth 100000 in
set_option maxHeartbeats 8000000 in
theorem hcommit_any (most : Nat) (t : ByteArray) (at' : Int) (l : NodeS) (CM : List NodeS × Int) (w : World) (h : Hq most ad n c L cur mb hb s k kv w) (hnc : n ≤ c) (hM : MayT L cur) (hs : mayB s = true) (ht : mayB t = true) (ha : 0 ≤ at' ∧ at' ≤ 4000) (hm : 2 ≤ most ∧ most ≤ 64) (hlast : L.getLast? = some l) (hsq : 0 ≤ l.sq ∧ l.sq < 1073741824)
    (hCM : cmt L cur l.sq ⟨#[]⟩ at' most = CM) (hsr : Srt CM.1) (hcl : 1 ≤ CM.1.length ∧ CM.1.length ≤ 64) (hnone : kv.lookup CM.2 = none) (hwf : (Lit.int .i64 CM.2).wf = true) (hkv : ∀ e ∈ CM.1.drop 1, (∃ v, (kv ++ [(CM.2, lnkV (bt s t) (bt t s))]).lookup e.sq = some v) ∧ (Lit.int .i64 e.sq).wf = true) :
    Calls Tryd.prog 25 #[.pointer (some ⟨hb, 0, none⟩), .string t, .int .i64 at'] w fun r w' => r = .returned (.int .i64 0) ∧
      (∃ g c' mb', w.heap.size ≤ g ∧ w.heap.size ≤ mb' ∧ CM.1.length ≤ c' ∧ Hq most ⟨g, 0, none⟩ CM.1.length c' CM.1 CM.2 mb' hb t k (keepL (kv ++ [(CM.2, lnkV (bt s t) (bt t s))]) (CM.1.drop 1)) w') ∧ Kept (fun q => q = hb ∨ q = mb) w w' := by
  have hlt := heap_lt h.box
  obtain ⟨_, _, _, _, f4, _⟩ := hist_facts h.box
  have HH := Lib.hid h
  have cB := between_yes s t w h.tabs hs ht
  have cB2 := fun W (hT : Tabs W) => between_yes t s W hT ht hs
  rw [bt_btw] at cB
  rw [bt_btw] at cB2
  have cC := fun W (h : Hq most ad n c L cur mb hb s k kv W) => commit_any ad n c L cur ⟨#[]⟩ at' most l W h.ng hnc h.tabs hM (by decide) ha hm hlast hsq
  rw [hCM] at cC
  have HCC := Lib.hid cC
  have HCB2 := Lib.hid cB2
  have HSR := Lib.hid hsr
  have HKV := Lib.hid hkv
  have HNO := Lib.hid hnone
  have HWF := Lib.hid hwf
  have HNM : Hid (mb ≠ hb) := by
    show _ ≠ _
    rintro rfl
    obtain ⟨es, cl, h1, _⟩ := h.mp
    rw [h.box] at h1
    cases h1
  have HLT := Lib.hid hlt
  have hmlt : mb < w.heap.size := by obtain ⟨es, cl, h1, _⟩ := h.mp; exact heap_lt h1
  have HML := Lib.hid hmlt
  obtain ⟨L', cur'⟩ := CM
  obtain ⟨D, hD⟩ : ∃ D, bt s t = D := ⟨_, rfl⟩
  obtain ⟨E, hE⟩ : ∃ E, bt t s = E := ⟨_, rfl⟩
  rw [hD] at cB HKV
  rw [hE] at HCB2 HKV
  rw [hD, hE]
  obtain ⟨d0, d1, d2⟩ := D
  obtain ⟨e0, e1, e2⟩ := E
  simp only at cB HCB2 HKV HSR HNO HWF HCC hcl ⊢
  have HBIG : Hid (L'.length ≤ 64) := hcl.2
  have hl1 := hcl.1
  clear h hM hs ht hlast hCM hsr hnone hwf hkv cB2 cC hD hE hlt hmlt hcl
  go_enter Tryd.func25, Tryd.ntmps25
  go_upto_region 4 with (go_at_call 42; refine cB.mono ?_; rintro e w1 ⟨rfl, hk1⟩; have HK1 := Lib.hid hk1; clear hk1 cB f4)
  have HP2 : Hid ((w1.alloc (patO d0 d1 d2)).heap[w1.heap.size]? = some (patO d0 d1 d2)) := heap_alloc_new w1 _
  have HK2 : Hid (Kept (fun _ => False) w (w1.alloc (patO d0 d1 d2))) := HK1.out.alloc _
  simp only [patO] at HP2 HK2
  obtain ⟨p1, hp1⟩ : ∃ p1, w1.heap.size = p1 := ⟨_, rfl⟩
  have HPL : Hid (w.heap.size ≤ p1) := by rw [← hp1]; exact HK1.out.size
  simp only [hp1] at HP2 ⊢
  clear hp1
  generalize w1.alloc _ = w2 at *
  clear HK1
  have HQ2 := Lib.hid (HH.out.kept HK2.out)
  obtain ⟨_, _, _, _, f4, _⟩ := hist_facts HQ2.out.box
  have cB3 := HCB2.out w2 HQ2.out.tabs
  go_upto_region 5 with (go_at_call 42; refine cB3.mono ?_; rintro e w3 ⟨rfl, hk3⟩; have HK3 := Lib.hid (HK2.out.trans hk3); have HP3 := Lib.hid ((hk3.block _ (heap_lt HP2.out) id).trans HP2.out); clear hk3 cB3 f4)
  have HR4 : Hid ((w3.alloc (patO e0 e1 e2)).heap[w3.heap.size]? = some (patO e0 e1 e2)) := heap_alloc_new w3 _
  have HP4 : Hid ((w3.alloc (patO e0 e1 e2)).heap[p1]? = some (patO d0 d1 d2)) := (((Kept.refl (fun _ => False) w3).alloc _).block _ (heap_lt HP3.out) id).trans HP3.out
  have HK4 : Hid (Kept (fun _ => False) w (w3.alloc (patO e0 e1 e2))) := HK3.out.alloc _
  obtain ⟨p2, hp2⟩ : ∃ p2, w3.heap.size = p2 := ⟨_, rfl⟩
  have HPL2 : Hid (w.heap.size ≤ p2) := by rw [← hp2]; exact HK3.out.size
  simp only [patO] at HP4 HR4 HK4
  simp only [hp2] at HR4 ⊢
  clear hp2
  generalize w3.alloc _ = w4 at *
  clear HK3 HP3 HP2 HK2 HQ2
  have HQ4 := Lib.hid (HH.out.kept HK4.out)
  have KF : Hid (∀ W, Kept (fun _ => False) w4 W → W.cell? ⟨hb, 0, none⟩ = some (.int .i64 most) ∧ W.cell? ⟨hb, 1, none⟩ = some (.slice (some ad) n c) ∧ W.cell? ⟨hb, 2, none⟩ = some (.int .i64 cur)) := by
    show ∀ W, _
    intro W hk
    have hb' := (HQ4.out.kept hk).box
    exact ⟨(hist_facts hb').1, (hist_facts hb').2.1, (hist_facts hb').2.2.1⟩
  have KFC : Hid (∀ W, Kept (fun _ => False) w4 W → ∀ o, (W.alloc o).cell? ⟨hb, 0, none⟩ = some (.int .i64 most) ∧ (W.alloc o).cell? ⟨hb, 1, none⟩ = some (.slice (some ad) n c) ∧ (W.alloc o).cell? ⟨hb, 2, none⟩ = some (.int .i64 cur)) := fun W hk o => KF.out _ (hk.alloc o)
  have KFD : Hid (∀ W, Kept (fun _ => False) w4 W → ∀ o v0 v1, (((W.alloc o).setCell ⟨W.heap.size, 0, none⟩ v0).setCell ⟨W.heap.size, 1, none⟩ v1).cell? ⟨hb, 0, none⟩ = some (.int .i64 most) ∧ (((W.alloc o).setCell ⟨W.heap.size, 0, none⟩ v0).setCell ⟨W.heap.size, 1, none⟩ v1).cell? ⟨hb, 1, none⟩ = some (.slice (some ad) n c) ∧ (((W.alloc o).setCell ⟨W.heap.size, 0, none⟩ v0).setCell ⟨W.heap.size, 1, none⟩ v1).cell? ⟨hb, 2, none⟩ = some (.int .i64 cur)) := fun W hk o v0 v1 => KF.out _ (fresh_tree hk o v0 v1)
  have KA := KF.out w4.drew (Kept.refl _ w4).drew
  have HD := Lib.hid (HQ4.out.kept (Kept.refl (fun _ => False) w4).drew)
  have KAC : Hid (∀ o, (w4.alloc o).drew.cell? ⟨hb, 0, none⟩ = some (.int .i64 most) ∧ (w4.alloc o).drew.cell? ⟨hb, 1, none⟩ = some (.slice (some ad) n c) ∧ (w4.alloc o).drew.cell? ⟨hb, 2, none⟩ = some (.int .i64 cur)) := fun o => KF.out _ (((Kept.refl (fun _ => False) w4).alloc o).drew)
  have HDC : Hid (∀ o, Hq most ad n c L cur mb hb s k kv ((w4.alloc o).drew)) := fun o => HQ4.out.kept (((Kept.refl (fun _ => False) w4).alloc o).drew)
  have HKA : Hid (∀ o, Kept (fun _ => False) w4 ((w4.alloc o).drew)) := fun o => ((Kept.refl (fun _ => False) w4).alloc o).drew
  have KFE : Hid (∀ o W, Kept (fun _ => False) ((w4.alloc o).drew) W → ∀ v0 v1, ((W.setCell ⟨w4.heap.size, 0, none⟩ v0).setCell ⟨w4.heap.size, 1, none⟩ v1).cell? ⟨hb, 0, none⟩ = some (.int .i64 most) ∧ ((W.setCell ⟨w4.heap.size, 0, none⟩ v0).setCell ⟨w4.heap.size, 1, none⟩ v1).cell? ⟨hb, 1, none⟩ = some (.slice (some ad) n c) ∧ ((W.setCell ⟨w4.heap.size, 0, none⟩ v0).setCell ⟨w4.heap.size, 1, none⟩ v1).cell? ⟨hb, 2, none⟩ = some (.int .i64 cur)) := fun o W hk v0 v1 => KF.out _ (((HKA.out o).trans hk).fresh (((Kept.refl (fun q => q = w4.heap.size) W).setCell (p := ⟨w4.heap.size, 0, none⟩) rfl v0).setCell (p := ⟨w4.heap.size, 1, none⟩) rfl v1) (fun q hq e => by omega))
  have KFO : Hid (∀ o W, Kept (fun _ => False) ((w4.alloc o).drew) W → W.heap[w4.heap.size]? = some o) := fun o W hk => (hk.block _ (heap_lt (w := (w4.alloc o).drew) (heap_alloc_new w4 o)) id).trans (heap_alloc_new w4 o)
  go_region_held3 (fun (W : World) => W.cell? ⟨hb, 0, none⟩ = some (.int .i64 most) ∧ W.cell? ⟨hb, 1, none⟩ = some (.slice (some ad) n c) ∧ W.cell? ⟨hb, 2, none⟩ = some (.int .i64 cur))
    (first | with_reducible exact KB | with_reducible exact KA | with_reducible exact KAC.out _ | with_reducible exact KC.out _ | with_reducible exact KD.out _ _ _ | with_reducible exact KE.out _ _ | fail)
    (first
      | (go_at_call 43; refine (HCC.out _ HD.out).mono ?_; rintro r w5 ⟨⟨v, rfl, hO⟩, hk5⟩; obtain ⟨g, c', rfl, hBg, hog⟩ := hO.og' rfl hl1; have HK45 := Lib.hid ((Kept.refl (fun _ => False) w4).drew.trans hk5); have KB := KF.out w5 HK45.out; have KC := Lib.hid (KFC.out w5 HK45.out); have KD := Lib.hid (KFD.out w5 HK45.out); have HE := Lib.hid (c5_a cur' HK45.out hog hBg); clear hk5 hO hog hBg)
      | (go_at_call 43; refine (HCC.out _ (HDC.out _)).mono ?_; rintro r w5 ⟨⟨v, rfl, hO⟩, hk5⟩; obtain ⟨g, c', rfl, hBg, hog⟩ := hO.og' rfl hl1; have HK45 := Lib.hid ((HKA.out _).trans hk5); have KB := KF.out w5 HK45.out; have KE := Lib.hid (KFE.out _ w5 hk5); have HT5 := Lib.hid (KFO.out _ w5 hk5); obtain ⟨r0, r1, r2, r3⟩ := tree_facts HT5.out; have HE := Lib.hid (c5_b cur' HK45.out hog (by simpa using hBg) HT5.out); clear hk5 hO hog hBg))
  all_goals
    try simp only [treeO] at HE
    first
      | (obtain ⟨tb, htb⟩ : ∃ tb, w5.heap.size = tb := ⟨_, rfl⟩
         simp only [htb] at HE ⊢
         generalize w5.alloc _ = w6 at *)
      | (obtain ⟨tb, htb⟩ : ∃ tb, w4.heap.size = tb := ⟨_, rfl⟩
         simp only [htb] at HE ⊢
         generalize (w5.setCell ⟨tb, 0, none⟩ (.slice (some ⟨g, 0, none⟩) L'.length c')).setCell ⟨tb, 1, none⟩ (.int .i64 cur') = w6 at HE ⊢)
    have HQ6 := Lib.hid (HQ4.out.kept HE.out.hk)
    have HP6 := Lib.hid ((HE.out.hk.block _ (heap_lt HP4.out) id).trans HP4.out)
    have HR6 := Lib.hid ((HE.out.hk.block _ (heap_lt HR4.out) id).trans HR4.out)
    have HK6 := Lib.hid (HK4.out.trans HE.out.hk)
    have HTH : Hid (tb ≠ hb) := by
      show _ ≠ _
      intro e
      subst e
      have h1 := HE.out.ht
      have h2 := HQ6.out.box
      rw [h2] at h1
      injection h1 with h1
      injection h1 with _ h1
      exact absurd h1 (by decide)
    have HP1 : Hid (p1 ≠ hb ∧ p2 ≠ hb) := by
      have h0 := HPL.out
      have h1 := HPL2.out
      have h2 := HLT.out
      exact ⟨by omega, by omega⟩
    have HGG : Hid (w.heap.size ≤ g) := by
      show _ ≤ _
      have h1 := HK4.out.size
      have h2 := HE.out.lo
      omega
    obtain ⟨t0, t1, _⟩ := tree_facts HE.out.ht
    obtain ⟨_, h1, h2, h3, h4, _⟩ := hist_facts HQ6.out.box
    have k1 : w6.frozen? ⟨hb, 1, none⟩ = false := frozen_of HQ6.out.box
    have k2 : w6.frozen? ⟨hb, 2, none⟩ = false := frozen_of HQ6.out.box
    have k4 : w6.frozen? ⟨hb, 4, none⟩ = false := frozen_of HQ6.out.box
    have HX : Hid (∀ W7, ((w6.setCell ⟨hb, 1, none⟩ (.slice (some ⟨g, 0, none⟩) L'.length c')).setCell ⟨hb, 2, none⟩ (.int .i64 cur')).setCell ⟨hb, 4, none⟩ (.string t) = W7 → W7.heap[hb]? = some (histO most (.slice (some ⟨g, 0, none⟩) L'.length c') cur' mb t k) ∧ Kept (fun q => q = hb) w6 W7) := by
      rintro W7 rfl
      exact ⟨(heap_set (heap_set (heap_set HQ6.out.box _) _) _).trans rfl, (((Kept.refl (fun q => q = hb) w6).setCell (p := ⟨hb, 1, none⟩) rfl _).setCell (p := ⟨hb, 2, none⟩) rfl _).setCell (p := ⟨hb, 4, none⟩) rfl _⟩
    go_upto_region 9 with fail
    obtain ⟨w7, hw7⟩ : ∃ w7, ((w6.setCell ⟨hb, 1, none⟩ (.slice (some ⟨g, 0, none⟩) L'.length c')).setCell ⟨hb, 2, none⟩ (.int .i64 cur')).setCell ⟨hb, 4, none⟩ (.string t) = w7 := ⟨_, rfl⟩
    obtain ⟨hB7, hK7⟩ := HX.out w7 hw7
    simp only [hw7]
    clear hw7 HX t0 t1 h1 h2 h3 h4 k1 k2 k4
    have HB7 := Lib.hid hB7
    have HK7 := Lib.hid hK7
    have hd7 : Kept (fun q => q = hb) w6 w7.drew := hK7.drew
    have hT7 := (hd7.block _ (heap_lt HE.out.ht) HTH.out).trans HE.out.ht
    have hP7 := (hd7.block _ (heap_lt HP6.out) HP1.out.1).trans HP6.out
    have hR7 := (hd7.block _ (heap_lt HR6.out) HP1.out.2).trans HR6.out
    have hM7 := HQ6.out.mp.kept hd7 HNM.out
    obtain ⟨_, t1, _⟩ := tree_facts hT7
    obtain ⟨p10, p11, p12⟩ := pat_cells hP7
    obtain ⟨p20, p21, p22⟩ := pat_cells hR7
    have g3 := (hist_facts (W := w7.drew) hB7).2.2.2.1
    obtain ⟨w8, hrun, hM8, hk8⟩ := MapI.put Tryd.underlying64 Tryd.underlying3 hM7 (lnkV ⟨d0, d1, d2⟩ ⟨e0, e1, e2⟩) HWF.out HNO.out
    have hK8 : Kept (fun q => q = hb ∨ q = mb) w w8 := (HK6.out.any).trans ((hd7.mono (fun _ _ h => .inl h)).trans (hk8.mono (fun _ _ h => .inr h)))
    have hgS : ¬ (g = hb ∨ g = mb) := by have h1 := HGG.out; have h2 := HLT.out; have h3 := HML.out; omega
    have hq8 : Hq most ⟨g, 0, none⟩ L'.length c' L' cur' mb hb t k (kv ++ [(cur', lnkV ⟨d0, d1, d2⟩ ⟨e0, e1, e2⟩)]) w8 :=
      ⟨HH.out.tabs.kept hK8 (by have := HH.out.lo; omega) (by have := HH.out.lo; omega),
        (hk8.block hb (heap_lt (w := w7.drew) hB7) (fun e => HNM.out e.symm)).trans hB7,
        HE.out.og.ng.kept ((hd7.mono (fun _ _ h => Or.inl h)).trans (hk8.mono (fun _ _ h => Or.inr h))) (fun a ha => by injection ha with ha; subst ha; exact hgS),
        hM8, HH.out.lo⟩
    have HQ8 := Lib.hid hq8
    have HK8 := Lib.hid hK8
    have cFg := forget_any w8 hq8 HE.out.og.le ⟨hl1, HBIG.out⟩ HSR.out HKV.out
    have HGS := Lib.hid hgS
    clear hK8 hgS hq8 hM8 hk8 hM7 hT7 hP7 hR7 hd7 hB7 hK7
    go_region
    clear hrun t1 p10 p11 p12 p20 p21 p22 g3
    go_wp2_with (go_at_call 44; refine cFg.mono ?_; rintro r w9 ⟨rfl, ⟨hB9, hM9⟩, hk9⟩; have HB9 := Lib.hid hB9; have HM9 := Lib.hid hM9; have HK9 := Lib.hid hk9; clear hB9 hM9 hk9 cFg)
    go_ret
    have h98 : w.heap.size ≤ w8.heap.size := HK8.out.size
    have hK9 : Kept (fun q => q = hb ∨ q = mb) w w9 := HK8.out.trans (HK9.out.mono (fun _ _ h => .inl h))
    have h2 := HH.out.tabs.two
    refine ⟨rfl, ⟨g, c', w8.heap.size, HGG.out, h98, HE.out.og.le, ⟨HQ8.out.tabs.kept HK9.out (by have := HH.out.lo; omega) (by have := HH.out.lo; omega), HB9.out, HQ8.out.ng.kept HK9.out (fun a ha => by injection ha with ha; subst ha; exact fun e => HGS.out (.inl e)), HM9.out, ⟨HH.out.lo.1, by omega⟩⟩⟩, hK9⟩
end
end Go.Proofs.YthbfmdnibijapaaDoor
namespace Go.Proofs.YthbfmdnibijapaaDoor
open Go Go.RowKit

theorem Inv.snocA {L : List NodeS} {c : Nat} {S : List ByteArray} {s : ByteArray} {a : Int} (h : Inv L c S) (ha : 0 ≤ a ∧ a ≤ 4000) (hs : mayB s = true) (hl : L.length ≤ 60) : Inv (L ++ [(⟨(L.length : Int), c, a, s⟩ : NodeS)]) L.length (S ++ [s]) := by
  obtain ⟨l, hla, hlq⟩ := h.last
  have hok : ∀ i e, (L ++ [(⟨(L.length : Int), c, a, s⟩ : NodeS)])[i]? = some e → OkN ((L ++ [(⟨(L.length : Int), c, a, s⟩ : NodeS)]).take i) e := by
    intro i e he
    by_cases hi : i < L.length
    · rw [List.getElem?_append_left hi] at he
      rw [List.take_append_of_le_length (by omega)]
      exact h.may.ok i e he
    · have hi2 : i = L.length := by
        have : i < (L ++ [(⟨(L.length : Int), c, a, s⟩ : NodeS)]).length := by
          rcases Nat.lt_or_ge i (L ++ [(⟨(L.length : Int), c, a, s⟩ : NodeS)]).length with h' | h'
          · exact h'
          · rw [List.getElem?_eq_none h'] at he; cases he
        simp at this
        omega
      subst hi2
      rw [List.getElem?_append_right (Nat.le_refl _), Nat.sub_self] at he
      injection he with he
      subst he
      rw [List.take_append_of_le_length (Nat.le_refl _), List.take_length]
      have hml := h.may.le
      have hpl : Pl L ⟨(L.length : Int), c, a, s⟩ := (pl_some hla).2 ⟨(show l.sq < (L.length : Int) by omega), (show (L.length : Int) ≤ 1073741824 by omega), h.may.cu⟩
      exact ⟨hpl, ha.1, ha.2, hs⟩
  have hsq : ∀ (k : Nat) (e : NodeS), (L ++ [(⟨(L.length : Int), c, a, s⟩ : NodeS)])[k]? = some e → e.sq = (k : Int) := by
    intro k e he
    by_cases hk : k < L.length
    · rw [List.getElem?_append_left hk] at he
      exact h.sq k e he
    · by_cases hk2 : k = L.length
      · subst hk2
        rw [List.getElem?_append_right (Nat.le_refl _), Nat.sub_self] at he
        injection he with he
        subst he
        rfl
      · rw [List.getElem?_eq_none (by simp; omega)] at he
        cases he
  refine ⟨⟨by simp, by simp; omega, hok, ?_⟩, fun k => ?_, hsq, by simp⟩
  · have h0 := idx_hit (ok_srt hok) (m := L.length) (y := ⟨(L.length : Int), c, a, s⟩) (z := (L.length : Int)) (by rw [List.getElem?_append_right (Nat.le_refl _), Nat.sub_self]; rfl) rfl
    rw [h0]
    omega
  · have hSL := h.len
    by_cases hk : k < L.length
    · rw [List.getElem?_append_left hk, List.getElem?_append_left (by omega)]
      exact h.tx k
    · by_cases hk2 : k = L.length
      · subst hk2
        rw [List.getElem?_append_right (Nat.le_refl _), List.getElem?_append_right (by omega), hSL, Nat.sub_self]
        rfl
      · rw [List.getElem?_eq_none (by simp; omega), List.getElem?_eq_none (by simp; omega)]
        rfl
theorem inv_rep {L : List NodeS} {c : Nat} {m : Nat} (h : Inv L c (List.replicate L.length ⟨#[]⟩)) {i : Nat} {e : NodeS} (he : L[i]? = some e) : e.tx = ⟨#[]⟩ := by
  have h1 := h.tx i
  have hi : i < L.length := by
    rcases Nat.lt_or_ge i L.length with h' | h'
    · exact h'
    · rw [List.getElem?_eq_none h'] at he; cases he
  rw [he, List.getElem?_replicate, if_pos hi] at h1
  simpa using h1
/-- A text of the row. -/
def tAt (S : List ByteArray) (i : Nat) : ByteArray := S.getD i ⟨#[]⟩
theorem tAt_may {S : List ByteArray} (h : ∀ s ∈ S, mayB s = true) (i : Nat) : mayB (tAt S i) = true := by
  unfold tAt
  rw [List.getD_eq_getElem?_getD]
  cases e : S[i]? with
  | none => decide
  | some s => exact h s (List.mem_of_getElem? e)
theorem tAt_app {S : List ByteArray} {t : ByteArray} {i : Nat} (h : i < S.length) : tAt (S ++ [t]) i = tAt S i := by
  unfold tAt
  rw [List.getD_eq_getElem?_getD, List.getD_eq_getElem?_getD, List.getElem?_append_left h]
theorem tAt_end {S : List ByteArray} {t : ByteArray} : tAt (S ++ [t]) S.length = t := by
  unfold tAt
  rw [List.getD_eq_getElem?_getD, List.getElem?_append_right (Nat.le_refl _), Nat.sub_self]
  rfl
/-- A link of the row's i-th text to the one behind it. -/
def lnkS (S : List ByteArray) (i : Nat) : Value := lnkV (bt (tAt S i) (tAt S (i + 1))) (bt (tAt S (i + 1)) (tAt S i))
/-- A history of texts in a row. -/
structure Hc (B : Nat) (most : Nat) (hb : Nat) (L : List NodeS) (c : Nat) (S : List ByteArray) (k : Int) (W : World) : Prop where
  q : ∃ ad cp mb kv, Hq most ad L.length cp L c mb hb (tAt S c) k kv W ∧ L.length ≤ cp ∧ B ≤ mb ∧ (∀ i : Nat, i + 1 < L.length → kv.lookup ((i + 1 : Nat) : Int) = some (lnkS S i)) ∧ (∀ i : Nat, L.length ≤ i → kv.lookup ((i : Nat) : Int) = none)
  inv : Inv L c (List.replicate L.length ⟨#[]⟩)
  par : ∀ (i : Nat) (e : NodeS), L[i]? = some e → e.pa = (i : Int) - 1
  sl : S.length = L.length
  may : ∀ s ∈ S, mayB s = true
  lo : B ≤ hb
theorem Hc.kept {B most hb : Nat} {L : List NodeS} {c : Nat} {S : List ByteArray} {k : Int} {W W' : World} (h : Hc B most hb L c S k W) (hk : Kept (fun _ => False) W W') : Hc B most hb L c S k W' := by
  obtain ⟨ad, cp, mb, kv, h1, h2⟩ := h.q
  exact ⟨⟨ad, cp, mb, kv, h1.kept hk, h2⟩, h.inv, h.par, h.sl, h.may, h.lo⟩
theorem Hc.pos {B most hb : Nat} {L : List NodeS} {c : Nat} {S : List ByteArray} {k : Int} {W : World} (h : Hc B most hb L c S k W) : ∃ cp' nv' mb', W.heap[hb]? = some (histO most nv' (c : Int) mb' (tAt S c) k) ∧ cp' = 0 := by
  obtain ⟨ad, cp, mb, kv, h1, h2⟩ := h.q
  exact ⟨0, _, _, h1.box, rfl⟩
theorem hchere_any {B most hb : Nat} {L : List NodeS} {c : Nat} {S : List ByteArray} {k : Int} {W : World} (h : Hc B most hb L c S k W) : Calls Tryd.prog 20 #[.pointer (some ⟨hb, 0, none⟩)] W fun e w' => e = .returned (.string (tAt S c)) ∧ w' = W := by
  obtain ⟨_, nv, mb, h1, _⟩ := h.pos
  exact hhere_any hb mb most c k nv _ W h1
theorem hcpat_any {B most hb : Nat} {L : List NodeS} {c : Nat} {S : List ByteArray} {k : Int} {W : World} (h : Hc B most hb L c S k W) (hk : 0 ≤ k ∧ k ≤ 1000000) : Calls Tryd.prog 22 #[.pointer (some ⟨hb, 0, none⟩)] W fun e w' => e = .returned (.int .i64 k) ∧ w' = W := by
  obtain ⟨_, nv, mb, h1, _⟩ := h.pos
  exact hpatches_any hb mb most c k nv _ W h1 ⟨hk.1, by omega⟩
/-- The ways of the row. -/
def rowG (L : List NodeS) (S : List ByteArray) (z : Int) : Option (Int × PatS × PatS) := if 1 ≤ z ∧ z < (L.length : Int) then some (z - 1, bt (tAt S (z.toNat - 1)) (tAt S (z.toNat - 1 + 1)), bt (tAt S (z.toNat - 1 + 1)) (tAt S (z.toNat - 1))) else none
theorem rowG_at {L : List NodeS} {S : List ByteArray} {i : Nat} (h : i + 1 < L.length) : rowG L S ((i + 1 : Nat) : Int) = some ((i : Int), bt (tAt S i) (tAt S (i + 1)), bt (tAt S (i + 1)) (tAt S i)) := by
  unfold rowG
  rw [if_pos (by omega)]
  have e1 : ((i + 1 : Nat) : Int).toNat - 1 = i := by omega
  rw [e1]
  congr 2
  omega
theorem rowG_good {B most hb : Nat} {L : List NodeS} {c : Nat} {S : List ByteArray} {k : Int} {kv : List (Int × Value)} (hI : Inv L c (List.replicate L.length ⟨#[]⟩)) (hp : ∀ (i : Nat) (e : NodeS), L[i]? = some e → e.pa = (i : Int) - 1) (hkv : ∀ i : Nat, i + 1 < L.length → kv.lookup ((i + 1 : Nat) : Int) = some (lnkS S i)) : Good L kv (rowG L S) := by
  intro z q d u hz
  unfold rowG at hz
  split at hz
  · rename_i h
    obtain ⟨i, hi⟩ : ∃ i : Nat, z = ((i + 1 : Nat) : Int) := ⟨z.toNat - 1, by omega⟩
    subst hi
    have e1 : ((i + 1 : Nat) : Int).toNat - 1 = i := by omega
    rw [e1] at hz
    simp only [Option.some.injEq, Prod.mk.injEq] at hz
    obtain ⟨h1, rfl, rfl⟩ := hz
    have hil : i + 1 < L.length := by omega
    have hml := hI.may.le
    refine ⟨i + 1, L[i + 1], hI.idx hil, List.getElem?_eq_getElem hil, ?_, hkv i hil, WalkArith.wf_i64 (by omega)⟩
    rw [hp (i + 1) _ (List.getElem?_eq_getElem hil), ← h1]
  · cases hz
set_option maxRecDepth 100000 in
set_option maxHeartbeats 4000000 in
theorem hcback_any {B most hb : Nat} {L : List NodeS} {c : Nat} {S : List ByteArray} {k : Int} {W : World} (h : Hc B most hb L (c + 1) S k W) (hk : 0 ≤ k ∧ k ≤ 1000000) :
    Calls Tryd.prog 26 #[.pointer (some ⟨hb, 0, none⟩)] W fun r w' => (∃ at' : Int, r = .returned (.tuple #[.string (tAt S c), .int .i64 at', .int .i64 0])) ∧ Hc B most hb L c S (k + 1) w' ∧ Kept (fun q => B ≤ q) W w' := by
  obtain ⟨ad, cp, mb, kv, hq, hcp, hmb, hkv, hno⟩ := h.q
  have hI := h.inv
  have hcl := hI.lt
  have hml := hI.may.le
  obtain ⟨e, he⟩ : ∃ e, L[c + 1]? = some e := ⟨_, List.getElem?_eq_getElem hcl⟩
  obtain ⟨ep, hep⟩ : ∃ ep, L[c]? = some ep := ⟨_, List.getElem?_eq_getElem (by omega)⟩
  have hpa : e.pa = (c : Int) := by rw [h.par _ _ he]; omega
  have hsq := hI.sq _ _ hep
  have hip : idx L e.pa = (c : Nat) := by rw [hpa]; exact hI.idx (by omega)
  have cB := back_any ad L.length cp L _ W hq.ng hcp hq.tabs hI.may (c + 1) c e ep (hI.idx hcl) (by omega) he hip hep
  have HT := Lib.hid (fun A' n' c' at' s' W' (h' : Hq most ad L.length cp L ((c + 1 : Nat) : Int) mb hb (tAt S (c + 1)) k kv W') => hto_ok A' n' c' (c : Int) at' s' (tAt S c) [tAt S c] (rowG L S) [bt (tAt S (c + 1)) (tAt S c)] [] W' h' hml (rowG_good (B := B) (most := most) (hb := hb) (k := k) hI h.par hkv) (.up (by omega) (rowG_at hcl) (by omega) (.done _)) (by simp) (by simp) (by omega) (by omega) rfl (by simp) (by intro t ht; simp only [List.mem_cons, List.not_mem_nil, or_false] at ht; rcases ht with rfl | rfl <;> exact tAt_may h.may _) rfl hk)
  rw [hsq] at cB
  obtain ⟨_, f1, f2, _⟩ := hist_facts hq.box
  have HQ := Lib.hid hq
  have HH := Lib.hid h
  have HREST : Hid (L.length ≤ cp ∧ B ≤ mb ∧ (∀ i : Nat, i + 1 < L.length → kv.lookup ((i + 1 : Nat) : Int) = some (lnkS S i)) ∧ (∀ i : Nat, L.length ≤ i → kv.lookup ((i : Nat) : Int) = none)) := ⟨hcp, hmb, hkv, hno⟩
  have HI := Lib.hid hI
  have HLT := Lib.hid (heap_lt hq.box)
  clear hq hcp hmb hkv hno hI he hep hpa hip h
  go_enter Tryd.func26, Tryd.ntmps26
  go_wp2_with (first
    | (go_at_call 46; refine cB.mono ?_; rintro r w1 ⟨⟨v, rfl, hO⟩, hk1⟩; obtain ⟨A1, c1, rfl, hN1, hc1, hn1⟩ := hO.slice; have HO1 := Lib.hid hO; have HK1 := Lib.hid hk1; have HQ1 := Lib.hid (HQ.out.kept hk1); have HC1 := Lib.hid hc1; have HN1 := Lib.hid hn1; clear hk1 hO hN1 hc1 hn1 cB f1 f2)
    | (go_at_call 45; refine (HT.out _ _ _ _ _ _ HQ1.out).mono ?_; rintro r w2 ⟨rfl, hB2, hk2⟩; have HB2 := Lib.hid hB2; have HK2 := Lib.hid hk2; clear hB2 hk2))
  refine bodyPost_ret (v := .tuple #[.string (tAt S c), .int .i64 e.at_, .int .i64 0]) (by simp [results, Tryd.results26, go_sem]) rfl ⟨⟨_, rfl⟩, ?_, ?_⟩
  · have hO2 := HO1.out.keptS HK2.out (fun q hq (e : q = hb) => by have := HLT.out; omega)
    obtain ⟨A2, c2, e2, hN2, hc2, hn2⟩ := hO2.slice
    injection e2 with e2 _ e3
    subst e2
    subst e3
    have hp2 := HI.out.may.ge
    cases A1 with
    | none => exact absurd (hn2 rfl).1 (by omega)
    | some a1 =>
      have hlo := HQ.out.lo
      exact ⟨⟨a1, c1, mb, kv, ⟨HQ1.out.tabs.kept HK2.out (by omega) (by omega), HB2.out, hN2, HQ1.out.mp.kept HK2.out (fun e => by
        obtain ⟨es, cl, h1, _⟩ := HQ.out.mp
        rw [e, HQ.out.box] at h1
        cases h1), hlo⟩, hc2, HREST.out.2⟩, HI.out.cur (by have := HI.out.lt; omega), HH.out.par, HH.out.sl, HH.out.may, HH.out.lo⟩
  · exact (HK1.out.any).trans (HK2.out.mono (fun q _ e => by have := HH.out.lo; omega))
set_option maxRecDepth 100000 in
set_option maxHeartbeats 4000000 in
theorem hcback_root {B most hb : Nat} {L : List NodeS} {S : List ByteArray} {k : Int} {W : World} (h : Hc B most hb L 0 S k W) :
    Calls Tryd.prog 26 #[.pointer (some ⟨hb, 0, none⟩)] W fun r w' => r = .returned (.tuple #[.string ⟨#[]⟩, .int .i64 0, .int .i64 6]) ∧ Kept (fun _ => False) W w' := by
  obtain ⟨ad, cp, mb, kv, hq, hcp, hmb, hkv, hno⟩ := h.q
  have hI := h.inv
  have cB := back_root ad L.length cp L _ W hq.ng hcp hq.tabs hI.may (hI.idx hI.lt)
  obtain ⟨_, f1, f2, _⟩ := hist_facts hq.box
  have cT := fun W => hto_err (hb := hb) (.slice none 0 0) 0 0 6 ⟨#[]⟩ W (by decide)
  clear hq hcp hmb hkv hno hI h
  go_enter Tryd.func26, Tryd.ntmps26
  go_wp2_with (first
    | (go_at_call 46; refine cB.mono ?_; rintro r w1 ⟨rfl, hk1⟩; have HK1 := Lib.hid hk1; clear hk1 cB f1 f2)
    | (go_at_call 45; refine (cT _).mono ?_; rintro r w2 ⟨rfl, hk2⟩; have HK2 := Lib.hid (HK1.out.trans hk2); clear hk2))
  exact bodyPost_ret (v := .tuple #[.string ⟨#[]⟩, .int .i64 0, .int .i64 6]) (by simp [results, Tryd.results26, go_sem]) rfl ⟨rfl, HK2.out⟩
set_option maxRecDepth 100000 in
set_option maxHeartbeats 4000000 in
theorem hcagain_any {B most hb : Nat} {L : List NodeS} {c : Nat} {S : List ByteArray} {k : Int} {W : World} (h : Hc B most hb L c S k W) (hc : c + 1 < L.length) (hk : 0 ≤ k ∧ k ≤ 1000000) :
    Calls Tryd.prog 27 #[.pointer (some ⟨hb, 0, none⟩)] W fun r w' => (∃ at' : Int, r = .returned (.tuple #[.string (tAt S (c + 1)), .int .i64 at', .int .i64 0])) ∧ Hc B most hb L (c + 1) S (k + 1) w' ∧ Kept (fun q => B ≤ q) W w' := by
  obtain ⟨ad, cp, mb, kv, hq, hcp, hmb, hkv, hno⟩ := h.q
  have hI := h.inv
  have hml := hI.may.le
  obtain ⟨e, he⟩ : ∃ e, L[c + 1]? = some e := ⟨_, List.getElem?_eq_getElem hc⟩
  have hpa : e.pa = (c : Int) := by rw [h.par _ _ he]; omega
  have hsq := hI.sq _ _ he
  have cB := again_any ad L.length cp L _ W hq.ng hcp hq.tabs hI.may (c + 1) e (by omega) he hpa (fun j e' hj he' => by rw [h.par _ _ he']; omega)
  have HT := Lib.hid (fun A' n' c' at' s' W' (h' : Hq most ad L.length cp L (c : Int) mb hb (tAt S c) k kv W') => hto_ok A' n' c' ((c + 1 : Nat) : Int) at' s' (tAt S (c + 1)) [tAt S (c + 1)] (rowG L S) [] [bt (tAt S c) (tAt S (c + 1))] W' h' hml (rowG_good (B := B) (most := most) (hb := hb) (k := k) hI h.par hkv) (.down (by omega) (rowG_at hc) (by omega) (.done _)) (by simp) (by simp) (by omega) (by omega) rfl (by simp) (by intro t ht; simp only [List.mem_cons, List.not_mem_nil, or_false] at ht; rcases ht with rfl | rfl <;> exact tAt_may h.may _) rfl hk)
  rw [hsq] at cB
  obtain ⟨_, f1, f2, _⟩ := hist_facts hq.box
  have HQ := Lib.hid hq
  have HH := Lib.hid h
  have HREST : Hid (L.length ≤ cp ∧ B ≤ mb ∧ (∀ i : Nat, i + 1 < L.length → kv.lookup ((i + 1 : Nat) : Int) = some (lnkS S i)) ∧ (∀ i : Nat, L.length ≤ i → kv.lookup ((i : Nat) : Int) = none)) := ⟨hcp, hmb, hkv, hno⟩
  have HI := Lib.hid hI
  have HLT := Lib.hid (heap_lt hq.box)
  clear hq hcp hmb hkv hno hI he hpa h
  go_enter Tryd.func27, Tryd.ntmps27
  go_wp2_with (first
    | (go_at_call 47; refine cB.mono ?_; rintro r w1 ⟨⟨v, rfl, hO⟩, hk1⟩; obtain ⟨A1, c1, rfl, hN1, hc1, hn1⟩ := hO.slice; have HO1 := Lib.hid hO; have HK1 := Lib.hid hk1; have HQ1 := Lib.hid (HQ.out.kept hk1); have HC1 := Lib.hid hc1; have HN1 := Lib.hid hn1; clear hk1 hO hN1 hc1 hn1 cB f1 f2)
    | (go_at_call 45; refine (HT.out _ _ _ _ _ _ HQ1.out).mono ?_; rintro r w2 ⟨rfl, hB2, hk2⟩; have HB2 := Lib.hid hB2; have HK2 := Lib.hid hk2; clear hB2 hk2))
  refine bodyPost_ret (v := .tuple #[.string (tAt S (c + 1)), .int .i64 e.at_, .int .i64 0]) (by simp [results, Tryd.results27, go_sem]) rfl ⟨⟨_, rfl⟩, ?_, ?_⟩
  · have hO2 := HO1.out.keptS HK2.out (fun q hq (e : q = hb) => by have := HLT.out; omega)
    obtain ⟨A2, c2, e2, hN2, hc2, hn2⟩ := hO2.slice
    injection e2 with e2 _ e3
    subst e2
    subst e3
    have hp2 := HI.out.may.ge
    cases A1 with
    | none => exact absurd (hn2 rfl).1 (by omega)
    | some a1 =>
      have hlo := HQ.out.lo
      exact ⟨⟨a1, c1, mb, kv, ⟨HQ1.out.tabs.kept HK2.out (by omega) (by omega), HB2.out, hN2, HQ1.out.mp.kept HK2.out (fun e => by
        obtain ⟨es, cl, h1, _⟩ := HQ.out.mp
        rw [e, HQ.out.box] at h1
        cases h1), hlo⟩, hc2, HREST.out.2⟩, HI.out.cur hc, HH.out.par, HH.out.sl, HH.out.may, HH.out.lo⟩
  · exact (HK1.out.any).trans (HK2.out.mono (fun q _ e => by have := HH.out.lo; omega))
end Go.Proofs.YthbfmdnibijapaaDoor
