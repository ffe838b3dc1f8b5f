/-
  HISTORY: a text committed.
-/
import Derived.Test.YthbfmdnibijapaaDoorHiE
import Derived.Test.YthbfmdnibijapaaDoorUnL
set_option linter.unusedVariables false
namespace Go.Proofs.YthbfmdnibijapaaDoor
open Go Go.RowKit

theorem fresh_tree {w w5 : World} (hk : Kept (fun _ => False) w w5) (o : Obj) (v0 v1 : Value) : Kept (fun _ => False) w (((w5.alloc o).setCell ⟨w5.heap.size, 0, none⟩ v0).setCell ⟨w5.heap.size, 1, none⟩ v1) := by
  have h1 : Kept (fun q => q = w5.heap.size) w5 (((w5.alloc o).setCell ⟨w5.heap.size, 0, none⟩ v0).setCell ⟨w5.heap.size, 1, none⟩ v1) := (((Kept.refl (fun q => q = w5.heap.size) w5).alloc o).setCell (p := ⟨w5.heap.size, 0, none⟩) rfl v0).setCell (p := ⟨w5.heap.size, 1, none⟩) rfl v1
  exact hk.fresh h1 (fun q hq e => by have := hk.size; omega)
structure C5 (w4 W : World) (tb g c' : Nat) (L' : List NodeS) (cur' : Int) : Prop where
  ht : W.heap[tb]? = some (treeO (.slice (some ⟨g, 0, none⟩) L'.length c') cur')
  hk : Kept (fun _ => False) w4 W
  og : Og W g L'.length c' L'
  lo : w4.heap.size ≤ g
theorem c5_a {w4 w5 : World} {g c' : Nat} {L' : List NodeS} (cur' : Int) (hk : Kept (fun _ => False) w4 w5) (og : Og w5 g L'.length c' L') (lo : w4.heap.size ≤ g) : C5 w4 (w5.alloc (treeO (.slice (some ⟨g, 0, none⟩) L'.length c') cur')) w5.heap.size g c' L' cur' :=
  ⟨heap_alloc_new w5 _, hk.alloc _, og.kept ((Kept.refl (fun _ => False) w5).alloc _) id, lo⟩
theorem c5_b {w4 w5 : World} {g c' : Nat} {L' : List NodeS} (cur' : Int) {v : Value} {x : Int} (hk : Kept (fun _ => False) w4 w5) (og : Og w5 g L'.length c' L') (lo : w4.heap.size + 1 ≤ g) (ht : w5.heap[w4.heap.size]? = some (treeO v x)) : C5 w4 ((w5.setCell ⟨w4.heap.size, 0, none⟩ (.slice (some ⟨g, 0, none⟩) L'.length c')).setCell ⟨w4.heap.size, 1, none⟩ (.int .i64 cur')) w4.heap.size g c' L' cur' := by
  have h1 : Kept (fun q => q = w4.heap.size) w5 ((w5.setCell ⟨w4.heap.size, 0, none⟩ (.slice (some ⟨g, 0, none⟩) L'.length c')).setCell ⟨w4.heap.size, 1, none⟩ (.int .i64 cur')) := Kept.tree (g := w4.heap.size) (S := fun q => q = w4.heap.size) (Kept.refl (fun q => q = w4.heap.size) w5) rfl _ _
  exact ⟨tree_set ht _ _, hk.fresh h1 (fun q hq e => by omega), og.kept h1 (by omega), by omega⟩
section
variable {ad : Addr} {n c : Nat} {L : List NodeS} {cur : Int} {mb hb : Nat} {s : ByteArray} {k : Int} {kv : List (Int × Value)}
set_option maxRecDepth 100000 in
set_option maxHeartbeats 4000000 in
theorem hcommit_bad (most : Int) (t : ByteArray) (at' : Int) (w : World) (h : Hq most ad n c L cur mb hb s k kv w) (hs : s.size ≤ 140737488351232) (ht : t.size ≤ 140737488351232) (hm : mayB t = false) :
    Calls Tryd.prog 25 #[.pointer (some ⟨hb, 0, none⟩), .string t, .int .i64 at'] w fun r w' => r = .returned (.int .i64 1) ∧ Kept (fun _ => False) w w' := by
  obtain ⟨_, _, _, _, f4, _⟩ := hist_facts h.box
  have cB := between_no s t w h.tabs hs ht (fun e => by rw [hm] at e; exact absurd e.2 (by decide))
  have HK : Hid (∀ w1, Kept (fun _ => False) w w1 → Kept (fun _ => False) w (w1.alloc (patO 0 0 ⟨#[]⟩))) := fun w1 hk => hk.alloc _
  simp only [patO] at HK
  clear h hm hs ht
  go_enter Tryd.func25, Tryd.ntmps25
  go_wp2_with (go_at_call 42; refine cB.mono ?_; rintro e w1 ⟨rfl, hk1⟩; have HK1 := Lib.hid hk1; clear hk1 cB f4)
  go_ret
  exact ⟨rfl, HK.out _ HK1.out⟩
set_option maxRecDepth 100000 in
set_option maxHeartbeats 8000000 in
theorem hcommit_any (most : Nat) (t : ByteArray) (at' : Int) (l : NodeS) (CM : List NodeS × Int) (w : World) (h : Hq most ad n c L cur mb hb s k kv w) (hnc : n ≤ c) (hM : MayT L cur) (hs : mayB s = true) (ht : mayB t = true) (ha : 0 ≤ at' ∧ at' ≤ 4000) (hm : 2 ≤ most ∧ most ≤ 64) (hlast : L.getLast? = some l) (hsq : 0 ≤ l.sq ∧ l.sq < 1073741824)
    (hCM : cmt L cur l.sq ⟨#[]⟩ at' most = CM) (hsr : Srt CM.1) (hcl : 1 ≤ CM.1.length ∧ CM.1.length ≤ 64) (hnone : kv.lookup CM.2 = none) (hwf : (Lit.int .i64 CM.2).wf = true) (hkv : ∀ e ∈ CM.1.drop 1, (∃ v, (kv ++ [(CM.2, lnkV (bt s t) (bt t s))]).lookup e.sq = some v) ∧ (Lit.int .i64 e.sq).wf = true) :
    Calls Tryd.prog 25 #[.pointer (some ⟨hb, 0, none⟩), .string t, .int .i64 at'] w fun r w' => r = .returned (.int .i64 0) ∧
      (∃ g c' mb', w.heap.size ≤ g ∧ w.heap.size ≤ mb' ∧ CM.1.length ≤ c' ∧ Hq most ⟨g, 0, none⟩ CM.1.length c' CM.1 CM.2 mb' hb t k (keepL (kv ++ [(CM.2, lnkV (bt s t) (bt t s))]) (CM.1.drop 1)) w') ∧ Kept (fun q => q = hb ∨ q = mb) w w' := by
  have hlt := heap_lt h.box
  obtain ⟨_, _, _, _, f4, _⟩ := hist_facts h.box
  have HH := Lib.hid h
  have cB := between_yes s t w h.tabs hs ht
  have cB2 := fun W (hT : Tabs W) => between_yes t s W hT ht hs
  rw [bt_btw] at cB
  rw [bt_btw] at cB2
  have cC := fun W (h : Hq most ad n c L cur mb hb s k kv W) => commit_any ad n c L cur ⟨#[]⟩ at' most l W h.ng hnc h.tabs hM (by decide) ha hm hlast hsq
  rw [hCM] at cC
  have HCC := Lib.hid cC
  have HCB2 := Lib.hid cB2
  have HSR := Lib.hid hsr
  have HKV := Lib.hid hkv
  have HNO := Lib.hid hnone
  have HWF := Lib.hid hwf
  have HNM : Hid (mb ≠ hb) := by
    show _ ≠ _
    rintro rfl
    obtain ⟨es, cl, h1, _⟩ := h.mp
    rw [h.box] at h1
    cases h1
  have HLT := Lib.hid hlt
  have hmlt : mb < w.heap.size := by obtain ⟨es, cl, h1, _⟩ := h.mp; exact heap_lt h1
  have HML := Lib.hid hmlt
  obtain ⟨L', cur'⟩ := CM
  obtain ⟨D, hD⟩ : ∃ D, bt s t = D := ⟨_, rfl⟩
  obtain ⟨E, hE⟩ : ∃ E, bt t s = E := ⟨_, rfl⟩
  rw [hD] at cB HKV
  rw [hE] at HCB2 HKV
  rw [hD, hE]
  obtain ⟨d0, d1, d2⟩ := D
  obtain ⟨e0, e1, e2⟩ := E
  simp only at cB HCB2 HKV HSR HNO HWF HCC hcl ⊢
  have HBIG : Hid (L'.length ≤ 64) := hcl.2
  have hl1 := hcl.1
  clear h hM hs ht hlast hCM hsr hnone hwf hkv cB2 cC hD hE hlt hmlt hcl
  go_enter Tryd.func25, Tryd.ntmps25
  go_upto_region 4 with (go_at_call 42; refine cB.mono ?_; rintro e w1 ⟨rfl, hk1⟩; have HK1 := Lib.hid hk1; clear hk1 cB f4)
  have HP2 : Hid ((w1.alloc (patO d0 d1 d2)).heap[w1.heap.size]? = some (patO d0 d1 d2)) := heap_alloc_new w1 _
  have HK2 : Hid (Kept (fun _ => False) w (w1.alloc (patO d0 d1 d2))) := HK1.out.alloc _
  simp only [patO] at HP2 HK2
  obtain ⟨p1, hp1⟩ : ∃ p1, w1.heap.size = p1 := ⟨_, rfl⟩
  have HPL : Hid (w.heap.size ≤ p1) := by rw [← hp1]; exact HK1.out.size
  simp only [hp1] at HP2 ⊢
  clear hp1
  generalize w1.alloc _ = w2 at *
  clear HK1
  have HQ2 := Lib.hid (HH.out.kept HK2.out)
  obtain ⟨_, _, _, _, f4, _⟩ := hist_facts HQ2.out.box
  have cB3 := HCB2.out w2 HQ2.out.tabs
  go_upto_region 5 with (go_at_call 42; refine cB3.mono ?_; rintro e w3 ⟨rfl, hk3⟩; have HK3 := Lib.hid (HK2.out.trans hk3); have HP3 := Lib.hid ((hk3.block _ (heap_lt HP2.out) id).trans HP2.out); clear hk3 cB3 f4)
  have HR4 : Hid ((w3.alloc (patO e0 e1 e2)).heap[w3.heap.size]? = some (patO e0 e1 e2)) := heap_alloc_new w3 _
  have HP4 : Hid ((w3.alloc (patO e0 e1 e2)).heap[p1]? = some (patO d0 d1 d2)) := (((Kept.refl (fun _ => False) w3).alloc _).block _ (heap_lt HP3.out) id).trans HP3.out
  have HK4 : Hid (Kept (fun _ => False) w (w3.alloc (patO e0 e1 e2))) := HK3.out.alloc _
  obtain ⟨p2, hp2⟩ : ∃ p2, w3.heap.size = p2 := ⟨_, rfl⟩
  have HPL2 : Hid (w.heap.size ≤ p2) := by rw [← hp2]; exact HK3.out.size
  simp only [patO] at HP4 HR4 HK4
  simp only [hp2] at HR4 ⊢
  clear hp2
  generalize w3.alloc _ = w4 at *
  clear HK3 HP3 HP2 HK2 HQ2
  have HQ4 := Lib.hid (HH.out.kept HK4.out)
  have KF : Hid (∀ W, Kept (fun _ => False) w4 W → W.cell? ⟨hb, 0, none⟩ = some (.int .i64 most) ∧ W.cell? ⟨hb, 1, none⟩ = some (.slice (some ad) n c) ∧ W.cell? ⟨hb, 2, none⟩ = some (.int .i64 cur)) := by
    show ∀ W, _
    intro W hk
    have hb' := (HQ4.out.kept hk).box
    exact ⟨(hist_facts hb').1, (hist_facts hb').2.1, (hist_facts hb').2.2.1⟩
  have KFC : Hid (∀ W, Kept (fun _ => False) w4 W → ∀ o, (W.alloc o).cell? ⟨hb, 0, none⟩ = some (.int .i64 most) ∧ (W.alloc o).cell? ⟨hb, 1, none⟩ = some (.slice (some ad) n c) ∧ (W.alloc o).cell? ⟨hb, 2, none⟩ = some (.int .i64 cur)) := fun W hk o => KF.out _ (hk.alloc o)
  have KFD : Hid (∀ W, Kept (fun _ => False) w4 W → ∀ o v0 v1, (((W.alloc o).setCell ⟨W.heap.size, 0, none⟩ v0).setCell ⟨W.heap.size, 1, none⟩ v1).cell? ⟨hb, 0, none⟩ = some (.int .i64 most) ∧ (((W.alloc o).setCell ⟨W.heap.size, 0, none⟩ v0).setCell ⟨W.heap.size, 1, none⟩ v1).cell? ⟨hb, 1, none⟩ = some (.slice (some ad) n c) ∧ (((W.alloc o).setCell ⟨W.heap.size, 0, none⟩ v0).setCell ⟨W.heap.size, 1, none⟩ v1).cell? ⟨hb, 2, none⟩ = some (.int .i64 cur)) := fun W hk o v0 v1 => KF.out _ (fresh_tree hk o v0 v1)
  have KA := KF.out w4.drew (Kept.refl _ w4).drew
  have HD := Lib.hid (HQ4.out.kept (Kept.refl (fun _ => False) w4).drew)
  have KAC : Hid (∀ o, (w4.alloc o).drew.cell? ⟨hb, 0, none⟩ = some (.int .i64 most) ∧ (w4.alloc o).drew.cell? ⟨hb, 1, none⟩ = some (.slice (some ad) n c) ∧ (w4.alloc o).drew.cell? ⟨hb, 2, none⟩ = some (.int .i64 cur)) := fun o => KF.out _ (((Kept.refl (fun _ => False) w4).alloc o).drew)
  have HDC : Hid (∀ o, Hq most ad n c L cur mb hb s k kv ((w4.alloc o).drew)) := fun o => HQ4.out.kept (((Kept.refl (fun _ => False) w4).alloc o).drew)
  have HKA : Hid (∀ o, Kept (fun _ => False) w4 ((w4.alloc o).drew)) := fun o => ((Kept.refl (fun _ => False) w4).alloc o).drew
  have KFE : Hid (∀ o W, Kept (fun _ => False) ((w4.alloc o).drew) W → ∀ v0 v1, ((W.setCell ⟨w4.heap.size, 0, none⟩ v0).setCell ⟨w4.heap.size, 1, none⟩ v1).cell? ⟨hb, 0, none⟩ = some (.int .i64 most) ∧ ((W.setCell ⟨w4.heap.size, 0, none⟩ v0).setCell ⟨w4.heap.size, 1, none⟩ v1).cell? ⟨hb, 1, none⟩ = some (.slice (some ad) n c) ∧ ((W.setCell ⟨w4.heap.size, 0, none⟩ v0).setCell ⟨w4.heap.size, 1, none⟩ v1).cell? ⟨hb, 2, none⟩ = some (.int .i64 cur)) := fun o W hk v0 v1 => KF.out _ (((HKA.out o).trans hk).fresh (((Kept.refl (fun q => q = w4.heap.size) W).setCell (p := ⟨w4.heap.size, 0, none⟩) rfl v0).setCell (p := ⟨w4.heap.size, 1, none⟩) rfl v1) (fun q hq e => by omega))
  have KFO : Hid (∀ o W, Kept (fun _ => False) ((w4.alloc o).drew) W → W.heap[w4.heap.size]? = some o) := fun o W hk => (hk.block _ (heap_lt (w := (w4.alloc o).drew) (heap_alloc_new w4 o)) id).trans (heap_alloc_new w4 o)
  go_region_held3 (fun (W : World) => W.cell? ⟨hb, 0, none⟩ = some (.int .i64 most) ∧ W.cell? ⟨hb, 1, none⟩ = some (.slice (some ad) n c) ∧ W.cell? ⟨hb, 2, none⟩ = some (.int .i64 cur))
    (first | with_reducible exact KB | with_reducible exact KA | with_reducible exact KAC.out _ | with_reducible exact KC.out _ | with_reducible exact KD.out _ _ _ | with_reducible exact KE.out _ _ | fail)
    (first
      | (go_at_call 43; refine (HCC.out _ HD.out).mono ?_; rintro r w5 ⟨⟨v, rfl, hO⟩, hk5⟩; obtain ⟨g, c', rfl, hBg, hog⟩ := hO.og' rfl hl1; have HK45 := Lib.hid ((Kept.refl (fun _ => False) w4).drew.trans hk5); have KB := KF.out w5 HK45.out; have KC := Lib.hid (KFC.out w5 HK45.out); have KD := Lib.hid (KFD.out w5 HK45.out); have HE := Lib.hid (c5_a cur' HK45.out hog hBg); clear hk5 hO hog hBg)
      | (go_at_call 43; refine (HCC.out _ (HDC.out _)).mono ?_; rintro r w5 ⟨⟨v, rfl, hO⟩, hk5⟩; obtain ⟨g, c', rfl, hBg, hog⟩ := hO.og' rfl hl1; have HK45 := Lib.hid ((HKA.out _).trans hk5); have KB := KF.out w5 HK45.out; have KE := Lib.hid (KFE.out _ w5 hk5); have HT5 := Lib.hid (KFO.out _ w5 hk5); obtain ⟨r0, r1, r2, r3⟩ := tree_facts HT5.out; have HE := Lib.hid (c5_b cur' HK45.out hog (by simpa using hBg) HT5.out); clear hk5 hO hog hBg))
  all_goals
    try simp only [treeO] at HE
    first
      | (obtain ⟨tb, htb⟩ : ∃ tb, w5.heap.size = tb := ⟨_, rfl⟩
         simp only [htb] at HE ⊢
         generalize w5.alloc _ = w6 at *)
      | (obtain ⟨tb, htb⟩ : ∃ tb, w4.heap.size = tb := ⟨_, rfl⟩
         simp only [htb] at HE ⊢
         generalize (w5.setCell ⟨tb, 0, none⟩ (.slice (some ⟨g, 0, none⟩) L'.length c')).setCell ⟨tb, 1, none⟩ (.int .i64 cur') = w6 at HE ⊢)
    have HQ6 := Lib.hid (HQ4.out.kept HE.out.hk)
    have HP6 := Lib.hid ((HE.out.hk.block _ (heap_lt HP4.out) id).trans HP4.out)
    have HR6 := Lib.hid ((HE.out.hk.block _ (heap_lt HR4.out) id).trans HR4.out)
    have HK6 := Lib.hid (HK4.out.trans HE.out.hk)
    have HTH : Hid (tb ≠ hb) := by
      show _ ≠ _
      intro e
      subst e
      have h1 := HE.out.ht
      have h2 := HQ6.out.box
      rw [h2] at h1
      injection h1 with h1
      injection h1 with _ h1
      exact absurd h1 (by decide)
    have HP1 : Hid (p1 ≠ hb ∧ p2 ≠ hb) := by
      have h0 := HPL.out
      have h1 := HPL2.out
      have h2 := HLT.out
      exact ⟨by omega, by omega⟩
    have HGG : Hid (w.heap.size ≤ g) := by
      show _ ≤ _
      have h1 := HK4.out.size
      have h2 := HE.out.lo
      omega
    obtain ⟨t0, t1, _⟩ := tree_facts HE.out.ht
    obtain ⟨_, h1, h2, h3, h4, _⟩ := hist_facts HQ6.out.box
    have k1 : w6.frozen? ⟨hb, 1, none⟩ = false := frozen_of HQ6.out.box
    have k2 : w6.frozen? ⟨hb, 2, none⟩ = false := frozen_of HQ6.out.box
    have k4 : w6.frozen? ⟨hb, 4, none⟩ = false := frozen_of HQ6.out.box
    have HX : Hid (∀ W7, ((w6.setCell ⟨hb, 1, none⟩ (.slice (some ⟨g, 0, none⟩) L'.length c')).setCell ⟨hb, 2, none⟩ (.int .i64 cur')).setCell ⟨hb, 4, none⟩ (.string t) = W7 → W7.heap[hb]? = some (histO most (.slice (some ⟨g, 0, none⟩) L'.length c') cur' mb t k) ∧ Kept (fun q => q = hb) w6 W7) := by
      rintro W7 rfl
      exact ⟨(heap_set (heap_set (heap_set HQ6.out.box _) _) _).trans rfl, (((Kept.refl (fun q => q = hb) w6).setCell (p := ⟨hb, 1, none⟩) rfl _).setCell (p := ⟨hb, 2, none⟩) rfl _).setCell (p := ⟨hb, 4, none⟩) rfl _⟩
    go_upto_region 9 with fail
    obtain ⟨w7, hw7⟩ : ∃ w7, ((w6.setCell ⟨hb, 1, none⟩ (.slice (some ⟨g, 0, none⟩) L'.length c')).setCell ⟨hb, 2, none⟩ (.int .i64 cur')).setCell ⟨hb, 4, none⟩ (.string t) = w7 := ⟨_, rfl⟩
    obtain ⟨hB7, hK7⟩ := HX.out w7 hw7
    simp only [hw7]
    clear hw7 HX t0 t1 h1 h2 h3 h4 k1 k2 k4
    have HB7 := Lib.hid hB7
    have HK7 := Lib.hid hK7
    have hd7 : Kept (fun q => q = hb) w6 w7.drew := hK7.drew
    have hT7 := (hd7.block _ (heap_lt HE.out.ht) HTH.out).trans HE.out.ht
    have hP7 := (hd7.block _ (heap_lt HP6.out) HP1.out.1).trans HP6.out
    have hR7 := (hd7.block _ (heap_lt HR6.out) HP1.out.2).trans HR6.out
    have hM7 := HQ6.out.mp.kept hd7 HNM.out
    obtain ⟨_, t1, _⟩ := tree_facts hT7
    obtain ⟨p10, p11, p12⟩ := pat_cells hP7
    obtain ⟨p20, p21, p22⟩ := pat_cells hR7
    have g3 := (hist_facts (W := w7.drew) hB7).2.2.2.1
    obtain ⟨w8, hrun, hM8, hk8⟩ := MapI.put Tryd.underlying64 Tryd.underlying3 hM7 (lnkV ⟨d0, d1, d2⟩ ⟨e0, e1, e2⟩) HWF.out HNO.out
    have hK8 : Kept (fun q => q = hb ∨ q = mb) w w8 := (HK6.out.any).trans ((hd7.mono (fun _ _ h => .inl h)).trans (hk8.mono (fun _ _ h => .inr h)))
    have hgS : ¬ (g = hb ∨ g = mb) := by have h1 := HGG.out; have h2 := HLT.out; have h3 := HML.out; omega
    have hq8 : Hq most ⟨g, 0, none⟩ L'.length c' L' cur' mb hb t k (kv ++ [(cur', lnkV ⟨d0, d1, d2⟩ ⟨e0, e1, e2⟩)]) w8 :=
      ⟨HH.out.tabs.kept hK8 (by have := HH.out.lo; omega) (by have := HH.out.lo; omega),
        (hk8.block hb (heap_lt (w := w7.drew) hB7) (fun e => HNM.out e.symm)).trans hB7,
        HE.out.og.ng.kept ((hd7.mono (fun _ _ h => Or.inl h)).trans (hk8.mono (fun _ _ h => Or.inr h))) (fun a ha => by injection ha with ha; subst ha; exact hgS),
        hM8, HH.out.lo⟩
    have HQ8 := Lib.hid hq8
    have HK8 := Lib.hid hK8
    have cFg := forget_any w8 hq8 HE.out.og.le ⟨hl1, HBIG.out⟩ HSR.out HKV.out
    have HGS := Lib.hid hgS
    clear hK8 hgS hq8 hM8 hk8 hM7 hT7 hP7 hR7 hd7 hB7 hK7
    go_region
    clear hrun t1 p10 p11 p12 p20 p21 p22 g3
    go_wp2_with (go_at_call 44; refine cFg.mono ?_; rintro r w9 ⟨rfl, ⟨hB9, hM9⟩, hk9⟩; have HB9 := Lib.hid hB9; have HM9 := Lib.hid hM9; have HK9 := Lib.hid hk9; clear hB9 hM9 hk9 cFg)
    go_ret
    have h98 : w.heap.size ≤ w8.heap.size := HK8.out.size
    have hK9 : Kept (fun q => q = hb ∨ q = mb) w w9 := HK8.out.trans (HK9.out.mono (fun _ _ h => .inl h))
    have h2 := HH.out.tabs.two
    refine ⟨rfl, ⟨g, c', w8.heap.size, HGG.out, h98, HE.out.og.le, ⟨HQ8.out.tabs.kept HK9.out (by have := HH.out.lo; omega) (by have := HH.out.lo; omega), HB9.out, HQ8.out.ng.kept HK9.out (fun a ha => by injection ha with ha; subst ha; exact fun e => HGS.out (.inl e)), HM9.out, ⟨HH.out.lo.1, by omega⟩⟩⟩, hK9⟩
end
end Go.Proofs.YthbfmdnibijapaaDoor
