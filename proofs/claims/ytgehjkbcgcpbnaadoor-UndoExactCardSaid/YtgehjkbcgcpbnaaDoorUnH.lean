/-
  TREES: what text it stands at; a tree of one text.
-/
import Derived.Test.YtgehjkbcgcpbnaaDoorUnB
import Derived.BigQuiet
set_option linter.unusedVariables false
namespace Go.Proofs.YtgehjkbcgcpbnaaDoor
open Go Go.RowKit

structure TrH (ad : Addr) (n c : Nat) (L : List NodeS) (cur : Int) (tb : Nat) (W : World) : Prop where
  tabs : Tabs W
  ng : Ng W (some ad) n L
  box : W.heap[tb]? = some (treeO (.slice (some ad) n c) cur)
theorem TrH.kept {ad : Addr} {n c : Nat} {L : List NodeS} {cur : Int} {tb : Nat} {W W' : World} (h : TrH ad n c L cur tb W) (hk : Kept (fun _ => False) W W') : TrH ad n c L cur tb W' :=
  ⟨h.tabs.kept hk id id, h.ng.kept hk (fun _ _ => id), (hk.block _ (heap_lt h.box) id).trans h.box⟩
theorem TrH.drew {ad : Addr} {n c : Nat} {L : List NodeS} {cur : Int} {tb : Nat} {W : World} (h : TrH ad n c L cur tb W) : TrH ad n c L cur tb W.drew := h.kept (Kept.refl (fun _ => False) W).drew
theorem TrH.cells {ad : Addr} {n c : Nat} {L : List NodeS} {cur : Int} {tb : Nat} {W : World} (h : TrH ad n c L cur tb W) : W.cell? ⟨tb, 0, none⟩ = some (.slice (some ad) n c) ∧ W.cell? ⟨tb, 1, none⟩ = some (.int .i64 cur) := ⟨(tree_facts h.box).1, (tree_facts h.box).2.1⟩
theorem trh_new {ad : Addr} {n c : Nat} {L : List NodeS} {cur : Int} {w : World} (hT : Tabs w) (hA : Ng w (some ad) n L) : TrH ad n c L cur w.heap.size (w.alloc (treeO (.slice (some ad) n c) cur)) :=
  ⟨hT.kept ((Kept.refl (fun _ => False) w).alloc _) id id, hA.kept ((Kept.refl (fun _ => False) w).alloc _) (fun _ _ => id), heap_alloc_new w _⟩
set_option maxRecDepth 100000 in
set_option maxHeartbeats 4000000 in
theorem here_any (ad : Addr) (n c : Nat) (L : List NodeS) (cur : Int) (w : World) (hA : Ng w (some ad) n L) (hnc : n ≤ c) (hT : Tabs w) (hM : MayT L cur) (i : Nat) (e : NodeS) (hi : idx L cur = (i : Nat)) (he : L[i]? = some e) :
    Calls Tryd.prog 10 #[treeV (.slice (some ad) n c) cur] w fun r w' => r = .returned (.tuple #[.string e.tx, .int .i64 0]) ∧ Kept (fun _ => False) w w' := by
  have hl := hA.len
  have hs := ok_srt hM.ok
  have hle := hM.le
  rw [hl] at hle
  have HK0 : Hid (Kept (fun _ => False) w (w.alloc (treeO (.slice (some ad) n c) cur))) := (Kept.refl _ w).alloc _
  have HI0 := Lib.hid (trh_new (c := c) (cur := cur) hT hA)
  have cC := fun W (h : TrH ad n c L cur w.heap.size W) => tcheck_ok (some ad) n c L cur W h.ng hnc h.tabs hM
  have cF := fun W (h : TrH ad n c L cur w.heap.size W) => nfind_any (some ad) n c L cur W h.ng (by omega) hs
  rw [hi] at cF
  have HND : Hid (∀ W, TrH ad n c L cur w.heap.size W → Nd4 W (ad.add (i * 4)) e) := fun W h => (h.ng.nd he).2
  have hin : i < n := (hA.nd he).1
  obtain ⟨tb, htb⟩ : ∃ tb, w.heap.size = tb := ⟨_, rfl⟩
  have HTB := Lib.hid htb
  rw [htb] at HI0 cC cF HND
  have HCF := Lib.hid cF
  have HHL := Lib.hid hl
  clear htb hA hT hM hi hl hs cF he
  go_enter Tryd.func10, Tryd.ntmps10
  go_upto_region 1 with fail
  simp only [HTB.out]
  simp only [treeO] at HI0 HK0
  generalize w.alloc _ = w0 at *
  obtain ⟨t0, t1⟩ := HI0.out.cells
  have cC0 := cC w0 HI0.out
  go_upto_region 4 with (go_at_call 8; refine cC0.mono ?_; rintro r w1 ⟨rfl, hk1⟩; have HK1 := Lib.hid (HK0.out.trans hk1); have HI1 := Lib.hid (HI0.out.kept hk1); clear hk1 t0 t1 cC0 cC)
  have b1 : (0 : Int) ≤ (i : Int) := by omega
  have b2 : (i : Int) < (n : Int) := by omega
  go_upto_region 4 with fail
  have HI1d := Lib.hid HI1.out.drew
  have KF : Hid (∀ W, Kept (fun _ => False) w1 W → W.cell? ⟨tb, 0, none⟩ = some (.slice (some ad) n c) ∧ W.cell? ⟨tb, 1, none⟩ = some (.int .i64 cur) ∧ W.cell? ⟨(ad.add (i * 4)).block, (ad.add (i * 4)).off + 3, none⟩ = some (.string e.tx)) := by
    show ∀ W, _
    intro W hk
    have hI := HI1.out.kept hk
    exact ⟨hI.cells.1, hI.cells.2, (HND.out W hI).c3⟩
  have KA := KF.out w1.drew (Kept.refl _ w1).drew
  go_region_held3 (fun (W : World) => W.cell? ⟨tb, 0, none⟩ = some (.slice (some ad) n c) ∧ W.cell? ⟨tb, 1, none⟩ = some (.int .i64 cur) ∧ W.cell? ⟨(ad.add (i * 4)).block, (ad.add (i * 4)).off + 3, none⟩ = some (.string e.tx))
    (first | with_reducible exact KB | with_reducible exact KA)
    (first | (go_at_call 27; refine (HCF.out _ HI1d.out).mono ?_; rintro r w3 ⟨rfl, hk3⟩; have HK3 := Lib.hid ((Kept.refl (fun _ => False) w1).drew.trans hk3); have KB := KF.out w3 HK3.out; clear hk3))
  all_goals
    go_wp2_with fail
    exact bodyPost_ret (v := .tuple #[.string e.tx, .int .i64 0]) (by simp [results, Tryd.results10, go_sem]) rfl ⟨rfl, HK1.out.trans HK3.out⟩
set_option maxRecDepth 100000 in
set_option maxHeartbeats 4000000 in
theorem new_any (s : ByteArray) (w : World) (hT : Tabs w) (hm : mayB s = true) :
    Calls Tryd.prog 12 #[.string s] w fun r w' => (∃ v, r = .returned (.tuple #[treeV v 0, .int .i64 0]) ∧ On w' w.heap.size v [⟨0, -1, 0, s⟩]) ∧ Kept (fun _ => False) w w' := by
  have hsz := mayB_size hm
  have hk0 : Kept (fun _ => False) w (w.alloc nilT) := (Kept.refl _ w).alloc _
  have cC := check_any s _ (by omega) (hT.kept hk0 id id)
  rw [if_pos hm] at cC
  have HK0 := Lib.hid hk0
  have HY0 : Hid ((w.alloc nilT).heap[w.heap.size]? = some nilT) := heap_alloc_new w _
  obtain ⟨tb, htb⟩ : ∃ tb, w.heap.size = tb := ⟨_, rfl⟩
  have HTB := Lib.hid htb
  rw [htb] at HY0
  clear htb hk0 hT hm
  go_enter Tryd.func12, Tryd.ntmps12
  go_upto_region 1 with fail
  simp only [HTB.out]
  simp only [nilT, treeO] at HY0 HK0 cC
  generalize w.alloc _ = w0 at *
  go_upto_region 4 with (go_at_call 26; refine cC.mono ?_; rintro r w1 ⟨rfl, hk1⟩; have HK1 := Lib.hid (HK0.out.trans hk1); have HY1 := Lib.hid ((hk1.block tb (heap_lt HY0.out) id).trans HY0.out); clear hk1 cC)
  have hY2 : (w1.alloc (nodeO ⟨0, -1, 0, s⟩)).heap[tb]? = some nilT := (((Kept.refl (fun _ => False) w1).alloc _).block tb (heap_lt HY1.out) id).trans HY1.out
  have HY2 := Lib.hid hY2
  obtain ⟨r0, r1, r2, r3⟩ := tree_facts hY2
  have HTW : Hid (tb < w1.heap.size) := heap_lt HY1.out
  have HO : Hid (On (w1.alloc (nodeO ⟨0, -1, 0, s⟩)) w1.heap.size (.slice (some ⟨w1.heap.size, 0, none⟩) 1 1) [⟨0, -1, 0, s⟩]) := by
    have h := World.ownsRow_lit (base := w1.heap.size) (e := 56) (size := 4) w1 #[.int .i64 0, .int .i64 (-1), .int .i64 0, .string s] 1 (Nat.le_refl _) (by decide) rfl
    unfold On
    rw [flatN_one]
    exact h
  have HK2 : Hid (Kept (fun _ => False) w1 (w1.alloc (nodeO ⟨0, -1, 0, s⟩))) := (Kept.refl _ w1).alloc _
  clear hY2
  go_wp2_with fail
  refine bodyPost_ret (res_t1 rfl _ _ tb _ 0 rfl rfl (tree_set HY2.out _ 0)) rfl ⟨⟨_, rfl, ?ho⟩, ?hk⟩
  case ho =>
    have h1 := HO.out.keptS (Kept.tree (g := tb) (S := fun q => q = tb) (Kept.refl (fun q => q = tb) _) rfl (.slice (some ⟨w1.heap.size, 0, none⟩) 1 1) (.int .i64 0)) (fun k hk h => by have := HTW.out; omega)
    exact h1.mono (by have := HTW.out; have := HTB.out; omega)
  case hk => exact (HK1.out.trans HK2.out).fresh (Kept.tree (g := tb) (S := fun q => q = tb) (Kept.refl (fun q => q = tb) _) rfl _ _) (fun b hb h => by have := HTB.out; omega)
end Go.Proofs.YtgehjkbcgcpbnaaDoor
