/-
  THE LAW's walk; a told tree spoiled.
-/
import Derived.Test.YtgehjkbcgcpbnaaDoorUnZ
set_option linter.unusedVariables false
namespace Go.Proofs.YtgehjkbcgcpbnaaDoor
open Go Go.RowKit

/-- A row of nodes' cells of the call's own, whatever they hold. -/
def Gr (W : World) (g cap : Nat) : Prop := ∃ cs, W.heap[g]? = some (.cells cs 56 (0, 0)) ∧ cs.size = cap * 4
theorem Gr.set {W : World} {g cap : Nat} (h : Gr W g cap) (o : Nat) (u : Value) : Gr (W.setCell ⟨g, o, none⟩ u) g cap := by
  obtain ⟨cs, h1, h2⟩ := h
  exact ⟨_, heap_set h1 u, by simp [h2]⟩
theorem Gr.cell {W : World} {g cap : Nat} (h : Gr W g cap) {j : Nat} (hj : j < cap * 4) : ∃ u, W.cell? ⟨g, j, none⟩ = some u := by
  obtain ⟨cs, h1, h2⟩ := h
  exact ⟨_, (cell_of_row _ _ _ _ _ _ h1).trans (Array.getElem?_eq_getElem (by omega))⟩
theorem Gr.free {W : World} {g cap : Nat} (h : Gr W g cap) (j : Nat) : W.frozen? ⟨g, j, none⟩ = false := by
  obtain ⟨cs, h1, h2⟩ := h
  exact frozen_of h1
theorem Gr.kept {S : Nat → Prop} {W W' : World} {g cap : Nat} (h : Gr W g cap) (hk : Kept S W W') (hs : ¬ S g) : Gr W' g cap := by
  obtain ⟨cs, h1, h2⟩ := h
  exact ⟨cs, (hk.block _ (heap_lt h1) hs).trans h1, h2⟩
set_option maxRecDepth 100000 in
set_option maxHeartbeats 4000000 in
theorem walk1_of (A : Option Addr) (n c : Nat) (L : List NodeS) (cur : Int) (w : World) (hA : Ng w A n L) (hT : Tabs w) (D : WR) (hB : ∀ W, Ng W A n L → Tabs W → Calls Tryd.prog 19 #[treeV (.slice A n c) cur] W (Told W D)) :
    Calls Tryd.prog 33 #[treeV (.slice A n c) cur, .int .i64 1] w (Told w D) := by
  have HK0 : Hid (Kept (fun _ => False) w ((w.alloc (treeO (.slice A n c) cur)).alloc nilT)) := ((Kept.refl _ w).alloc _).alloc _
  have HI0 := Lib.hid (tre_new (c := c) (cur := cur) hT hA)
  obtain ⟨tb, htb⟩ : ∃ tb, w.heap.size = tb := ⟨_, rfl⟩
  have HTB := Lib.hid htb
  rw [htb] at HI0
  obtain ⟨dl, dc, ds, da, de⟩ := D
  clear htb hA hT
  go_enter Tryd.func33, Tryd.ntmps33
  go_upto_region 1 with fail
  simp only [HTB.out]
  simp only [treeO, nilT] at HI0 HK0
  generalize (w.alloc _).alloc _ = w0 at *
  obtain ⟨t0, t1⟩ := HI0.out.cells
  have cB := hB w0 HI0.out.ng HI0.out.tabs
  clear hB
  go_wp2_with (go_at_call 19; refine cB.mono ?_; rintro r w1 ⟨⟨v, rfl, hO⟩, hk1⟩; obtain ⟨A', n', c', rfl, _⟩ := hO.sn; have HO := Lib.hid hO; have HK1 := Lib.hid (HK0.out.trans hk1); have HI1 := Lib.hid (HI0.out.kept hk1); obtain ⟨r0, r1, r2, r3⟩ := tree_facts HI1.out.res; clear hk1 hO t0 t1 cB)
  refine bodyPost_ret (res_t4 rfl _ _ (tb + 1) _ dc rfl rfl (tree_set HI1.out.res _ _)) rfl ⟨⟨_, rfl, ?ho⟩, ?hk⟩
  case ho =>
    have h1 := HO.out.keptS (Kept.tree (g := tb + 1) (S := fun q => q = tb + 1) (Kept.refl (fun q => q = tb + 1) w1) rfl (.slice A' n' c') (.int .i64 dc)) (fun q h1 h => by have h1 := heap_lt HI0.out.res; omega)
    exact h1.mono (by have h1 := heap_lt HI0.out.res; have := HTB.out; omega)
  case hk => exact HK1.out.fresh (Kept.tree (g := tb + 1) (S := fun q => q = tb + 1) (Kept.refl (fun q => q = tb + 1) w1) rfl _ _) (fun b hb h => by have := HTB.out; omega)
set_option maxRecDepth 100000 in
set_option maxHeartbeats 4000000 in
theorem walk2_of (A : Option Addr) (n c : Nat) (L : List NodeS) (cur : Int) (w : World) (hA : Ng w A n L) (hT : Tabs w) (D : WR) (hB : ∀ W, Ng W A n L → Tabs W → Calls Tryd.prog 20 #[treeV (.slice A n c) cur] W (Told W D)) :
    Calls Tryd.prog 33 #[treeV (.slice A n c) cur, .int .i64 2] w (Told w D) := by
  have HK0 : Hid (Kept (fun _ => False) w ((w.alloc (treeO (.slice A n c) cur)).alloc nilT)) := ((Kept.refl _ w).alloc _).alloc _
  have HI0 := Lib.hid (tre_new (c := c) (cur := cur) hT hA)
  obtain ⟨tb, htb⟩ : ∃ tb, w.heap.size = tb := ⟨_, rfl⟩
  have HTB := Lib.hid htb
  rw [htb] at HI0
  obtain ⟨dl, dc, ds, da, de⟩ := D
  clear htb hA hT
  go_enter Tryd.func33, Tryd.ntmps33
  go_upto_region 1 with fail
  simp only [HTB.out]
  simp only [treeO, nilT] at HI0 HK0
  generalize (w.alloc _).alloc _ = w0 at *
  obtain ⟨t0, t1⟩ := HI0.out.cells
  have cB := hB w0 HI0.out.ng HI0.out.tabs
  clear hB
  go_wp2_with (go_at_call 20; refine cB.mono ?_; rintro r w1 ⟨⟨v, rfl, hO⟩, hk1⟩; obtain ⟨A', n', c', rfl, _⟩ := hO.sn; have HO := Lib.hid hO; have HK1 := Lib.hid (HK0.out.trans hk1); have HI1 := Lib.hid (HI0.out.kept hk1); obtain ⟨r0, r1, r2, r3⟩ := tree_facts HI1.out.res; clear hk1 hO t0 t1 cB)
  refine bodyPost_ret (res_t4 rfl _ _ (tb + 1) _ dc rfl rfl (tree_set HI1.out.res _ _)) rfl ⟨⟨_, rfl, ?ho⟩, ?hk⟩
  case ho =>
    have h1 := HO.out.keptS (Kept.tree (g := tb + 1) (S := fun q => q = tb + 1) (Kept.refl (fun q => q = tb + 1) w1) rfl (.slice A' n' c') (.int .i64 dc)) (fun q h1 h => by have h1 := heap_lt HI0.out.res; omega)
    exact h1.mono (by have h1 := heap_lt HI0.out.res; have := HTB.out; omega)
  case hk => exact HK1.out.fresh (Kept.tree (g := tb + 1) (S := fun q => q = tb + 1) (Kept.refl (fun q => q = tb + 1) w1) rfl _ _) (fun b hb h => by have := HTB.out; omega)
set_option maxRecDepth 100000 in
set_option maxHeartbeats 4000000 in
theorem walk3_of (A : Option Addr) (n c : Nat) (L : List NodeS) (cur : Int) (w : World) (hA : Ng w A n L) (hT : Tabs w) (D : WR) (hB : ∀ W, Ng W A n L → Tabs W → Calls Tryd.prog 44 #[treeV (.slice A n c) cur] W (Told W D)) :
    Calls Tryd.prog 33 #[treeV (.slice A n c) cur, .int .i64 3] w (Told w D) := by
  have HK0 : Hid (Kept (fun _ => False) w ((w.alloc (treeO (.slice A n c) cur)).alloc nilT)) := ((Kept.refl _ w).alloc _).alloc _
  have HI0 := Lib.hid (tre_new (c := c) (cur := cur) hT hA)
  obtain ⟨tb, htb⟩ : ∃ tb, w.heap.size = tb := ⟨_, rfl⟩
  have HTB := Lib.hid htb
  rw [htb] at HI0
  obtain ⟨dl, dc, ds, da, de⟩ := D
  clear htb hA hT
  go_enter Tryd.func33, Tryd.ntmps33
  go_upto_region 1 with fail
  simp only [HTB.out]
  simp only [treeO, nilT] at HI0 HK0
  generalize (w.alloc _).alloc _ = w0 at *
  obtain ⟨t0, t1⟩ := HI0.out.cells
  have cB := hB w0 HI0.out.ng HI0.out.tabs
  clear hB
  go_wp2_with (go_at_call 44; refine cB.mono ?_; rintro r w1 ⟨⟨v, rfl, hO⟩, hk1⟩; obtain ⟨A', n', c', rfl, _⟩ := hO.sn; have HO := Lib.hid hO; have HK1 := Lib.hid (HK0.out.trans hk1); have HI1 := Lib.hid (HI0.out.kept hk1); obtain ⟨r0, r1, r2, r3⟩ := tree_facts HI1.out.res; clear hk1 hO t0 t1 cB)
  refine bodyPost_ret (res_t4 rfl _ _ (tb + 1) _ dc rfl rfl (tree_set HI1.out.res _ _)) rfl ⟨⟨_, rfl, ?ho⟩, ?hk⟩
  case ho =>
    have h1 := HO.out.keptS (Kept.tree (g := tb + 1) (S := fun q => q = tb + 1) (Kept.refl (fun q => q = tb + 1) w1) rfl (.slice A' n' c') (.int .i64 dc)) (fun q h1 h => by have h1 := heap_lt HI0.out.res; omega)
    exact h1.mono (by have h1 := heap_lt HI0.out.res; have := HTB.out; omega)
  case hk => exact HK1.out.fresh (Kept.tree (g := tb + 1) (S := fun q => q = tb + 1) (Kept.refl (fun q => q = tb + 1) w1) rfl _ _) (fun b hb h => by have := HTB.out; omega)
set_option maxRecDepth 100000 in
set_option maxHeartbeats 4000000 in
theorem walk4_of (A : Option Addr) (n c : Nat) (L : List NodeS) (cur : Int) (w : World) (hA : Ng w A n L) (hT : Tabs w) (D : WR) (hB : ∀ W, Ng W A n L → Tabs W → Calls Tryd.prog 45 #[treeV (.slice A n c) cur] W (Told W D)) :
    Calls Tryd.prog 33 #[treeV (.slice A n c) cur, .int .i64 4] w (Told w D) := by
  have HK0 : Hid (Kept (fun _ => False) w ((w.alloc (treeO (.slice A n c) cur)).alloc nilT)) := ((Kept.refl _ w).alloc _).alloc _
  have HI0 := Lib.hid (tre_new (c := c) (cur := cur) hT hA)
  obtain ⟨tb, htb⟩ : ∃ tb, w.heap.size = tb := ⟨_, rfl⟩
  have HTB := Lib.hid htb
  rw [htb] at HI0
  obtain ⟨dl, dc, ds, da, de⟩ := D
  clear htb hA hT
  go_enter Tryd.func33, Tryd.ntmps33
  go_upto_region 1 with fail
  simp only [HTB.out]
  simp only [treeO, nilT] at HI0 HK0
  generalize (w.alloc _).alloc _ = w0 at *
  obtain ⟨t0, t1⟩ := HI0.out.cells
  have cB := hB w0 HI0.out.ng HI0.out.tabs
  clear hB
  go_wp2_with (go_at_call 45; refine cB.mono ?_; rintro r w1 ⟨⟨v, rfl, hO⟩, hk1⟩; obtain ⟨A', n', c', rfl, _⟩ := hO.sn; have HO := Lib.hid hO; have HK1 := Lib.hid (HK0.out.trans hk1); have HI1 := Lib.hid (HI0.out.kept hk1); obtain ⟨r0, r1, r2, r3⟩ := tree_facts HI1.out.res; clear hk1 hO t0 t1 cB)
  refine bodyPost_ret (res_t4 rfl _ _ (tb + 1) _ dc rfl rfl (tree_set HI1.out.res _ _)) rfl ⟨⟨_, rfl, ?ho⟩, ?hk⟩
  case ho =>
    have h1 := HO.out.keptS (Kept.tree (g := tb + 1) (S := fun q => q = tb + 1) (Kept.refl (fun q => q = tb + 1) w1) rfl (.slice A' n' c') (.int .i64 dc)) (fun q h1 h => by have h1 := heap_lt HI0.out.res; omega)
    exact h1.mono (by have h1 := heap_lt HI0.out.res; have := HTB.out; omega)
  case hk => exact HK1.out.fresh (Kept.tree (g := tb + 1) (S := fun q => q = tb + 1) (Kept.refl (fun q => q = tb + 1) w1) rfl _ _) (fun b hb h => by have := HTB.out; omega)
set_option maxRecDepth 100000 in
set_option maxHeartbeats 4000000 in
theorem spoil_tree (v : Value) (B : Nat) (L : List NodeS) (cu : Int) (w : World) (hO : On w B v L) (hn : L.length ≤ 100000) :
    Calls Tryd.prog 36 #[treeV v cu] w fun r w' => r = .returned (.tuple #[]) ∧ Kept (fun q => v.ownBlock = some q) w w' := by
  by_cases hl : L.length = 0
  · obtain ⟨A, c, rfl, hng, _⟩ := hO.slice
    have hk0 : Kept (fun _ => False) w (w.alloc (treeO (.slice A L.length c) cu)) := (Kept.refl _ w).alloc _
    have hX : (w.alloc (treeO (.slice A L.length c) cu)).heap[w.heap.size]? = some (treeO (.slice A L.length c) cu) := heap_alloc_new w _
    rw [hl] at hX hk0 ⊢
    have HK0 := Lib.hid hk0
    obtain ⟨t0, t1, _⟩ := tree_facts hX
    clear hk0 hX hng hl hO
    go_enter Tryd.func36, Tryd.ntmps36
    go_upto_region 1 with fail
    simp only [treeO] at t0 t1 HK0
    generalize w.alloc _ = w0 at *
    obtain ⟨tb, htb⟩ : ∃ tb, w.heap.size = tb := ⟨_, rfl⟩
    simp only [htb] at t0 t1 ⊢
    clear htb
    go_wp2_with fail
    go_loopw [2] (fun i wr => i = .int .i64 ((0 : Nat) : Int) ∧ wr = w0) (fun _ _ => 0)
    case atStart => exact ⟨rfl, rfl⟩
    case round =>
      obtain ⟨rfl, rfl⟩ := hrel
      go_wp2_with fail
      go_end0
      exact ⟨rfl, HK0.out.any⟩
  · obtain ⟨g, cap, rfl, hBg, hog⟩ := hO.og (by omega)
    obtain ⟨m, hm⟩ : ∃ m, L.length = m := ⟨_, rfl⟩
    rw [hm] at hn hl hog ⊢
    have hk0 : Kept (fun _ => False) w (w.alloc (treeO (.slice (some ⟨g, 0, none⟩) m cap) cu)) := (Kept.refl _ w).alloc _
    have HX : Hid ((w.alloc (treeO (.slice (some ⟨g, 0, none⟩) m cap) cu)).heap[w.heap.size]? = some (treeO (.slice (some ⟨g, 0, none⟩) m cap) cu)) := heap_alloc_new w _
    obtain ⟨cs, h1, h2, h3⟩ := hog.row
    have HGR : Hid (Gr (w.alloc (treeO (.slice (some ⟨g, 0, none⟩) m cap) cu)) g cap) := Gr.kept (S := fun _ => False) ⟨cs, h1, h2⟩ hk0 id
    have HGW : Hid (g < w.heap.size) := hog.lt
    have HGB : Hid (B ≤ g) := hBg
    have hcap : m ≤ cap := hog.le
    have HK0 := Lib.hid hk0
    obtain ⟨t0, t1, _⟩ := tree_facts HX.out
    clear hk0 h1 h2 h3 hog hBg hO hm
    go_enter Tryd.func36, Tryd.ntmps36
    go_upto_region 1 with fail
    simp only [treeO] at t0 t1 HK0 HX HGR
    generalize w.alloc _ = w0 at *
    obtain ⟨tb, htb⟩ : ∃ tb, w.heap.size = tb := ⟨_, rfl⟩
    have HTB := Lib.hid htb
    simp only [htb] at t0 t1 HX ⊢
    clear htb
    go_wp2_with fail
    clear t0 t1
    go_loopw [2] (fun i wr => ∃ k : Nat, k ≤ m ∧ i = .int .i64 k ∧ wr.heap[tb]? = some (treeO (.slice (some ⟨g, 0, none⟩) m cap) cu) ∧ Gr wr g cap ∧ Kept (fun q => q = g) w0 wr) (fun i _ => m - (intOf i).toNat)
    case atStart => exact ⟨0, Nat.zero_le _, rfl, HX.out, HGR.out, Kept.refl _ _⟩
    case round =>
      obtain ⟨k, hk, rfl, hx, hg, hkept⟩ := hrel
      have HXr := Lib.hid hx
      have HG := Lib.hid hg
      have HK := Lib.hid hkept
      obtain ⟨t0, t1, _⟩ := tree_facts hx
      clear hx hg hkept HGR HX
      by_cases hlt : k < m
      · have b1 : decide (k < m) = true := decide_eq_true hlt
        have b2 : decide ((k : Int) < (m : Int)) = true := decide_eq_true (by omega)
        have u1 : (0 : Int) ≤ (k : Int) := by omega
        have u2 : (k : Int) < (m : Int) := by omega
        have eA : (⟨g, 0, none⟩ : Addr).add (k * 4) = ⟨g, k * 4, none⟩ := by rw [addr_add, Nat.zero_add]
        obtain ⟨v0, c0⟩ := HG.out.cell (show k * 4 < cap * 4 by omega)
        obtain ⟨v1, c1⟩ := HG.out.cell (show k * 4 + 1 < cap * 4 by omega)
        obtain ⟨v2, c2⟩ := HG.out.cell (show k * 4 + 2 < cap * 4 by omega)
        obtain ⟨v3, c3⟩ := HG.out.cell (show k * 4 + 3 < cap * 4 by omega)
        have f0 := HG.out.free (k * 4)
        have f1 := HG.out.free (k * 4 + 1)
        have f2 := HG.out.free (k * 4 + 2)
        have f3 := HG.out.free (k * 4 + 3)
        have HGN : Hid (∀ a b c d, Gr ((((wr.setCell ⟨g, k * 4, none⟩ a).setCell ⟨g, k * 4 + 1, none⟩ b).setCell ⟨g, k * 4 + 2, none⟩ c).setCell ⟨g, k * 4 + 3, none⟩ d) g cap) := fun a b c d => (((HG.out.set _ _).set _ _).set _ _).set _ _
        have HKN : Hid (∀ a b c d, Kept (fun q => q = g) wr ((((wr.setCell ⟨g, k * 4, none⟩ a).setCell ⟨g, k * 4 + 1, none⟩ b).setCell ⟨g, k * 4 + 2, none⟩ c).setCell ⟨g, k * 4 + 3, none⟩ d)) := fun a b c d => ((((Kept.refl (fun q => q = g) wr).setCell (p := ⟨g, k * 4, none⟩) rfl _).setCell (p := ⟨g, k * 4 + 1, none⟩) rfl _).setCell (p := ⟨g, k * 4 + 2, none⟩) rfl _).setCell (p := ⟨g, k * 4 + 3, none⟩) rfl _
        go_wp2_with fail
        go_roundw
        case rel => exact ⟨k + 1, by omega, by go_num, ((HKN.out _ _ _ _).block tb (heap_lt HXr.out) (by have := HGW.out; have := HTB.out; show ¬ tb = g; omega)).trans HXr.out, HGN.out _ _ _ _, HK.out.trans (HKN.out _ _ _ _)⟩
        case measure => simp [intOf]; omega
      · obtain rfl : k = m := by omega
        have b1 : decide (k < k) = false := decide_eq_false (by omega)
        have b2 : decide ((k : Int) < (k : Int)) = false := decide_eq_false (by omega)
        go_wp2_with fail
        go_end0
        refine ⟨rfl, HK0.out.any.trans (HK.out.mono fun q _ h => ?_)⟩
        subst h
        rfl
end Go.Proofs.YtgehjkbcgcpbnaaDoor
