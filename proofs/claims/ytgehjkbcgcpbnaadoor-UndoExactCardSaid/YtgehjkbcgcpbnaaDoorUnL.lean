/-
  UndoBack: the law's walk.
-/
import Derived.Test.YtgehjkbcgcpbnaaDoorUnQ
set_option linter.unusedVariables false
namespace Go.Proofs.YtgehjkbcgcpbnaaDoor
open Go Go.RowKit

theorem cmt_few {L : List NodeS} {cur z : Int} {s : ByteArray} {a : Int} {most : Nat} (h : L.length + 1 ≤ most) : cmt L cur z s a most = (L ++ [⟨z + 1, cur, a, s⟩], z + 1) := by
  unfold cmt
  rw [show L.length + 1 - most = 0 by omega]
  rfl
theorem cmt_two {L : List NodeS} {cur z : Int} {s : ByteArray} {a : Int} (h : 1 ≤ L.length) : (cmt L cur z s a 2).1.length = 2 := by
  have h2 := prI_len (p := (L ++ [⟨z + 1, cur, a, s⟩], z + 1)) (j := L.length + 1 - 2) (by simp)
  simp only [List.length_append, List.length_singleton] at h2
  unfold cmt
  omega
theorem On.og' {w : World} {B n : Nat} {v : Value} {L : List NodeS} (h : On w B v L) (hl : L.length = n) (hn : 0 < n) : ∃ g cap, v = .slice (some ⟨g, 0, none⟩) n cap ∧ B ≤ g ∧ Og w g n cap L := by
  subst hl
  exact h.og hn
/-- What holds of memory while the law works. -/
structure Uw (w : World) (pb : Nat) (p : ScrU) (W : World) : Prop where
  par : PSu W pb p
  ok : ScrUOk W p
  tabs : Tabs W
  kp : Kept (fun _ => False) w W
theorem Uw.kept {w : World} {pb : Nat} {p : ScrU} {W W' : World} (h : Uw w pb p W) (hk : Kept (fun _ => False) W W') : Uw w pb p W' := ⟨h.par.kept hk id, h.ok.kept hk, h.tabs.kept hk id id, h.kp.trans hk⟩
/-- Texts of the law's own. -/
def Ts (W : World) (B : Nat) (v : Value) (S : List ByteArray) : Prop := W.ownsRow B 9 1 v S.length (S.map Value.string)
theorem Ts.keptS {T : Nat → Prop} {W W' : World} {B : Nat} {v : Value} {S : List ByteArray} (h : Ts W B v S) (hk : Kept T W W') (hs : ∀ k, B ≤ k → ¬ T k) : Ts W' B v S := by
  refine ⟨h.1, ?_⟩
  rcases h.2 with hn | ⟨g, cap, cur, e, hb, hg, rest⟩
  · exact .inl hn
  · exact .inr ⟨g, cap, cur, e, hb, (hk.block g (heap_lt hg) (hs g hb)).trans hg, rest⟩
theorem Ts.kept {W W' : World} {B : Nat} {v : Value} {S : List ByteArray} (h : Ts W B v S) (hk : Kept (fun _ => False) W W') : Ts W' B v S := h.keptS hk (fun _ _ => id)
theorem Ts.at_ {W : World} {B : Nat} {v : Value} {S : List ByteArray} (h : Ts W B v S) (hl : 0 < S.length) : ∃ g cap, v = .slice (some ⟨g, 0, none⟩) S.length cap ∧ B ≤ g ∧ ∀ k s, S[k]? = some s → W.cell? ⟨g, k, none⟩ = some (.string s) := by
  rcases id h.2 with ⟨_, hn⟩ | ⟨g, cap, cur, rfl, hb, hh, hcap, _, _, _⟩
  · omega
  · refine ⟨g, cap, rfl, hb, fun k s hk => ?_⟩
    have := World.ownsRow.cells h rfl k (.string s) (by rw [List.getElem?_map, hk]; rfl)
    rwa [addr_add, Nat.zero_add] at this
theorem ts_lt {W : World} {B : Nat} {v : Value} {S : List ByteArray} (h : Ts W B v S) : ∀ k, v.ownBlock = some k → B ≤ k ∧ k < W.heap.size := fun k hk => World.ownsRow.lt h k hk
theorem infoStr7 : (Tryd.prog.info? 9).map (fun i => (i.zero, i.size, i.bytes)) = some (some (.string ⟨#[]⟩), 1, 16) := by kernel_rfl
theorem str_new (w : World) (v : Value) (ty : TypeId) : ∀ j u, ([v] : List Value)[j]? = some u → (w.alloc (.cells #[v] ty)).cell? ((⟨w.heap.size, 0, none⟩ : Addr).add j) = some u := by
  intro j u hj
  match j, hj with
  | 0, hj =>
    injection hj with hj
    subst hj
    rw [addr_add, cell_of_row _ _ _ _ _ _ (heap_alloc_new w _)]
    rfl
  | _ + 1, hj => cases hj
theorem Tz.set {W : World} {xb g cap : Nat} {L : List NodeS} {v : Value} {cur cur' : Int} (hb : W.heap[xb]? = some (treeO v cur)) {ad : Addr} {c : Nat} (hn : Ng W (some ad) L.length L) (hc : L.length ≤ c) (hne : ad.block ≠ xb) : Tz ((W.setCell ⟨xb, 0, none⟩ (.slice (some ad) L.length c)).setCell ⟨xb, 1, none⟩ (.int .i64 cur')) xb L cur' :=
  ⟨ad, c, tree_set hb _ _, hn.kept (Kept.tree (g := xb) (S := fun q => q = xb) (Kept.refl (fun q => q = xb) W) rfl _ _) (fun a ha => by injection ha with ha; subst ha; exact hne), hc⟩
def firstS : ByteArray := ⟨#[102, 105, 114, 115, 116]⟩
def smallS : ByteArray := ⟨#[115, 109, 97, 108, 108]⟩
def U0 : List NodeS := [⟨0, -1, 0, ⟨#[97]⟩⟩]
def U1 : List NodeS := [⟨0, -1, 0, ⟨#[97]⟩⟩, ⟨1, 0, 0, ⟨#[98]⟩⟩]
theorem inv_u0 : Inv U0 0 [⟨#[97]⟩] := inv_first ⟨#[97]⟩ (by decide)
theorem inv_u1 : Inv U1 1 [⟨#[97]⟩, ⟨#[98]⟩] := inv_u0.snoc (s := ⟨#[98]⟩) (by decide) (by decide)
set_option maxRecDepth 100000 in
set_option maxHeartbeats 4000000 in
theorem uwakes_any (w : World) (hT : Tabs w) : Calls Tryd.prog 17 #[] w fun e w' => e = .returned (.bool true) ∧ Kept (fun _ => False) w w' := by
  have cN := new_any ⟨#[97]⟩ w hT (by decide)
  have HT0 := Lib.hid hT
  clear hT
  go_enter Tryd.func17, Tryd.ntmps17
  go_upto_region 2 with (go_at_call 12; refine cN.mono ?_; rintro e w1 ⟨⟨v, rfl, hO⟩, hk1⟩; obtain ⟨g, cap, rfl, hBg, hog⟩ := hO.og' (n := 1) rfl (by decide); have HK1 := Lib.hid hk1; have HT1 := Lib.hid (HT0.out.kept hk1 id id); have HG := Lib.hid hog; clear hk1 cN hO hog hBg)
  have hk2 : Kept (fun _ => False) w1 (w1.alloc (treeO (.slice (some ⟨g, 0, none⟩) 1 cap) 0)) := (Kept.refl _ w1).alloc _
  have HB2 : Hid ((w1.alloc (treeO (.slice (some ⟨g, 0, none⟩) 1 cap) 0)).heap[w1.heap.size]? = some (treeO (.slice (some ⟨g, 0, none⟩) 1 cap) 0)) := heap_alloc_new w1 _
  have HG2 := Lib.hid (HG.out.kept hk2 id)
  have HT2 := Lib.hid (HT1.out.kept hk2 id id)
  have HK2 := Lib.hid (HK1.out.trans hk2)
  have HW1 : Hid (w.heap.size ≤ w1.heap.size) := HK1.out.size
  clear hk2
  simp only [treeO] at HB2 HG2 HT2 HK2
  generalize w1.alloc _ = w2 at *
  generalize w1.heap.size = xb at *
  obtain ⟨t0, t1, t2, t3⟩ := tree_facts HB2.out
  have cM : Calls Tryd.prog 18 #[treeV (.slice (some ⟨g, 0, none⟩) 1 cap) 0, .string ⟨#[98]⟩, .int .i64 0, .int .i64 5] w2 fun r w' => (∃ v, r = .returned (.tuple #[treeV v 1, .int .i64 0]) ∧ On w' w2.heap.size v U1) ∧ Kept (fun _ => False) w2 w' := by
    have h := commit_any ⟨g, 0, none⟩ 1 cap U0 0 ⟨#[98]⟩ 0 5 ⟨0, -1, 0, ⟨#[97]⟩⟩ w2 HG2.out.ng HG2.out.le HT2.out inv_u0.may (by decide) (by omega) (by omega) rfl (by decide)
    rw [cmt_few (by decide)] at h
    exact h
  go_upto_region 3 with (go_at_call 18; refine cM.mono ?_; rintro e w3 ⟨⟨v, rfl, hO⟩, hk3⟩; obtain ⟨g3, cap3, rfl, hBg, hog⟩ := hO.og' (n := 2) rfl (by decide); have HK3 := Lib.hid (HK2.out.trans hk3); have HT3 := Lib.hid (HT2.out.kept hk3 id id); have HB3 := Lib.hid ((hk3.block xb (heap_lt HB2.out) id).trans HB2.out); have HG3 := Lib.hid hog; have HGX : Hid (g3 ≠ xb) := (by have := heap_lt HB2.out; show g3 ≠ xb; omega); clear hk3 cM hO hog hBg t0 t1 t2 t3; obtain ⟨t0, t1, t2, t3⟩ := tree_facts HB3.out)
  have HB4 := Lib.hid (tree_set HB3.out (.slice (some ⟨g3, 0, none⟩) 2 cap3) 1)
  have hk4 : Kept (fun q => q = xb) w3 ((w3.setCell ⟨xb, 0, none⟩ (.slice (some ⟨g3, 0, none⟩) 2 cap3)).setCell ⟨xb, 1, none⟩ (.int .i64 1)) := Kept.tree (g := xb) (S := fun q => q = xb) (Kept.refl (fun q => q = xb) w3) rfl _ _
  have HG4 := Lib.hid (HG3.out.kept hk4 HGX.out)
  have hxw : w.heap.size ≤ xb := HW1.out
  have htw := HT0.out.two
  have HT4 := Lib.hid (HT3.out.kept hk4 (by show ¬ 0 = xb; omega) (by show ¬ 1 = xb; omega))
  have HK4 := Lib.hid (HK3.out.fresh hk4 (fun b hb h => by omega))
  clear hk4 hxw htw t0 t1 t2 t3
  go_upto_region 3 with fail
  generalize (w3.setCell ⟨xb, 0, none⟩ (.slice (some ⟨g3, 0, none⟩) 2 cap3)).setCell ⟨xb, 1, none⟩ (.int .i64 1) = w4 at *
  obtain ⟨t0, t1, t2, t3⟩ := tree_facts HB4.out
  have cB := back_any ⟨g3, 0, none⟩ 2 cap3 U1 1 w4 HG4.out.ng HG4.out.le HT4.out inv_u1.may 1 0 ⟨1, 0, 0, ⟨#[98]⟩⟩ ⟨0, -1, 0, ⟨#[97]⟩⟩ (inv_u1.idx (k := 1) (by decide)) (by decide) rfl (inv_u1.idx (k := 0) (by decide)) rfl
  go_upto_region 4 with (go_at_call 19; refine cB.mono ?_; rintro e w5 ⟨⟨v, rfl, hO⟩, hk5⟩; obtain ⟨g5, cap5, rfl, hBg, hog⟩ := hO.og' (n := 2) rfl (by decide); have HK5 := Lib.hid (HK4.out.trans hk5); clear hk5 cB hO hog hBg t0 t1 t2 t3)
  have HB6 : Hid ((w5.alloc (treeO (.slice (some ⟨g5, 0, none⟩) 2 cap5) 0)).heap[w5.heap.size]? = some (treeO (.slice (some ⟨g5, 0, none⟩) 2 cap5) 0)) := heap_alloc_new w5 _
  have HK6 := Lib.hid (HK5.out.alloc (treeO (.slice (some ⟨g5, 0, none⟩) 2 cap5) 0))
  simp only [treeO] at HB6 HK6
  generalize w5.alloc _ = w6 at *
  generalize w5.heap.size = yb at *
  obtain ⟨t0, t1, t2, t3⟩ := tree_facts HB6.out
  go_wp2_with (go_at_call 7; refine (unum_any _ _).mono ?_; rintro e w' ⟨rfl, hw⟩; have hw2 := hw.symm; subst hw2)
  go_ret
  exact ⟨rfl, HK6.out⟩
end Go.Proofs.YtgehjkbcgcpbnaaDoor
