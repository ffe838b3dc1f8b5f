/-
  UndoBack: the law's walk.
-/
import Derived.Test.YthbfmdnibijapaaDoorUnQ
set_option linter.unusedVariables false
namespace Go.Proofs.YthbfmdnibijapaaDoor
open Go Go.RowKit

theorem cmt_few {L : List NodeS} {cur z : Int} {s : ByteArray} {a : Int} {most : Nat} (h : L.length + 1 ≤ most) : cmt L cur z s a most = (L ++ [⟨z + 1, cur, a, s⟩], z + 1) := by
  unfold cmt
  rw [show L.length + 1 - most = 0 by omega]
  rfl
theorem cmt_two {L : List NodeS} {cur z : Int} {s : ByteArray} {a : Int} (h : 1 ≤ L.length) : (cmt L cur z s a 2).1.length = 2 := by
  have h2 := prI_len (p := (L ++ [⟨z + 1, cur, a, s⟩], z + 1)) (j := L.length + 1 - 2) (by simp)
  simp only [List.length_append, List.length_singleton] at h2
  unfold cmt
  omega
theorem On.og' {w : World} {B n : Nat} {v : Value} {L : List NodeS} (h : On w B v L) (hl : L.length = n) (hn : 0 < n) : ∃ g cap, v = .slice (some ⟨g, 0, none⟩) n cap ∧ B ≤ g ∧ Og w g n cap L := by
  subst hl
  exact h.og hn
/-- What holds of memory while the law works. -/
structure Uw (w : World) (pb : Nat) (p : ScrU) (W : World) : Prop where
  par : PSu W pb p
  ok : ScrUOk W p
  tabs : Tabs W
  kp : Kept (fun _ => False) w W
theorem Uw.kept {w : World} {pb : Nat} {p : ScrU} {W W' : World} (h : Uw w pb p W) (hk : Kept (fun _ => False) W W') : Uw w pb p W' := ⟨h.par.kept hk id, h.ok.kept hk, h.tabs.kept hk id id, h.kp.trans hk⟩
/-- Texts of the law's own. -/
def Ts (W : World) (B : Nat) (v : Value) (S : List ByteArray) : Prop := W.ownsRow B 9 1 v S.length (S.map Value.string)
theorem Ts.keptS {T : Nat → Prop} {W W' : World} {B : Nat} {v : Value} {S : List ByteArray} (h : Ts W B v S) (hk : Kept T W W') (hs : ∀ k, B ≤ k → ¬ T k) : Ts W' B v S := by
  refine ⟨h.1, ?_⟩
  rcases h.2 with hn | ⟨g, cap, cur, e, hb, hg, rest⟩
  · exact .inl hn
  · exact .inr ⟨g, cap, cur, e, hb, (hk.block g (heap_lt hg) (hs g hb)).trans hg, rest⟩
theorem Ts.kept {W W' : World} {B : Nat} {v : Value} {S : List ByteArray} (h : Ts W B v S) (hk : Kept (fun _ => False) W W') : Ts W' B v S := h.keptS hk (fun _ _ => id)
theorem Ts.at_ {W : World} {B : Nat} {v : Value} {S : List ByteArray} (h : Ts W B v S) (hl : 0 < S.length) : ∃ g cap, v = .slice (some ⟨g, 0, none⟩) S.length cap ∧ B ≤ g ∧ ∀ k s, S[k]? = some s → W.cell? ⟨g, k, none⟩ = some (.string s) := by
  rcases id h.2 with ⟨_, hn⟩ | ⟨g, cap, cur, rfl, hb, hh, hcap, _, _, _⟩
  · omega
  · refine ⟨g, cap, rfl, hb, fun k s hk => ?_⟩
    have := World.ownsRow.cells h rfl k (.string s) (by rw [List.getElem?_map, hk]; rfl)
    rwa [addr_add, Nat.zero_add] at this
theorem ts_lt {W : World} {B : Nat} {v : Value} {S : List ByteArray} (h : Ts W B v S) : ∀ k, v.ownBlock = some k → B ≤ k ∧ k < W.heap.size := fun k hk => World.ownsRow.lt h k hk
theorem infoStr7 : (Tryd.prog.info? 9).map (fun i => (i.zero, i.size, i.bytes)) = some (some (.string ⟨#[]⟩), 1, 16) := by kernel_rfl
theorem str_new (w : World) (v : Value) (ty : TypeId) : ∀ j u, ([v] : List Value)[j]? = some u → (w.alloc (.cells #[v] ty)).cell? ((⟨w.heap.size, 0, none⟩ : Addr).add j) = some u := by
  intro j u hj
  match j, hj with
  | 0, hj =>
    injection hj with hj
    subst hj
    rw [addr_add, cell_of_row _ _ _ _ _ _ (heap_alloc_new w _)]
    rfl
  | _ + 1, hj => cases hj
theorem Tz.set {W : World} {xb g cap : Nat} {L : List NodeS} {v : Value} {cur cur' : Int} (hb : W.heap[xb]? = some (treeO v cur)) {ad : Addr} {c : Nat} (hn : Ng W (some ad) L.length L) (hc : L.length ≤ c) (hne : ad.block ≠ xb) : Tz ((W.setCell ⟨xb, 0, none⟩ (.slice (some ad) L.length c)).setCell ⟨xb, 1, none⟩ (.int .i64 cur')) xb L cur' :=
  ⟨ad, c, tree_set hb _ _, hn.kept (Kept.tree (g := xb) (S := fun q => q = xb) (Kept.refl (fun q => q = xb) W) rfl _ _) (fun a ha => by injection ha with ha; subst ha; exact hne), hc⟩
def firstS : ByteArray := ⟨#[102, 105, 114, 115, 116]⟩
def smallS : ByteArray := ⟨#[115, 109, 97, 108, 108]⟩
def U0 : List NodeS := [⟨0, -1, 0, ⟨#[97]⟩⟩]
def U1 : List NodeS := [⟨0, -1, 0, ⟨#[97]⟩⟩, ⟨1, 0, 0, ⟨#[98]⟩⟩]
theorem inv_u0 : Inv U0 0 [⟨#[97]⟩] := inv_first ⟨#[97]⟩ (by decide)
theorem inv_u1 : Inv U1 1 [⟨#[97]⟩, ⟨#[98]⟩] := inv_u0.snoc (s := ⟨#[98]⟩) (by decide) (by decide)
end Go.Proofs.YthbfmdnibijapaaDoor
