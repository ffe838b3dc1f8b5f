/-
  TREES OF ROWS in memory; their height and their sums told.
-/
import Derived.Test.YtdgbaeliabaneaaDoorRoT
import Derived.Test.YtdgbaeliabaneaaDoorKept
import Derived.Test.YtdgbaeliabaneaaDoorRowP
import Derived.Test.YtdgbaeliabaneaaDoorTk
import Derived.Test.YtdgbaeliabaneaaDoorRunes
import Derived.Laws.ResultCell
import Derived.Deep.CutBlock
set_option linter.unusedVariables false
namespace Go.Proofs.YtdgbaeliabaneaaDoor
open Go Go.RowKit

/-- How many bytes, how many runes. -/
def Tr.by_ : Tr → Nat
  | .nil => 0
  | .node l s r => l.by_ + s.size + r.by_
def Tr.ru : Tr → Nat
  | .nil => 0
  | .node l s r => l.ru + (rs s).length + r.ru
abbrev rnodeO (s : ByteArray) (vl vr : Value) (h a b c : Int) : Obj := .cells #[.string s, vl, vr, .int .i64 h, .int .i64 a, .int .i64 b, .int .i64 c] 73
/-- A tree as it lies in memory, in none of the blocks X. -/
def TrM (W : World) (X : Nat → Prop) : Value → Tr → Prop
  | v, .nil => v = .pointer none
  | v, .node l s r => ∃ (b : Nat) (vl vr : Value), v = .pointer (some ⟨b, 0, none⟩) ∧ ¬ X b ∧
      W.heap[b]? = some (rnodeO s vl vr ((Tr.node l s r).ht : Nat) ((Tr.node l s r).size : Nat) ((Tr.node l s r).by_ : Nat) ((Tr.node l s r).ru : Nat)) ∧ TrM W X vl l ∧ TrM W X vr r
theorem TrM.kept {S X : Nat → Prop} {W W' : World} (hk : Kept S W W') (hs : ∀ q, S q → X q) : ∀ {t : Tr} {v : Value}, TrM W X v t → TrM W' X v t
  | .nil, v, h => h
  | .node l s r, v, h => by
    obtain ⟨b, vl, vr, e, hx, hb, hl, hr⟩ := h
    exact ⟨b, vl, vr, e, hx, (hk.block b (heap_lt hb) (fun h => hx (hs b h))).trans hb, TrM.kept hk hs hl, TrM.kept hk hs hr⟩
theorem TrM.keptF {X : Nat → Prop} {W W' : World} (hk : Kept (fun _ => False) W W') {t : Tr} {v : Value} (h : TrM W X v t) : TrM W' X v t := TrM.kept hk (fun q h => h.elim) h
set_option maxRecDepth 100000 in
theorem tall_any (t : Tr) (v : Value) (X : Nat → Prop) (w : World) (h : TrM w X v t) :
    Calls Tryd.prog 40 #[v] w fun e w' => e = .returned (.int .i64 (t.ht : Nat)) ∧ w' = w := by
  cases t with
  | nil =>
    have h1 : v = .pointer none := h
    subst h1
    go_enter Tryd.func40, Tryd.ntmps40
    go_wp2
    go_ret
    exact ⟨rfl, rfl⟩
  | node l s r =>
    obtain ⟨b, vl, vr, rfl, hx, hb, hl, hr⟩ := h
    have f3 : w.cell? ⟨b, 3, none⟩ = some (.int .i64 ((Tr.node l s r).ht : Nat)) := cell_of_row _ _ _ _ _ _ hb
    obtain ⟨H, hH⟩ : ∃ H : Nat, (Tr.node l s r).ht = H := ⟨_, rfl⟩
    rw [hH] at f3 ⊢
    clear hb hl hr hH
    go_enter Tryd.func40, Tryd.ntmps40
    go_wp2
    go_ret
    exact ⟨rfl, rfl⟩
abbrev sumsV (a b c : Int) : Value := .agg #[.int .i64 a, .int .i64 b, .int .i64 c]
abbrev sumsO (a b c : Int) : Obj := .cells #[.int .i64 a, .int .i64 b, .int .i64 c] 69
set_option maxRecDepth 100000 in
theorem res_sums {fn : Func} {p : Tmp} (h : fn.results = #[.cell p 69]) (tmps : Array Value) (w : World) (g : Nat) (a b c : Int) (hp : tmps.getD p undef = .pointer (some ⟨g, 0, none⟩)) (hg : w.heap[g]? = some (sumsO a b c)) :
    (results fn tmps).run Tryd.prog w = .ok (sumsV a b c) w :=
  results_cell_row h tmps _ g _ _ _ _ hp hg Tryd.underlying69 rfl (by kernel_rfl)
theorem sums_facts {w : World} {g : Nat} {a b c : Int} (h : w.heap[g]? = some (sumsO a b c)) : w.cell? ⟨g, 0, none⟩ = some (.int .i64 a) ∧ w.cell? ⟨g, 1, none⟩ = some (.int .i64 b) ∧ w.cell? ⟨g, 2, none⟩ = some (.int .i64 c) ∧ w.frozen? ⟨g, 0, none⟩ = false ∧ w.frozen? ⟨g, 1, none⟩ = false ∧ w.frozen? ⟨g, 2, none⟩ = false :=
  ⟨cell_of_row _ _ _ _ _ _ h, cell_of_row _ _ _ _ _ _ h, cell_of_row _ _ _ _ _ _ h, frozen_of h, frozen_of h, frozen_of h⟩
theorem sums_set {w : World} {g : Nat} {a b c : Int} (h : w.heap[g]? = some (sumsO a b c)) (a' b' c' : Int) : (((w.setCell ⟨g, 0, none⟩ (.int .i64 a')).setCell ⟨g, 1, none⟩ (.int .i64 b')).setCell ⟨g, 2, none⟩ (.int .i64 c')).heap[g]? = some (sumsO a' b' c') :=
  (heap_set (heap_set (heap_set h _) _) _).trans rfl
theorem Kept.sums {S : Nat → Prop} {w w1 : World} {g : Nat} (h : Kept S w w1) (hg : S g) (v0 v1 v2 : Value) : Kept S w (((w1.setCell ⟨g, 0, none⟩ v0).setCell ⟨g, 1, none⟩ v1).setCell ⟨g, 2, none⟩ v2) :=
  ((h.setCell (p := ⟨g, 0, none⟩) hg _).setCell (p := ⟨g, 1, none⟩) hg _).setCell (p := ⟨g, 2, none⟩) hg _
set_option maxRecDepth 100000 in
set_option maxHeartbeats 1000000 in
theorem sum_any (t : Tr) (v : Value) (X : Nat → Prop) (w : World) (h : TrM w X v t) :
    Calls Tryd.prog 39 #[v] w fun e w' => e = .returned (sumsV (t.size : Nat) (t.by_ : Nat) (t.ru : Nat)) ∧ Kept (fun _ => False) w w' := by
  have hk0 : Kept (fun _ => False) w (w.alloc (sumsO 0 0 0)) := (Kept.refl _ w).alloc _
  have HK0 := Lib.hid hk0
  have HX := Lib.hid (heap_alloc_new w (sumsO 0 0 0))
  have HM := Lib.hid (TrM.keptF hk0 h)
  clear hk0
  cases t with
  | nil =>
    have h1 : v = .pointer none := h
    subst h1
    clear h
    obtain ⟨r0, r1, r2, r3, r4, r5⟩ := sums_facts HX.out
    go_enter Tryd.func39, Tryd.ntmps39
    go_upto_region 1 with fail
    simp only [sumsO] at r0 r1 r2 r3 r4 r5 HX HK0
    generalize w.alloc _ = w0 at *
    obtain ⟨tb, htb⟩ : ∃ tb, w.heap.size = tb := ⟨_, rfl⟩
    have HTB := Lib.hid htb
    simp only [htb] at r0 r1 r2 r3 r4 r5 HX ⊢
    clear htb
    go_wp2
    refine bodyPost_ret (res_sums rfl _ _ tb 0 0 0 rfl (sums_set HX.out _ _ _)) rfl ⟨rfl, ?_⟩
    exact HK0.out.fresh (Kept.sums (g := tb) (S := fun q => q = tb) (Kept.refl (fun q => q = tb) w0) rfl _ _ _) (fun q h1 h2 => by have := HTB.out; omega)
  | node l s r =>
    obtain ⟨b, vl, vr, rfl, hx, hb, hl, hr⟩ := HM.out
    have f4 := cell_of_row _ b 4 _ _ _ hb
    have f5 := cell_of_row _ b 5 _ _ _ hb
    have f6 := cell_of_row _ b 6 _ _ _ hb
    have g4 : (w.alloc (sumsO 0 0 0)).cell? ⟨b, 4, none⟩ = some (.int .i64 ((Tr.node l s r).size : Nat)) := f4
    have g5 : (w.alloc (sumsO 0 0 0)).cell? ⟨b, 5, none⟩ = some (.int .i64 ((Tr.node l s r).by_ : Nat)) := f5
    have g6 : (w.alloc (sumsO 0 0 0)).cell? ⟨b, 6, none⟩ = some (.int .i64 ((Tr.node l s r).ru : Nat)) := f6
    clear f4 f5 f6 hb hl hr h HM
    obtain ⟨n1, hn1⟩ : ∃ n : Nat, (Tr.node l s r).size = n := ⟨_, rfl⟩
    obtain ⟨n2, hn2⟩ : ∃ n : Nat, (Tr.node l s r).by_ = n := ⟨_, rfl⟩
    obtain ⟨n3, hn3⟩ : ∃ n : Nat, (Tr.node l s r).ru = n := ⟨_, rfl⟩
    rw [hn1] at g4 ⊢
    rw [hn2] at g5 ⊢
    rw [hn3] at g6 ⊢
    obtain ⟨r0, r1, r2, r3, r4, r5⟩ := sums_facts HX.out
    clear hn1 hn2 hn3
    go_enter Tryd.func39, Tryd.ntmps39
    go_upto_region 1 with fail
    simp only [sumsO] at r0 r1 r2 r3 r4 r5 HX HK0 g4 g5 g6
    generalize w.alloc _ = w0 at *
    obtain ⟨tb, htb⟩ : ∃ tb, w.heap.size = tb := ⟨_, rfl⟩
    have HTB := Lib.hid htb
    simp only [htb] at r0 r1 r2 r3 r4 r5 HX ⊢
    clear htb
    go_wp2
    refine bodyPost_ret (res_sums rfl _ _ tb n1 n2 n3 rfl (sums_set HX.out _ _ _)) rfl ⟨rfl, ?_⟩
    exact HK0.out.fresh (Kept.sums (g := tb) (S := fun q => q = tb) (Kept.refl (fun q => q = tb) w0) rfl _ _ _) (fun q h1 h2 => by have := HTB.out; omega)
end Go.Proofs.YtdgbaeliabaneaaDoor
