/-
  SITES in memory; elements cloned; own.Site.
-/
import Derived.Test.YthkohjijppbliaaDoorLoD
import Derived.Test.YthkohjijppbliaaDoorCbC
import Derived.Laws.ResultCell
set_option linter.unusedVariables false
namespace Go.Proofs.YthkohjijppbliaaDoor
open Go Go.RowKit

set_option maxRecDepth 100000 in
theorem eql_nilE (w : World) (a : Addr) (n c : Nat) : (binOp .eql 22 (.slice (some a) n c) (.slice none 0 0)).run Tryd.prog w = .ok (.bool false) w := by
  have h : ∀ d : Nat, (Op.equalIn (d + 1) 22 (.slice (some a) n c) (.slice none 0 0)).run Tryd.prog w = .ok false w := fun d => by
    simp [Op.equalIn, run_underlying Tryd.underlying22]
  simp only [binOp]
  simp [Op.equal, Op.maxDepth, h 9999]
set_option maxRecDepth 100000 in
theorem eql_nilF (w : World) : (binOp .eql 22 (.slice none 0 0) (.slice none 0 0)).run Tryd.prog w = .ok (.bool true) w := by
  have h : ∀ d : Nat, (Op.equalIn (d + 1) 22 (.slice none 0 0) (.slice none 0 0)).run Tryd.prog w = .ok true w := fun d => by
    simp [Op.equalIn, run_underlying Tryd.underlying22]
  simp only [binOp]
  simp [Op.equal, Op.maxDepth, h 9999]
set_option maxRecDepth 100000 in
set_option maxHeartbeats 4000000 in
theorem eclone_any (A : Option Addr) (n c : Nat) (al : List ElemS) (w : World) (hA : Eg w A n al) (hC : A = none → n = 0 ∧ c = 0) (hn : n ≤ 100000) :
    Calls Tryd.prog 43 #[.slice A n c] w fun e w' => (∃ v, e = .returned v ∧ w'.ownsRow w.heap.size 71 4 v n (flatE al)) ∧ Kept (fun _ => False) w w' := by
  match A, hA, hC with
  | none, hA, hC =>
    obtain ⟨rfl, rfl⟩ := hC rfl
    obtain rfl := List.eq_nil_of_length_eq_zero hA.1
    have q0 : ∀ u, (binOp .eql 22 (.slice none 0 0) (.slice none 0 0)).run Tryd.prog u = .ok (.bool true) u := fun u => eql_nilF u
    clear hA hC
    go_enter Tryd.func43, Tryd.ntmps43
    go_wp2
    go_ret
    exact ⟨⟨_, rfl, World.ownsRow_nil _ _ _ _⟩, Kept.refl _ _⟩
  | some ad, hA, _ =>
    obtain ⟨i0, hi, hz0, hz1, hz2⟩ := info_parts info_elem
    have hown : (w.alloc (.cells #[] 71)).ownsRow w.heap.size 71 4 (.slice (some ⟨w.heap.size, 0, none⟩) 0 0) 0 ([] : List Value) :=
      World.ownsRow_lit (base := w.heap.size) (e := 71) (size := 4) w #[] 0 (Nat.le_refl _) (by decide) rfl
    have hk : Kept (fun _ => False) w (w.alloc (.cells #[] 71)) := (Kept.refl _ w).alloc _
    have hz : w.heap.size ≤ (w.alloc (.cells #[] 71)).heap.size := hk.size
    have hA' := hA.kept hk (fun _ _ => id)
    have hl := hA.1
    have HK := Lib.hid hk
    have q0 : ∀ u, (binOp .eql 22 (.slice (some ad) n c) (.slice none 0 0)).run Tryd.prog u = .ok (.bool false) u := fun u => eql_nilE u _ _ _
    clear hA hk
    go_enter Tryd.func43, Tryd.ntmps43
    go_wp2_with (at_builtin; refine wpList_append_own _ rfl _ _ 22 rfl w.heap.size 71 i0 (.agg #[.int .i64 0, .int .i64 0, .int .i64 0, .bool false]) 4 32 Tryd.underlying22 hi hz0 hz1 hz2 rfl (by decide) _ _ _ rfl hown ad n c (flatE al) rfl (by rw [flatE_len, hl]) (el_news hA') flatE_one' (by unfold maxLen; omega) (by omega) hz ?_)
    intro v' w1 hown' hgrow hnil
    have hK1 := Lib.hid (Kept.grew HK.out hgrow (fun q hq => (hown.lt q hq).1))
    have hw2 : w1.ownsRow w.heap.size 71 4 v' n (flatE al) := by simpa using hown'
    have HW := Lib.hid hw2
    clear hw2
    clear hown' hgrow hnil hown hA' hz
    go_wp2
    go_ret
    exact ⟨⟨v', rfl, HW.out⟩, hK1.out⟩
/-- A site in memory. -/
structure SiteS where
  st : Int
  ck : Int
  dv : Value
  L : List ElemS
  sA : Option Addr
  sn : Nat
  sc : Nat
  seen : List Int
  wA : Option Addr
  wn : Nat
  wc : Nat
  wl : List OpS
  lA : Option Addr
  ln : Nat
  lc : Nat
  ll : List OpS
abbrev SiteS.cs (x : SiteS) : Array Value := #[.int .i64 x.st, .int .i64 x.ck, x.dv, .slice x.sA x.sn x.sc, .slice x.wA x.wn x.wc, .slice x.lA x.ln x.lc]
abbrev SiteS.V (x : SiteS) : Value := .agg x.cs
abbrev SiteS.O (x : SiteS) : Obj := .cells x.cs 46
structure SiteOk (w : World) (x : SiteS) : Prop where
  doc : Se w x.dv x.L
  seen : Nums w x.sA x.sn x.seen
  sc : x.sn ≤ x.sc
  wait : OpsM w x.wA x.wn x.wl
  wcap : x.wA = none → x.wn = 0 ∧ x.wc = 0
  log : OpsM w x.lA x.ln x.ll
  lcap : x.lA = none → x.ln = 0 ∧ x.lc = 0
  n1 : x.L.length ≤ 140737488351232
  n2 : x.sn ≤ 17592186044416
  n3 : x.wn ≤ 140737488351232
  n4 : x.ln ≤ 140737488351232
  i1 : I64 x.st
  i2 : I64 x.ck
  wcc : x.wn ≤ x.wc
  lcc : x.ln ≤ x.lc
theorem SiteOk.kept {w w' : World} {x : SiteS} (h : SiteOk w x) (hk : Kept (fun _ => False) w w') : SiteOk w' x :=
  ⟨h.doc.kept hk, h.seen.kept hk (fun _ _ => id), h.sc, h.wait.kept hk (fun _ _ => id) (fun _ _ _ _ => id), h.wcap, h.log.kept hk (fun _ _ => id) (fun _ _ _ _ => id), h.lcap, h.n1, h.n2, h.n3, h.n4, h.i1, h.i2, h.wcc, h.lcc⟩
theorem site_cells {w : World} {g : Nat} {x : SiteS} {fr : Nat × Nat} (h : w.heap[g]? = some (.cells x.cs 46 fr)) :
    w.cell? ⟨g, 0, none⟩ = some (.int .i64 x.st) ∧ w.cell? ⟨g, 1, none⟩ = some (.int .i64 x.ck) ∧ w.cell? ⟨g, 2, none⟩ = some x.dv ∧ w.cell? ⟨g, 3, none⟩ = some (.slice x.sA x.sn x.sc) ∧ w.cell? ⟨g, 4, none⟩ = some (.slice x.wA x.wn x.wc) ∧ w.cell? ⟨g, 5, none⟩ = some (.slice x.lA x.ln x.lc) :=
  ⟨cell_of_row _ _ _ _ _ _ h, cell_of_row _ _ _ _ _ _ h, cell_of_row _ _ _ _ _ _ h, cell_of_row _ _ _ _ _ _ h, cell_of_row _ _ _ _ _ _ h, cell_of_row _ _ _ _ _ _ h⟩
/-- What a site is, apart from memory. -/
structure SiteP where
  st : Int
  ck : Int
  L : List ElemS
  seen : List Int
  wl : List Cd.OpP
  ll : List Cd.OpP
def SiteS.P (x : SiteS) : SiteP := ⟨x.st, x.ck, x.L, x.seen, x.wl.map (·.o), x.ll.map (·.o)⟩
def opsOk (l : List Cd.OpP) : Prop := l.length ≤ 8000 ∧ ∀ o ∈ l, Cd.opOk o
/-- A site that may be. -/
structure SOk (p : SiteP) : Prop where
  st : 1 ≤ p.st ∧ p.st ≤ 4
  ck : 0 ≤ p.ck ∧ p.ck ≤ 10000
  els : elsOk p.L
  tms : ∀ e ∈ p.L, e.t ≤ p.ck
  seen : Cd.vecOk p.seen
  wl : opsOk p.wl
  ll : opsOk p.ll
end Go.Proofs.YthkohjijppbliaaDoor
