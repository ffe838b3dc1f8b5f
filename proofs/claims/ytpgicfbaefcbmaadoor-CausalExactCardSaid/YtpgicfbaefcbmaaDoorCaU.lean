/-
  CAUSAL ORDER: a script opened: its vector, its operations.
-/
import Derived.Test.YtpgicfbaefcbmaaDoorCaS
set_option linter.unusedVariables false
namespace Go.Proofs.YtpgicfbaefcbmaaDoor
open Go Go.RowKit Go.ChangeShapes Go.WideShapes Go.ChangeAt

theorem cells_scr26 : Tryd.prog.cellsOf 48 = 3 := by kernel_rfl
section
variable {H : Type} {enc : TypeId × Value → H} {P : Program} {W : World} {base : Nat} {sp : Nat → Bool} {held : Bool}
theorem trod_struct3 {t : TypeId} {f0 f1 f2 : Field} {fuel : Nat} {cs : List Value} {x : DataW H × List MemPlace} (ht : P.underlying t = some (.struct #[f0, f1, f2])) (h : DataW.trod enc P W base sp held fuel t cs = some x) :
    ∃ y0 y1 y2 n, x.1 = .agg [y0.1, y1.1, y2.1] ∧ cs.length = P.cellsOf t ∧ DataW.trod enc P W base sp held n f0.type ((cs.drop f0.offset).take (P.cellsOf f0.type)) = some y0 ∧
      DataW.trod enc P W base sp held n f1.type ((cs.drop f1.offset).take (P.cellsOf f1.type)) = some y1 ∧ DataW.trod enc P W base sp held n f2.type ((cs.drop f2.offset).take (P.cellsOf f2.type)) = some y2 := by
  obtain ⟨xs, n, _, rfl, hl, hlen, hf⟩ := DataW.trod_struct ht h
  match xs, hlen with
  | [y0, y1, y2], _ => exact ⟨y0, y1, y2, n, by simp, hl, by simpa using hf 0 f0 rfl, by simpa using hf 1 f1 rfl, by simpa using hf 2 f2 rfl⟩
/-- A script, as it lies in memory. -/
structure Scr where
  V : Option Addr
  vn : Nat
  vc : Nat
  vs : List Int
  X : Option Addr
  xn : Nat
  xc : Nat
  ws : List OpS
  O : Option Addr
  on : Nat
  oc : Nat
  os : List OpS
def Scr.cells (p : Scr) : Array Value := #[.slice p.V p.vn p.vc, .slice p.X p.xn p.xc, .slice p.O p.on p.oc]
/-- It reads as it should. -/
structure ScrOk (W : World) (p : Scr) : Prop where
  v : Nums W p.V p.vn p.vs
  vi : ∀ x ∈ p.vs, I64 x
  vn : p.vn ≤ 17592186044416
  w : OpsM W p.X p.xn p.ws
  xn : p.xn ≤ 140737488351232
  wc : Cp p.X p.xn p.xc
  o : OpsM W p.O p.on p.os
  on : p.on ≤ 140737488351232
  oc : Cp p.O p.on p.oc
set_option maxRecDepth 100000 in
/-- A parameter of that type. -/
theorem scr26_open {r : Reach} {b0 : Nat} {v : Value} {d : DataW H} {p : List MemPlace} (hv : Value.okWide Tryd.prog W r b0 48 v) (h : DataW.Trod enc Tryd.prog W base sp held 48 v d p)
    (hz : ∀ q ∈ d.weights Tryd.prog 48, q ≤ reachBytes) : ∃ a : Scr, v = .agg a.cells ∧ ScrOk W a := by
  obtain ⟨cs, rfl, hsz⟩ := okWide_struct Tryd.underlying48 hv
  rw [cells_scr26] at hsz
  obtain ⟨l⟩ := cs
  match l, hsz with
  | [c0, c1, c2], _ =>
    obtain ⟨fuel, hf⟩ := h
    obtain ⟨y0, y1, y2, n, hx, _, h0, h1, h2⟩ := trod_struct3 Tryd.underlying48 hf
    simp only at hx
    subst hx
    simp only [Value.cells, cells_ops, cells_ints, List.drop_zero, List.drop_succ_cons, List.take_succ_cons, List.take_zero] at h0 h1 h2
    obtain ⟨V, vn, vc, vs, e0, hV, hVI, hvn, hvc⟩ := nums_open h0 (fun q hq => hz q (by
      simp only [DataW.weights, Tryd.underlying48, List.map_cons, List.map_nil, DataW.weightsEach, List.mem_append]
      exact Or.inl hq))
    obtain ⟨X, xn, xc, ws, e1, hX, hxn, hxc⟩ := ops_open h1 (fun q hq => hz q (by
      simp only [DataW.weights, Tryd.underlying48, List.map_cons, List.map_nil, DataW.weightsEach, List.mem_append]
      exact Or.inr (Or.inl hq)))
    obtain ⟨O, on, oc, os, e2, hO, hon, hoc⟩ := ops_open h2 (fun q hq => hz q (by
      simp only [DataW.weights, Tryd.underlying48, List.map_cons, List.map_nil, DataW.weightsEach, List.mem_append]
      exact Or.inr (Or.inr (Or.inl hq))))
    simp only [List.cons.injEq, and_true] at e0 e1 e2
    exact ⟨⟨V, vn, vc, vs, X, xn, xc, ws, O, on, oc, os⟩, by
      unfold Scr.cells
      rw [e0, e1, e2], ⟨hV, hVI, hvn, hX, hxn, hxc, hO, hon, hoc⟩⟩
end
end Go.Proofs.YtpgicfbaefcbmaaDoor
