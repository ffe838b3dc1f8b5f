/-
  OPS: codec.Take: the op that bytes are.
-/
import Derived.Test.YtpgicfbaefcbmaaDoorCdB
import Derived.Deep.AppendLies
set_option linter.unusedVariables false
namespace Go.Proofs.YtpgicfbaefcbmaaDoor
open Go Go.RowKit

abbrev zOp : Array Value := #[.int .i64 0, .int .i64 0, .int .i64 0, .int .i64 0, .int .i64 0, .int .i64 0, .int .i64 0, .int .i64 0, .slice none 0 0]
/-- What Take holds while it reads. -/
structure TkS (W0 w : World) (rb xb ob : Nat) (L : List UInt8) (cs : Array Value) : Prop where
  r : w.heap[rb]? = some (.cells zOp 32 (0, 0))
  x : ∃ s, w.heap[xb]? = some (rdO s) ∧ s.data.toList = L
  o : w.heap[ob]? = some (.cells cs 32 (0, 0))
  kept : Kept (Own rb) W0 w
  rx : rb < xb
  xo : xb < ob
theorem ba_len (s : ByteArray) : s.data.toList.length = s.size := by rw [Array.length_toList]; rfl
theorem TkS.num {W0 w : World} {rb xb ob : Nat} {L : List UInt8} {cs : Array Value} (h : TkS W0 w rb xb ob L cs) (wide : Nat) (X : Int) (hX : X = (wide : Int)) (hw : wide ≤ 3) (hl : wide ≤ L.length) (hL : L.length ≤ 100) :
    Calls Tryd.prog 46 #[.pointer (some ⟨xb, 0, none⟩), .int .i64 X] w fun e w' => ∃ D : Int, D = Cd.de (L.take wide) ∧ e = .returned (.int .i64 D) ∧ TkS W0 w' rb xb ob (L.drop wide) cs ∧ Kept (fun k => k = xb) w w' := by
  subst hX
  obtain ⟨s, hx, rfl⟩ := h.x
  rw [ba_len] at hl hL
  refine (rnum_any xb s wide w hx hw hl hL).mono ?_
  rintro e w' ⟨⟨s', rfl, h1, h2⟩, hk⟩
  have h3 := h.rx
  have h4 := h.xo
  exact ⟨_, rfl, rfl, ⟨(hk.block rb (heap_lt h.r) (by show ¬ rb = xb; omega)).trans h.r, ⟨s', h1, h2⟩, (hk.block ob (heap_lt h.o) (by show ¬ ob = xb; omega)).trans h.o, h.kept.trans (hk.mono (fun k _ hk => by have hk : k = xb := hk; show rb ≤ k; omega)), h3, h4⟩, hk⟩
theorem TkS.set {W0 w : World} {rb xb ob : Nat} {L : List UInt8} {cs : Array Value} (h : TkS W0 w rb xb ob L cs) (i : Nat) (u : Value) : TkS W0 (w.setCell ⟨ob, i, none⟩ u) rb xb ob L (cs.setIfInBounds i u) := by
  have h3 := h.rx
  have h4 := h.xo
  obtain ⟨s, hx, hs⟩ := h.x
  exact ⟨(heap_far (by omega) u).trans h.r, ⟨s, (heap_far (by omega) u).trans hx, hs⟩, heap_set h.o u, h.kept.setCell (p := ⟨ob, i, none⟩) (by show rb ≤ ob; omega) u, h3, h4⟩
theorem TkS.drew {W0 w : World} {rb xb ob : Nat} {L : List UInt8} {cs : Array Value} (h : TkS W0 w rb xb ob L cs) : TkS W0 w.drew rb xb ob L cs := ⟨h.r, h.x, h.o, h.kept.drew, h.rx, h.xo⟩
theorem TkS.free {W0 w : World} {rb xb ob : Nat} {L : List UInt8} {cs : Array Value} (h : TkS W0 w rb xb ob L cs) (i : Nat) : w.frozen? ⟨ob, i, none⟩ = false := frozen_of h.o
theorem TkS.cell {W0 w : World} {rb xb ob : Nat} {L : List UInt8} {cs : Array Value} (h : TkS W0 w rb xb ob L cs) (i : Nat) : w.cell? ⟨ob, i, none⟩ = cs[i]? := cell_of_row w ob i _ _ _ h.o
set_option maxRecDepth 100000 in
theorem res_op {fn : Func} {p u : Tmp} (h : fn.results = #[.cell p 32, .tmp u]) (tmps : Array Value) (w : World) (g : Nat) (a0 a1 a2 a3 a4 a5 a6 a7 : Int) (A : Option Addr) (n c : Nat) (fr : Nat × Nat) (hp : tmps.getD p undef = .pointer (some ⟨g, 0, none⟩))
    (hg : w.heap[g]? = some (.cells #[.int .i64 a0, .int .i64 a1, .int .i64 a2, .int .i64 a3, .int .i64 a4, .int .i64 a5, .int .i64 a6, .int .i64 a7, .slice A n c] 32 fr)) :
    (results fn tmps).run Tryd.prog w = .ok (.tuple #[.agg #[.int .i64 a0, .int .i64 a1, .int .i64 a2, .int .i64 a3, .int .i64 a4, .int .i64 a5, .int .i64 a6, .int .i64 a7, .slice A n c], tmps.getD u undef]) w := by
  rw [results_cell_tmp h, hp]
  simp [asAddr, Result.andThen, run_loadVar_row w g _ _ _ _ _ hg Tryd.underlying32 rfl (by kernel_rfl)]
theorem TkS.at_ {W0 w : World} {rb xb ob : Nat} {L0 : List UInt8} {cs : Array Value} {p : Nat} (h : TkS W0 w rb xb ob (L0.drop p) cs) (wide q : Nat) (X : Int) (hX : X = (wide : Int)) (hq : p + wide = q) (hw : wide ≤ 3) (hl : q ≤ L0.length) (hL : L0.length ≤ 100) :
    Calls Tryd.prog 46 #[.pointer (some ⟨xb, 0, none⟩), .int .i64 X] w fun e w' => ∃ D : Int, D = Cd.de ((L0.drop p).take wide) ∧ e = .returned (.int .i64 D) ∧ TkS W0 w' rb xb ob (L0.drop q) cs ∧ Kept (fun k => k = xb) w w' := by
  refine (h.num wide X hX hw (by rw [List.length_drop]; omega) (by rw [List.length_drop]; omega)).mono ?_
  rintro e w' ⟨_, rfl, rfl, h', hk'⟩
  rw [List.drop_drop, hq] at h'
  exact ⟨_, rfl, rfl, h', hk'⟩
theorem alloc3 (w : World) (a b c : Obj) : (((w.alloc a).alloc b).alloc c).heap[w.heap.size]? = some a ∧ (((w.alloc a).alloc b).alloc c).heap[w.heap.size + 1]? = some b ∧ (((w.alloc a).alloc b).alloc c).heap[w.heap.size + 1 + 1]? = some c := by
  have s1 : (w.alloc a).heap.size = w.heap.size + 1 := by simp
  have s2 : ((w.alloc a).alloc b).heap.size = w.heap.size + 1 + 1 := by simp
  refine ⟨?_, ?_, ?_⟩
  · rw [Below.heap_alloc _ _ _ (by omega), Below.heap_alloc _ _ _ (by omega)]
    exact heap_alloc_new w a
  · rw [Below.heap_alloc _ _ _ (by omega), ← s1]
    exact heap_alloc_new _ b
  · rw [← s2]
    exact heap_alloc_new _ c
theorem tk_new (w : World) (s : ByteArray) : TkS w (((w.alloc (.cells zOp 32)).alloc (.cells #[.string s] 77)).alloc (.cells zOp 32)) w.heap.size (w.heap.size + 1) (w.heap.size + 1 + 1) s.data.toList zOp := by
  obtain ⟨h1, h2, h3⟩ := alloc3 w (.cells zOp 32) (.cells #[.string s] 77) (.cells zOp 32)
  exact ⟨h1, ⟨s, h2, rfl⟩, h3, (((Kept.refl _ w).alloc _).alloc _).alloc _, by omega, by omega⟩
abbrev cOp (d0 d1 d2 d3 d4 d5 d6 d7 : Int) (v : Value) : Array Value := #[.int .i64 d0, .int .i64 d1, .int .i64 d2, .int .i64 d3, .int .i64 d4, .int .i64 d5, .int .i64 d6, .int .i64 d7, v]
theorem TkS.cs {W0 w : World} {rb xb ob : Nat} {L : List UInt8} {d0 d1 d2 d3 d4 d5 d6 d7 : Int} {v : Value} (h : TkS W0 w rb xb ob L (cOp d0 d1 d2 d3 d4 d5 d6 d7 v)) : (w.cell? ⟨ob, 0, none⟩ = some (.int .i64 d0) ∧ w.cell? ⟨ob, 1, none⟩ = some (.int .i64 d1) ∧ w.cell? ⟨ob, 2, none⟩ = some (.int .i64 d2) ∧
    w.cell? ⟨ob, 3, none⟩ = some (.int .i64 d3) ∧ w.cell? ⟨ob, 4, none⟩ = some (.int .i64 d4) ∧ w.cell? ⟨ob, 5, none⟩ = some (.int .i64 d5) ∧ w.cell? ⟨ob, 6, none⟩ = some (.int .i64 d6) ∧ w.cell? ⟨ob, 7, none⟩ = some (.int .i64 d7) ∧ w.cell? ⟨ob, 8, none⟩ = some v) ∧
    (w.frozen? ⟨ob, 0, none⟩ = false ∧ w.frozen? ⟨ob, 1, none⟩ = false ∧ w.frozen? ⟨ob, 2, none⟩ = false ∧ w.frozen? ⟨ob, 3, none⟩ = false ∧ w.frozen? ⟨ob, 4, none⟩ = false ∧ w.frozen? ⟨ob, 5, none⟩ = false ∧ w.frozen? ⟨ob, 6, none⟩ = false ∧ w.frozen? ⟨ob, 7, none⟩ = false ∧ w.frozen? ⟨ob, 8, none⟩ = false) :=
  ⟨⟨h.cell 0, h.cell 1, h.cell 2, h.cell 3, h.cell 4, h.cell 5, h.cell 6, h.cell 7, h.cell 8⟩, h.free 0, h.free 1, h.free 2, h.free 3, h.free 4, h.free 5, h.free 6, h.free 7, h.free 8⟩
set_option maxRecDepth 100000 in
set_option maxHeartbeats 8000000 in
theorem ptake_len (s : ByteArray) (w : World) (hs : s.size ≤ 140737488351232) (h : s.size ≠ 21) :
    Calls Tryd.prog 15 #[.string s] w fun e w' => e = .returned (.tuple #[.agg zOp, .int .i64 9]) ∧ Kept (fun _ => False) w w' := by
  have b : ((s.size : Int) != 21) = true := by simp; omega
  clear h
  go_enter Tryd.func15, Tryd.ntmps15
  go_wp2_with fail
  exact bodyPost_ret (res_op rfl _ _ w.heap.size 0 0 0 0 0 0 0 0 none 0 0 (0, 0) rfl (heap_alloc_new w _)) rfl ⟨rfl, (Kept.refl _ w).alloc _⟩
/-- What is owned is kept. -/
theorem ownsRow_kept {S : Nat → Prop} {w w' : World} {B : Nat} {e : TypeId} {sz n : Nat} {v : Value} {xs : List Value} (h : w.ownsRow B e sz v n xs) (hk : Kept S w w') (hs : ∀ g, v.ownBlock = some g → ¬ S g) : w'.ownsRow B e sz v n xs := by
  refine ⟨h.1, ?_⟩
  rcases h.2 with hn | ⟨g, cap, cur, rfl, hb, hgg, rest⟩
  · exact .inl hn
  · exact .inr ⟨g, cap, cur, rfl, hb, (hk.block g (Array.getElem?_eq_some_iff.1 hgg).1 (hs g rfl)).trans hgg, rest⟩
theorem info_int : (Tryd.prog.info? 3).map (fun i => (i.zero, i.size, i.bytes)) = some (some (.int .i64 0), 1, 8) := by kernel_rfl
/-- Append of one number that the call has laid, in a region that draws. -/
theorem step_append_one {w : World} {ops : Array Oper} {o : Oper} {a : Act} {K : Act → World → Prop} {Q : Exit → Act → World → Prop} {E : Prop} (hgd : o.guard = none) (s x : Operand) (ho : o.op = .call { callee := .builtin .append, args := #[s, x], argTypes := #[30, 30] })
    (base : Nat) (v : Value) (n : Nat) (xs : List Value) (hs : a.eval s = v) (hown : w.ownsRow base 3 1 v n xs) (ad : Addr) (p : Int) (hx : a.eval x = .slice (some ad) 1 1)
    (hnews : ∀ j u, ([Value.int .i64 p] : List Value)[j]? = some u → w.cell? (ad.add j) = some u) (hb : n + 1 ≤ 1000000) (hbase : base ≤ w.heap.size)
    (h : ∀ v' w', w'.ownsRow base 3 1 v' (n + 1) (xs ++ [.int .i64 p]) → w.grownBy w' v.ownBlock → K (a.put o.dst v') w') :
    if Region.wanted o (yielded ops a.tmps) = true then Oper.wp Tryd.prog o a w K Q else E := by
  have hw : Region.wanted o (yielded ops a.tmps) = true := by simp [Region.wanted, hgd]
  rw [if_pos hw]
  obtain ⟨i0, hi, hz0, hz1, hz2⟩ := info_parts info_int
  obtain ⟨v', w', hrun, h2, h3, h4, h5⟩ := run_append_own_at (P := Tryd.prog) w base 30 o.type 3 i0 (.int .i64 0) 1 8 Tryd.underlying30 hi hz0 hz1 hz2 rfl (by decide) v n xs hown ad 1 1 [.int .i64 p] rfl hnews one_int (by unfold maxLen; omega) (by omega) hbase
  unfold Oper.wp
  simp [execOp, ho, resolve, invoke, builtin, hs, hx, hrun, Result.andThen]
  exact h v' w' h2 h3
theorem own_form {w : World} {B n : Nat} {v : Value} {xs : List Value} (h : w.ownsRow B 3 1 v (n + 1) xs) : ∃ g c, v = .slice (some ⟨g, 0, none⟩) (n + 1) c := by
  rcases h.2 with ⟨_, hn⟩ | ⟨g, cap, cur, rfl, _⟩
  · omega
  · exact ⟨g, cap, rfl⟩
/-- What was seen, as far as it is read. -/
def sn (L : List UInt8) (k : Nat) : List Int := (List.range k).map fun j => Cd.de ((L.drop (13 + 2 * j)).take 2)
theorem sn_succ (L : List UInt8) (k : Nat) : (sn L (k + 1)).map (Value.int .i64) = (sn L k).map (Value.int .i64) ++ [.int .i64 (Cd.de ((L.drop (13 + 2 * k)).take 2))] := by simp [sn, List.range_succ]
theorem TkS.grow {W0 w w' : World} {rb xb ob : Nat} {L : List UInt8} {cs : Array Value} {row : Option Nat} (h : TkS W0 w rb xb ob L cs) (hg : w.grownBy w' row) (hr : ∀ k, row = some k → ob < k) : TkS W0 w' rb xb ob L cs := by
  have h3 := h.rx
  have h4 := h.xo
  obtain ⟨s, hx, hs⟩ := h.x
  have hb : ∀ k, k < w.heap.size → k ≤ ob → w'.heap[k]? = w.heap[k]? := fun k hk hko => hg.block k hk (fun e => by have := hr k e.symm; omega)
  exact ⟨(hb rb (heap_lt h.r) (by omega)).trans h.r, ⟨s, (hb xb (heap_lt hx) (by omega)).trans hx, hs⟩, (hb ob (heap_lt h.o) (by omega)).trans h.o, h.kept.own hg (fun k e => by have := hr k e; omega), h3, h4⟩
theorem TkS.alloc {W0 w : World} {rb xb ob : Nat} {L : List UInt8} {cs : Array Value} (h : TkS W0 w rb xb ob L cs) (o : Obj) : TkS W0 (w.alloc o) rb xb ob L cs := by
  obtain ⟨s, hx, hs⟩ := h.x
  exact ⟨(Below.heap_alloc _ _ _ (heap_lt h.r)).trans h.r, ⟨s, (Below.heap_alloc _ _ _ (heap_lt hx)).trans hx, hs⟩, (Below.heap_alloc _ _ _ (heap_lt h.o)).trans h.o, h.kept.alloc o, h.rx, h.xo⟩
/-- The cell of what was seen. -/
theorem TkS.c8 {W0 w : World} {rb xb ob : Nat} {L : List UInt8} {d0 d1 d2 d3 d4 d5 d6 d7 : Int} {v : Value} (h : TkS W0 w rb xb ob L (cOp d0 d1 d2 d3 d4 d5 d6 d7 v)) : w.cell? ⟨ob, 8, none⟩ = some v ∧ w.frozen? ⟨ob, 8, none⟩ = false := ⟨h.cell 8, h.free 8⟩
theorem sn_len (L : List UInt8) (k : Nat) : (sn L k).length = k := by simp [sn]
theorem de_i64 {l : List UInt8} {D : Int} {n : Nat} (h : D = Cd.de (l.take n)) (hn : n ≤ 3 := by decide) : I64 D := by
  have h1 := de_nonneg (l.take n)
  have h2 := de_lt (l := l.take n) (by rw [List.length_take]; omega)
  unfold I64
  omega
theorem sn_i64 (L : List UInt8) (k : Nat) : ∀ x ∈ sn L k, I64 x := by
  intro x hx
  unfold sn at hx
  obtain ⟨j, _, rfl⟩ := List.mem_map.1 hx
  exact de_i64 rfl
theorem own_nums {w : World} {B n : Nat} {v : Value} {xs : List Int} (h : w.ownsRow B 3 1 v (n + 1) (xs.map (.int .i64))) (hl : xs.length = n + 1) : ∃ g c, v = .slice (some ⟨g, 0, none⟩) (n + 1) c ∧ B ≤ g ∧ Nums w (some ⟨g, 0, none⟩) (n + 1) xs ∧ n + 1 ≤ c := by
  have hcells : ∀ g, v.ownBlock = some g → ∀ j u, (xs.map (Value.int .i64))[j]? = some u → w.cell? ((⟨g, 0, none⟩ : Addr).add j) = some u := fun g hg => h.cells hg
  rcases h.2 with ⟨_, hn⟩ | ⟨g, cap, cur, rfl, hb, _, hc, _⟩
  · omega
  · exact ⟨g, cap, rfl, hb, ⟨hl, fun j x hj => ⟨_, rfl, hcells g rfl j _ (by rw [List.getElem?_map, hj]; rfl)⟩⟩, hc⟩
theorem nine {w : World} {g : Nat} {a0 a1 a2 a3 a4 a5 a6 a7 a8 : Value} {t : TypeId} {f : Nat × Nat} (h : w.heap[g]? = some (.cells #[a0, a1, a2, a3, a4, a5, a6, a7, a8] t f)) (u0 u1 u2 u3 u4 u5 u6 u7 u8 : Value) :
    (((((((((w.setCell ⟨g, 0, none⟩ u0).setCell ⟨g, 1, none⟩ u1).setCell ⟨g, 2, none⟩ u2).setCell ⟨g, 3, none⟩ u3).setCell ⟨g, 4, none⟩ u4).setCell ⟨g, 5, none⟩ u5).setCell ⟨g, 6, none⟩ u6).setCell ⟨g, 7, none⟩ u7).setCell ⟨g, 8, none⟩ u8).heap[g]? = some (.cells #[u0, u1, u2, u3, u4, u5, u6, u7, u8] t f) := by
  have h0 : (w.setCell ⟨g, 0, none⟩ u0).heap[g]? = some (.cells #[u0, a1, a2, a3, a4, a5, a6, a7, a8] t f) := heap_set h u0
  have h1 : ((w.setCell ⟨g, 0, none⟩ u0).setCell ⟨g, 1, none⟩ u1).heap[g]? = some (.cells #[u0, u1, a2, a3, a4, a5, a6, a7, a8] t f) := heap_set h0 u1
  have h2 : (((w.setCell ⟨g, 0, none⟩ u0).setCell ⟨g, 1, none⟩ u1).setCell ⟨g, 2, none⟩ u2).heap[g]? = some (.cells #[u0, u1, u2, a3, a4, a5, a6, a7, a8] t f) := heap_set h1 u2
  have h3 : ((((w.setCell ⟨g, 0, none⟩ u0).setCell ⟨g, 1, none⟩ u1).setCell ⟨g, 2, none⟩ u2).setCell ⟨g, 3, none⟩ u3).heap[g]? = some (.cells #[u0, u1, u2, u3, a4, a5, a6, a7, a8] t f) := heap_set h2 u3
  have h4 : (((((w.setCell ⟨g, 0, none⟩ u0).setCell ⟨g, 1, none⟩ u1).setCell ⟨g, 2, none⟩ u2).setCell ⟨g, 3, none⟩ u3).setCell ⟨g, 4, none⟩ u4).heap[g]? = some (.cells #[u0, u1, u2, u3, u4, a5, a6, a7, a8] t f) := heap_set h3 u4
  have h5 : ((((((w.setCell ⟨g, 0, none⟩ u0).setCell ⟨g, 1, none⟩ u1).setCell ⟨g, 2, none⟩ u2).setCell ⟨g, 3, none⟩ u3).setCell ⟨g, 4, none⟩ u4).setCell ⟨g, 5, none⟩ u5).heap[g]? = some (.cells #[u0, u1, u2, u3, u4, u5, a6, a7, a8] t f) := heap_set h4 u5
  have h6 : (((((((w.setCell ⟨g, 0, none⟩ u0).setCell ⟨g, 1, none⟩ u1).setCell ⟨g, 2, none⟩ u2).setCell ⟨g, 3, none⟩ u3).setCell ⟨g, 4, none⟩ u4).setCell ⟨g, 5, none⟩ u5).setCell ⟨g, 6, none⟩ u6).heap[g]? = some (.cells #[u0, u1, u2, u3, u4, u5, u6, a7, a8] t f) := heap_set h5 u6
  have h7 : ((((((((w.setCell ⟨g, 0, none⟩ u0).setCell ⟨g, 1, none⟩ u1).setCell ⟨g, 2, none⟩ u2).setCell ⟨g, 3, none⟩ u3).setCell ⟨g, 4, none⟩ u4).setCell ⟨g, 5, none⟩ u5).setCell ⟨g, 6, none⟩ u6).setCell ⟨g, 7, none⟩ u7).heap[g]? = some (.cells #[u0, u1, u2, u3, u4, u5, u6, u7, a8] t f) := heap_set h6 u7
  have h8 : (((((((((w.setCell ⟨g, 0, none⟩ u0).setCell ⟨g, 1, none⟩ u1).setCell ⟨g, 2, none⟩ u2).setCell ⟨g, 3, none⟩ u3).setCell ⟨g, 4, none⟩ u4).setCell ⟨g, 5, none⟩ u5).setCell ⟨g, 6, none⟩ u6).setCell ⟨g, 7, none⟩ u7).setCell ⟨g, 8, none⟩ u8).heap[g]? = some (.cells #[u0, u1, u2, u3, u4, u5, u6, u7, u8] t f) := heap_set h7 u8
  exact h8
theorem Kept.nine {S : Nat → Prop} {w w' : World} {g : Nat} (h : Kept S w w') (hg : S g) (u0 u1 u2 u3 u4 u5 u6 u7 u8 : Value) : Kept S w (((((((((w'.setCell ⟨g, 0, none⟩ u0).setCell ⟨g, 1, none⟩ u1).setCell ⟨g, 2, none⟩ u2).setCell ⟨g, 3, none⟩ u3).setCell ⟨g, 4, none⟩ u4).setCell ⟨g, 5, none⟩ u5).setCell ⟨g, 6, none⟩ u6).setCell ⟨g, 7, none⟩ u7).setCell ⟨g, 8, none⟩ u8) :=
  ((((((((h.setCell (p := ⟨g, 0, none⟩) hg _).setCell (p := ⟨g, 1, none⟩) hg _).setCell (p := ⟨g, 2, none⟩) hg _).setCell (p := ⟨g, 3, none⟩) hg _).setCell (p := ⟨g, 4, none⟩) hg _).setCell (p := ⟨g, 5, none⟩) hg _).setCell (p := ⟨g, 6, none⟩) hg _).setCell (p := ⟨g, 7, none⟩) hg _).setCell (p := ⟨g, 8, none⟩) hg _
theorem zcs {w : World} {rb : Nat} (h : w.heap[rb]? = some (.cells zOp 32 (0, 0))) : (w.cell? ⟨rb, 0, none⟩ = some (.int .i64 0) ∧ w.cell? ⟨rb, 1, none⟩ = some (.int .i64 0) ∧ w.cell? ⟨rb, 2, none⟩ = some (.int .i64 0) ∧ w.cell? ⟨rb, 3, none⟩ = some (.int .i64 0) ∧ w.cell? ⟨rb, 4, none⟩ = some (.int .i64 0) ∧
    w.cell? ⟨rb, 5, none⟩ = some (.int .i64 0) ∧ w.cell? ⟨rb, 6, none⟩ = some (.int .i64 0) ∧ w.cell? ⟨rb, 7, none⟩ = some (.int .i64 0) ∧ w.cell? ⟨rb, 8, none⟩ = some (.slice none 0 0)) ∧
    (w.frozen? ⟨rb, 0, none⟩ = false ∧ w.frozen? ⟨rb, 1, none⟩ = false ∧ w.frozen? ⟨rb, 2, none⟩ = false ∧ w.frozen? ⟨rb, 3, none⟩ = false ∧ w.frozen? ⟨rb, 4, none⟩ = false ∧ w.frozen? ⟨rb, 5, none⟩ = false ∧ w.frozen? ⟨rb, 6, none⟩ = false ∧ w.frozen? ⟨rb, 7, none⟩ = false ∧ w.frozen? ⟨rb, 8, none⟩ = false) :=
  ⟨⟨cell_of_row _ _ _ _ _ _ h, cell_of_row _ _ _ _ _ _ h, cell_of_row _ _ _ _ _ _ h, cell_of_row _ _ _ _ _ _ h, cell_of_row _ _ _ _ _ _ h, cell_of_row _ _ _ _ _ _ h, cell_of_row _ _ _ _ _ _ h, cell_of_row _ _ _ _ _ _ h, cell_of_row _ _ _ _ _ _ h⟩, frozen_of h, frozen_of h, frozen_of h, frozen_of h, frozen_of h, frozen_of h, frozen_of h, frozen_of h, frozen_of h⟩
theorem TkS.keep {W0 w w' : World} {rb xb ob : Nat} {L : List UInt8} {cs : Array Value} (h : TkS W0 w rb xb ob L cs) (hk : Kept (fun _ => False) w w') : TkS W0 w' rb xb ob L cs := by
  obtain ⟨s, hx, hs⟩ := h.x
  exact ⟨(hk.block _ (heap_lt h.r) id).trans h.r, ⟨s, (hk.block _ (heap_lt hx) id).trans hx, hs⟩, (hk.block _ (heap_lt h.o) id).trans h.o, h.kept.trans hk.any, h.rx, h.xo⟩
/-- What Take tells of bytes as many as an op has. -/
def TakeRet (w : World) (L : List UInt8) (e : Ending) (w' : World) : Prop :=
  (Cd.opOk (Cd.dec L) ∧ ∃ b : OpS, b.o = Cd.dec L ∧ e = .returned (.tuple #[opV b, .int .i64 0]) ∧ OpOk w' b ∧ ∀ a, b.A = some a → w.heap.size ≤ a.block) ∨ (¬ Cd.opOk (Cd.dec L) ∧ e = .returned (.tuple #[.agg zOp, .int .i64 9]))
set_option maxRecDepth 100000 in
set_option maxHeartbeats 8000000 in
theorem ptake_any (s : ByteArray) (w : World) (h : s.size = 21) (hT : Tabs w) :
    Calls Tryd.prog 15 #[.string s] w fun e w' => TakeRet w s.data.toList e w' ∧ Kept (fun _ => False) w w' := by
  have b : ((s.size : Int) != 21) = false := by simp; omega
  have hL : s.data.toList.length = 21 := by rw [ba_len]; exact h
  have HT := Lib.hid hT
  have hT0 := tk_new w s
  generalize s.data.toList = L at *
  have HT0 := Lib.hid hT0
  clear h hT hT0
  go_enter Tryd.func15, Tryd.ntmps15
  go_upto_region 5 with fail
  unfold zOp at HT0
  generalize ((w.alloc (.cells #[.int .i64 0, .int .i64 0, .int .i64 0, .int .i64 0, .int .i64 0, .int .i64 0, .int .i64 0, .int .i64 0, .slice none 0 0] 32)).alloc (.cells #[.string s] 77)).alloc (.cells #[.int .i64 0, .int .i64 0, .int .i64 0, .int .i64 0, .int .i64 0, .int .i64 0, .int .i64 0, .int .i64 0, .slice none 0 0] 32) = w5 at *
  have HL := Lib.hid hL
  clear hL b
  generalize hxb : w.heap.size + 1 = xb at *
  generalize hob : xb + 1 = ob at *
  generalize hrb : w.heap.size = rb at *
  have HN := Lib.hid (And.intro hrb (And.intro hxb hob))
  clear hrb hxb hob
  go_upto_region 6 with (first | (go_at_call 46; refine (TkS.num HT0.out 1 1 rfl (by omega) (by rw [HL.out]; omega) (by rw [HL.out]; omega)).mono ?_; clear HT0; rintro e w6 ⟨D6, hD6, rfl, hb6, hkk⟩; have HD6 := Lib.hid hD6; have H6 := Lib.hid hb6; obtain ⟨⟨c0, c1, c2, c3, c4, c5, c6, c7, c8⟩, f0, f1, f2, f3, f4, f5, f6, f7, f8⟩ := hb6.cs; clear hb6 hD6 hkk))
  have H7 : Hid (TkS w (w6.setCell ⟨ob, 0, none⟩ (.int .i64 D6)) rb xb ob (L.drop 1) (cOp D6 0 0 0 0 0 0 0 (.slice none 0 0))) := (H6.out.set 0 _)
  clear H6 c0 c1 c2 c3 c4 c5 c6 c7 c8 f0 f1 f2 f3 f4 f5 f6 f7 f8
  generalize w6.setCell ⟨ob, 0, none⟩ (.int .i64 D6) = w7 at *
  go_upto_region 7 with (first | (go_at_call 46; refine (TkS.at_ (p := 1) H7.out 2 3 2 rfl rfl (by omega) (by rw [HL.out]; omega) (by rw [HL.out]; omega)).mono ?_; clear H7; rintro e w8 ⟨D8, hD8, rfl, hb8, hkk⟩; have HD8 := Lib.hid hD8; have H8 := Lib.hid hb8; clear hb8 hD8 hkk) | (go_at_call 46; refine (TkS.at_ (p := 3) H8.out 1 4 1 rfl rfl (by omega) (by rw [HL.out]; omega) (by rw [HL.out]; omega)).mono ?_; clear H8; rintro e w9 ⟨D9, hD9, rfl, hb9, hkk⟩; have HD9 := Lib.hid hD9; have H9 := Lib.hid hb9; obtain ⟨⟨c0, c1, c2, c3, c4, c5, c6, c7, c8⟩, f0, f1, f2, f3, f4, f5, f6, f7, f8⟩ := hb9.cs; clear hb9 hD9 hkk))
  have H10 : Hid (TkS w ((w9.setCell ⟨ob, 1, none⟩ (.int .i64 D8)).setCell ⟨ob, 2, none⟩ (.int .i64 D9)) rb xb ob (L.drop 4) (cOp D6 D8 D9 0 0 0 0 0 (.slice none 0 0))) := ((H9.out.set 1 _).set 2 _)
  clear H9 c0 c1 c2 c3 c4 c5 c6 c7 c8 f0 f1 f2 f3 f4 f5 f6 f7 f8
  generalize (w9.setCell ⟨ob, 1, none⟩ (.int .i64 D8)).setCell ⟨ob, 2, none⟩ (.int .i64 D9) = w10 at *
  go_upto_region 8 with (first | (go_at_call 46; refine (TkS.at_ (p := 4) H10.out 2 6 2 rfl rfl (by omega) (by rw [HL.out]; omega) (by rw [HL.out]; omega)).mono ?_; clear H10; rintro e w11 ⟨D11, hD11, rfl, hb11, hkk⟩; have HD11 := Lib.hid hD11; have H11 := Lib.hid hb11; clear hb11 hD11 hkk) | (go_at_call 46; refine (TkS.at_ (p := 6) H11.out 1 7 1 rfl rfl (by omega) (by rw [HL.out]; omega) (by rw [HL.out]; omega)).mono ?_; clear H11; rintro e w12 ⟨D12, hD12, rfl, hb12, hkk⟩; have HD12 := Lib.hid hD12; have H12 := Lib.hid hb12; obtain ⟨⟨c0, c1, c2, c3, c4, c5, c6, c7, c8⟩, f0, f1, f2, f3, f4, f5, f6, f7, f8⟩ := hb12.cs; clear hb12 hD12 hkk))
  have H13 : Hid (TkS w ((w12.setCell ⟨ob, 3, none⟩ (.int .i64 D11)).setCell ⟨ob, 4, none⟩ (.int .i64 D12)) rb xb ob (L.drop 7) (cOp D6 D8 D9 D11 D12 0 0 0 (.slice none 0 0))) := ((H12.out.set 3 _).set 4 _)
  clear H12 c0 c1 c2 c3 c4 c5 c6 c7 c8 f0 f1 f2 f3 f4 f5 f6 f7 f8
  generalize (w12.setCell ⟨ob, 3, none⟩ (.int .i64 D11)).setCell ⟨ob, 4, none⟩ (.int .i64 D12) = w13 at *
  go_upto_region 9 with (first | (go_at_call 46; refine (TkS.at_ (p := 7) H13.out 3 10 3 rfl rfl (by omega) (by rw [HL.out]; omega) (by rw [HL.out]; omega)).mono ?_; clear H13; rintro e w14 ⟨D14, hD14, rfl, hb14, hkk⟩; have HD14 := Lib.hid hD14; have H14 := Lib.hid hb14; obtain ⟨⟨c0, c1, c2, c3, c4, c5, c6, c7, c8⟩, f0, f1, f2, f3, f4, f5, f6, f7, f8⟩ := hb14.cs; clear hb14 hD14 hkk))
  have H15 : Hid (TkS w (w14.setCell ⟨ob, 5, none⟩ (.int .i64 D14)) rb xb ob (L.drop 10) (cOp D6 D8 D9 D11 D12 D14 0 0 (.slice none 0 0))) := (H14.out.set 5 _)
  clear H14 c0 c1 c2 c3 c4 c5 c6 c7 c8 f0 f1 f2 f3 f4 f5 f6 f7 f8
  generalize w14.setCell ⟨ob, 5, none⟩ (.int .i64 D14) = w15 at *
  go_upto_region 10 with (first | (go_at_call 46; refine (TkS.at_ (p := 10) H15.out 1 11 1 rfl rfl (by omega) (by rw [HL.out]; omega) (by rw [HL.out]; omega)).mono ?_; clear H15; rintro e w16 ⟨D16, hD16, rfl, hb16, hkk⟩; have HD16 := Lib.hid hD16; have H16 := Lib.hid hb16; obtain ⟨⟨c0, c1, c2, c3, c4, c5, c6, c7, c8⟩, f0, f1, f2, f3, f4, f5, f6, f7, f8⟩ := hb16.cs; clear hb16 hD16 hkk))
  have H17 : Hid (TkS w (w16.setCell ⟨ob, 6, none⟩ (.int .i64 D16)) rb xb ob (L.drop 11) (cOp D6 D8 D9 D11 D12 D14 D16 0 (.slice none 0 0))) := (H16.out.set 6 _)
  clear H16 c0 c1 c2 c3 c4 c5 c6 c7 c8 f0 f1 f2 f3 f4 f5 f6 f7 f8
  generalize w16.setCell ⟨ob, 6, none⟩ (.int .i64 D16) = w17 at *
  go_upto_region 11 with (first | (go_at_call 46; refine (TkS.at_ (p := 11) H17.out 2 13 2 rfl rfl (by omega) (by rw [HL.out]; omega) (by rw [HL.out]; omega)).mono ?_; clear H17; rintro e w18 ⟨D18, hD18, rfl, hb18, hkk⟩; have HD18 := Lib.hid hD18; have H18 := Lib.hid hb18; obtain ⟨⟨c0, c1, c2, c3, c4, c5, c6, c7, c8⟩, f0, f1, f2, f3, f4, f5, f6, f7, f8⟩ := hb18.cs; clear hb18 hD18 hkk))
  have H19 : Hid (TkS w (w18.setCell ⟨ob, 7, none⟩ (.int .i64 D18)) rb xb ob (L.drop 13) (cOp D6 D8 D9 D11 D12 D14 D16 D18 (.slice none 0 0))) := (H18.out.set 7 _)
  clear H18 c0 c1 c2 c3 c4 c5 c6 c7 c8 f0 f1 f2 f3 f4 f5 f6 f7 f8
  generalize w18.setCell ⟨ob, 7, none⟩ (.int .i64 D18) = w19 at *
  go_wp2_with fail
  go_loopw [32] (fun i wr => ∃ (k : Nat) (v : Value), k ≤ 4 ∧ i = .int .i64 k ∧ TkS w wr rb xb ob (L.drop (13 + 2 * k)) (cOp D6 D8 D9 D11 D12 D14 D16 D18 v) ∧ wr.ownsRow (ob + 1) 3 1 v k ((sn L k).map (.int .i64))) (fun i _ => 4 - (intOf i).toNat)
  case atStart => exact ⟨0, _, Nat.zero_le _, rfl, H19.out, World.ownsRow_nil _ _ _ _⟩
  case round =>
    obtain ⟨k, v, hk, rfl, hT, hown⟩ := hrel
    by_cases hkn : k < 4
    · have b1 : decide (k < 4) = true := decide_eq_true hkn
      have b2 : decide ((k : Int) < 4) = true := decide_eq_true (by omega)
      have HTD := Lib.hid hT.drew
      have HOD := Lib.hid hown.drew
      have K0 := HTD.out.c8
      have hls : (sn L k).map (Value.int .i64) = (sn L k).map (Value.int .i64) := rfl
      have HSN := Lib.hid (sn_succ L k)
      generalize (sn L k).map (Value.int .i64) = xs at *
      clear hT hown hls
      go_wp2_with fail
      obtain ⟨k8, f8⟩ := K0
      go_region_law (first
          | (go_simp; go_at_call 46; refine (TkS.at_ (p := 13 + 2 * k) HTD.out 2 (13 + 2 * (k + 1)) 2 rfl (by omega) (by omega) (by rw [HL.out]; omega) (by rw [HL.out]; omega)).mono ?_; rintro e w21 ⟨D21, hD21, rfl, hb21, hkk⟩; have HD21 := Lib.hid hD21; have H21 := Lib.hid hb21; obtain ⟨k9, f9⟩ := hb21.c8; have k9a := (fun o => ((hb21.alloc o).c8).1); have HO21 := Lib.hid (ownsRow_kept HOD.out hkk (fun g hg e => by have := (HOD.out.lt g hg).1; have e : g = xb := e; have := HTD.out.xo; omega)); clear hb21 hD21 hkk)
          | (refine step_append_one rfl (.tmp 35) (.tmp 37) rfl (ob + 1) _ k xs rfl (HO21.out.alloc _) ⟨_, 0, none⟩ D21 rfl one_cells (by omega) (by have := heap_lt (H21.out.o); simp; omega) ?_; intro v7 w7 hown7 hgrow7; obtain ⟨g7, c7, rfl⟩ := own_form hown7; have HO7 := Lib.hid hown7; have hT7 := (H21.out.alloc _).grow hgrow7 (fun b hb => (HO21.out.lt b hb).1); have H7 := Lib.hid hT7; obtain ⟨k10, f10⟩ := hT7.c8; clear hown7 hgrow7 hT7))
      all_goals
        go_wp2_with fail
        go_roundw
        case rel => exact ⟨k + 1, _, by omega, by go_num, H7.out.set 8 _, by rw [HSN.out, ← HD21.out]; exact ownsRow_kept HO7.out ((Kept.refl (fun q => q = ob) w7).setCell (p := ⟨ob, 8, none⟩) rfl _) (fun g hg e => by have := (HO7.out.lt g hg).1; have e : g = ob := e; omega)⟩
        case measure => simp [intOf] <;> omega
    · have hk4 : k = 4 := by omega
      rw [hk4] at hown
      have HDEC : Hid (Cd.dec L = ⟨D6, D8, D9, D11, D12, D14, D16, D18, sn L 4⟩) := by
        show _ = _
        rw [HD6.out, HD8.out, HD9.out, HD11.out, HD12.out, HD14.out, HD16.out, HD18.out]
        rfl
      obtain ⟨g, c, rfl, hb, hopn, hopc⟩ := own_nums hown (sn_len L 4)
      have HKF : Hid (Kept (fun _ => False) w wr) := (Kept.refl (fun _ => False) w).fresh hT.kept (fun q hq h => by have h : rb ≤ q := h; have := HN.out.1; omega)
      have hTr := HT.out.kept HKF.out id id
      have hok : OpOk wr ⟨⟨D6, D8, D9, D11, D12, D14, D16, D18, sn L 4⟩, some ⟨g, 0, none⟩, 4, c⟩ :=
        ⟨hopn, sn_i64 L 4, by show 4 ≤ 17592186044416; omega, hopc, de_i64 HD6.out, de_i64 HD8.out, de_i64 HD9.out, de_i64 HD11.out, de_i64 HD12.out, de_i64 HD14.out, de_i64 HD16.out, de_i64 HD18.out⟩
      have cM := may_any _ wr hok hTr
      have HOK := Lib.hid hok
      have HGB : Hid (w.heap.size ≤ g) := by show _ ≤ _; have := HN.out.1; have := HN.out.2.1; have := HN.out.2.2; omega
      have HGO : Hid (ob < g) := by show _ < _; omega
      have HTK := Lib.hid hT
      obtain ⟨⟨c0, c1, c2, c3, c4, c5, c6, c7, c8⟩, f0, f1, f2, f3, f4, f5, f6, f7, f8⟩ := hT.cs
      have b1 : decide ((k : Int) < 4) = false := decide_eq_false (by omega)
      have b2 : decide (k < 4) = false := decide_eq_false (by omega)
      clear hT hown hok hTr hb hopn hopc hk4 hkn hk
      unfold opV at cM
      simp only at cM
      by_cases ho : Cd.opOk ⟨D6, D8, D9, D11, D12, D14, D16, D18, sn L 4⟩
      · rw [if_pos ho] at cM
        have HO := Lib.hid ho
        clear ho
        go_upto_region 17 with (go_at_call 39; refine cM.mono ?_; rintro e w30 ⟨rfl, hk30⟩; have HK30 := Lib.hid hk30; clear hk30)
        have hT30 := HTK.out.keep HK30.out
        have HR30 := Lib.hid hT30.r
        have HOK30 := Lib.hid (HOK.out.kept HK30.out (fun _ _ => id))
        have HKF30 := Lib.hid (HKF.out.trans HK30.out)
        have HNR : Hid (w.heap.size ≤ rb ∧ rb < g) := by show _ ∧ _; have := HN.out.1; have := HN.out.2.1; have := HN.out.2.2; have := HGO.out; omega
        clear c0 c1 c2 c3 c4 c5 c6 c7 c8 f0 f1 f2 f3 f4 f5 f6 f7 f8
        obtain ⟨⟨c0, c1, c2, c3, c4, c5, c6, c7, c8⟩, f0, f1, f2, f3, f4, f5, f6, f7, f8⟩ := hT30.cs
        obtain ⟨⟨d0, d1, d2, d3, d4, d5, d6, d7, d8⟩, e0, e1, e2, e3, e4, e5, e6, e7, e8⟩ := zcs HR30.out
        clear hT30
        go_wp2_with fail
        refine bodyPost_ret (res_op rfl _ _ rb D6 D8 D9 D11 D12 D14 D16 D18 (some ⟨g, 0, none⟩) 4 c (0, 0) rfl (nine HR30.out _ _ _ _ _ _ _ _ _)) rfl ⟨.inl ⟨by rw [HDEC.out]; exact HO.out, ⟨⟨D6, D8, D9, D11, D12, D14, D16, D18, sn L 4⟩, some ⟨g, 0, none⟩, 4, c⟩, HDEC.out.symm, rfl, HOK30.out.kept (Kept.nine (Kept.refl (fun q => q = rb) w30) rfl _ _ _ _ _ _ _ _ _) (fun a ha e => ?_), fun a ha => ?_⟩, HKF30.out.fresh (Kept.nine (Kept.refl (fun q => q = rb) w30) rfl _ _ _ _ _ _ _ _ _) (fun q hq e => ?_)⟩
        · injection ha with ha
          subst ha
          have e : g = rb := e
          have := HNR.out
          omega
        · injection ha with ha
          subst ha
          exact HGB.out
        · have e : q = rb := e
          have := HNR.out
          omega
      · rw [if_neg ho] at cM
        have HO := Lib.hid ho
        clear ho
        go_upto_region 16 with (go_at_call 39; refine cM.mono ?_; rintro e w30 ⟨rfl, hk30⟩; have HK30 := Lib.hid hk30; clear hk30)
        have hT30 := HTK.out.keep HK30.out
        have HR30 := Lib.hid hT30.r
        have HOK30 := Lib.hid (HOK.out.kept HK30.out (fun _ _ => id))
        have HKF30 := Lib.hid (HKF.out.trans HK30.out)
        have HNR : Hid (w.heap.size ≤ rb ∧ rb < g) := by show _ ∧ _; have := HN.out.1; have := HN.out.2.1; have := HN.out.2.2; have := HGO.out; omega
        clear c0 c1 c2 c3 c4 c5 c6 c7 c8 f0 f1 f2 f3 f4 f5 f6 f7 f8
        obtain ⟨⟨c0, c1, c2, c3, c4, c5, c6, c7, c8⟩, f0, f1, f2, f3, f4, f5, f6, f7, f8⟩ := hT30.cs
        obtain ⟨⟨d0, d1, d2, d3, d4, d5, d6, d7, d8⟩, e0, e1, e2, e3, e4, e5, e6, e7, e8⟩ := zcs HR30.out
        clear hT30
        go_wp2_with fail
        refine bodyPost_ret (res_op rfl _ _ rb 0 0 0 0 0 0 0 0 none 0 0 (0, 0) rfl (nine HR30.out _ _ _ _ _ _ _ _ _)) rfl ⟨.inr ⟨by rw [HDEC.out]; exact HO.out, rfl⟩, HKF30.out.fresh (Kept.nine (Kept.refl (fun q => q = rb) w30) rfl _ _ _ _ _ _ _ _ _) (fun q hq e => ?_)⟩
        have e : q = rb := e
        have := HNR.out
        omega
end Go.Proofs.YtpgicfbaefcbmaaDoor
