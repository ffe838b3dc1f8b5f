/-
  CAUSAL ORDER: settle: what is ready, again and again.
-/
import Derived.Test.YtpgicfbaefcbmaaDoorCaK
import Derived.Maps.AppendAt
set_option linter.unusedVariables false
namespace Go.Proofs.YtpgicfbaefcbmaaDoor
open Go Go.RowKit

def lenOf : Value → Nat
  | .slice _ n _ => n
  | _ => 0
theorem ownsRow_len {w : World} {B : Nat} {e : TypeId} {sz n : Nat} {v : Value} {xs : List Value} (h : w.ownsRow B e sz v n xs) : lenOf v = n := by
  rcases h.2 with ⟨rfl, h2⟩ | ⟨g, cap, cur, rfl, _⟩
  · exact h2.symm
  · rfl
theorem own_base {w : World} {B B' : Nat} {e : TypeId} {sz n : Nat} {v : Value} {xs : List Value} (h : w.ownsRow B e sz v n xs) (hb : B' ≤ B) : w.ownsRow B' e sz v n xs := by
  refine ⟨h.1, ?_⟩
  rcases h.2 with hn | ⟨g, cap, cur, rfl, hg, rest⟩
  · exact .inl hn
  · exact .inr ⟨g, cap, cur, rfl, Nat.le_trans hb hg, rest⟩
theorem nine_cells {W : World} (b : OpS) : ∀ j u, b.vals[j]? = some u → (W.alloc (opO b)).cell? ((⟨W.heap.size, 0, none⟩ : Addr).add j) = some u := by
  intro j u hj
  unfold opO
  rw [addr_add, cell_of_row _ _ _ _ _ _ (heap_alloc_new W _), Nat.zero_add]
  simpa [OpS.vals] using hj
theorem nine_one (b : OpS) : ∀ u ∈ b.vals, u.oneCell' = true := fun u hu => flatO_one (al := [b]) u (by simpa [flatO] using hu)
theorem results_tct {fn : Func} {s p u : Tmp} {ty : TypeId} (h : fn.results = #[.tmp s, .cell p ty, .tmp u]) (tmps : Array Value) (P : Program) (w : World) :
    (results fn tmps).run P w =
      ((asAddr (tmps.getD p undef)).run P w).andThen fun a w₁ => ((loadVar ty a).run P w₁).andThen fun v w₂ => .ok (.tuple #[tmps.getD s undef, v, tmps.getD u undef]) w₂ := by
  simp only [results, h]
  simp [Sem.run_bind, Result.andThen]
theorem res_tct {fn : Func} {s p u : Tmp} (h : fn.results = #[.tmp s, .cell p 30, .tmp u]) (tmps : Array Value) (w : World) (g : Nat) (v : Value) (hp : tmps.getD p undef = .pointer (some ⟨g, 0, none⟩)) (hg : w.cell? ⟨g, 0, none⟩ = some v) :
    (results fn tmps).run Tryd.prog w = .ok (.tuple #[tmps.getD s undef, v, tmps.getD u undef]) w := by
  rw [results_tct h, hp]
  have hagg : (isAgg 30).run Tryd.prog w = .ok false w := by
    unfold isAgg
    rw [Sem.run_bind, run_underlying Tryd.underlying30 w]
    rfl
  simp [asAddr, Result.andThen, loadVar, Sem.run_bind, hagg, hg]
theorem find_first {vs : List Int} : ∀ {al : List OpS} {k : Nat} {b : OpS}, al[k]? = some b → Cd.rd vs b.o → (∀ (j : Nat) (q : OpS), j < k → al[j]? = some q → ¬ Cd.rd vs q.o) → (al.map (·.o)).find? (Cd.rdB vs) = some b.o
  | [], k, b, h, _, _ => by simp at h
  | q :: al, 0, b, h, hr, _ => by
    simp only [List.getElem?_cons_zero, Option.some.injEq] at h
    subst h
    rw [List.map_cons, List.find?_cons_of_pos (Cd.rdB_iff.2 hr)]
  | q :: al, k + 1, b, h, hr, hf => by
    have hq : ¬ (Cd.rdB vs q.o = true) := fun e => hf 0 q (by omega) rfl (Cd.rdB_iff.1 e)
    rw [List.map_cons, List.find?_cons_of_neg hq]
    exact find_first (by simpa using h) hr (fun j q hj hq => hf (j + 1) q (by omega) (by simpa using hq))
theorem find_none {vs : List Int} {al : List OpS} (h : ∀ (j : Nat) (b : OpS), al[j]? = some b → ¬ Cd.rd vs b.o) : (al.map (·.o)).find? (Cd.rdB vs) = none := by
  rw [List.find?_eq_none]
  intro o ho hr
  obtain ⟨b, hb, rfl⟩ := List.mem_map.1 ho
  obtain ⟨i, hi, rfl⟩ := List.getElem_of_mem hb
  exact h i _ (List.getElem?_eq_getElem hi) (Cd.rdB_iff.1 hr)
theorem sum_set : ∀ {l : List Int} {k : Nat} {x : Int}, l[k]? = some x → (l.set k (x + 1)).sum = l.sum + 1
  | [], k, x, h => by simp at h
  | a :: l, 0, x, h => by
    simp only [List.getElem?_cons_zero, Option.some.injEq] at h
    subst h
    simp only [List.set_cons_zero, List.sum_cons]
    omega
  | a :: l, k + 1, x, h => by
    have := sum_set (l := l) (k := k) (x := x) (by simpa using h)
    simp only [List.set_cons_succ, List.sum_cons]
    omega
theorem sum_le {l : List Int} (h : Cd.vecOk l) : 0 ≤ l.sum ∧ l.sum ≤ 8000 := by
  obtain ⟨hl, hx⟩ := h
  match l, hl with
  | [a, b, c, d], _ =>
    have h1 := hx a (by simp)
    have h2 := hx b (by simp)
    have h3 := hx c (by simp)
    have h4 := hx d (by simp)
    simp only [List.sum_cons, List.sum_nil]
    omega
/-- How it stands: what was told, the vector. -/
structure StI (w0 w : World) (B xb g xc : Nat) (T : Value) (al tb : List OpS) (vs0 vs : List Int) : Prop where
  kept : Kept (fun _ => False) w0 w
  x : w.heap[xb]? = some (.cells #[.slice (some ⟨g, 0, none⟩) 4 xc] 30 (0, 0))
  v : Vm w g xc vs
  vl : Cd.vecOk vs
  own : w.ownsRow B 32 9 T tb.length (flatO tb)
  mem : ∀ b ∈ tb, b ∈ al
  stp : Cd.Stp (al.map (·.o)) vs0 (tb.map (·.o)) vs
  sum : vs.sum = vs0.sum + tb.length
  lt : w0.heap.size ≤ xb ∧ xb < g ∧ g < B ∧ B ≤ w.heap.size
theorem StI.keep {w0 w w' : World} {B xb g xc : Nat} {T : Value} {al tb : List OpS} {vs0 vs : List Int} (h : StI w0 w B xb g xc T al tb vs0 vs) (hk : Kept (fun _ => False) w w') : StI w0 w' B xb g xc T al tb vs0 vs :=
  ⟨h.kept.trans hk, (hk.block _ (heap_lt h.x) id).trans h.x, h.v.kept hk id, h.vl, ownsRow_kept h.own hk (fun _ _ => id), h.mem, h.stp, h.sum, h.lt.1, h.lt.2.1, h.lt.2.2.1, Nat.le_trans h.lt.2.2.2 hk.size⟩
theorem StI.next {w0 w w5 : World} {B xb g xc k m : Nat} {T T' : Value} {al tb : List OpS} {vs0 vs : List Int} {b : OpS} {x : Int} (h : StI w0 w B xb g xc T al tb vs0 vs) (hK : Kept (fun q => B ≤ q) w w5) (hown : w5.ownsRow B 32 9 T' (tb.length + 1) (flatO tb ++ b.vals))
    (hb : al[k]? = some b) (hr : Cd.rdy vs b.o x) (hf : ∀ (j : Nat) (q : OpS), j < k → al[j]? = some q → ¬ Cd.rd vs q.o) (hop : Cd.opOk b.o) (hm : (b.o.st - 1).toNat = m) (hx : vs[m]? = some x) :
    StI w0 ((w5.setCell ⟨g, m, none⟩ (.int .i64 (x + 1))).drew) B xb g xc T' al (tb ++ [b]) vs0 (vs.set m (x + 1)) := by
  obtain ⟨l1, l2, l3, l4⟩ := h.lt
  have hk2 : Kept (fun q => q = g) w5 (w5.setCell ⟨g, m, none⟩ (.int .i64 (x + 1))).drew := ((Kept.refl (fun q => q = g) w5).setCell (p := ⟨g, m, none⟩) rfl _).drew
  have hk3 : Kept (fun q => g ≤ q) w (w5.setCell ⟨g, m, none⟩ (.int .i64 (x + 1))).drew := (hK.mono (fun q _ hq => by have hq : B ≤ q := hq; show g ≤ q; omega)).trans (hk2.mono (fun q _ hq => by have hq : q = g := hq; show g ≤ q; omega))
  have hx0 : vs[(b.o.st - 1).toNat]? = some x := by rw [hm]; exact hx
  have hml : m < vs.length := (List.getElem?_eq_some_iff.1 hx).1
  refine ⟨h.kept.fresh hk3 (fun q hq e => by have e : g ≤ q := e; omega), (hk3.block _ (heap_lt h.x) (fun e => by have e : g ≤ xb := e; omega)).trans h.x, ((h.v.kept hK (fun e => by have e : B ≤ g := e; omega)).set m (x + 1)).kept (Kept.refl (fun _ => False) _).drew id, ?_, ?_, ?_, ?_, ?_, l1, l2, l3, ?_⟩
  · refine ⟨by rw [List.length_set]; exact h.vl.1, fun y hy => ?_⟩
    obtain ⟨i, hi, rfl⟩ := List.getElem_of_mem hy
    by_cases e : m = i
    · subst e
      rw [List.getElem_set_self]
      have h1 := h.vl.2 x (List.mem_of_getElem? hx)
      have h2 := hop.2.2.1
      have h3 := hr.1
      omega
    · rw [List.getElem_set_ne e]
      exact h.vl.2 _ (List.getElem_mem _)
  · rw [List.length_append, List.length_singleton, flatO_app]
    have e : flatO [b] = b.vals := by simp [flatO]
    rw [e]
    exact ownsRow_kept hown hk2 (fun q hq e => by have h1 := (hown.lt q hq).1; have e : q = g := e; omega)
  · intro q hq
    rcases List.mem_append.1 hq with hq | hq
    · exact h.mem q hq
    · obtain rfl := List.mem_singleton.1 hq
      exact List.mem_of_getElem? hb
  · rw [List.map_append, ← hm, ← Cd.up_of hx0]
    exact h.stp.snoc (find_first hb ⟨x, hx0, hr⟩ hf)
  · rw [sum_set hx, h.sum, List.length_append, List.length_singleton]
    omega
  · exact Nat.le_trans l4 hk3.size
/-- What settle tells. -/
def Settled (w : World) (al : List OpS) (vs0 : List Int) (e : Ending) (w' : World) : Prop :=
  ∃ (T W : Value) (tb wb : List OpS) (vs : List Int) (g xc : Nat), e = .returned (.tuple #[T, .slice (some ⟨g, 0, none⟩) 4 xc, W]) ∧ w'.ownsRow w.heap.size 32 9 T tb.length (flatO tb) ∧ w'.ownsRow w.heap.size 32 9 W wb.length (flatO wb) ∧
    Vm w' g xc vs ∧ w.heap.size ≤ g ∧ Cd.vecOk vs ∧ (∀ b ∈ tb, b ∈ al) ∧ Cd.Stp (al.map (·.o)) vs0 (tb.map (·.o)) vs ∧ (al.map (·.o)).find? (Cd.rdB vs) = none ∧ wb = al.filter (fun b => !Cd.odB vs b.o) ∧ tb.length ≤ 8000
set_option maxRecDepth 100000 in
set_option maxHeartbeats 4000000 in
theorem settle_any (vad : Addr) (vc : Nat) (vs0 : List Int) (A : Option Addr) (n c : Nat) (al : List OpS) (w : World) (hv : Nums w (some vad) 4 vs0) (hvo : Cd.vecOk vs0) (hA : OpsM w A n al) (hn : n ≤ 10000) (ho : ∀ b ∈ al, Cd.opOk b.o) :
    Calls Tryd.prog 53 #[.slice (some vad) 4 vc, .slice A n c] w fun e w' => Settled w al vs0 e w' ∧ Kept (fun _ => False) w w' := by
  obtain ⟨i0, hi, hz0, hz1, hz2⟩ := info_parts info_op
  have hk0 : Kept (fun _ => False) w (w.alloc (.cells #[.slice none 0 0] 30)) := (Kept.refl _ w).alloc _
  have cI := iclone_any vad 4 vc vs0 (w.alloc (.cells #[.slice none 0 0] 30)) (hv.kept hk0 (fun _ _ => id)) (by omega)
  have HX0 : Hid ((w.alloc (.cells #[.slice none 0 0] 30)).heap[w.heap.size]? = some (.cells #[.slice none 0 0] 30 (0, 0))) := heap_alloc_new w _
  have HSZ : Hid ((w.alloc (.cells #[.slice none 0 0] 30)).heap.size = w.heap.size + 1) := by show _ = _; simp
  have HK0 := Lib.hid hk0
  have HA := Lib.hid hA
  have HVO := Lib.hid hvo
  have HO : Hid (∀ (j : Nat) (b : OpS), al[j]? = some b → Cd.opOk b.o) := fun j b hj => ho b (List.mem_of_getElem? hj)
  have HLN : Hid (al.length = n) := hA.1
  clear hv hvo hA ho hk0
  go_enter Tryd.func53, Tryd.ntmps53
  go_upto_region 1 with fail
  generalize w.alloc (.cells #[.slice none 0 0] 30) = w1 at *
  generalize hxb : w.heap.size = xb at *
  have HXB := Lib.hid hxb
  clear hxb
  go_upto_region 2 with (go_at_call 59; refine cI.mono ?_; rintro e w2 ⟨⟨g, xc, rfl, hV, hg⟩, hk2⟩; have HV := Lib.hid hV; have HG := Lib.hid hg; have HK2 := Lib.hid hk2; have hx2 := (hk2.block xb (heap_lt HX0.out) id).trans HX0.out; have HX2 := Lib.hid hx2; have d0 : w2.cell? ⟨xb, 0, none⟩ = some (.slice none 0 0) := cell_of_row _ _ _ _ _ _ hx2; have e0 : w2.frozen? ⟨xb, 0, none⟩ = false := frozen_of hx2; clear hV hg hk2 hx2 cI)
  have hS0 : StI w (w2.setCell ⟨xb, 0, none⟩ (.slice (some ⟨g, 0, none⟩) 4 xc)) w2.heap.size xb g xc (.slice none 0 0) al [] vs0 vs0 := by
    have h1 := HG.out
    have h2 := HSZ.out
    have h3 := HV.out.lt
    have h4 := HXB.out
    have hk : Kept (fun q => q = xb) w2 (w2.setCell ⟨xb, 0, none⟩ (.slice (some ⟨g, 0, none⟩) 4 xc)) := (Kept.refl (fun q => q = xb) w2).setCell (p := ⟨xb, 0, none⟩) rfl _
    exact ⟨(HK0.out.trans HK2.out).fresh hk (fun q hq e => by have e : q = xb := e; omega), heap_set HX2.out _, HV.out.kept hk (fun e => by have e : g = xb := e; omega), HVO.out, World.ownsRow_nil _ _ _ _, (fun b hb => by simp at hb), .nil, by simp, by omega, by omega, by omega, hk.size⟩
  generalize hB : w2.heap.size = B at hS0
  generalize w2.setCell ⟨xb, 0, none⟩ (.slice (some ⟨g, 0, none⟩) 4 xc) = w3 at *
  have HS0 := Lib.hid hS0
  have cF := first_any A n c al xb g xc 30 vs0 w3 (HA.out.kept hS0.kept (fun _ _ => id) (fun _ _ _ _ => id)) (by omega) hS0.x hS0.v hS0.vl.1 (fun j y hj => vec_at hS0.vl hj) (fun j b hj => by
    have h1 := HO.out j b hj
    have h2 := (HA.out.2 j b hj).2.seen.1
    exact ⟨by rw [← h2, h1.2.2.2.1.1]; exact Nat.le_refl _, h1.2.1⟩)
  clear hS0 hB d0 e0 HX2 HV HG HK2 HX0 HSZ HK0
  go_wp2_with (go_at_call 61; refine cF.mono ?_; rintro e w4 ⟨⟨i1, rfl, hF⟩, hk4⟩; have HS4 := Lib.hid (HS0.out.keep hk4); have HF := Lib.hid hF; clear hk4 hF cF)
  go_loopw [4, 8] (fun T i wr => ∃ (i' : Int) (T' : Value) (tb : List OpS) (vs : List Int), i = .int .i64 i' ∧ T = T' ∧ Cd.Fst vs al i' ∧ StI w wr B xb g xc T' al tb vs0 vs) (fun T _ _ => 8001 - lenOf T)
  case atStart => exact ⟨i1, _, [], vs0, rfl, rfl, HF.out, HS4.out⟩
  case round =>
    obtain ⟨i', T, tb, vs, rfl, hT, hF, hS⟩ := hrel
    have hT2 := hT.symm
    subst hT2
    have hlen : tb.length ≤ 8000 := by
      have h1 := sum_le hS.vl
      have h2 := sum_le HVO.out
      have h3 := hS.sum
      omega
    have HLT := Lib.hid (ownsRow_len hS.own)
    have HLEN := Lib.hid hlen
    have HS := Lib.hid hS
    have x0 : wr.cell? ⟨xb, 0, none⟩ = some (.slice (some ⟨g, 0, none⟩) 4 xc) := cell_of_row _ _ _ _ _ _ hS.x
    clear HS0 HS4 HF hlen hS
    rcases hF with ⟨rfl, hno⟩ | ⟨k, b, rfl, hb, hr, hf⟩
    · have HNO := Lib.hid (find_none hno)
      clear hno
      generalize wr = wA at *
      go_wp2_with fail
      go_loopw [6, 42] (fun W i wr => ∃ (k : Nat) (W' : Value) (wb : List OpS), k ≤ n ∧ i = .int .i64 k ∧ W = W' ∧ wb = (al.take k).filter (fun b => !Cd.odB vs b.o) ∧ wr.ownsRow wA.heap.size 32 9 W' wb.length (flatO wb) ∧ Kept (fun _ => False) wA wr) (fun _ i _ => n - (intOf i).toNat)
      case atStart => exact ⟨0, _, [], Nat.zero_le _, rfl, rfl, rfl, World.ownsRow_nil _ _ _ _, Kept.refl _ _⟩
      case round =>
        obtain ⟨k, W, wb, hk, rfl, hW, hwb, hown, hkept⟩ := hrel
        have hW2 := hW.symm
        subst hW2
        have HWB := Lib.hid hwb
        have HOWN := Lib.hid hown
        have HK := Lib.hid hkept
        have hwl : wb.length ≤ k := by
          rw [hwb]
          exact Nat.le_trans (List.length_filter_le _ _) (by rw [List.length_take]; omega)
        clear hwb hkept x0
        by_cases hlt : k < n
        · obtain ⟨ad, b, rfl, hb, h9, hok⟩ := (HA.out.kept (HS.out.keep HK.out).kept (fun _ _ => id) (fun _ _ _ _ => id)).at_ hlt
          have hop := HO.out k b hb
          have hSr := HS.out.keep HK.out
          have hk1 : Kept (fun _ => False) wr (wr.alloc (opO b)) := (Kept.refl _ _).alloc _
          have hlt0 : (b.o.st - 1).toNat < vs.length := by rw [hSr.vl.1]; have := hop.2.1; omega
          obtain ⟨x, hx⟩ : ∃ x, vs[(b.o.st - 1).toNat]? = some x := ⟨_, List.getElem?_eq_getElem hlt0⟩
          have cD := cold_any (some ⟨g, 0, none⟩) xc vs b x (wr.alloc (opO b)) ((hSr.v.kept hk1 id).nums hSr.vl.1) hop.2.1 hx
          have HTK : Hid ((al.take (k + 1)).filter (fun b => !Cd.odB vs b.o) = if b.o.nn ≤ x then wb else wb ++ [b]) := by
            show _ = _
            have e : Cd.odB vs b.o = decide (b.o.nn ≤ x) := by unfold Cd.odB; rw [hx]
            rw [List.take_add_one, hb, List.filter_append, ← HWB.out]
            by_cases h : b.o.nn ≤ x
            · rw [if_pos h]
              simp [e, h]
            · rw [if_neg h]
              simp [e, h]
          have HK1 := Lib.hid (HK.out.trans hk1)
          have HQ : Hid (Op9 (wr.alloc (opO b)) ⟨wr.heap.size, 0, none⟩ b) := op9_new
          have HOW1 := Lib.hid (hown.alloc (opO b))
          have y0 : (wr.alloc (opO b)).cell? ⟨xb, 0, none⟩ = some (.slice (some ⟨g, 0, none⟩) 4 xc) := cell_kept hk1 (cell_of_row _ _ _ _ _ _ hSr.x) id
          have Y0 := Lib.hid y0
          obtain ⟨c0, c1, c2, c3, c4, c5, c6, c7, c8⟩ := h9
          have b1 : decide (k < n) = true := decide_eq_true hlt
          have b2 : decide ((k : Int) < (n : Int)) = true := decide_eq_true (by omega)
          have t1 : (0 : Int) ≤ (k : Int) := by omega
          have t2 : (k : Int) < (n : Int) := by omega
          clear hok hk1 hop hSr hown hlt0 hx y0 hb HOWN HK
          generalize hbb : b = bb at *
          obtain ⟨⟨kd, t, si, t0, s0, rn, st, nn, seen⟩, B', m, mc⟩ := bb
          have hbb2 := hbb
          subst hbb2
          have HBB := Lib.hid hbb
          clear hbb
          simp only at c0 c1 c2 c3 c4 c5 c6 c7 c8
          unfold opV at cD
          go_upto_region 11 with fail
          clear c0 c1 c2 c3 c4 c5 c6 c7 c8
          simp only [opO] at HQ HK1 HOW1 Y0 cD
          generalize wr.alloc (.cells #[.int .i64 kd, .int .i64 t, .int .i64 si, .int .i64 t0, .int .i64 s0, .int .i64 rn, .int .i64 st, .int .i64 nn, .slice B' m mc] 32) = w5 at *
          generalize wr.heap.size = ob at *
          obtain ⟨c0, c1, c2, c3, c4, c5, c6, c7, c8⟩ := HQ.out.cs
          simp only at c0 c1 c2 c3 c4 c5 c6 c7 c8
          have y0 := Y0.out
          by_cases ho : nn ≤ x
          · rw [decide_eq_true ho] at cD
            have HTK2 := HTK.out
            rw [if_pos ho] at HTK2
            have HT2 := Lib.hid HTK2
            clear HTK HTK2 ho
            go_wp2_with (go_at_call 49; refine cD.mono ?_; rintro e w6 ⟨rfl, hk6⟩; have HK6 := Lib.hid (HK1.out.trans hk6); have HO6 := Lib.hid (ownsRow_kept HOW1.out hk6 (fun _ _ => id)); clear hk6)
            go_roundw
            case rel => exact ⟨k + 1, W, wb, by omega, by go_num, rfl, HT2.out.symm, HO6.out, HK6.out⟩
            case measure => simp [intOf] <;> omega
          · rw [decide_eq_false ho] at cD
            have HTK2 := HTK.out
            rw [if_neg ho] at HTK2
            have HT2 := Lib.hid HTK2
            clear HTK HTK2 ho
            generalize hxs : flatO wb = xs at *
            have HXS := Lib.hid hxs
            clear hxs
            go_upto_region 12 with (go_at_call 49; refine cD.mono ?_; clear cD; rintro e w6 ⟨rfl, hk6⟩; have HK6 := Lib.hid (HK1.out.trans hk6); have hown := ownsRow_kept HOW1.out hk6 (fun _ _ => id); have HQ6 := Lib.hid (HQ.out.kept hk6 id); clear hk6 c0 c1 c2 c3 c4 c5 c6 c7 c8 y0)
            obtain ⟨c0, c1, c2, c3, c4, c5, c6, c7, c8⟩ := HQ6.out.cs
            simp only at c0 c1 c2 c3 c4 c5 c6 c7 c8
            have HBS : Hid (wA.heap.size ≤ w6.heap.size) := HK6.out.size
            go_wp2_with (at_builtin; refine wpList_append_own_at _ rfl (.tmp 50) (.tmp 52) 22 rfl wA.heap.size 32 i0 (.agg #[.int .i64 0, .int .i64 0, .int .i64 0, .int .i64 0, .int .i64 0, .int .i64 0, .int .i64 0, .int .i64 0, .slice none 0 0]) 9 88 Tryd.underlying22 hi hz0 hz1 hz2 rfl (by decide) _ _ _ rfl (hown.alloc _) ⟨_, 0, none⟩ 1 1 (OpS.vals ⟨⟨kd, t, si, t0, s0, rn, st, nn, seen⟩, B', m, mc⟩) rfl rfl (nine_cells _) (nine_one _) (by unfold maxLen; omega) (by omega) (by have := HBS.out; simp; omega) ?_; intro W7 w7 hown7 hgrow7 _ hat7; have HO7 := Lib.hid hown7; have HK7 := Lib.hid (Kept.grew (HK6.out.alloc _) hgrow7 (fun q hq => (hown.lt q hq).1)); clear hown7 hgrow7 hat7)
            go_roundw
            case rel => exact ⟨k + 1, W7, wb ++ [⟨⟨kd, t, si, t0, s0, rn, st, nn, seen⟩, B', m, mc⟩], by omega, by go_num, rfl, HT2.out.symm, by rw [List.length_append, List.length_singleton, flatO_app, HXS.out]; simpa [flatO] using HO7.out, HK7.out⟩
            case measure => simp [intOf] <;> omega
        · obtain rfl : k = n := by omega
          have b1 : decide (k < k) = false := decide_eq_false (by omega)
          have b2 : decide ((k : Int) < (k : Int)) = false := decide_eq_false (by omega)
          have hSr := HS.out.keep HK.out
          have HSR := Lib.hid hSr
          have x0 : wr.cell? ⟨xb, 0, none⟩ = some (.slice (some ⟨g, 0, none⟩) 4 xc) := cell_of_row _ _ _ _ _ _ hSr.x
          have f0 : wr.frozen? ⟨xb, 0, none⟩ = false := frozen_of hSr.x
          clear hown hSr
          go_upto_region 14 with fail
          go_region
          have hx8 : ((wr.setCell ⟨xb, 0, none⟩ (.slice (some ⟨g, 0, none⟩) 4 xc)).drew).cell? ⟨xb, 0, none⟩ = some (.slice (some ⟨g, 0, none⟩) 4 xc) := cell_of_row _ _ _ _ _ _ (heap_set HSR.out.x _)
          go_wp2_with fail
          refine bodyPost_ret (res_tct rfl _ _ xb _ rfl hx8) rfl ?_
          obtain ⟨l1, l2, l3, _⟩ := HSR.out.lt
          have l4 := HS.out.lt.2.2.2
          have hkw : Kept (fun q => q = xb) wr ((wr.setCell ⟨xb, 0, none⟩ (.slice (some ⟨g, 0, none⟩) 4 xc)).drew) := ((Kept.refl (fun q => q = xb) wr).setCell (p := ⟨xb, 0, none⟩) rfl _).drew
          have hoT := HSR.out.own
          refine ⟨⟨T, W, tb, wb, vs, g, xc, rfl, own_base (ownsRow_kept hoT hkw (fun q hq e => by have h1 := (hoT.lt q hq).1; have e : q = xb := e; omega)) (by omega), own_base (ownsRow_kept HOWN.out hkw (fun q hq e => by have h1 := (HOWN.out.lt q hq).1; have e : q = xb := e; omega)) (by omega), HSR.out.v.kept hkw (fun e => by have e : g = xb := e; omega), by omega, HSR.out.vl, HSR.out.mem, HSR.out.stp, HNO.out, ?_, HLEN.out⟩, HSR.out.kept.fresh hkw (fun q hq e => by have e : q = xb := e; omega)⟩
          rw [HWB.out, List.take_of_length_le (by have := HLN.out; omega)]
    · obtain ⟨x, hx, hrdy⟩ := hr
      have hop := HO.out k b hb
      have hkn : k < n := by
        have h1 := (List.getElem?_eq_some_iff.1 hb).1
        have h2 := HLN.out
        omega
      obtain ⟨⟨ad, rfl, h9⟩, hok⟩ := (HA.out.kept HS.out.kept (fun _ _ => id) (fun _ _ _ _ => id)).2 k b hb
      obtain ⟨m, hm⟩ : ∃ m, (b.o.st - 1).toNat = m := ⟨_, rfl⟩
      have hst : b.o.st = (m : Int) + 1 := by have := hop.2.1; omega
      have hm4 : m < 4 := by have := hop.2.1; omega
      rw [hm] at hx
      have hbs := vec_at HS.out.vl hx
      have HX := Lib.hid hx
      have HR := Lib.hid hrdy
      have HOP := Lib.hid hop
      have HF := Lib.hid hf
      have HB := Lib.hid hb
      have HM := Lib.hid hm
      have HST := Lib.hid hst
      have HBN := Lib.hid hbs
      have hown := HS.out.own
      obtain ⟨l1, l2, l3, l4⟩ := HS.out.lt
      have HL := Lib.hid (And.intro l1 (And.intro l2 (And.intro l3 l4)))
      have hT1 := HLEN.out
      have b1 : decide ((k : Int) ≥ 0) = true := decide_eq_true (by omega)
      have b2 : decide (0 ≤ (k : Int)) = true := decide_eq_true (by omega)
      have t1 : (0 : Int) ≤ (k : Int) := by omega
      have t2 : (k : Int) < (n : Int) := by omega
      obtain ⟨c0, c1, c2, c3, c4, c5, c6, c7, c8⟩ := h9
      clear hx hrdy hop hf hb hm hst hbs hok l1 l2 l3
      generalize hbb : b = bb at *
      obtain ⟨⟨kd, t, si, t0, s0, rn, st, nn, seen⟩, B', m', mc⟩ := bb
      have hbb2 := hbb
      subst hbb2
      have HBB := Lib.hid hbb
      clear hbb
      simp only at c0 c1 c2 c3 c4 c5 c6 c7 c8
      generalize hxs : flatO tb = xs at hown
      have HXS := Lib.hid hxs
      clear hxs x0
      generalize htl : tb.length = tl at hown hT1
      have HTL := Lib.hid htl
      clear htl
      go_upto_region 7 with (at_builtin; refine wpList_append_own_at _ rfl (.tmp 22) (.tmp 27) 22 rfl B 32 i0 (.agg #[.int .i64 0, .int .i64 0, .int .i64 0, .int .i64 0, .int .i64 0, .int .i64 0, .int .i64 0, .int .i64 0, .slice none 0 0]) 9 88 Tryd.underlying22 hi hz0 hz1 hz2 rfl (by decide) _ _ _ rfl (hown.alloc _) ⟨_, 0, none⟩ 1 1 (OpS.vals ⟨⟨kd, t, si, t0, s0, rn, st, nn, seen⟩, B', m', mc⟩) rfl rfl (nine_cells _) (nine_one _) (by unfold maxLen; omega) (by omega) (by simp; omega) ?_; intro T7 w7 hown7 hgrow7 _ hat7; have HO7 := Lib.hid hown7; have hk7 : Kept (fun q => B ≤ q) wr w7 := ((Kept.refl (fun q => B ≤ q) wr).alloc _).trans ⟨hgrow7.os, hgrow7.tape, hgrow7.output, hgrow7.size, fun q hq hs => hgrow7.block q hq (fun e => hs (hown.lt q e.symm).1)⟩; have HK7 := Lib.hid hk7; clear hown7 hgrow7 hat7 hk7)
      clear c0 c1 c2 c3 c4 c5 c6 c7 c8 hown
      have hkb : Kept (fun _ => False) w w7 := HS.out.kept.fresh HK7.out (fun q hq e => by have e : B ≤ q := e; have h := HL.out; omega)
      have h9 := ((HA.out.kept hkb (fun _ _ => id) (fun _ _ _ _ => id)).2 k _ HB.out).1
      obtain ⟨ad2, had, h9⟩ := h9
      injection had with had
      subst had
      have c6 := h9.c6
      have hst := HST.out
      simp only at c6 hst
      rw [hst] at c6
      have x0 : w7.cell? ⟨xb, 0, none⟩ = some (.slice (some ⟨g, 0, none⟩) 4 xc) := cell_kept HK7.out (cell_of_row _ _ _ _ _ _ HS.out.x) (fun e => by have e : B ≤ xb := e; have h := HL.out; omega)
      have hV7 := HS.out.v.kept HK7.out (fun e => by have e : B ≤ g := e; have h := HL.out; omega)
      have d0 : w7.cell? ⟨g, m, none⟩ = some (.int .i64 x) := by
        obtain ⟨ad3, e3, h3⟩ := (hV7.nums rfl).2 m x HX.out
        cases e3
        rw [addr_add, Nat.zero_add] at h3
        exact h3
      have f0 : w7.frozen? ⟨g, m, none⟩ = false := hV7.free m
      have ew : IntKind.i64.wrap ((m : Int) + 1 - 1) = (m : Int) := by rw [IntWalk.i64_in _ ⟨by omega, by omega⟩]; omega
      have hbs := HBN.out
      have ex : IntKind.i64.wrap (x + 1) = x + 1 := IntWalk.i64_in _ ⟨by have := hbs.1; omega, by have := hbs.2; omega⟩
      have t3 : (0 : Int) ≤ (m : Int) := by omega
      have t4 : (m : Int) < (4 : Int) := by omega
      have hS7 := HS.out.next HK7.out (by rw [HXS.out, HTL.out]; exact HO7.out) HB.out HR.out HF.out HOP.out HM.out HX.out
      have HS7 := Lib.hid hS7
      have HLT7 : Hid (lenOf T7 = tl + 1) := by show _ = _; exact ownsRow_len HO7.out
      have HLT2 : Hid (lenOf T = tl) := by show _ = _; rw [HLT.out]; exact HTL.out
      clear h9 hst hbs hV7 hS7 hkb
      go_region
      clear c6 x0 d0 f0 ew ex
      generalize (w7.setCell ⟨g, m, none⟩ (.int .i64 (x + 1))).drew = w8 at *
      have hS8 := HS7.out
      have cF := first_any (some ad) n c al xb g xc 30 _ w8 (HA.out.kept hS8.kept (fun _ _ => id) (fun _ _ _ _ => id)) (by omega) hS8.x hS8.v hS8.vl.1 (fun j y hj => vec_at hS8.vl hj) (fun j b hj => by
        have h1 := HO.out j b hj
        have h2 := (HA.out.2 j b hj).2.seen.1
        exact ⟨by rw [← h2, h1.2.2.2.1.1]; exact Nat.le_refl _, h1.2.1⟩)
      clear hS8
      go_wp2_with (go_at_call 61; refine cF.mono ?_; rintro e w9 ⟨⟨i9, rfl, hF⟩, hk9⟩; have HS9 := Lib.hid (HS7.out.keep hk9); have HF9 := Lib.hid hF; clear hk9 hF cF)
      go_roundw
      case rel => exact ⟨i9, T7, _, _, rfl, rfl, HF9.out, HS9.out⟩
      case measure =>
        have h1 := HLT7.out
        have h2 := HLT2.out
        simp <;> omega
end Go.Proofs.YtpgicfbaefcbmaaDoor
